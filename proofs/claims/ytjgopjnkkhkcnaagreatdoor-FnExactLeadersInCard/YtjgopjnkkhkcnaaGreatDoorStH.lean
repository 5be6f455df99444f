/-
  Where a text stands, and a timer that is turned, in the specification's text.
-/
import Derived.Test.YtjgopjnkkhkcnaaGreatDoorStF
namespace Go.Proofs.YtjgopjnkkhkcnaaGreatDoor
open Go.RowKit M
open Clk (upd upd_same upd_other)
open Go.Sort (grow)
set_option maxHeartbeats 1000000 in
theorem at_txs (v : Value) (l : Txs) (x : ByteArray) (w : World) (hv : TxsOf w v l) (hn : l.length ≤ 1048576) :
    Calls Tryz.prog 111 #[v, .string x] w fun e w' => (∃ r : Int, e = .returned (.int .i64 r) ∧ (0 ≤ r ↔ x ∈ l)) ∧ w' = w := by
  obtain ⟨a, cap, rfl, hr⟩ := hv
  have HR := hide hr
  clear hr
  go_enter Tryz.func111, Tryz.ntmps111
  go_wp2
  go_loop [9] (fun i => ∃ k : Nat, k ≤ l.length ∧ i = .int .i64 k ∧ Hid (x ∉ l.take k)) (fun i => l.length - (intOf i).toNat)
  case atStart => exact ⟨0, Nat.zero_le _, rfl, hide (by simp)⟩
  case round =>
    obtain ⟨k, hk, rfl, HX⟩ := hrel
    by_cases hlt : k < l.length
    · obtain ⟨b, off, rfl, hb, hrow⟩ := HR.out (by omega)
      obtain ⟨y, hy⟩ : ∃ y, l[k]? = some y := ⟨l[k], List.getElem?_eq_getElem hlt⟩
      have c0 := hrow k y hy
      have HY := hide hy
      clear hrow hy HR
      by_cases hxy : y = x
      · have hd : (y.toList == x.toList) = true := by rw [eqS]; exact decide_eq_true hxy
        have HM := hide (show x ∈ l from by rw [← hxy]; exact List.mem_of_getElem? HY.out)
        clear hxy
        go_wp2
        go_ret
        exact ⟨⟨_, rfl, fun _ => HM.out, fun _ => by omega⟩, rfl⟩
      · have hd : (y.toList == x.toList) = false := by rw [eqS]; exact decide_eq_false hxy
        have HX2 := hide (show x ∉ l.take (k + 1) from by
          rw [take_snoc' HY.out]; simp only [List.mem_append, List.mem_singleton, not_or]; exact ⟨HX.out, fun e => hxy e.symm⟩)
        clear hxy
        go_wp2
        go_round
        case rel => exact ⟨k + 1, by omega, by go_num, HX2⟩
        case measure => simp [intOf]; omega
    · have HN := hide (show x ∉ l from by have := HX.out; rwa [List.take_of_length_le (by omega)] at this)
      clear HR HX
      go_wp2
      go_ret
      exact ⟨⟨_, rfl, fun h => by omega, fun h => absurd h HN.out⟩, rfl⟩
set_option maxHeartbeats 4000000 in
theorem turn_txs (v : Value) (l : Txs) (x : ByteArray) (w : World) (hv : TxsOf w v l) (hn : l.length ≤ 1048576) (hr : Rise l) :
    Calls Tryz.prog 168 #[v, .string x] w fun e w' => (∃ a n c, e = .returned (.slice a n c) ∧ OwnT w' w.heap.size (.slice a n c) (tog l x)) ∧ Below w.heap.size w w' := by
  have HV := hide hv
  obtain ⟨a, cap, rfl, hrw⟩ := hv
  have HR := hide hrw
  have HI := hide hr
  clear hrw hr
  go_enter Tryz.func168, Tryz.ntmps168
  go_wp2_with fail
  refine (at_txs _ l x _ HV.out hn).mono ?_
  rintro e w0 ⟨⟨r, rfl, hrr⟩, hw0⟩
  subst w0
  obtain ⟨b0, hb0⟩ : ∃ b0, fnd l x = b0 := ⟨_, rfl⟩
  have HB0 := hide hb0
  have hge : decide (0 ≤ r) = b0 := by
    rw [← hb0, Bool.eq_iff_iff, decide_eq_true_eq, hrr, fnd_iff HI.out x]
  have hge2 : decide (r ≥ 0) = b0 := hge
  clear hrr hb0 HV
  go_wp2
  go_loopw [5, 6, 15] (fun o p i wr => ∃ (k n c : Nat) (ao : Option Addr) (b : Bool), k ≤ l.length ∧ i = .int .i64 k ∧ o = .slice ao n c ∧ p = .bool b ∧ Hid (b = pu l x k) ∧ Hid (OwnT wr w.heap.size (.slice ao n c) (pt l x k)) ∧ Below w.heap.size w wr) (fun _ _ i _ => l.length - (intOf i).toNat)
  case atStart => exact ⟨0, 0, 0, none, b0, Nat.zero_le _, rfl, rfl, rfl, hide (by rw [pu_zero]; exact HB0.out.symm), hide (by rw [pt_zero]; exact OwnT.nil _ _), Below.refl _ _⟩
  case round =>
    obtain ⟨k, n, c, ao, b, hk, rfl, rfl, rfl, HP, HO, hbw⟩ := hrel
    clear hge hge2 HB0
    by_cases hlt : k < l.length
    · obtain ⟨bb, off, rfl, hbb, hrow⟩ := HR.out (by omega)
      obtain ⟨y, hy⟩ : ∃ y, l[k]? = some y := ⟨l[k], List.getElem?_eq_getElem hlt⟩
      have c0 := (hbw.cell (p := ⟨bb, off + k, none⟩) hbb).trans (hrow k y hy)
      have HY := hide hy
      have hpl : (pt l x k).length + 2 ≤ 2097152 := by have := pt_len l x k; omega
      clear hrow hy HR
      by_cases hyx : y = x
      · have hd : (y.toList == x.toList) = true := by rw [eqS]; exact decide_eq_true hyx
        have HS := hide (show pt l x (k + 1) = pt l x k ∧ pu l x (k + 1) = pu l x k from pt_same HI.out (by rw [← hyx]; exact HY.out))
        clear hyx
        go_wp2
        exact ⟨⟨k + 1, n, c, ao, b, by omega, by go_num, rfl, rfl, hide (by rw [HS.out.2]; exact HP.out), hide (by rw [HS.out.1]; exact HO.out), hbw⟩, by simp [intOf]; omega⟩
      · have hd : (y.toList == x.toList) = false := by rw [eqS]; exact decide_eq_false hyx
        have HYX := hide hyx
        clear hyx
        have hdec : (b = true ∨ ltS x y = false) ∨ (b = false ∧ ltS x y = true) := by cases b <;> cases ltS x y <;> simp
        rcases hdec with hdec | ⟨hb, hg⟩
        · have HS := hide (show pt l x (k + 1) = pt l x k ++ [y] ∧ pu l x (k + 1) = pu l x k from pt_other HY.out HYX.out (by rw [← HP.out]; exact hdec))
          have hown := HO.out.alloc (.cells #[.string y] 9)
          have hlit := lit_txc (w := wr.alloc (.cells #[.string y] 9)) (heap_alloc_new wr (.cells #[.string y] 9))
          have fin : ∀ a4 n4 c4 w4, OwnT w4 w.heap.size (.slice a4 n4 c4) (pt l x k ++ [y]) → (wr.alloc (.cells #[.string y] 9)).grownBy w4 (Value.slice ao n c).ownBlock → OwnT w4 w.heap.size (.slice a4 n4 c4) (pt l x (k + 1)) ∧ Below w.heap.size w w4 := fun a4 n4 c4 w4 hO4 hgr => by
            refine ⟨by rw [HS.out.1]; exact hO4, (hbw.alloc hbw.size _).grown hgr (by have := hbw.size; simp; omega) (fun j hj => (hown.lt hj).1)⟩
          have HFin := hide fin
          clear fin
          cases b with
          | true =>
            clear hdec HO
            go_wp2_with (at_builtin; refine wpList_app _ rfl _ _ rfl w.heap.size (pt l x k) [y] _ _ rfl hown rfl hlit (by simp; omega) (by have := hbw.size; simp; omega) ?_)
            intro a4 n4 c4 w4 hO4 hgr _
            have HF4 := hide (HFin.out _ _ _ _ hO4 hgr)
            clear hO4 hgr hown hlit HFin
            go_wp2
            exact ⟨⟨k + 1, n4, c4, a4, true, by omega, by go_num, rfl, rfl, hide (by rw [HS.out.2]; exact HP.out), hide HF4.out.1, HF4.out.2⟩, by simp [intOf]; omega⟩
          | false =>
            have hg : ltS x y = false := hdec.resolve_left (by simp)
            have hl2 : Op.bytesLess y.toList x.toList = true := gt_of (fun e => HYX.out e.symm) hg
            clear hdec HO hg
            go_wp2_with (at_builtin; refine wpList_app _ rfl _ _ rfl w.heap.size (pt l x k) [y] _ _ rfl hown rfl hlit (by simp; omega) (by have := hbw.size; simp; omega) ?_)
            intro a4 n4 c4 w4 hO4 hgr _
            have HF4 := hide (HFin.out _ _ _ _ hO4 hgr)
            clear hO4 hgr hown hlit HFin
            go_wp2
            exact ⟨⟨k + 1, n4, c4, a4, false, by omega, by go_num, rfl, rfl, hide (by rw [HS.out.2]; exact HP.out), hide HF4.out.1, HF4.out.2⟩, by simp [intOf]; omega⟩
        · subst hb
          have HS := hide (show pt l x (k + 1) = pt l x k ++ [x] ++ [y] ∧ pu l x (k + 1) = true from pt_put HY.out (by rw [← HP.out]) hg)
          have hl2 : Op.bytesLess y.toList x.toList = false := lt_asym hg
          have hown := HO.out.alloc (.cells #[.string x] 9)
          have hlit := lit_txc (w := wr.alloc (.cells #[.string x] 9)) (heap_alloc_new wr (.cells #[.string x] 9))
          clear HO hg
          go_wp2_with (at_builtin; refine wpList_app _ rfl _ _ rfl w.heap.size (pt l x k) [x] _ _ rfl hown rfl hlit (by simp; omega) (by have := hbw.size; simp; omega) ?_)
          intro a4 n4 c4 w4 hO4 hgr _
          have hbw4 : Below w.heap.size w w4 := (hbw.alloc hbw.size _).grown hgr (by have := hbw.size; simp; omega) (fun j hj => (hown.lt hj).1)
          clear hgr hown hlit
          have hown := hO4.alloc (.cells #[.string y] 9)
          have hlit := lit_txc (w := w4.alloc (.cells #[.string y] 9)) (heap_alloc_new w4 (.cells #[.string y] 9))
          clear hO4
          go_wp2_with (at_builtin; refine wpList_app _ rfl _ _ rfl w.heap.size (pt l x k ++ [x]) [y] _ _ rfl hown rfl hlit (by simp; omega) (by have := hbw4.size; simp; omega) ?_)
          intro a5 n5 c5 w5 hO5 hgr _
          have hbw5 : Below w.heap.size w w5 := (hbw4.alloc hbw4.size _).grown hgr (by have := hbw4.size; simp; omega) (fun j hj => (hown.lt hj).1)
          have HO5 := hide (show OwnT w5 w.heap.size (.slice a5 n5 c5) (pt l x (k + 1)) from by rw [HS.out.1]; simpa using hO5)
          clear hgr hown hlit hO5
          go_wp2
          exact ⟨⟨k + 1, n5, c5, a5, true, by omega, by go_num, rfl, rfl, hide HS.out.2.symm, HO5, hbw5⟩, by simp [intOf]; omega⟩
    · obtain rfl : k = l.length := by omega
      clear HR
      cases b with
      | true =>
        have HB := hide (show OwnT wr w.heap.size (.slice ao n c) (tog l x) from by rw [← pt_end_put HP.out.symm]; exact HO.out)
        clear HO HP
        go_wp2
        go_ret
        exact ⟨⟨_, _, _, rfl, HB.out⟩, hbw⟩
      | false =>
        have hown := HO.out.alloc (.cells #[.string x] 9)
        have hlit := lit_txc (w := wr.alloc (.cells #[.string x] 9)) (heap_alloc_new wr (.cells #[.string x] 9))
        have hpl : (pt l x l.length).length + 1 ≤ 2097152 := by have := pt_len l x l.length; omega
        clear HO
        go_wp2_with (at_builtin; refine wpList_app _ rfl _ _ rfl w.heap.size (pt l x l.length) [x] _ _ rfl hown rfl hlit (by simp; omega) (by have := hbw.size; simp; omega) ?_)
        intro a4 n4 c4 w4 hO4 hgr _
        have hbw4 : Below w.heap.size w w4 := (hbw.alloc hbw.size _).grown hgr (by have := hbw.size; simp; omega) (fun j hj => (hown.lt hj).1)
        have HO4 := hide (show OwnT w4 w.heap.size (.slice a4 n4 c4) (tog l x) from by rw [← pt_end_new HP.out.symm]; exact hO4)
        clear hgr hown hlit hO4
        go_wp2
        go_ret
        exact ⟨⟨_, _, _, rfl, HO4.out⟩, hbw4⟩
end Go.Proofs.YtjgopjnkkhkcnaaGreatDoor
