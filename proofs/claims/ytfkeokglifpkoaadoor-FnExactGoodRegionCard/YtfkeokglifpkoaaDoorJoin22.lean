/-
  Texts that follow one another, joined: StH, StJ.
-/
import Derived.Test.YtfkeokglifpkoaaDoorJoin21
/-
  Where a text stands, and a timer that is turned, in the specification's text.
-/
namespace Go.Proofs.YtfkeokglifpkoaaDoor
open Go.RowKit M
open Clk (upd upd_same upd_other)
open Go.Sort (grow)
set_option maxHeartbeats 1000000 in
theorem at_txs (v : Value) (l : Txs) (x : ByteArray) (w : World) (hv : TxsOf w v l) (hn : l.length ≤ 1048576) :
    Calls Tryd.prog 55 #[v, .string x] w fun e w' => (∃ r : Int, e = .returned (.int .i64 r) ∧ (0 ≤ r ↔ x ∈ l)) ∧ w' = w := by
  obtain ⟨a, cap, rfl, hr⟩ := hv
  have HR := hide hr
  clear hr
  go_enter Tryd.func55, Tryd.ntmps55
  go_wp2
  go_loop [9] (fun i => ∃ k : Nat, k ≤ l.length ∧ i = .int .i64 k ∧ Hid (x ∉ l.take k)) (fun i => l.length - (intOf i).toNat)
  case atStart => exact ⟨0, Nat.zero_le _, rfl, hide (by simp)⟩
  case round =>
    obtain ⟨k, hk, rfl, HX⟩ := hrel
    by_cases hlt : k < l.length
    · obtain ⟨b, off, rfl, hb, hrow⟩ := HR.out (by omega)
      obtain ⟨y, hy⟩ : ∃ y, l[k]? = some y := ⟨l[k], List.getElem?_eq_getElem hlt⟩
      have c0 := hrow k y hy
      have HY := hide hy
      clear hrow hy HR
      by_cases hxy : y = x
      · have hd : (y.toList == x.toList) = true := by rw [eqS]; exact decide_eq_true hxy
        have HM := hide (show x ∈ l from by rw [← hxy]; exact List.mem_of_getElem? HY.out)
        clear hxy
        go_wp2
        go_ret
        exact ⟨⟨_, rfl, fun _ => HM.out, fun _ => by omega⟩, rfl⟩
      · have hd : (y.toList == x.toList) = false := by rw [eqS]; exact decide_eq_false hxy
        have HX2 := hide (show x ∉ l.take (k + 1) from by
          rw [take_snoc' HY.out]; simp only [List.mem_append, List.mem_singleton, not_or]; exact ⟨HX.out, fun e => hxy e.symm⟩)
        clear hxy
        go_wp2
        go_round
        case rel => exact ⟨k + 1, by omega, by go_num, HX2⟩
        case measure => simp [intOf]; omega
    · have HN := hide (show x ∉ l from by have := HX.out; rwa [List.take_of_length_le (by omega)] at this)
      clear HR HX
      go_wp2
      go_ret
      exact ⟨⟨_, rfl, fun h => by omega, fun h => absurd h HN.out⟩, rfl⟩
set_option maxHeartbeats 4000000 in
theorem turn_txs (v : Value) (l : Txs) (x : ByteArray) (w : World) (hv : TxsOf w v l) (hn : l.length ≤ 1048576) (hr : Rise l) :
    Calls Tryd.prog 56 #[v, .string x] w fun e w' => (∃ a n c, e = .returned (.slice a n c) ∧ OwnT w' w.heap.size (.slice a n c) (tog l x)) ∧ Below w.heap.size w w' := by
  have HV := hide hv
  obtain ⟨a, cap, rfl, hrw⟩ := hv
  have HR := hide hrw
  have HI := hide hr
  clear hrw hr
  go_enter Tryd.func56, Tryd.ntmps56
  go_wp2_with fail
  refine (at_txs _ l x _ HV.out hn).mono ?_
  rintro e w0 ⟨⟨r, rfl, hrr⟩, hw0⟩
  subst w0
  obtain ⟨b0, hb0⟩ : ∃ b0, fnd l x = b0 := ⟨_, rfl⟩
  have HB0 := hide hb0
  have hge : decide (0 ≤ r) = b0 := by
    rw [← hb0, Bool.eq_iff_iff, decide_eq_true_eq, hrr, fnd_iff HI.out x]
  have hge2 : decide (r ≥ 0) = b0 := hge
  clear hrr hb0 HV
  go_wp2
  go_loopw [5, 6, 15] (fun o p i wr => ∃ (k n c : Nat) (ao : Option Addr) (b : Bool), k ≤ l.length ∧ i = .int .i64 k ∧ o = .slice ao n c ∧ p = .bool b ∧ Hid (b = pu l x k) ∧ Hid (OwnT wr w.heap.size (.slice ao n c) (pt l x k)) ∧ Below w.heap.size w wr) (fun _ _ i _ => l.length - (intOf i).toNat)
  case atStart => exact ⟨0, 0, 0, none, b0, Nat.zero_le _, rfl, rfl, rfl, hide (by rw [pu_zero]; exact HB0.out.symm), hide (by rw [pt_zero]; exact OwnT.nil _ _), Below.refl _ _⟩
  case round =>
    obtain ⟨k, n, c, ao, b, hk, rfl, rfl, rfl, HP, HO, hbw⟩ := hrel
    clear hge hge2 HB0
    by_cases hlt : k < l.length
    · obtain ⟨bb, off, rfl, hbb, hrow⟩ := HR.out (by omega)
      obtain ⟨y, hy⟩ : ∃ y, l[k]? = some y := ⟨l[k], List.getElem?_eq_getElem hlt⟩
      have c0 := (hbw.cell (p := ⟨bb, off + k, none⟩) hbb).trans (hrow k y hy)
      have HY := hide hy
      have hpl : (pt l x k).length + 2 ≤ 2097152 := by have := pt_len l x k; omega
      clear hrow hy HR
      by_cases hyx : y = x
      · have hd : (y.toList == x.toList) = true := by rw [eqS]; exact decide_eq_true hyx
        have HS := hide (show pt l x (k + 1) = pt l x k ∧ pu l x (k + 1) = pu l x k from pt_same HI.out (by rw [← hyx]; exact HY.out))
        clear hyx
        go_wp2
        exact ⟨⟨k + 1, n, c, ao, b, by omega, by go_num, rfl, rfl, hide (by rw [HS.out.2]; exact HP.out), hide (by rw [HS.out.1]; exact HO.out), hbw⟩, by simp [intOf]; omega⟩
      · have hd : (y.toList == x.toList) = false := by rw [eqS]; exact decide_eq_false hyx
        have HYX := hide hyx
        clear hyx
        have hdec : (b = true ∨ ltS x y = false) ∨ (b = false ∧ ltS x y = true) := by cases b <;> cases ltS x y <;> simp
        rcases hdec with hdec | ⟨hb, hg⟩
        · have HS := hide (show pt l x (k + 1) = pt l x k ++ [y] ∧ pu l x (k + 1) = pu l x k from pt_other HY.out HYX.out (by rw [← HP.out]; exact hdec))
          have hown := HO.out.alloc (.cells #[.string y] 9)
          have hlit := lit_txc (w := wr.alloc (.cells #[.string y] 9)) (heap_alloc_new wr (.cells #[.string y] 9))
          have fin : ∀ a4 n4 c4 w4, OwnT w4 w.heap.size (.slice a4 n4 c4) (pt l x k ++ [y]) → (wr.alloc (.cells #[.string y] 9)).grownBy w4 (Value.slice ao n c).ownBlock → OwnT w4 w.heap.size (.slice a4 n4 c4) (pt l x (k + 1)) ∧ Below w.heap.size w w4 := fun a4 n4 c4 w4 hO4 hgr => by
            refine ⟨by rw [HS.out.1]; exact hO4, (hbw.alloc hbw.size _).grown hgr (by have := hbw.size; simp; omega) (fun j hj => (hown.lt hj).1)⟩
          have HFin := hide fin
          clear fin
          cases b with
          | true =>
            clear hdec HO
            go_wp2_with (at_builtin; refine wpList_app _ rfl _ _ rfl w.heap.size (pt l x k) [y] _ _ rfl hown rfl hlit (by simp; omega) (by have := hbw.size; simp; omega) ?_)
            intro a4 n4 c4 w4 hO4 hgr _
            have HF4 := hide (HFin.out _ _ _ _ hO4 hgr)
            clear hO4 hgr hown hlit HFin
            go_wp2
            exact ⟨⟨k + 1, n4, c4, a4, true, by omega, by go_num, rfl, rfl, hide (by rw [HS.out.2]; exact HP.out), hide HF4.out.1, HF4.out.2⟩, by simp [intOf]; omega⟩
          | false =>
            have hg : ltS x y = false := hdec.resolve_left (by simp)
            have hl2 : Op.bytesLess y.toList x.toList = true := gt_of (fun e => HYX.out e.symm) hg
            clear hdec HO hg
            go_wp2_with (at_builtin; refine wpList_app _ rfl _ _ rfl w.heap.size (pt l x k) [y] _ _ rfl hown rfl hlit (by simp; omega) (by have := hbw.size; simp; omega) ?_)
            intro a4 n4 c4 w4 hO4 hgr _
            have HF4 := hide (HFin.out _ _ _ _ hO4 hgr)
            clear hO4 hgr hown hlit HFin
            go_wp2
            exact ⟨⟨k + 1, n4, c4, a4, false, by omega, by go_num, rfl, rfl, hide (by rw [HS.out.2]; exact HP.out), hide HF4.out.1, HF4.out.2⟩, by simp [intOf]; omega⟩
        · subst hb
          have HS := hide (show pt l x (k + 1) = pt l x k ++ [x] ++ [y] ∧ pu l x (k + 1) = true from pt_put HY.out (by rw [← HP.out]) hg)
          have hl2 : Op.bytesLess y.toList x.toList = false := lt_asym hg
          have hown := HO.out.alloc (.cells #[.string x] 9)
          have hlit := lit_txc (w := wr.alloc (.cells #[.string x] 9)) (heap_alloc_new wr (.cells #[.string x] 9))
          clear HO hg
          go_wp2_with (at_builtin; refine wpList_app _ rfl _ _ rfl w.heap.size (pt l x k) [x] _ _ rfl hown rfl hlit (by simp; omega) (by have := hbw.size; simp; omega) ?_)
          intro a4 n4 c4 w4 hO4 hgr _
          have hbw4 : Below w.heap.size w w4 := (hbw.alloc hbw.size _).grown hgr (by have := hbw.size; simp; omega) (fun j hj => (hown.lt hj).1)
          clear hgr hown hlit
          have hown := hO4.alloc (.cells #[.string y] 9)
          have hlit := lit_txc (w := w4.alloc (.cells #[.string y] 9)) (heap_alloc_new w4 (.cells #[.string y] 9))
          clear hO4
          go_wp2_with (at_builtin; refine wpList_app _ rfl _ _ rfl w.heap.size (pt l x k ++ [x]) [y] _ _ rfl hown rfl hlit (by simp; omega) (by have := hbw4.size; simp; omega) ?_)
          intro a5 n5 c5 w5 hO5 hgr _
          have hbw5 : Below w.heap.size w w5 := (hbw4.alloc hbw4.size _).grown hgr (by have := hbw4.size; simp; omega) (fun j hj => (hown.lt hj).1)
          have HO5 := hide (show OwnT w5 w.heap.size (.slice a5 n5 c5) (pt l x (k + 1)) from by rw [HS.out.1]; simpa using hO5)
          clear hgr hown hlit hO5
          go_wp2
          exact ⟨⟨k + 1, n5, c5, a5, true, by omega, by go_num, rfl, rfl, hide HS.out.2.symm, HO5, hbw5⟩, by simp [intOf]; omega⟩
    · obtain rfl : k = l.length := by omega
      clear HR
      cases b with
      | true =>
        have HB := hide (show OwnT wr w.heap.size (.slice ao n c) (tog l x) from by rw [← pt_end_put HP.out.symm]; exact HO.out)
        clear HO HP
        go_wp2
        go_ret
        exact ⟨⟨_, _, _, rfl, HB.out⟩, hbw⟩
      | false =>
        have hown := HO.out.alloc (.cells #[.string x] 9)
        have hlit := lit_txc (w := wr.alloc (.cells #[.string x] 9)) (heap_alloc_new wr (.cells #[.string x] 9))
        have hpl : (pt l x l.length).length + 1 ≤ 2097152 := by have := pt_len l x l.length; omega
        clear HO
        go_wp2_with (at_builtin; refine wpList_app _ rfl _ _ rfl w.heap.size (pt l x l.length) [x] _ _ rfl hown rfl hlit (by simp; omega) (by have := hbw.size; simp; omega) ?_)
        intro a4 n4 c4 w4 hO4 hgr _
        have hbw4 : Below w.heap.size w w4 := (hbw.alloc hbw.size _).grown hgr (by have := hbw.size; simp; omega) (fun j hj => (hown.lt hj).1)
        have HO4 := hide (show OwnT w4 w.heap.size (.slice a4 n4 c4) (tog l x) from by rw [← pt_end_new HP.out.symm]; exact hO4)
        clear hgr hown hlit hO4
        go_wp2
        go_ret
        exact ⟨⟨_, _, _, rfl, HO4.out⟩, hbw4⟩
end Go.Proofs.YtfkeokglifpkoaaDoor

/-
  A state in a box of the call's own, and a timer that is turned there, in the program's text.
-/
namespace Go.Proofs.YtfkeokglifpkoaaDoor
open Go.RowKit M
open Clk (upd upd_same upd_other)
open Go.Sort (grow)
namespace M
theorem OwnT.ne_blk {w : World} {B g n : Nat} {v : Value} {l : Txs} {f : Nat → Value} {t : TypeId} (h : OwnT w B v l) (hb : Blk w g n f t) (ht : t ≠ 9) : v.ownBlock ≠ some g := by
  intro e
  rcases h.2 with ⟨rfl, _⟩ | ⟨g1, cap, cur, rfl, _, hg, _⟩
  · cases e
  · simp only [Value.ownBlock, Option.some.injEq] at e
    subst e
    unfold Blk at hb
    rw [hg] at hb
    simp only [Option.some.injEq, Obj.cells.injEq] at hb
    exact ht hb.2.1.symm
/-- A state in a box g, its lists in rows of the call's own, all from block B on. -/
structure SM (w : World) (B g : Nat) (v0 v1 : Value) (s : St) : Prop where
  box : Blk w g 6 (sq v0 v1 s) 73
  o0 : OwnT w B v0 s.sg
  o1 : OwnT w B v1 s.tm
  ap : Apart v0 v1
  lo : B ≤ g
theorem SM.down {w w' : World} {B g : Nat} {v0 v1 : Value} {s : St} (h : SM w B g v0 v1 s) (hb : Below w.heap.size w w') : SM w' B g v0 v1 s := ⟨h.box.down hb, h.o0.down hb, h.o1.down hb, h.ap, h.lo⟩
theorem SM.same {w w' : World} {B g : Nat} {v0 v1 : Value} {s : St} (h : SM w B g v0 v1 s) (hh : w'.heap = w.heap) : SM w' B g v0 v1 s :=
  ⟨by unfold Blk; rw [hh]; exact h.box, ⟨h.o0.1, by rw [hh]; exact h.o0.2⟩, ⟨h.o1.1, by rw [hh]; exact h.o1.2⟩, h.ap, h.lo⟩
theorem SM.c {w : World} {B g : Nat} {v0 v1 : Value} {s : St} (h : SM w B g v0 v1 s) : StC w v0 v1 s := ⟨h.o0.c, h.o1.c⟩
theorem SM.ne0 {w : World} {B g : Nat} {v0 v1 : Value} {s : St} (h : SM w B g v0 v1 s) : v0.ownBlock ≠ some g := h.o0.ne_blk h.box (by decide)
theorem SM.ne1 {w : World} {B g : Nat} {v0 v1 : Value} {s : St} (h : SM w B g v0 v1 s) : v1.ownBlock ≠ some g := h.o1.ne_blk h.box (by decide)
theorem SM.rows {w : World} {B g : Nat} {v0 v1 : Value} {s : St} (h : SM w B g v0 v1 s) (i : Nat) (u : Value) : OwnT (w.setCell ⟨g, i, none⟩ u) B v0 s.sg ∧ OwnT (w.setCell ⟨g, i, none⟩ u) B v1 s.tm :=
  ⟨h.o0.other (gbT_set (gbT_refl w (some g))) (fun g' hg' e => h.ne0 (by rw [hg', e])), h.o1.other (gbT_set (gbT_refl w (some g))) (fun g' hg' e => h.ne1 (by rw [hg', e]))⟩
theorem SM.set0 {w : World} {B g : Nat} {v0 v1 : Value} {s : St} (h : SM w B g v0 v1 s) (x : Int) : SM (w.setCell ⟨g, 0, none⟩ (.int .i64 x)) B g v0 v1 ⟨x, s.nx, s.ca, s.dn, s.sg, s.tm⟩ := ⟨h.box.hex0 _, (h.rows _ _).1, (h.rows _ _).2, h.ap, h.lo⟩
theorem SM.set1 {w : World} {B g : Nat} {v0 v1 : Value} {s : St} (h : SM w B g v0 v1 s) (x : Int) : SM (w.setCell ⟨g, 1, none⟩ (.int .i64 x)) B g v0 v1 ⟨s.st, x, s.ca, s.dn, s.sg, s.tm⟩ := ⟨h.box.hex1 _, (h.rows _ _).1, (h.rows _ _).2, h.ap, h.lo⟩
theorem SM.set2 {w : World} {B g : Nat} {v0 v1 : Value} {s : St} (h : SM w B g v0 v1 s) (x : Bool) : SM (w.setCell ⟨g, 2, none⟩ (.bool x)) B g v0 v1 ⟨s.st, s.nx, x, s.dn, s.sg, s.tm⟩ := ⟨h.box.hex2 _, (h.rows _ _).1, (h.rows _ _).2, h.ap, h.lo⟩
theorem SM.set3 {w : World} {B g : Nat} {v0 v1 : Value} {s : St} (h : SM w B g v0 v1 s) (x : Int) : SM (w.setCell ⟨g, 3, none⟩ (.int .i64 x)) B g v0 v1 ⟨s.st, s.nx, s.ca, x, s.sg, s.tm⟩ := ⟨h.box.hex3 _, (h.rows _ _).1, (h.rows _ _).2, h.ap, h.lo⟩
/-- The signals' row has turned; it is put into the box. -/
theorem SM.put4 {w w' : World} {B g : Nat} {v0 v1 u : Value} {s : St} {l : Txs} (h : SM w B g v0 v1 s) (hg : w.grownBy w' v0.ownBlock) (hu : OwnT w' B u l) (hb : u.ownBlock = v0.ownBlock ∨ ∃ k, u.ownBlock = some k ∧ w.heap.size ≤ k) : SM (w'.setCell ⟨g, 4, none⟩ u) B g u v1 ⟨s.st, s.nx, s.ca, s.dn, l, s.tm⟩ := by
  have hbox := h.box.gb hg (fun e => h.ne0 e.symm)
  have h1 := h.o1.other hg (fun g' hg' e => h.ap g' e.symm hg')
  have hun : u.ownBlock ≠ some g := hu.ne_blk hbox (by decide)
  refine ⟨hbox.hex4 u, hu.other (gbT_set (gbT_refl w' (some g))) (fun g' hg' e => hun (by rw [hg', e])), h1.other (gbT_set (gbT_refl w' (some g))) (fun g' hg' e => h.ne1 (by rw [hg', e])), fun g' hg' e => ?_, h.lo⟩
  rcases hb with hb | ⟨k, hk, hlt⟩
  · exact h.ap g' (by rw [← hb]; exact hg') e
  · rw [hk] at hg'
    simp only [Option.some.injEq] at hg'
    have := (h.o1.lt e).2
    omega
/-- The same of the timers' row. -/
theorem SM.put5 {w w' : World} {B g : Nat} {v0 v1 u : Value} {s : St} {l : Txs} (h : SM w B g v0 v1 s) (hg : w.grownBy w' v1.ownBlock) (hu : OwnT w' B u l) (hb : u.ownBlock = v1.ownBlock ∨ ∃ k, u.ownBlock = some k ∧ w.heap.size ≤ k) : SM (w'.setCell ⟨g, 5, none⟩ u) B g v0 u ⟨s.st, s.nx, s.ca, s.dn, s.sg, l⟩ := by
  have hbox := h.box.gb hg (fun e => h.ne1 e.symm)
  have h0 := h.o0.other hg (fun g' hg' e => h.ap g' hg' e.symm)
  have hun : u.ownBlock ≠ some g := hu.ne_blk hbox (by decide)
  refine ⟨hbox.hex5 u, h0.other (gbT_set (gbT_refl w' (some g))) (fun g' hg' e => h.ne0 (by rw [hg', e])), hu.other (gbT_set (gbT_refl w' (some g))) (fun g' hg' e => hun (by rw [hg', e])), fun g' hg' e => ?_, h.lo⟩
  rcases hb with hb | ⟨k, hk, hlt⟩
  · exact h.ap g' hg' (by rw [← hb]; exact e)
  · rw [hk] at e
    simp only [Option.some.injEq] at e
    have := (h.o0.lt hg').2
    omega
theorem SM.low4 {w w' : World} {B g : Nat} {v0 v1 u : Value} {s : St} (h : SM w B g v0 v1 s) (hg : w.grownBy w' v0.ownBlock) (hB : B ≤ w.heap.size) (i : Nat) : Below B w (w'.setCell ⟨g, i, none⟩ u) :=
  (gbT_low hg (fun _ hk => (h.o0.lt hk).1) hB).setCell (p := ⟨g, i, none⟩) h.lo u
theorem SM.low5 {w w' : World} {B g : Nat} {v0 v1 u : Value} {s : St} (h : SM w B g v0 v1 s) (hg : w.grownBy w' v1.ownBlock) (hB : B ≤ w.heap.size) (i : Nat) : Below B w (w'.setCell ⟨g, i, none⟩ u) :=
  (gbT_low hg (fun _ hk => (h.o1.lt hk).1) hB).setCell (p := ⟨g, i, none⟩) h.lo u
theorem tog_del {l : Txs} {x : ByteArray} (h : fnd l x = true) : tog l x = l.take (ps l x) ++ l.drop (ps l x + 1) := by unfold tog; rw [if_pos h]
theorem tog_ins {l : Txs} {x : ByteArray} (h : fnd l x = false) : tog l x = l.take (ps l x) ++ x :: l.drop (ps l x) := by unfold tog; rw [if_neg (by rw [h]; simp)]
theorem fnd_lt {l : Txs} {x : ByteArray} (h : fnd l x = true) : ps l x < l.length := by unfold fnd at h; simp only [decide_eq_true_eq] at h; exact lt_of_get h
end M
set_option maxRecDepth 20000 in
set_option maxHeartbeats 4000000 in
theorem turn_impl (B g : Nat) (v0 v1 : Value) (s : St) (x : ByteArray) (w : World) (h : SM w B g v0 v1 s) (hr : Rise s.tm) (hn : s.tm.length ≤ 1048576) (hB : B ≤ w.heap.size) :
    Calls Tryd.prog 74 #[.pointer (some ⟨g, 0, none⟩), .string x] w fun e w' => e = .returned (.tuple #[]) ∧ (∃ a n c, SM w' B g v0 (.slice a n c) ⟨s.st, s.nx, s.ca, s.dn, s.sg, tog s.tm x⟩) ∧ Below B w w' := by
  have HM := hide h
  obtain ⟨a1, c1, rfl⟩ := h.o1.form
  have HR := hide hr
  obtain ⟨⟨-, -, -, -, -, d5⟩, -, -, -, -, -, f5⟩ := h.box.hex
  clear h hr
  go_enter Tryd.func74, Tryd.ntmps74
  go_wp2_with fail
  refine (bs_txs _ s.tm x B _ HM.out.o1 HR.out hn).mono ?_
  rintro e w1 ⟨rfl, q, hq⟩
  have HM1 := hide (show SM w1 B g v0 (.slice a1 s.tm.length c1) s from HM.out.same (by rw [hq]; rfl))
  have hb1 : Below B w w1 := by rw [hq]; exact ⟨rfl, rfl, rfl, Nat.le_refl _, fun _ _ => rfl⟩
  have hB1 : B ≤ w1.heap.size := Nat.le_trans hB hb1.size
  clear hq d5 f5 HM hB
  obtain ⟨⟨-, -, -, -, -, d5⟩, -, -, -, -, -, f5⟩ := HM1.out.box.hex
  have hpl := ps_le s.tm x
  cases hf : fnd s.tm x
  · have HT := hide (tog_ins hf)
    obtain ⟨p, hp⟩ : ∃ p, ps s.tm x = p := ⟨_, rfl⟩
    rw [hp] at HT hpl ⊢
    clear hp hf
    go_wp2_with fail
    obtain ⟨W2, hW2⟩ : ∃ W2, w1.alloc (.cells #[.string x] 9) = W2 := ⟨_, rfl⟩
    have hdn : Below w1.heap.size w1 W2 := by rw [← hW2]; exact (Below.refl _ _).alloc (Nat.le_refl _) _
    have hlit : W2.heap[w1.heap.size]? = some (.cells #[.string x] 9 (0, 0)) := by rw [← hW2]; exact heap_alloc_new w1 _
    have HM2 := hide (HM1.out.down hdn)
    have hne : (Value.slice a1 s.tm.length c1).ownBlock ≠ some w1.heap.size := fun e => by have := (HM1.out.o1.lt e).2; omega
    rw [hW2]
    clear d5 f5
    refine (ins_txs _ s.tm p w1.heap.size B x W2 HM2.out.o1 hpl hn (Nat.le_trans hB1 hdn.size) hlit hne).mono ?_
    rintro e w3 ⟨a3, n3, c3, rfl, hO3, hbk, hgr⟩
    have HO3 := hide (show OwnT w3 B (.slice a3 n3 c3) (tog s.tm x) from by rw [HT.out]; exact hO3)
    have HK := hide hbk
    have HG := hide hgr
    have hbox := HM2.out.box.gb hgr (fun e => HM2.out.ne1 e.symm)
    obtain ⟨⟨-, -, -, -, -, d5⟩, -, -, -, -, -, f5⟩ := hbox.hex
    have HF := hide (show SM (w3.setCell ⟨g, 5, none⟩ (.slice a3 n3 c3)) B g v0 (.slice a3 n3 c3) ⟨s.st, s.nx, s.ca, s.dn, s.sg, tog s.tm x⟩ from HM2.out.put5 hgr HO3.out (by
      rcases hbk with hh | hh
      · exact .inl hh
      · exact .inr ⟨_, hh, Nat.le_refl _⟩))
    have HL := hide (show Below B w (w3.setCell ⟨g, 5, none⟩ (.slice a3 n3 c3)) from (hb1.trans (hdn.mono hB1)).trans (HM2.out.low5 hgr (Nat.le_trans hB1 hdn.size) 5))
    clear hO3 hbk hgr hbox HO3 HK HG HM2 hlit hne hdn hW2 HT
    go_wp2
    go_end0
    exact ⟨rfl, ⟨_, _, _, HF.out⟩, HL.out⟩
  · have HT := hide (tog_del hf)
    have hlt := fnd_lt hf
    obtain ⟨p, hp⟩ : ∃ p, ps s.tm x = p := ⟨_, rfl⟩
    rw [hp] at HT hpl hlt ⊢
    clear hp hf
    go_wp2_with fail
    rw [show (p : Int) + 1 = ((p + 1 : Nat) : Int) by omega]
    clear d5 f5
    refine (del_txs _ s.tm p B w1 HM1.out.o1 hlt).mono ?_
    rintro e w3 ⟨a3, n3, c3, rfl, hO3, hbk, hgr⟩
    have HO3 := hide (show OwnT w3 B (.slice a3 n3 c3) (tog s.tm x) from by rw [HT.out]; exact hO3)
    have hbox := HM1.out.box.gb hgr (fun e => HM1.out.ne1 e.symm)
    obtain ⟨⟨-, -, -, -, -, d5⟩, -, -, -, -, -, f5⟩ := hbox.hex
    have HF := hide (show SM (w3.setCell ⟨g, 5, none⟩ (.slice a3 n3 c3)) B g v0 (.slice a3 n3 c3) ⟨s.st, s.nx, s.ca, s.dn, s.sg, tog s.tm x⟩ from HM1.out.put5 hgr HO3.out (.inl hbk))
    have HL := hide (show Below B w (w3.setCell ⟨g, 5, none⟩ (.slice a3 n3 c3)) from hb1.trans (HM1.out.low5 hgr hB1 5))
    clear hO3 hbk hgr hbox HO3 HT
    go_wp2
    exact bodyPost_ret (v := .tuple #[]) (by simp [results, Tryd.results74]) rfl ⟨rfl, ⟨_, _, _, HF.out⟩, HL.out⟩
end Go.Proofs.YtfkeokglifpkoaaDoor
