/-
  The specification's sets, slices of forty bools: made of a list, asked for a rule's body, stepped; IsModel, StepOnce, Closure of it.
-/
import Derived.Test.YtpabnncfcklnpaaHoL
namespace Go.Proofs.Ytpabnncfcklnpaa
open Go.RowKit M
open Clk (upd upd_same upd_other)
open Ho
namespace M
theorem BoolsOf.down {w w' : World} {v : Value} {g : Nat} {s : Nat → Bool} (h : BoolsOf w v g s) (hb : Below w.heap.size w w') : BoolsOf w' v g s := ⟨h.1, h.2.down hb⟩
end M
set_option maxRecDepth 20000 in
set_option maxHeartbeats 1000000 in
theorem spec_in (v : Value) (n : Nat) (f : Nat → Int) (w : World) (hv : IntsOf w v n f) (hr : Ris n f) :
    Calls Try.prog 49 #[v] w fun e w' => (∃ r, e = .returned r ∧ BoolsOf w' r w.heap.size (ofl (nf f) n)) ∧ Below w.heap.size w w' := by
  obtain ⟨a, cap, rfl, hrow⟩ := hv
  have HR := hide hrow
  have HG := hide hr
  have hn := hr.len
  clear hrow hr
  have hmk : (Instr.makeSlice 58 (.int .i64 40) (.int .i64 40)).run Try.prog w = .ok (.slice (some ⟨w.heap.size, 0, none⟩) 40 40) (w.alloc (.cells (M.cf 40 (fun _ => .bool false)) 4)) := make_bools 40 (by omega) w
  go_enter Try.func49, Try.ntmps49
  go_wp2
  have h0 : Blk (w.alloc (.cells (cf 40 fun _ => .bool false) 4)) w.heap.size 40 (bv (ofl (nf f) 0)) 4 := Blk.new w 40 _ _
  have hb0 := (Below.refl w.heap.size w).alloc (Nat.le_refl _) (.cells (cf 40 fun _ => .bool false) 4)
  have HZ := hide (And.intro h0 hb0)
  clear h0 hb0 hmk
  generalize w.alloc (.cells (cf 40 fun _ => .bool false) 4) = w1 at *
  go_loopw [9] (fun i wr => ∃ j : Nat, j ≤ n ∧ i = .int .i64 j ∧ Hid (Blk wr w.heap.size 40 (bv (ofl (nf f) j)) 4 ∧ Below w.heap.size w wr)) (fun i _ => n - (intOf i).toNat)
  case atStart => exact ⟨0, Nat.zero_le _, rfl, HZ⟩
  case round =>
    rename World => wo
    obtain ⟨j, hj, rfl, HP⟩ := hrel
    by_cases hlt : j < n
    · obtain ⟨bb, off, rfl, hbb, hrow⟩ := HR.out (by omega)
      have c0 := (HP.out.2.cell (p := ⟨bb, off + j, none⟩) hbb).trans (hrow j hlt)
      rw [HG.out.nf_eq hlt] at c0
      have hx := HG.out.nf_lt hlt
      have c1 := HP.out.1.cell_bv hx
      have t1 := HP.out.1.thaw (nf f j)
      have HP2 := hide (show Blk (wo.setCell ⟨w.heap.size, nf f j, none⟩ (.bool true)) w.heap.size 40 (bv (ofl (nf f) (j + 1))) 4 ∧ Below w.heap.size w (wo.setCell ⟨w.heap.size, nf f j, none⟩ (.bool true)) from
        ⟨HP.out.1.set_bv _, HP.out.2.setCell (Nat.le_refl _) _⟩)
      generalize nf f j = x at *
      have hx0 : (0 : Int) ≤ (x : Int) := by omega
      have hx1 : (x : Int) < 40 := by omega
      clear HR HP hrow HG HZ
      go_wp2
      exact ⟨⟨j + 1, by omega, by go_num, HP2⟩, by simp [intOf]; omega⟩
    · obtain rfl : j = n := by omega
      have h1 := HP.out.1
      have hb := HP.out.2
      clear HR HG HZ HP
      go_wp2
      go_ret
      exact ⟨⟨_, rfl, rfl, h1⟩, hb⟩
set_option maxRecDepth 20000 in
set_option maxHeartbeats 1000000 in
theorem spec_holds (S : Nat → Bool) (h : Int) (v u : Value) (g : Nat) (t : Tk) (b : Bool) (w : World) (hu : BoolsOf w u g S) (hv : IntsOf w v t.nn t.fn) (hr : Ris t.nn t.fn) (hb : has S (rl t) = b) :
    Calls Try.prog 50 #[.agg #[.int .i64 h, v], u] w fun e w' => e = .returned (.bool b) ∧ Below w.heap.size w w' := by
  obtain ⟨a, cap, rfl, hrow⟩ := hv
  obtain ⟨rfl, hB⟩ := hu
  have HR := hide hrow
  have HB := hide hb
  have HG := hide hr
  have hn := hr.len
  have hb0 := (Below.refl w.heap.size w).alloc (Nat.le_refl _) (.cells #[.int .i64 h, .slice a t.nn cap] 48)
  have H0 := hide (hB.down hb0)
  clear hrow hb hr hB
  go_enter Try.func50, Try.ntmps50
  go_wp2
  generalize w.alloc (.cells #[.int .i64 h, .slice a t.nn cap] 48) = w1 at *
  go_loop [10] (fun i => ∃ j : Nat, j ≤ t.nn ∧ i = .int .i64 j ∧ Hid (∀ q, q < j → S (nf t.fn q) = true)) (fun i => t.nn - (intOf i).toNat)
  case atStart => exact ⟨0, Nat.zero_le _, rfl, hide (fun j h => absurd h (by omega))⟩
  case round =>
    obtain ⟨j, hj, rfl, HP⟩ := hrel
    by_cases hlt : j < t.nn
    · obtain ⟨bb, off, rfl, hbb, hrow⟩ := HR.out (by omega)
      have c0 := (hb0.cell (p := ⟨bb, off + j, none⟩) hbb).trans (hrow j hlt)
      rw [HG.out.nf_eq hlt] at c0
      have c1 := H0.out.cell_bv (HG.out.nf_lt hlt)
      have hx := HG.out.nf_lt hlt
      have HX := hide (show (S (nf t.fn j) = false → b = false) ∧ (S (nf t.fn j) = true → ∀ q, q < j + 1 → S (nf t.fn q) = true) from ⟨fun h => by rw [← HB.out]; exact has_no hlt h, fun h q hq => by
        rcases (show q < j ∨ q = j by omega) with h1 | h1
        · exact HP.out q h1
        · subst h1; exact h⟩)
      generalize nf t.fn j = x at *
      have hx0 : (0 : Int) ≤ (x : Int) := by omega
      have hx1 : (x : Int) < 40 := by omega
      clear HR HB HP hrow HG H0
      rcases hs : S x with _ | _
      · rw [hs] at c1
        have eb := HX.out.1 hs
        subst eb
        clear HX
        go_wp2
        go_ret
        exact ⟨rfl, hb0⟩
      · rw [hs] at c1
        have HP2 := hide (HX.out.2 hs)
        clear HX
        go_wp2
        go_round
        case rel => exact ⟨j + 1, by omega, by go_num, HP2⟩
        case measure => simp [intOf]; omega
    · obtain rfl : j = t.nn := by omega
      have eb : b = true := by rw [← HB.out, has_iff]; exact HP.out
      subst eb
      clear HR HB HP HG H0
      go_wp2
      go_ret
      exact ⟨rfl, hb0⟩
namespace M
/-- Two slices of bools of the call's own. -/
def TW2 (w : World) (s u : Nat → Bool) (g h : Nat) (W : World) : Prop :=
  w.heap.size ≤ g ∧ g < h ∧ Blk W g 40 (bv s) 4 ∧ Blk W h 40 (bv u) 4 ∧ Below w.heap.size w W
theorem TW2.down {w W W' : World} {s u : Nat → Bool} {g h : Nat} (H : TW2 w s u g h W) (hb : Below W.heap.size W W') : TW2 w s u g h W' :=
  ⟨H.1, H.2.1, H.2.2.1.down hb, H.2.2.2.1.down hb, H.2.2.2.2.trans (hb.mono H.2.2.2.2.size)⟩
theorem TW2.set {w W : World} {s u : Nat → Bool} {g h : Nat} (H : TW2 w s u g h W) (x : Nat) : TW2 w s (upd u x true) g h (W.setCell ⟨h, x, none⟩ (.bool true)) :=
  ⟨H.1, H.2.1, H.2.2.1.set_other (by have := H.2.1; omega) _ _, H.2.2.2.1.set_bv x, H.2.2.2.2.setCell (by have := H.1; have := H.2.1; simp; omega) _⟩
end M
set_option maxRecDepth 20000 in
set_option maxHeartbeats 2000000 in
theorem spec_step (v u : Value) (k n : Nat) (ts : Nat → Tk) (f : Nat → Int) (w : World) (hv : TasksOf w v k ts) (hg : GoodL k ts) (hu : IntsOf w u n f) (hr : Ris n f) :
    Calls Try.prog 55 #[v, u] w fun e w' => (∃ r, e = .returned r ∧ w'.ownsRow w.heap.size 3 1 r (lst (stp (rls ts) (ofl (nf f) n) k) 40).length ((lst (stp (rls ts) (ofl (nf f) n) k) 40).map nv)) ∧ Below w.heap.size w w' := by
  obtain ⟨a, cap, rfl, hrw⟩ := hv
  have HU := hide hu
  obtain ⟨au, cu, rfl⟩ := hu.form
  have HR := hide hrw
  have HG := hide hg
  have HRi := hide hr
  have hk := hg.1
  clear hrw hg hr hu
  go_enter Try.func55, Try.ntmps55
  go_wp2_with fail
  refine (spec_in _ n f _ HU.out HRi.out).mono ?_
  rintro e w1 ⟨⟨r1, rfl, rfl, hB1⟩, hb1⟩
  go_wp2_with fail
  refine (spec_in _ n f _ (HU.out.below hb1) HRi.out).mono ?_
  rintro e w2 ⟨⟨r2, rfl, rfl, hB2⟩, hb2⟩
  have HZ := hide (show TW2 w (ofl (nf f) n) (ofl (nf f) n) w.heap.size w1.heap.size w2 from ⟨Nat.le_refl _, hB1.lt, hB1.down hb2, hB2, hb1.trans (hb2.mono hb1.size)⟩)
  have hgh := hB1.lt
  clear hB1 hB2 hb1 hb2 HU HRi
  generalize hss : ofl (nf f) n = s at HZ
  have HSS := hide hss
  clear hss
  generalize w1.heap.size = h at *
  go_wp2
  go_loopw [15] (fun i wr => ∃ j : Nat, j ≤ k ∧ i = .int .i64 j ∧ Hid (TW2 w s (stp (rls ts) s j) w.heap.size h wr)) (fun i _ => k - (intOf i).toNat)
  case atStart => exact ⟨0, Nat.zero_le _, rfl, HZ⟩
  case round =>
    rename World => wo
    obtain ⟨j, hj, rfl, HP⟩ := hrel
    by_cases hlt : j < k
    · obtain ⟨bb, off, rfl, hbb, hrow⟩ := HR.out (by omega)
      obtain ⟨y, q1, q2, i1⟩ := hrow j hlt
      obtain ⟨ay, cy, rfl⟩ := i1.form
      have hbw := HP.out.2.2.2.2
      have c0 := (hbw.cell (p := ⟨bb, off + j * 2, none⟩) hbb).trans q1
      have c1 := (hbw.cell (p := ⟨bb, off + j * 2 + 1, none⟩) hbb).trans q2
      have hgj := HG.out.2 j hlt
      rw [hgj.hd.1] at c0
      have hbA := (Below.refl wo.heap.size wo).alloc (Nat.le_refl _) (.cells #[.int .i64 (((rl (ts j)).hd : Nat) : Int), .slice ay (ts j).nn cy] 48)
      have HA := hide (HP.out.down hbA)
      have I1 := hide (i1.below (HA.out.2.2.2.2))
      have HRi := hide hgj.2
      have hh := hgj.hd.2
      have hsj : ∀ b, has s (rl (ts j)) = b → stp (rls ts) s (j + 1) = if b then upd (stp (rls ts) s j) (rl (ts j)).hd true else stp (rls ts) s j := fun b hb => by simp only [stp]; rw [hb]
      have HN := hide (Blk.fresh wo #[.int .i64 (((rl (ts j)).hd : Nat) : Int), .slice ay (ts j).nn cy] 2 (p2 (.int .i64 (((rl (ts j)).hd : Nat) : Int)) (.slice ay (ts j).nn cy)) 48 rfl)
      rcases hb : has s (rl (ts j)) with _ | _
      · have HS := hide (hsj _ hb)
        clear hrow HR q1 q2 i1 HP HG hgj hsj HZ hbb hbw
        go_wp2_with fail
        refine (spec_holds s _ _ _ w.heap.size (ts j) false _ ⟨rfl, HA.out.2.2.1⟩ I1.out HRi.out hb).mono ?_
        rintro e w2 ⟨rfl, hb2⟩
        have HA2 := hide (show TW2 w s (stp (rls ts) s (j + 1)) w.heap.size h w2 from by rw [HS.out]; exact HA.out.down hb2)
        go_wp2
        exact ⟨⟨j + 1, by omega, by go_num, HA2⟩, by simp [intOf]; omega⟩
      · have HS := hide (hsj _ hb)
        clear hrow HR q1 q2 i1 HP HG hgj hsj HZ hbb hbw
        go_wp2_with fail
        refine (spec_holds s _ _ _ w.heap.size (ts j) true _ ⟨rfl, HA.out.2.2.1⟩ I1.out HRi.out hb).mono ?_
        rintro e w2 ⟨rfl, hb2⟩
        have n0 := ((HN.out.down hb2).pair).1
        have HA2 := hide (show TW2 w s (stp (rls ts) s (j + 1)) w.heap.size h (w2.setCell ⟨h, (rl (ts j)).hd, none⟩ (.bool true)) from by rw [HS.out]; exact (HA.out.down hb2).set _)
        have c2 := (HA.out.down hb2).2.2.2.1.cell_bv hh
        have t2 := (HA.out.down hb2).2.2.2.1.thaw (rl (ts j)).hd
        clear HA HS HN I1 HRi
        generalize (rl (ts j)).hd = x at *
        have hx0 : (0 : Int) ≤ (x : Int) := by omega
        have hx1 : (x : Int) < 40 := by omega
        go_wp2
        exact ⟨⟨j + 1, by omega, by go_num, HA2⟩, by simp [intOf]; omega⟩
    · obtain rfl : j = k := by omega
      have hb := HP.out.2.2.2.2
      clear HR HG HZ
      go_wp2_with fail
      refine (spec_list (stp (rls ts) s j) _ h _ ⟨rfl, HP.out.2.2.2.1⟩).mono ?_
      rintro e w3 ⟨⟨r, rfl, ho⟩, hb3⟩
      have HO := hide (owns_mono ho hb.size)
      have hb' := hb.trans (hb3.mono hb.size)
      clear ho HP hb hb3
      go_wp2
      go_ret
      exact ⟨⟨_, rfl, by rw [HSS.out]; exact HO.out⟩, hb'⟩
end Go.Proofs.Ytpabnncfcklnpaa
