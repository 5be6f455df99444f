/-
  IsModel, StepOnce of the specification.
-/
import Derived.Test.YtpabnncfcklnpaaHoT
namespace Go.Proofs.Ytpabnncfcklnpaa
open Go.RowKit M
open Clk (upd upd_same upd_other)
open Ho
namespace M
/-- Good rules and a good set. -/
def Okay (k n : Nat) (ts : Nat → Tk) (f : Nat → Int) : Prop := GoodL k ts ∧ Ris n f
instance (k n : Nat) (ts : Nat → Tk) (f : Nat → Int) : Decidable (Okay k n ts f) := by unfold Okay; infer_instance
abbrev sof (f : Nat → Int) (n : Nat) : Nat → Bool := ofl (nf f) n
theorem lst_sof {n : Nat} {f : Nat → Int} (h : Ris n f) : lst (sof f n) 40 = (List.range n).map (nf f) := lst_of h.up
theorem lst_sof_len {n : Nat} {f : Nat → Int} (h : Ris n f) : (lst (sof f n) 40).length = n := by rw [lst_sof h]; simp
/-- Whether a set is a model. -/
def mdl (k : Nat) (ts : Nat → Tk) (s : Nat → Bool) : Bool := feq (stp (rls ts) s k) s
theorem mdl_iff {k : Nat} {ts : Nat → Tk} (hg : GoodL k ts) {s : Nat → Bool} : mdl k ts s = true ↔ ∀ i, i < k → has s (rl (ts i)) = true → s (rl (ts i)).hd = true := by
  unfold mdl
  rw [feq_iff]
  constructor
  · intro h; exact model_iff.1 (stp_fix hg.hds h)
  · intro h x _; rw [model_iff.2 h]
end M
set_option maxRecDepth 20000 in
set_option maxHeartbeats 2000000 in
theorem spec_model (v u : Value) (k n : Nat) (ts : Nat → Tk) (f : Nat → Int) (w : World) (hv : TasksOf w v k ts) (hs : Short k ts) (hu : IntsOf w u n f) (hn : n ≤ 1048576) (hO : Okay k n ts f) :
    Calls Try.prog 23 #[v, u] w fun e w' => e = .returned (.tuple #[.bool (mdl k ts (sof f n)), .bool true]) ∧ Below w.heap.size w w' := by
  have HV := hide hv
  obtain ⟨a, cap, rfl, hrw⟩ := hv
  have HU := hide hu
  obtain ⟨au, cu, rfl⟩ := hu.form
  have HR := hide hrw
  have HG := hide hO.1
  have HRi := hide hO.2
  have HM := hide (show mdl k ts (sof f n) = true ↔ ∀ i, i < k → has (ofl (nf f) n) (rl (ts i)) = true → ofl (nf f) n (rl (ts i)).hd = true from mdl_iff hO.1)
  have HSh := hide hs
  have hk := hO.1.1
  clear hrw hO hu hs
  generalize mdl k ts (sof f n) = b at *
  go_enter Try.func23, Try.ntmps23
  go_wp2_with fail
  refine (spec_good _ k ts true _ HV.out HSh.out (decide_eq_true HG.out)).mono ?_
  rintro e w1 ⟨rfl, hb1⟩
  go_wp2_with fail
  refine (l8set_to _ n f true _ (HU.out.below hb1) hn (decide_eq_true HRi.out)).mono ?_
  rintro e w2 ⟨rfl, rfl⟩
  go_wp2_with fail
  refine (spec_in _ n f _ (HU.out.below hb1) HRi.out).mono ?_
  rintro e w3 ⟨⟨r3, rfl, rfl, hB3⟩, hb3⟩
  have HZ := hide (And.intro hB3 (hb1.trans (hb3.mono hb1.size)))
  clear hB3 hb1 hb3 HU HRi HV HSh
  generalize ofl (nf f) n = s at *
  generalize w2.heap.size = g at *
  go_wp2
  go_loopw [21] (fun i wr => ∃ j : Nat, j ≤ k ∧ i = .int .i64 j ∧ Hid (∀ i, i < j → has s (rl (ts i)) = true → s (rl (ts i)).hd = true) ∧ Hid (Blk wr g 40 (bv s) 4 ∧ Below w.heap.size w wr)) (fun i _ => k - (intOf i).toNat)
  case atStart => exact ⟨0, Nat.zero_le _, rfl, hide (fun i h => absurd h (by omega)), HZ⟩
  case round =>
    rename World => wo
    obtain ⟨j, hj, rfl, HQ, HP⟩ := hrel
    by_cases hlt : j < k
    · obtain ⟨bb, off, rfl, hbb, hrow⟩ := HR.out (by omega)
      obtain ⟨y, q1, q2, i1⟩ := hrow j hlt
      obtain ⟨ay, cy, rfl⟩ := i1.form
      have hbw := HP.out.2
      have c0 := (hbw.cell (p := ⟨bb, off + j * 2, none⟩) hbb).trans q1
      have c1 := (hbw.cell (p := ⟨bb, off + j * 2 + 1, none⟩) hbb).trans q2
      have hgj := HG.out.2 j hlt
      rw [hgj.hd.1] at c0
      have hbA := (Below.refl wo.heap.size wo).alloc (Nat.le_refl _) (.cells #[.int .i64 (((rl (ts j)).hd : Nat) : Int), .slice ay (ts j).nn cy] 48)
      have hbB := hbw.trans (hbA.mono hbw.size)
      have HA := hide (HP.out.1.down hbA)
      have I1 := hide (i1.below hbB)
      have HRi := hide hgj.2
      have hh := hgj.hd.2
      have HN := hide (Blk.fresh wo #[.int .i64 (((rl (ts j)).hd : Nat) : Int), .slice ay (ts j).nn cy] 2 (p2 (.int .i64 (((rl (ts j)).hd : Nat) : Int)) (.slice ay (ts j).nn cy)) 48 rfl)
      have HYes := hide (show (has s (rl (ts j)) = true → s (rl (ts j)).hd = true) → ∀ i, i < j + 1 → has s (rl (ts i)) = true → s (rl (ts i)).hd = true from fun h i hi => by
        rcases (show i < j ∨ i = j by omega) with h1 | h1
        · exact HQ.out i h1
        · subst h1; exact h)
      rcases hb : has s (rl (ts j)) with _ | _
      · have HQ2 := hide (HYes.out (fun h => by rw [hb] at h; cases h))
        clear hrow HR q1 q2 i1 HP HG hgj HZ hbb HYes HQ HM
        go_wp2_with fail
        refine (spec_holds s _ _ _ g (ts j) false _ ⟨rfl, HA.out⟩ I1.out HRi.out hb).mono ?_
        rintro e w2 ⟨rfl, hb2⟩
        have HA2 := hide (And.intro (HA.out.down hb2) (hbB.trans (hb2.mono hbB.size)))
        go_wp2
        exact ⟨⟨j + 1, by omega, by go_num, HQ2, HA2⟩, by simp [intOf]; omega⟩
      · have HNo := hide (show s (rl (ts j)).hd = false → b = false from fun h => by
          rw [← Bool.not_eq_true, HM.out]
          intro H
          have := H j hlt hb
          rw [h] at this; cases this)
        clear hrow HR q1 q2 i1 HP HG hgj HZ hbb HQ HM
        go_wp2_with fail
        refine (spec_holds s _ _ _ g (ts j) true _ ⟨rfl, HA.out⟩ I1.out HRi.out hb).mono ?_
        rintro e w2 ⟨rfl, hb2⟩
        have n0 := ((HN.out.down hb2).pair).1
        have hb3 := hbB.trans (hb2.mono hbB.size)
        have HA2 := hide (And.intro (HA.out.down hb2) hb3)
        have c2 := (HA.out.down hb2).cell_bv hh
        clear HA HN I1 HRi
        rcases hd : s (rl (ts j)).hd with _ | _
        · have eb := HNo.out hd
          subst eb
          rw [hd] at c2
          clear HNo HYes hd hb
          generalize (rl (ts j)).hd = x at *
          have hx0 : (0 : Int) ≤ (x : Int) := by omega
          have hx1 : (x : Int) < 40 := by omega
          go_wp2
          go_ret2
          exact ⟨rfl, hb3⟩
        · have HQ2 := hide (HYes.out (fun _ => hd))
          rw [hd] at c2
          clear HNo HYes hd hb
          generalize (rl (ts j)).hd = x at *
          have hx0 : (0 : Int) ≤ (x : Int) := by omega
          have hx1 : (x : Int) < 40 := by omega
          go_wp2
          exact ⟨⟨j + 1, by omega, by go_num, HQ2, HA2⟩, by simp [intOf]; omega⟩
    · obtain rfl : j = k := by omega
      have eb : b = true := HM.out.2 HQ.out
      subst eb
      have hb := HP.out.2
      clear HR HG HZ HP HQ HM
      go_wp2
      go_ret2
      exact ⟨rfl, hb⟩
set_option maxHeartbeats 1000000 in
theorem spec_model_no (v u : Value) (k n : Nat) (ts : Nat → Tk) (f : Nat → Int) (w : World) (hv : TasksOf w v k ts) (hs : Short k ts) (hu : IntsOf w u n f) (hn : n ≤ 1048576) (hO : ¬ Okay k n ts f) :
    Calls Try.prog 23 #[v, u] w fun e w' => e = .returned (.tuple #[.bool false, .bool false]) ∧ Below w.heap.size w w' := by
  have HV := hide hv
  obtain ⟨a, cap, rfl⟩ := hv.form
  have HU := hide hu
  obtain ⟨au, cu, rfl⟩ := hu.form
  have HSh := hide hs
  clear hv hu hs
  by_cases hg : GoodL k ts
  · have hr : ¬ Ris n f := fun h => hO ⟨hg, h⟩
    have HG := hide hg
    have HRi := hide hr
    clear hg hr hO
    go_enter Try.func23, Try.ntmps23
    go_wp2_with fail
    refine (spec_good _ k ts true _ HV.out HSh.out (decide_eq_true HG.out)).mono ?_
    rintro e w1 ⟨rfl, hb1⟩
    go_wp2_with fail
    refine (l8set_to _ n f false _ (HU.out.below hb1) hn (decide_eq_false HRi.out)).mono ?_
    rintro e w2 ⟨rfl, rfl⟩
    go_wp2
    go_ret2
    exact ⟨rfl, hb1⟩
  · have HG := hide hg
    clear hg hO
    go_enter Try.func23, Try.ntmps23
    go_wp2_with fail
    refine (spec_good _ k ts false _ HV.out HSh.out (decide_eq_false HG.out)).mono ?_
    rintro e w1 ⟨rfl, hb1⟩
    go_wp2
    go_ret2
    exact ⟨rfl, hb1⟩
set_option maxHeartbeats 1000000 in
theorem spec_once (v u : Value) (k n : Nat) (ts : Nat → Tk) (f : Nat → Int) (w : World) (hv : TasksOf w v k ts) (hs : Short k ts) (hu : IntsOf w u n f) (hn : n ≤ 1048576) (hO : Okay k n ts f) :
    Calls Try.prog 29 #[v, u] w fun e w' => (∃ r, e = .returned (.tuple #[r, .bool true]) ∧ w'.ownsRow w.heap.size 3 1 r (lst (stp (rls ts) (sof f n) k) 40).length ((lst (stp (rls ts) (sof f n) k) 40).map nv)) ∧ Below w.heap.size w w' := by
  have HV := hide hv
  obtain ⟨a, cap, rfl⟩ := hv.form
  have HU := hide hu
  obtain ⟨au, cu, rfl⟩ := hu.form
  have HSh := hide hs
  have HG := hide hO.1
  have HRi := hide hO.2
  clear hv hu hs hO
  go_enter Try.func29, Try.ntmps29
  go_wp2_with fail
  refine (spec_good _ k ts true _ HV.out HSh.out (decide_eq_true HG.out)).mono ?_
  rintro e w1 ⟨rfl, hb1⟩
  go_wp2_with fail
  refine (l8set_to _ n f true _ (HU.out.below hb1) hn (decide_eq_true HRi.out)).mono ?_
  rintro e w2 ⟨rfl, rfl⟩
  go_wp2_with fail
  refine (spec_step _ _ k n ts f _ (HV.out.below hb1) HG.out (HU.out.below hb1) HRi.out).mono ?_
  rintro e w3 ⟨⟨r, rfl, ho⟩, hb3⟩
  have HO := hide (owns_mono ho hb1.size)
  have hb' := hb1.trans (hb3.mono hb1.size)
  clear ho hb1 hb3
  go_wp2
  go_ret2
  exact ⟨⟨_, rfl, HO.out⟩, hb'⟩
set_option maxHeartbeats 1000000 in
theorem spec_once_no (v u : Value) (k n : Nat) (ts : Nat → Tk) (f : Nat → Int) (w : World) (hv : TasksOf w v k ts) (hs : Short k ts) (hu : IntsOf w u n f) (hn : n ≤ 1048576) (hO : ¬ Okay k n ts f) :
    Calls Try.prog 29 #[v, u] w fun e w' => e = .returned (.tuple #[.slice none 0 0, .bool false]) ∧ Below w.heap.size w w' := by
  have HV := hide hv
  obtain ⟨a, cap, rfl⟩ := hv.form
  have HU := hide hu
  obtain ⟨au, cu, rfl⟩ := hu.form
  have HSh := hide hs
  clear hv hu hs
  by_cases hg : GoodL k ts
  · have hr : ¬ Ris n f := fun h => hO ⟨hg, h⟩
    have HG := hide hg
    have HRi := hide hr
    clear hg hr hO
    go_enter Try.func29, Try.ntmps29
    go_wp2_with fail
    refine (spec_good _ k ts true _ HV.out HSh.out (decide_eq_true HG.out)).mono ?_
    rintro e w1 ⟨rfl, hb1⟩
    go_wp2_with fail
    refine (l8set_to _ n f false _ (HU.out.below hb1) hn (decide_eq_false HRi.out)).mono ?_
    rintro e w2 ⟨rfl, rfl⟩
    go_wp2
    go_ret2
    exact ⟨rfl, hb1⟩
  · have HG := hide hg
    clear hg hO
    go_enter Try.func29, Try.ntmps29
    go_wp2_with fail
    refine (spec_good _ k ts false _ HV.out HSh.out (decide_eq_false HG.out)).mono ?_
    rintro e w1 ⟨rfl, hb1⟩
    go_wp2
    go_ret2
    exact ⟨rfl, hb1⟩
end Go.Proofs.Ytpabnncfcklnpaa
