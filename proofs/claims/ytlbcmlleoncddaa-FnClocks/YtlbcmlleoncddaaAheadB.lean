/-
  Both texts of AheadOf, at all arguments.
-/
import Derived.Test.YtlbcmlleoncddaaAV
import Derived.Test.YtlbcmlleoncddaaAhead
namespace Go.Proofs.Ytlbcmlleoncddaa
open Go.RowKit M
open Go.Sort (grow)
namespace M
theorem vle_ahead {p : Int} {n : Nat} {l : Nat → Ac} (hg : GoodL p n l) {a b : Nat} (ha : a < n) (hne : a ≠ b) : vle (Vf l a) (Vf l b) = Ab l b a := by
  rw [Bool.eq_iff_iff, vle_iff]
  unfold Ab
  rw [decide_eq_true_eq, Clk.A_iff_le (P l) (F l) (F_lt l) b a 6 (good_P hg ha).2.1]
  constructor
  · intro h
    refine ⟨hne, fun q hq => ?_⟩
    have := h q hq
    unfold Vf at this; omega
  · rintro ⟨_, h⟩ q hq
    have := h q hq
    unfold Vf; omega
theorem Ab_self (l : Nat → Ac) (b : Nat) : Ab l b b = false := by
  unfold Ab; rw [decide_eq_false_iff_not]; intro h; have := h.1; omega
end M
def Inn (n : Nat) (a : Int) : Prop := (0 : Int) ≤ a ∧ a ≤ (n : Int) - 1
set_option maxHeartbeats 2000000 in
theorem impl_ahead_no (p : Int) (v : Value) (n : Nat) (l : Nat → Ac) (a b : Int) (w : World) (hv : ActsOf w v n l) (hm : n ≤ 1048576) (hno : ¬ (GoodL p n l ∧ Inn n a ∧ Inn n b)) :
    Calls Try.prog 35 #[.int .i64 p, v, .int .i64 a, .int .i64 b] w fun e w' => e = .returned (.tuple #[.bool false, .bool false]) ∧ Below w.heap.size w w' := by
  have HV := hide hv
  obtain ⟨ad, cap, rfl⟩ := hv.form
  clear hv
  by_cases hg : GoodL p n l
  · have HG := hide hg
    by_cases ha : Inn n a
    · have hb : ¬ Inn n b := fun h => hno ⟨hg, ha, h⟩
      have HA := hide ha
      have HB := hide hb
      clear hno hg ha hb
      go_enter Try.func35, Try.ntmps35
      go_wp2_with fail
      refine (impl_good_yes p _ n l _ HV.out HG.out).mono ?_
      rintro e w1 ⟨rfl, hb1⟩
      go_wp2_with fail
      refine (within_to _ _ _ true _ (decide_eq_true HA.out)).mono ?_
      rintro e w2 ⟨rfl, rfl⟩
      go_wp2_with fail
      refine (within_to _ _ _ false _ (decide_eq_false HB.out)).mono ?_
      rintro e w2 ⟨rfl, rfl⟩
      go_wp2
      go_ret2
      exact ⟨rfl, hb1⟩
    · have HA := hide ha
      clear hno hg ha
      go_enter Try.func35, Try.ntmps35
      go_wp2_with fail
      refine (impl_good_yes p _ n l _ HV.out HG.out).mono ?_
      rintro e w1 ⟨rfl, hb1⟩
      go_wp2_with fail
      refine (within_to _ _ _ false _ (decide_eq_false HA.out)).mono ?_
      rintro e w2 ⟨rfl, rfl⟩
      go_wp2
      go_ret2
      exact ⟨rfl, hb1⟩
  · have HG := hide hg
    clear hno hg
    go_enter Try.func35, Try.ntmps35
    go_wp2_with fail
    refine (impl_good_no p _ n l _ HV.out hm HG.out).mono ?_
    rintro e w1 ⟨rfl, hb1⟩
    go_wp2
    go_ret2
    exact ⟨rfl, hb1⟩
set_option maxHeartbeats 2000000 in
theorem spec_ahead_no (p : Int) (v : Value) (n : Nat) (l : Nat → Ac) (a b : Int) (w : World) (hv : ActsOf w v n l) (hm : n ≤ 1048576) (hno : ¬ (GoodL p n l ∧ Inn n a ∧ Inn n b)) (h1 : -9223372036854775808 ≤ p) (h2 : p ≤ 9223372036854775807) :
    Calls Try.prog 34 #[.int .i64 p, v, .int .i64 a, .int .i64 b] w fun e w' => e = .returned (.tuple #[.bool false, .bool false]) ∧ Below w.heap.size w w' := by
  have HV := hide hv
  obtain ⟨ad, cap, rfl⟩ := hv.form
  clear hv
  by_cases hg : GoodL p n l
  · have HG := hide hg
    by_cases ha : Inn n a
    · have hb : ¬ Inn n b := fun h => hno ⟨hg, ha, h⟩
      have HA := hide ha
      have HB := hide hb
      clear hno hg ha hb
      go_enter Try.func34, Try.ntmps34
      go_wp2_with fail
      refine (spec_good_yes p _ n l _ HV.out HG.out).mono ?_
      rintro e w1 ⟨rfl, hb1⟩
      go_wp2_with fail
      refine (l1in_to _ _ _ true _ (decide_eq_true HA.out)).mono ?_
      rintro e w2 ⟨rfl, rfl⟩
      go_wp2_with fail
      refine (l1in_to _ _ _ false _ (decide_eq_false HB.out)).mono ?_
      rintro e w2 ⟨rfl, rfl⟩
      go_wp2
      go_ret2
      exact ⟨rfl, hb1⟩
    · have HA := hide ha
      clear hno hg ha
      go_enter Try.func34, Try.ntmps34
      go_wp2_with fail
      refine (spec_good_yes p _ n l _ HV.out HG.out).mono ?_
      rintro e w1 ⟨rfl, hb1⟩
      go_wp2_with fail
      refine (l1in_to _ _ _ false _ (decide_eq_false HA.out)).mono ?_
      rintro e w2 ⟨rfl, rfl⟩
      go_wp2
      go_ret2
      exact ⟨rfl, hb1⟩
  · have HG := hide hg
    clear hno hg
    go_enter Try.func34, Try.ntmps34
    go_wp2_with fail
    refine (spec_good_no p _ n l _ HV.out hm HG.out h1 h2).mono ?_
    rintro e w1 ⟨rfl, hb1⟩
    go_wp2
    go_ret2
    exact ⟨rfl, hb1⟩
set_option maxHeartbeats 2000000 in
theorem spec_ahead (p : Int) (v : Value) (n : Nat) (l : Nat → Ac) (a b : Nat) (w : World) (hv : ActsOf w v n l) (hg : GoodL p n l) (ha : a < n) (hb : b < n) :
    Calls Try.prog 34 #[.int .i64 p, v, .int .i64 (a : Int), .int .i64 (b : Int)] w fun e w' => e = .returned (.tuple #[.bool (Ab l b a), .bool true]) ∧ Below w.heap.size w w' := by
  have HV := hide hv
  have hn : n ≤ 60 := hg.2.1
  have HG := hide hg
  obtain ⟨ad, cap, rfl⟩ := hv.form
  have HA := hide (show decide ((0 : Int) ≤ (a : Int) ∧ (a : Int) ≤ (n : Int) - 1) = true by simp; omega)
  have HB := hide (show decide ((0 : Int) ≤ (b : Int) ∧ (b : Int) ≤ (n : Int) - 1) = true by simp; omega)
  clear hv hg
  go_enter Try.func34, Try.ntmps34
  go_wp2_with fail
  refine (spec_good_yes p _ n l _ HV.out HG.out).mono ?_
  rintro e w1 ⟨rfl, hb1⟩
  go_wp2_with fail
  refine (l1in_to _ _ _ true _ HA.out).mono ?_
  rintro e w2 ⟨rfl, rfl⟩
  go_wp2_with fail
  refine (l1in_to _ _ _ true _ HB.out).mono ?_
  rintro e w2 ⟨rfl, rfl⟩
  go_wp2_with fail
  refine (l2_ahead p _ n l _ (HV.out.below hb1) HG.out).mono ?_
  rintro e w2 ⟨⟨r, rfl, hT⟩, hb2⟩
  have hbf := hb1.trans (hb2.mono hb1.size)
  obtain ⟨ob, oc, gs, rfl, hBo, hob, hrd⟩ := hT.read (by omega)
  have o0 := (hrd b hb).1
  have o1 := (hrd b hb).2.2.cell ha
  clear hrd hT HV HG HA HB
  go_wp2
  go_ret2
  exact ⟨rfl, hbf⟩
set_option maxHeartbeats 2000000 in
theorem impl_ahead (p : Int) (v : Value) (n : Nat) (l : Nat → Ac) (a b : Nat) (w : World) (hv : ActsOf w v n l) (hg : GoodL p n l) (ha : a < n) (hb : b < n) :
    Calls Try.prog 35 #[.int .i64 p, v, .int .i64 (a : Int), .int .i64 (b : Int)] w fun e w' => e = .returned (.tuple #[.bool (Ab l b a), .bool true]) ∧ Below w.heap.size w w' := by
  have HV := hide hv
  have hn : n ≤ 60 := hg.2.1
  have HG := hide hg
  obtain ⟨ad, cap, rfl⟩ := hv.form
  have HA := hide (show decide ((0 : Int) ≤ (a : Int) ∧ (a : Int) ≤ (n : Int) - 1) = true by simp; omega)
  have HB := hide (show decide ((0 : Int) ≤ (b : Int) ∧ (b : Int) ≤ (n : Int) - 1) = true by simp; omega)
  clear hv hg
  go_enter Try.func35, Try.ntmps35
  go_wp2_with fail
  refine (impl_good_yes p _ n l _ HV.out HG.out).mono ?_
  rintro e w1 ⟨rfl, hb1⟩
  go_wp2_with fail
  refine (within_to _ _ _ true _ HA.out).mono ?_
  rintro e w2 ⟨rfl, rfl⟩
  go_wp2_with fail
  refine (within_to _ _ _ true _ HB.out).mono ?_
  rintro e w2 ⟨rfl, rfl⟩
  go_wp2_with fail
  refine (act_vectors p _ n l _ (HV.out.below hb1) HG.out).mono ?_
  rintro e w3 ⟨⟨rfl, hV⟩, hb3⟩
  have hbf := hb1.trans (hb3.mono hb1.size)
  by_cases hab : a = b
  · subst hab
    have e1 : ((a : Int) != (a : Int)) = false := by simp
    have HS := hide (Ab_self l a)
    clear HV HG HA HB hV
    go_wp2
    go_big_quiet (fail)
    go_wp2
    go_ret2
    exact ⟨by rw [HS.out]; rfl, below_drewN hbf _⟩
  · have e1 : ((a : Int) != (b : Int)) = true := by simp; omega
    have HS := hide (vle_ahead HG.out ha hab)
    obtain ⟨⟨s0, s1, s2, s3, s4, s5⟩, -⟩ := hV.row6 (k := a) (by omega)
    obtain ⟨⟨t0, t1, t2, t3, t4, t5⟩, -⟩ := hV.row6 (k := b) (by omega)
    have k0 := cell_regrown s0
    have k1 := cell_regrown s1
    have k2 := cell_regrown s2
    have k3 := cell_regrown s3
    have k4 := cell_regrown s4
    have k5 := cell_regrown s5
    have l0 := cell_regrown t0
    have l1 := cell_regrown t1
    have l2 := cell_regrown t2
    have l3 := cell_regrown t3
    have l4 := cell_regrown t4
    have l5 := cell_regrown t5
    have ha0 : (0 : Int) ≤ (a : Int) := by omega
    have ha1 : (a : Int) < (n : Int) := by omega
    have hb0 : (0 : Int) ≤ (b : Int) := by omega
    have hb1' : (b : Int) < (n : Int) := by omega
    have HE := hide (show ∀ d os, Calls Try.prog 54 #[vecV (Vf l a), vecV (Vf l b)] (grow (redrawn w3 d) os) fun e w'' => e = .returned (.bool (Ab l b a)) ∧ ∃ p : Regrown, w'' = grow (redrawn w3 p.d) p.os from fun d os => by rw [← HS.out]; exact Calls.regrown_of (at_most _ _ _))
    clear HV HG HA HB hV s0 s1 s2 s3 s4 s5 t0 t1 t2 t3 t4 t5 HS
    go_wp2
    refine wp_region_quiet_below (by kernel_rfl) (by kernel_rfl) ?_
    repeat (go_big_quiet_step (exact HE.out _ _))
    refine wpQuiet_nil ?_
    intro _ hw'
    obtain ⟨⟨dq, osq⟩, hw''⟩ := hw'
    subst hw''
    have hbw2 := hbf.trans ((below_regrown w3 dq osq).mono hbf.size)
    go_wp2
    go_ret2
    exact ⟨rfl, hbw2⟩
end Go.Proofs.Ytlbcmlleoncddaa
