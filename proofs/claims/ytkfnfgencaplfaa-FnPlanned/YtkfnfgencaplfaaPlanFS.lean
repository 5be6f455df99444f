/-
  The specification's LatestOf; both texts where there is no good plan.
-/
import Derived.Test.YtkfnfgencaplfaaPlanF
import Derived.Test.YtkfnfgencaplfaaPlanES
namespace Go.Proofs.Ytkfnfgencaplfaa
open Go.RowKit M
set_option maxHeartbeats 1000000 in
theorem spec_late (v : Value) (k : Nat) (ts : Nat → Tk) (w : World) (hv : TasksOf w v k ts) (hs : Short k ts) (hg : GoodP k ts) :
    Calls Try.prog 28 #[v] w fun e w' => (∃ r, e = .returned (.tuple #[r, .bool true]) ∧ IntsOf w' r k (lat ts (eal ts (ord ts k k)) (ord ts k k).reverse)) ∧ Below w.heap.size w w' := by
  have HV := hide hv
  have HG := hide hg
  have HS := hide hs
  obtain ⟨a, cap, rfl⟩ := hv.form
  clear hv hs hg
  go_enter Try.func28, Try.ntmps28
  go_wp2_with fail
  refine (spec_good _ k ts true _ HV.out HS.out (by rw [decide_eq_true_eq]; exact HG.out)).mono ?_
  rintro e w1 ⟨rfl, hb1⟩
  go_wp2_with fail
  refine (l4latest _ k ts _ (HV.out.below hb1) HG.out).mono ?_
  rintro e w2 ⟨⟨r, rfl, hr⟩, hb2⟩
  have hb2' := hb1.trans (hb2.mono hb1.size)
  have HA := hide hr
  obtain ⟨a2, c2, rfl⟩ := hr.form
  clear hr hb2 HV HS HG
  go_wp2
  go_ret2
  exact ⟨⟨_, rfl, HA.out⟩, hb2'⟩
set_option maxHeartbeats 1000000 in
theorem spec_late_no (v : Value) (k : Nat) (ts : Nat → Tk) (w : World) (hv : TasksOf w v k ts) (hs : Short k ts) (hg : ¬ GoodP k ts) :
    Calls Try.prog 28 #[v] w fun e w' => e = .returned (.tuple #[.slice none 0 0, .bool false]) ∧ Below w.heap.size w w' := by
  have HV := hide hv
  have HG := hide hg
  have HS := hide hs
  obtain ⟨a, cap, rfl⟩ := hv.form
  clear hv hs hg
  go_enter Try.func28, Try.ntmps28
  go_wp2_with fail
  refine (spec_good _ k ts false _ HV.out HS.out (by rw [decide_eq_false_iff_not]; exact HG.out)).mono ?_
  rintro e w1 ⟨rfl, hb1⟩
  clear HV HS HG
  go_wp2
  go_ret2
  exact ⟨rfl, hb1⟩
set_option maxRecDepth 20000 in
set_option maxHeartbeats 2000000 in
theorem impl_late_no (v : Value) (k : Nat) (ts : Nat → Tk) (w : World) (hv : TasksOf w v k ts) (hs : Short k ts) (hg : ¬ GoodP k ts) :
    Calls Try.prog 29 #[v] w fun e w' => e = .returned (.tuple #[.slice none 0 0, .bool false]) ∧ Below w.heap.size w w' := by
  have HV := hide hv
  have HG := hide hg
  have HS := hide hs
  obtain ⟨a, cap, rfl⟩ := hv.form
  have hbA := (Below.refl w.heap.size w).alloc (Nat.le_refl _) (.cells #[.slice a k cap] 25)
  clear hv hs hg
  refine (callsIn_wide (n := 3)).1 ?_
  refine callsIn_of_wp_marks Try.func29 rfl trivial ?_ rfl
  simp only [Try.ntmps29, List.size_toArray, List.length_cons, List.length_nil, Nat.reduceAdd, Nat.reduceSub, Array.replicate_succ, Array.replicate_zero, List.push_toArray, List.append_toArray, List.nil_append, List.cons_append]
  gi_wp2_with (refine ⟨trivial, ?_⟩; gi_at_call 27; refine (callsIn_wide.2 (impl_early_no _ k ts _ (HV.out.below hbA) HS.out HG.out)).mono ?_; rintro e w1 ⟨rfl, hb⟩; have hb1 := hbA.trans (hb.mono hbA.size); clear hb hbA)
  exact ⟨_, results_tmp2 rfl _ _ _, rfl, hb1⟩
end Go.Proofs.Ytkfnfgencaplfaa
