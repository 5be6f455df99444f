/-
  CriticalOf of both texts where there is no good plan.
-/
import Derived.Test.YtkfnfgencaplfaaPlanFS
namespace Go.Proofs.Ytkfnfgencaplfaa
open Go.RowKit M
set_option maxHeartbeats 1000000 in
theorem impl_crit_no (v : Value) (k : Nat) (ts : Nat → Tk) (w : World) (hv : TasksOf w v k ts) (hs : Short k ts) (hg : ¬ GoodP k ts) :
    Calls Try.prog 33 #[v] w fun e w' => e = .returned (.tuple #[.slice none 0 0, .bool false]) ∧ Below w.heap.size w w' := by
  have HV := hide hv
  have HG := hide hg
  have HS := hide hs
  obtain ⟨a, cap, rfl⟩ := hv.form
  clear hv hs hg
  go_enter Try.func33, Try.ntmps33
  go_wp2_with fail
  refine wp_scope_straight ?_
  go_wp2_with fail
  refine (impl_late_no _ k ts _ HV.out HS.out HG.out).mono ?_
  rintro e w1 ⟨rfl, hb1⟩
  clear HV HS HG
  go_wp2
  rw [Exit.noGoto_ret]
  go_ret2
  exact ⟨rfl, hb1⟩
set_option maxHeartbeats 1000000 in
theorem spec_crit_no (v : Value) (k : Nat) (ts : Nat → Tk) (w : World) (hv : TasksOf w v k ts) (hs : Short k ts) (hg : ¬ GoodP k ts) :
    Calls Try.prog 32 #[v] w fun e w' => e = .returned (.tuple #[.slice none 0 0, .bool false]) ∧ Below w.heap.size w w' := by
  have HV := hide hv
  have HG := hide hg
  have HS := hide hs
  obtain ⟨a, cap, rfl⟩ := hv.form
  clear hv hs hg
  go_enter Try.func32, Try.ntmps32
  go_wp2_with fail
  refine (spec_good _ k ts false _ HV.out HS.out (by rw [decide_eq_false_iff_not]; exact HG.out)).mono ?_
  rintro e w1 ⟨rfl, hb1⟩
  clear HV HS HG
  go_wp2
  go_ret2
  exact ⟨rfl, hb1⟩
end Go.Proofs.Ytkfnfgencaplfaa
