/-
  Versions: RegionOf, NextVersion and IsGraceful in both texts, and their laws.
-/
import Derived.Test.YtoengmekbpcocaaDoorNxM
namespace Go.Proofs.YtoengmekbpcocaaDoor
open Go.RowKit M
namespace M
def rgv (v : Int) : Int := if inB v 0 1000000 = true then v % 10 else 0
def nxb (v r : Int) : Bool := inB v 0 1000000 && (inB r 0 9 && inB (nx v r) 0 1000000)
def nxa (v r : Int) : Int := if nxb v r = true then nx v r else 0
def grb (f t : Int) : Bool := inB f 0 1000000 && inB t 0 1000000
def gra (f t : Int) : Bool := grb f t && (t == nx f (t % 10) && (t % 10 != f % 10))
theorem inB_iff {n lo hi : Int} : inB n lo hi = true ↔ lo ≤ n ∧ n ≤ hi := by unfold inB; simp
theorem inB_no {n lo hi : Int} : inB n lo hi = false ↔ ¬ (lo ≤ n ∧ n ≤ hi) := by rw [← inB_iff]; simp
theorem rgv_yes {v : Int} (h : inB v 0 1000000 = true) : rgv v = v % 10 := by unfold rgv; rw [if_pos h]
theorem rgv_no {v : Int} (h : inB v 0 1000000 = false) : rgv v = 0 := by unfold rgv; rw [if_neg (by rw [h]; simp)]
theorem nxb_iff {v r : Int} : nxb v r = true ↔ (0 ≤ v ∧ v ≤ 1000000) ∧ (0 ≤ r ∧ r ≤ 9) ∧ nx v r ≤ 1000000 := by
  unfold nxb
  rw [Bool.and_eq_true, Bool.and_eq_true, inB_iff, inB_iff, inB_iff]
  constructor
  · rintro ⟨h1, h2, h3⟩; exact ⟨h1, h2, h3.2⟩
  · rintro ⟨h1, h2, h3⟩; exact ⟨h1, h2, by have := nx_gt (v := v) h2.1 h2.2; omega, h3⟩
theorem nxa_yes {v r : Int} (h : nxb v r = true) : nxa v r = nx v r := by unfold nxa; rw [if_pos h]
theorem nxa_no {v r : Int} (h : nxb v r = false) : nxa v r = 0 := by unfold nxa; rw [if_neg (by rw [h]; simp)]
end M
theorem spec_ver (n : Int) (w : World) :
    Calls Tryd.prog 32 #[.int .i64 n] w fun e w' => e = .returned (.bool (inB n 0 1000000)) ∧ w' = w := by
  go_enter Tryd.func32, Tryd.ntmps32
  go_wp2_with (go_at_call 31; refine (spec_in _ _ _ _).mono ?_; rintro e w' ⟨rfl, rfl⟩)
  go_ret
  exact ⟨rfl, rfl⟩
theorem impl_ver (n : Int) (w : World) :
    Calls Tryd.prog 49 #[.int .i64 n] w fun e w' => e = .returned (.bool (inB n 0 1000000)) ∧ w' = w := by
  go_enter Tryd.func49, Tryd.ntmps49
  go_wp2_with (go_at_call 48; refine (impl_in _ _ _ _).mono ?_; rintro e w' ⟨rfl, rfl⟩)
  go_ret
  exact ⟨rfl, rfl⟩
theorem impl_rid (n : Int) (w : World) :
    Calls Tryd.prog 33 #[.int .i64 n] w fun e w' => e = .returned (.bool (inB n 0 9)) ∧ w' = w := by
  go_enter Tryd.func33, Tryd.ntmps33
  go_wp2_with (go_at_call 48; refine (impl_in _ _ _ _).mono ?_; rintro e w' ⟨rfl, rfl⟩)
  go_ret
  exact ⟨rfl, rfl⟩
namespace M
theorem gra_iff {f t : Int} (h : grb f t = true) : gra f t = true ↔ t = nx f (t % 10) ∧ t % 10 ≠ f % 10 := by
  unfold gra; rw [h]; simp
end M
end Go.Proofs.YtoengmekbpcocaaDoor
