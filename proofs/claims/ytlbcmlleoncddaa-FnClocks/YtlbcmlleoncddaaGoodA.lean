/-
  Both texts of GoodActs, at every number of processes and every list of acts.
-/
import Derived.Test.YtlbcmlleoncddaaActAid
import Derived.WalkSmall
namespace Go.Proofs.Ytlbcmlleoncddaa
open Go.RowKit M
namespace M
theorem ret_bool {a b : Bool} (h : a = b) : Ending.returned (.bool a) = .returned (.bool b) := by rw [h]
def FromOk (l : Nat → Ac) (i : Nat) : Prop := (l i).frm = -1 ∨ ((0 ≤ (l i).frm ∧ (l i).frm ≤ (i : Int) - 1) ∧ (l (l i).frm.toNat).proc ≠ (l i).proc)
instance (l : Nat → Ac) (i : Nat) : Decidable (FromOk l i) := by unfold FromOk; infer_instance
def GoodAt (procs : Int) (l : Nat → Ac) (i : Nat) : Prop := (0 ≤ (l i).proc ∧ (l i).proc ≤ procs - 1) ∧ FromOk l i
instance (procs : Int) (l : Nat → Ac) (i : Nat) : Decidable (GoodAt procs l i) := by unfold GoodAt; infer_instance
def GoodL (procs : Int) (n : Nat) (l : Nat → Ac) : Prop := (1 ≤ procs ∧ procs ≤ 6) ∧ n ≤ 60 ∧ ∀ i, i < n → GoodAt procs l i
end M
theorem within_is (n lo hi : Int) (w : World) :
    Calls Try.prog 46 #[.int .i64 n, .int .i64 lo, .int .i64 hi] w fun e w' => e = .returned (.bool (decide (lo ≤ n ∧ n ≤ hi))) ∧ w' = w := by
  by_cases h1 : lo ≤ n
  · by_cases h2 : n ≤ hi
    · go_enter Try.func46, Try.ntmps46
      go_wp2
      go_ret
      exact ⟨ret_bool (by rw [Bool.eq_iff_iff]; first | (simp; done) | (simp; omega)), rfl⟩
    · go_enter Try.func46, Try.ntmps46
      go_wp2
      go_ret
      exact ⟨ret_bool (by rw [Bool.eq_iff_iff]; first | (simp; done) | (simp; omega)), rfl⟩
  · go_enter Try.func46, Try.ntmps46
    go_wp2
    go_ret
    exact ⟨ret_bool (by rw [Bool.eq_iff_iff]; first | (simp; done) | (simp; omega)), rfl⟩
theorem within_to (n lo hi : Int) (b : Bool) (w : World) (h : decide (lo ≤ n ∧ n ≤ hi) = b) :
    Calls Try.prog 46 #[.int .i64 n, .int .i64 lo, .int .i64 hi] w fun e w' => e = .returned (.bool b) ∧ w' = w := by
  subst h; exact within_is n lo hi w
theorem l1in_is (n lo hi : Int) (w : World) :
    Calls Try.prog 44 #[.int .i64 n, .int .i64 lo, .int .i64 hi] w fun e w' => e = .returned (.bool (decide (lo ≤ n ∧ n ≤ hi))) ∧ w' = w := by
  by_cases h1 : lo ≤ n
  · by_cases h2 : n ≤ hi
    · go_enter Try.func44, Try.ntmps44
      go_wp2
      go_ret
      exact ⟨ret_bool (by rw [Bool.eq_iff_iff]; first | (simp; done) | (simp; omega)), rfl⟩
    · go_enter Try.func44, Try.ntmps44
      go_wp2
      go_ret
      exact ⟨ret_bool (by rw [Bool.eq_iff_iff]; first | (simp; done) | (simp; omega)), rfl⟩
  · go_enter Try.func44, Try.ntmps44
    go_wp2
    go_ret
    exact ⟨ret_bool (by rw [Bool.eq_iff_iff]; first | (simp; done) | (simp; omega)), rfl⟩
theorem l1in_to (n lo hi : Int) (b : Bool) (w : World) (h : decide (lo ≤ n ∧ n ≤ hi) = b) :
    Calls Try.prog 44 #[.int .i64 n, .int .i64 lo, .int .i64 hi] w fun e w' => e = .returned (.bool b) ∧ w' = w := by
  subst h; exact l1in_is n lo hi w
set_option maxHeartbeats 1000000 in
theorem from_to (v : Value) (n i : Nat) (l : Nat → Ac) (b : Bool) (w : World) (hv : ActsOf w v n l) (hi : i < n) (hn : n ≤ 1048576) (hd : decide (FromOk l i) = b) :
    Calls Try.prog 47 #[v, .int .i64 (i : Int)] w fun e w' => e = .returned (.bool b) ∧ Below w.heap.size w w' := by
  obtain ⟨a, cap, rfl, hr⟩ := hv
  obtain ⟨bb, off, rfl, hb, hrow⟩ := hr (by omega)
  have c0 := (hrow i hi).1
  have c1 := (hrow i hi).2
  have hi0 : (0 : Int) ≤ (i : Int) := by omega
  have hi1 : (i : Int) < (n : Int) := by omega
  by_cases h1 : (l i).frm = -1
  · have e1 : ((l i).frm == -1) = true := by simp [h1]
    have eb : b = true := by rw [← hd, decide_eq_true_eq]; exact .inl h1
    subst eb
    clear hr hrow hd h1
    go_enter Try.func47, Try.ntmps47
    go_wp2
    go_quiet (fail)
    go_wp2
    go_ret
    exact ⟨rfl, below_drewN (Below.refl _ _) _⟩
  · have e1 : ((l i).frm == -1) = false := by simp [h1]
    by_cases h2 : 0 ≤ (l i).frm ∧ (l i).frm ≤ (i : Int) - 1
    · obtain ⟨f, hf⟩ := Int.eq_ofNat_of_zero_le h2.1
      have hfi : f < i := by omega
      have d0 := (hrow f (by omega)).1
      have hf0 : (0 : Int) ≤ (f : Int) := by omega
      have hf1 : (f : Int) < (n : Int) := by omega
      have eb : b = ((l f).proc != (l i).proc) := by
        rw [← hd, Bool.eq_iff_iff, decide_eq_true_eq, bne_iff_ne]
        unfold FromOk; rw [hf, Int.toNat_natCast]
        constructor
        · rintro (h | ⟨_, h⟩)
          · omega
          · exact h
        · intro h; exact .inr ⟨by omega, h⟩
      have HW := hide (show decide ((0 : Int) ≤ (f : Int) ∧ (f : Int) ≤ (i : Int) - 1) = true by simp; omega)
      subst eb
      rw [hf] at c1 e1
      clear hr hrow hd h1 h2 hf
      go_enter Try.func47, Try.ntmps47
      go_wp2
      go_quiet (exact Calls.quiet_of_same (within_to _ _ _ _ _ HW.out))
      go_wp2
      go_ret
      exact ⟨rfl, below_drewN (Below.refl _ _) _⟩
    · have eb : b = false := by
        rw [← hd, decide_eq_false_iff_not]; rintro (h | ⟨h, _⟩)
        · exact h1 h
        · exact h2 h
      have HW := hide (show decide ((0 : Int) ≤ (l i).frm ∧ (l i).frm ≤ (i : Int) - 1) = false by rw [decide_eq_false_iff_not]; exact h2)
      subst eb
      clear hr hrow hd h1 h2
      go_enter Try.func47, Try.ntmps47
      go_wp2
      go_quiet (exact Calls.quiet_of_same (within_to _ _ _ _ _ HW.out))
      go_wp2
      go_ret
      exact ⟨rfl, below_drewN (Below.refl _ _) _⟩
end Go.Proofs.Ytlbcmlleoncddaa
