/-
  Both texts of WeightOf, at every two lists of numbers; the specification's tests of markings and weights.
-/
import Derived.Test.YthilapalgakhhaaNetGoodS
namespace Go.Proofs.Ythilapalgakhhaa
open Go.RowKit M
namespace M
def MOk (n : Nat) (f : Nat → Int) (p : Int) : Prop := All n f 0 9 ∧ (n : Int) = p
instance (n : Nat) (f : Nat → Int) (p : Int) : Decidable (MOk n f p) := by unfold MOk; infer_instance
def TOk (n : Nat) (f : Nat → Int) (p : Int) : Prop := All n f (-100) 100 ∧ (n : Int) = p
instance (n : Nat) (f : Nat → Int) (p : Int) : Decidable (TOk n f p) := by unfold TOk; infer_instance
def wsum (f g : Nat → Int) : Nat → Int
  | 0 => 0
  | k + 1 => wsum f g k + f k * g k
theorem mul_bd {a b : Int} (h0 : 0 ≤ a) (h1 : a ≤ 9) (h2 : -100 ≤ b) (h3 : b ≤ 100) : -900 ≤ a * b ∧ a * b ≤ 900 := by
  have e : a = 0 ∨ a = 1 ∨ a = 2 ∨ a = 3 ∨ a = 4 ∨ a = 5 ∨ a = 6 ∨ a = 7 ∨ a = 8 ∨ a = 9 := by omega
  rcases e with e | e | e | e | e | e | e | e | e | e <;> subst e <;> omega
theorem wsum_bd {n : Nat} {f g : Nat → Int} (hf : All n f 0 9) (hg : All n g (-100) 100) : ∀ k, k ≤ n → -900 * (k : Int) ≤ wsum f g k ∧ wsum f g k ≤ 900 * (k : Int)
  | 0, _ => by simp [wsum]
  | k + 1, hk => by
    have h1 := wsum_bd hf hg k (by omega)
    have h2 := mul_bd (hf k (by omega)).1 (hf k (by omega)).2 (hg k (by omega)).1 (hg k (by omega)).2
    simp only [wsum]
    omega
theorem ret_ib {a b : Int} {c : Bool} (h : a = b) : Ending.returned (.tuple #[.int .i64 a, .bool c]) = .returned (.tuple #[.int .i64 b, .bool c]) := by rw [h]
end M
set_option maxHeartbeats 600000 in
theorem l3mark_to (p : Int) (a0 : Option Addr) (k0 c0 : Nat) (v : Value) (n : Nat) (f : Nat → Int) (b : Bool) (w : World) (hv : IntsOf w v n f) (hn : n ≤ 1048576) (hb : decide (MOk n f p) = b) :
    Calls Try.prog 51 #[netV p (.slice a0 k0 c0), v] w fun e w' => e = .returned (.bool b) ∧ Below w.heap.size w w' := by
  obtain ⟨a, cap, rfl, hr⟩ := hv
  have HR := hide hr
  have HB := hide hb
  clear hr hb
  have hbA := (Below.refl w.heap.size w).alloc (Nat.le_refl _) (.cells #[.int .i64 p, .slice a0 k0 c0] 29)
  go_enter Try.func51, Try.ntmps51
  go_wp2
  go_loop [9] (fun i => ∃ k : Nat, k ≤ n ∧ i = .int .i64 k ∧ Hid (∀ j, j < k → 0 ≤ f j ∧ f j ≤ 9)) (fun i => n - (intOf i).toNat)
  case atStart => exact ⟨0, Nat.zero_le _, rfl, hide (fun j h => absurd h (by omega))⟩
  case round =>
    obtain ⟨k, hk, rfl, HP⟩ := hrel
    by_cases hlt : k < n
    · obtain ⟨bb, off, rfl, hbb, hrow⟩ := HR.out (by omega)
      have c0 := (hbA.cell (p := ⟨bb, off + k, none⟩) hbb).trans (hrow k hlt)
      by_cases hg : 0 ≤ f k ∧ f k ≤ 9
      · have HW := hide (show decide (0 ≤ f k ∧ f k ≤ 9) = true by rw [decide_eq_true_eq]; exact hg)
        have HP2 := hide (show ∀ j, j < k + 1 → 0 ≤ f j ∧ f j ≤ 9 from fun j hj => by
          rcases (show j < k ∨ j = k by omega) with h | h
          · exact HP.out j h
          · subst h; exact hg)
        clear HR hrow HP hg
        go_wp2_with fail
        refine (l1in_to _ _ _ _ _ HW.out).mono ?_
        rintro e w' ⟨rfl, rfl⟩
        go_wp2
        go_round
        case rel => exact ⟨k + 1, by omega, by go_num, HP2⟩
        case measure => simp [intOf]; omega
      · have HW := hide (show decide (0 ≤ f k ∧ f k ≤ 9) = false by rw [decide_eq_false_iff_not]; exact hg)
        have eb : b = false := by rw [← HB.out, decide_eq_false_iff_not]; exact fun H => hg (H.1 k hlt)
        subst eb
        clear HR hrow HP hg HB
        go_wp2_with fail
        refine (l1in_to _ _ _ _ _ HW.out).mono ?_
        rintro e w' ⟨rfl, rfl⟩
        go_wp2
        go_ret
        exact ⟨rfl, hbA⟩
    · obtain rfl : k = n := by omega
      have eb : b = ((k : Int) == p) := by
        rw [← HB.out, Bool.eq_iff_iff, decide_eq_true_eq, beq_iff_eq]
        exact ⟨fun h => h.2, fun h => ⟨HP.out, h⟩⟩
      subst eb
      clear HR HP HB
      go_wp2
      go_ret
      exact ⟨rfl, hbA⟩
set_option maxHeartbeats 600000 in
theorem l3weights_to (p : Int) (v : Value) (n : Nat) (f : Nat → Int) (b : Bool) (w : World) (hv : IntsOf w v n f) (hn : n ≤ 1048576) (hb : decide (TOk n f p) = b) :
    Calls Try.prog 62 #[v, .int .i64 p] w fun e w' => e = .returned (.bool b) ∧ w' = w := by
  obtain ⟨a, cap, rfl, hr⟩ := hv
  have HR := hide hr
  have HB := hide hb
  clear hr hb
  go_enter Try.func62, Try.ntmps62
  go_wp2
  go_loop [9] (fun i => ∃ k : Nat, k ≤ n ∧ i = .int .i64 k ∧ Hid (∀ j, j < k → -100 ≤ f j ∧ f j ≤ 100)) (fun i => n - (intOf i).toNat)
  case atStart => exact ⟨0, Nat.zero_le _, rfl, hide (fun j h => absurd h (by omega))⟩
  case round =>
    obtain ⟨k, hk, rfl, HP⟩ := hrel
    by_cases hlt : k < n
    · obtain ⟨bb, off, rfl, hbb, hrow⟩ := HR.out (by omega)
      have c0 := hrow k hlt
      by_cases hg : -100 ≤ f k ∧ f k ≤ 100
      · have HW := hide (show decide (-100 ≤ f k ∧ f k ≤ 100) = true by rw [decide_eq_true_eq]; exact hg)
        have HP2 := hide (show ∀ j, j < k + 1 → -100 ≤ f j ∧ f j ≤ 100 from fun j hj => by
          rcases (show j < k ∨ j = k by omega) with h | h
          · exact HP.out j h
          · subst h; exact hg)
        clear HR hrow HP hg
        go_wp2_with fail
        refine (l1in_to _ _ _ _ _ HW.out).mono ?_
        rintro e w' ⟨rfl, rfl⟩
        go_wp2
        go_round
        case rel => exact ⟨k + 1, by omega, by go_num, HP2⟩
        case measure => simp [intOf]; omega
      · have HW := hide (show decide (-100 ≤ f k ∧ f k ≤ 100) = false by rw [decide_eq_false_iff_not]; exact hg)
        have eb : b = false := by rw [← HB.out, decide_eq_false_iff_not]; exact fun H => hg (H.1 k hlt)
        subst eb
        clear HR hrow HP hg HB
        go_wp2_with fail
        refine (l1in_to _ _ _ _ _ HW.out).mono ?_
        rintro e w' ⟨rfl, rfl⟩
        go_wp2
        go_ret
        exact ⟨rfl, rfl⟩
    · obtain rfl : k = n := by omega
      have eb : b = ((k : Int) == p) := by
        rw [← HB.out, Bool.eq_iff_iff, decide_eq_true_eq, beq_iff_eq]
        exact ⟨fun h => h.2, fun h => ⟨HP.out, h⟩⟩
      subst eb
      clear HR HP HB
      go_wp2
      go_ret
      exact ⟨rfl, rfl⟩
namespace M
/-- What WeightOf asks of its two lists. -/
def WOk (n m : Nat) (f g : Nat → Int) : Prop := (1 ≤ (n : Int) ∧ (n : Int) ≤ 8) ∧ All n f 0 9 ∧ m = n ∧ All m g (-100) 100
end M
set_option maxHeartbeats 600000 in
theorem impl_weight (v u : Value) (n : Nat) (f g : Nat → Int) (w : World) (hv : IntsOf w v n f) (hu : IntsOf w u n g) (h : WOk n n f g) :
    Calls Try.prog 37 #[v, u] w fun e w' => e = .returned (.tuple #[.int .i64 (wsum f g n), .bool true]) ∧ w' = w := by
  obtain ⟨hn, hf, -, hg⟩ := h
  have HV := hide hv
  have HU := hide hu
  obtain ⟨a, cap, rfl, hr⟩ := hv
  obtain ⟨a2, cap2, rfl, hr2⟩ := hu
  have HR := hide hr
  have HR2 := hide hr2
  have H1 := hide (show decide (1 ≤ (n : Int) ∧ (n : Int) ≤ 8) = true by rw [decide_eq_true_eq]; exact hn)
  have H2 := hide (show decide (All n f 0 9) = true by rw [decide_eq_true_eq]; exact hf)
  have H3 := hide (show decide (All n g (-100) 100) = true by rw [decide_eq_true_eq]; exact hg)
  have HF := hide hf
  have HG := hide hg
  have hne : ((n : Int) != (n : Int)) = false := by simp
  have hn1 : 1 ≤ n := by omega
  have hn8 : n ≤ 8 := by omega
  clear hr hr2 hf hg hn
  go_enter Try.func37, Try.ntmps37
  go_wp2_with fail
  refine (within_to _ _ _ _ _ H1.out).mono ?_
  rintro e w' ⟨rfl, rfl⟩
  go_wp2_with fail
  refine (good_tokens _ n f _ _ HV.out (by omega) H2.out).mono ?_
  rintro e w' ⟨rfl, rfl⟩
  go_wp2_with fail
  refine (good_weights _ n g _ _ HU.out (by omega) H3.out).mono ?_
  rintro e w' ⟨rfl, rfl⟩
  clear H1 H2 H3 HV HU
  go_wp2
  go_loop [6, 32] (fun x i => ∃ k : Nat, k ≤ n ∧ i = .int .i64 k ∧ x = .int .i64 (wsum f g k)) (fun _ i => n - (intOf i).toNat)
  case atStart => exact ⟨0, Nat.zero_le _, rfl, rfl⟩
  case round =>
    obtain ⟨k, hk, rfl, rfl⟩ := hrel
    by_cases hlt : k < n
    · obtain ⟨bb, off, rfl, hbb, hrow⟩ := HR.out (by omega)
      obtain ⟨bb2, off2, rfl, hbb2, hrow2⟩ := HR2.out (by omega)
      have c0 := hrow k hlt
      have c1 := hrow2 k hlt
      obtain ⟨m1, m2⟩ := mul_bd (HF.out k hlt).1 (HF.out k hlt).2 (HG.out k hlt).1 (HG.out k hlt).2
      obtain ⟨s1, s2⟩ := wsum_bd HF.out HG.out k hk
      have hi0 : (0 : Int) ≤ (k : Int) := by omega
      have hi1 : (k : Int) < (n : Int) := by omega
      clear HR HR2 hrow hrow2 HF HG
      go_wp2
      go_round
      case rel => exact ⟨k + 1, by omega, by go_num, by simp only [wsum]⟩
      case measure => simp [intOf]; omega
    · obtain rfl : k = n := by omega
      clear HR HR2 HF HG
      go_wp2
      go_ret2
      exact ⟨rfl, rfl⟩
end Go.Proofs.Ythilapalgakhhaa
