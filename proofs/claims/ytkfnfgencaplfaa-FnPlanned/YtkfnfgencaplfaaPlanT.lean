/-
  Small tests of both texts: within, a list that rises, a number that a list has.
-/
import Derived.Test.YtkfnfgencaplfaaPlanM
namespace Go.Proofs.Ytkfnfgencaplfaa
open Go.RowKit M
open Clk (upd upd_same upd_other)
theorem within_is (n lo hi : Int) (w : World) :
    Calls Try.prog 57 #[.int .i64 n, .int .i64 lo, .int .i64 hi] w fun e w' => e = .returned (.bool (decide (lo ≤ n ∧ n ≤ hi))) ∧ w' = w := by
  by_cases h1 : lo ≤ n
  · by_cases h2 : n ≤ hi
    · go_enter Try.func57, Try.ntmps57
      go_wp2
      go_ret
      exact ⟨ret_bool (by rw [Bool.eq_iff_iff]; first | (simp; done) | (simp; omega)), rfl⟩
    · go_enter Try.func57, Try.ntmps57
      go_wp2
      go_ret
      exact ⟨ret_bool (by rw [Bool.eq_iff_iff]; first | (simp; done) | (simp; omega)), rfl⟩
  · go_enter Try.func57, Try.ntmps57
    go_wp2
    go_ret
    exact ⟨ret_bool (by rw [Bool.eq_iff_iff]; first | (simp; done) | (simp; omega)), rfl⟩
theorem within_to (n lo hi : Int) (b : Bool) (w : World) (h : decide (lo ≤ n ∧ n ≤ hi) = b) :
    Calls Try.prog 57 #[.int .i64 n, .int .i64 lo, .int .i64 hi] w fun e w' => e = .returned (.bool b) ∧ w' = w := by
  subst h; exact within_is n lo hi w
theorem l1in_is (n lo hi : Int) (w : World) :
    Calls Try.prog 52 #[.int .i64 n, .int .i64 lo, .int .i64 hi] w fun e w' => e = .returned (.bool (decide (lo ≤ n ∧ n ≤ hi))) ∧ w' = w := by
  by_cases h1 : lo ≤ n
  · by_cases h2 : n ≤ hi
    · go_enter Try.func52, Try.ntmps52
      go_wp2
      go_ret
      exact ⟨ret_bool (by rw [Bool.eq_iff_iff]; first | (simp; done) | (simp; omega)), rfl⟩
    · go_enter Try.func52, Try.ntmps52
      go_wp2
      go_ret
      exact ⟨ret_bool (by rw [Bool.eq_iff_iff]; first | (simp; done) | (simp; omega)), rfl⟩
  · go_enter Try.func52, Try.ntmps52
    go_wp2
    go_ret
    exact ⟨ret_bool (by rw [Bool.eq_iff_iff]; first | (simp; done) | (simp; omega)), rfl⟩
theorem l1in_to (n lo hi : Int) (b : Bool) (w : World) (h : decide (lo ≤ n ∧ n ≤ hi) = b) :
    Calls Try.prog 52 #[.int .i64 n, .int .i64 lo, .int .i64 hi] w fun e w' => e = .returned (.bool b) ∧ w' = w := by
  subst h; exact l1in_is n lo hi w
set_option maxHeartbeats 1000000 in
theorem rising_to (v : Value) (n : Nat) (f : Nat → Int) (p : Int) (b : Bool) (w : World) (hv : IntsOf w v n f) (hn : n ≤ 1048576) (hp1 : 1 ≤ p) (hp2 : p ≤ 30) (hb : decide (Ris n f p) = b) :
    Calls Try.prog 58 #[v, .int .i64 p] w fun e w' => e = .returned (.bool b) ∧ w' = w := by
  obtain ⟨a, cap, rfl, hr⟩ := hv
  have HR := hide hr
  have HB := hide hb
  clear hr hb
  go_enter Try.func58, Try.ntmps58
  go_wp2
  go_loop [5, 10] (fun x i => ∃ k : Nat, k ≤ n ∧ i = .int .i64 k ∧ x = .int .i64 (least f k) ∧ Hid (∀ j, j < k → RisAt f p j)) (fun _ i => n - (intOf i).toNat)
  case atStart => exact ⟨0, Nat.zero_le _, rfl, rfl, hide (fun j h => absurd h (by omega))⟩
  case round =>
    obtain ⟨k, hk, rfl, rfl, HP⟩ := hrel
    by_cases hlt : k < n
    · obtain ⟨bb, off, rfl, hbb, hrow⟩ := HR.out (by omega)
      have c0 := hrow k hlt
      have HS := hide (least_succ f k)
      by_cases hg : RisAt f p k
      · have HW := hide (show decide (least f k ≤ f k ∧ f k ≤ p - 1) = true by rw [decide_eq_true_eq]; exact (ris_least HP.out).2 hg)
        have hf0 : 0 ≤ f k := hg.1.1
        have hf1 : f k ≤ 29 := by have := hg.1.2; omega
        have HP2 := hide (show ∀ j, j < k + 1 → RisAt f p j from fun j hj => by
          rcases (show j < k ∨ j = k by omega) with h | h
          · exact HP.out j h
          · subst h; exact hg)
        clear HR hrow HP hg
        go_wp2_with (go_at_call 57; refine (within_to _ _ _ _ _ HW.out).mono ?_; rintro e w' ⟨rfl, rfl⟩)
        go_round
        case rel => exact ⟨k + 1, by omega, by go_num, by rw [HS.out], HP2⟩
        case measure => simp [intOf]; omega
      · have HW := hide (show decide (least f k ≤ f k ∧ f k ≤ p - 1) = false by rw [decide_eq_false_iff_not, ris_least HP.out]; exact hg)
        have eb : b = false := by rw [← HB.out, decide_eq_false_iff_not]; exact ris_split k hlt hg
        subst eb
        clear HR hrow HP hg HB HS
        go_wp2_with (go_at_call 57; refine (within_to _ _ _ _ _ HW.out).mono ?_; rintro e w' ⟨rfl, rfl⟩)
        go_ret
        exact ⟨rfl, rfl⟩
    · obtain rfl : k = n := by omega
      have eb : b = true := by rw [← HB.out, decide_eq_true_eq]; exact HP.out
      subst eb
      clear HR HP HB
      go_wp2
      go_ret
      exact ⟨rfl, rfl⟩
set_option maxHeartbeats 600000 in
theorem l3list_to (v : Value) (n : Nat) (f : Nat → Int) (p : Int) (b : Bool) (w : World) (hv : IntsOf w v n f) (hn : n ≤ 1048576) (hp1 : 1 ≤ p) (hp2 : p ≤ 30) (hb : decide (Ris n f p) = b) :
    Calls Try.prog 53 #[v, .int .i64 p] w fun e w' => e = .returned (.bool b) ∧ w' = w := by
  obtain ⟨a, cap, rfl, hr⟩ := hv
  have HR := hide hr
  have HB := hide hb
  clear hr hb
  go_enter Try.func53, Try.ntmps53
  go_wp2
  go_loop [9] (fun i => ∃ k : Nat, k ≤ n ∧ i = .int .i64 k ∧ Hid (∀ j, j < k → RisAt f p j)) (fun i => n - (intOf i).toNat)
  case atStart => exact ⟨0, Nat.zero_le _, rfl, hide (fun j h => absurd h (by omega))⟩
  case round =>
    obtain ⟨k, hk, rfl, HP⟩ := hrel
    by_cases hlt : k < n
    · obtain ⟨bb, off, rfl, hbb, hrow⟩ := HR.out (by omega)
      have c0 := hrow k hlt
      have HP2 := hide (show RisAt f p k → ∀ j, j < k + 1 → RisAt f p j from fun hg j hj => by
          rcases (show j < k ∨ j = k by omega) with h | h
          · exact HP.out j h
          · subst h; exact hg)
      have HN := hide (show ¬ RisAt f p k → b = false from fun hg => by rw [← HB.out, decide_eq_false_iff_not]; exact ris_split k hlt hg)
      by_cases hg : 0 ≤ f k ∧ f k ≤ p - 1
      · have HW := hide (show decide (0 ≤ f k ∧ f k ≤ p - 1) = true by rw [decide_eq_true_eq]; exact hg)
        by_cases hk0 : k = 0
        · subst hk0
          rw [Nat.add_zero] at c0
          have HP3 := hide (HP2.out (ris_at0 hg))
          clear HR hrow HP hg HP2 HN HB
          go_wp2_with fail
          refine (l1in_to _ _ _ _ _ HW.out).mono ?_
          rintro e w' ⟨rfl, rfl⟩
          go_wp2
          go_round
          case rel => exact ⟨0 + 1, by omega, by go_num, HP3⟩
          case measure => simp [intOf]; omega
        · obtain ⟨k', rfl⟩ : ∃ k', k = k' + 1 := ⟨k - 1, by omega⟩
          have c1 := hrow k' (by omega)
          have hpos : ((k' + 1 : Nat) : Int) > 0 := by omega
          have hi0 : (0 : Int) ≤ (k' : Int) := by omega
          have hi1 : (k' : Int) < (n : Int) := by omega
          by_cases hge : f k' ≥ f (k' + 1)
          · have eb := HN.out (fun H => by have := H.2 (by omega); simp only [Nat.add_sub_cancel] at this; omega)
            subst eb
            clear HR hrow HP hg HP2 HN HB
            go_wp2_with fail
            refine (l1in_to _ _ _ _ _ HW.out).mono ?_
            rintro e w' ⟨rfl, rfl⟩
            go_wp2
            go_ret
            exact ⟨rfl, rfl⟩
          · have HP3 := hide (HP2.out ⟨hg, fun _ => by simp only [Nat.add_sub_cancel]; omega⟩)
            clear HR hrow HP hg HP2 HN HB
            go_wp2_with fail
            refine (l1in_to _ _ _ _ _ HW.out).mono ?_
            rintro e w' ⟨rfl, rfl⟩
            go_wp2
            go_round
            case rel => exact ⟨k' + 1 + 1, by omega, by go_num, HP3⟩
            case measure => simp [intOf]; omega
      · have HW := hide (show decide (0 ≤ f k ∧ f k ≤ p - 1) = false by rw [decide_eq_false_iff_not]; exact hg)
        have eb := HN.out (fun H => hg H.1)
        subst eb
        clear HR hrow HP hg HB HP2 HN
        go_wp2_with fail
        refine (l1in_to _ _ _ _ _ HW.out).mono ?_
        rintro e w' ⟨rfl, rfl⟩
        go_wp2
        go_ret
        exact ⟨rfl, rfl⟩
    · obtain rfl : k = n := by omega
      have eb : b = true := by rw [← HB.out, decide_eq_true_eq]; exact HP.out
      subst eb
      clear HR HP HB
      go_wp2
      go_ret
      exact ⟨rfl, rfl⟩
namespace M
/-- A number that is among the first n of a list. -/
def hasF (f : Nat → Int) (z : Int) : Nat → Bool
  | 0 => false
  | n + 1 => hasF f z n || decide (f n = z)
theorem hasF_iff (f : Nat → Int) (z : Int) : ∀ n, hasF f z n = true ↔ ∃ j, j < n ∧ f j = z
  | 0 => by simp [hasF]
  | n + 1 => by
    simp only [hasF, Bool.or_eq_true, hasF_iff f z n, decide_eq_true_eq]
    constructor
    · rintro (⟨j, h1, h2⟩ | h)
      · exact ⟨j, by omega, h2⟩
      · exact ⟨n, by omega, h⟩
    · rintro ⟨j, h1, h2⟩
      rcases (show j < n ∨ j = n by omega) with h | h
      · exact .inl ⟨j, h, h2⟩
      · subst h; exact .inr h2
end M
set_option maxHeartbeats 600000 in
theorem l1has (v : Value) (n : Nat) (f : Nat → Int) (z : Int) (b : Bool) (w : World) (hv : IntsOf w v n f) (hn : n ≤ 1048576) (hb : hasF f z n = b) :
    Calls Try.prog 54 #[v, .int .i64 z] w fun e w' => e = .returned (.bool b) ∧ w' = w := by
  obtain ⟨a, cap, rfl, hr⟩ := hv
  have HR := hide hr
  have HB := hide hb
  clear hr hb
  go_enter Try.func54, Try.ntmps54
  go_wp2
  go_loop [9] (fun i => ∃ k : Nat, k ≤ n ∧ i = .int .i64 k ∧ Hid (∀ j, j < k → f j ≠ z)) (fun i => n - (intOf i).toNat)
  case atStart => exact ⟨0, Nat.zero_le _, rfl, hide (fun j h => absurd h (by omega))⟩
  case round =>
    obtain ⟨k, hk, rfl, HP⟩ := hrel
    by_cases hlt : k < n
    · obtain ⟨bb, off, rfl, hbb, hrow⟩ := HR.out (by omega)
      have c0 := hrow k hlt
      by_cases he : f k = z
      · have eb : b = true := by rw [← HB.out, hasF_iff]; exact ⟨k, hlt, he⟩
        subst eb
        have hd : (f k == z) = true := by simp [he]
        clear HR hrow HP HB he
        go_wp2
        go_ret
        exact ⟨rfl, rfl⟩
      · have hd : (f k == z) = false := by simp [he]
        have HP2 := hide (show ∀ j, j < k + 1 → f j ≠ z from fun j hj => by
          rcases (show j < k ∨ j = k by omega) with h | h
          · exact HP.out j h
          · subst h; exact he)
        clear HR hrow HP HB he
        go_wp2
        go_round
        case rel => exact ⟨k + 1, by omega, by go_num, HP2⟩
        case measure => simp [intOf]; omega
    · obtain rfl : k = n := by omega
      have eb : b = false := by
        cases hbb : b with
        | false => rfl
        | true => obtain ⟨j, h1, h2⟩ := (hasF_iff f z k).1 (HB.out.trans hbb); exact absurd h2 (HP.out j h1)
      subst eb
      clear HR HP HB
      go_wp2
      go_ret
      exact ⟨rfl, rfl⟩
end Go.Proofs.Ytkfnfgencaplfaa
