/-
  Nets in memory; the small tests of both texts: within, a list that rises, numbers between two.
-/
import Derived.Test.YthilapalgakhhaaNetM
import Derived.Test.YthilapalgakhhaaIntAid
import Derived.WalkSmall
namespace Go.Proofs.Ythilapalgakhhaa
open Go.RowKit M
namespace M
theorem ret_bool {a b : Bool} (h : a = b) : Ending.returned (.bool a) = .returned (.bool b) := by rw [h]
/-- A slice of steps that is read. -/
def StepsOf (w : World) (v : Value) (k : Nat) (st : Nat → Sp) : Prop :=
  ∃ a cap, v = .slice a k cap ∧ (0 < k → ∃ b off, a = some ⟨b, off, none⟩ ∧ b < w.heap.size ∧ ∀ i, i < k → ∃ x y, w.cell? ⟨b, off + i * 2, none⟩ = some x ∧ w.cell? ⟨b, off + i * 2 + 1, none⟩ = some y ∧ IntsOf w x (st i).ni (st i).fi ∧ IntsOf w y (st i).no (st i).fo)
theorem StepsOf.below {w w' : World} {v : Value} {k : Nat} {st : Nat → Sp} (h : StepsOf w v k st) (hb : Below w.heap.size w w') : StepsOf w' v k st := by
  obtain ⟨a, cap, hv, hr⟩ := h
  refine ⟨a, cap, hv, fun hn => ?_⟩
  obtain ⟨b, off, ha, hlt, hrow⟩ := hr hn
  refine ⟨b, off, ha, Nat.lt_of_lt_of_le hlt hb.size, fun i hi => ?_⟩
  obtain ⟨x, y, h1, h2, h3, h4⟩ := hrow i hi
  exact ⟨x, y, (hb.cell (p := ⟨b, off + i * 2, none⟩) hlt).trans h1, (hb.cell (p := ⟨b, off + i * 2 + 1, none⟩) hlt).trans h2, h3.below hb, h4.below hb⟩
theorem StepsOf.form {w : World} {v : Value} {k : Nat} {st : Nat → Sp} (h : StepsOf w v k st) : ∃ a cap, v = .slice a k cap := by
  obtain ⟨a, cap, hv, _⟩ := h; exact ⟨a, cap, hv⟩
abbrev netV (p : Int) (v : Value) : Value := .agg #[.int .i64 p, v]
/-- All lists of a net, and the net itself, are short. -/
def Short (k : Nat) (st : Nat → Sp) : Prop := k ≤ 1048576 ∧ ∀ i, i < k → (st i).ni ≤ 1048576 ∧ (st i).no ≤ 1048576
end M
theorem within_is (n lo hi : Int) (w : World) :
    Calls Try.prog 48 #[.int .i64 n, .int .i64 lo, .int .i64 hi] w fun e w' => e = .returned (.bool (decide (lo ≤ n ∧ n ≤ hi))) ∧ w' = w := by
  by_cases h1 : lo ≤ n
  · by_cases h2 : n ≤ hi
    · go_enter Try.func48, Try.ntmps48
      go_wp2
      go_ret
      exact ⟨ret_bool (by rw [Bool.eq_iff_iff]; first | (simp; done) | (simp; omega)), rfl⟩
    · go_enter Try.func48, Try.ntmps48
      go_wp2
      go_ret
      exact ⟨ret_bool (by rw [Bool.eq_iff_iff]; first | (simp; done) | (simp; omega)), rfl⟩
  · go_enter Try.func48, Try.ntmps48
    go_wp2
    go_ret
    exact ⟨ret_bool (by rw [Bool.eq_iff_iff]; first | (simp; done) | (simp; omega)), rfl⟩
theorem within_to (n lo hi : Int) (b : Bool) (w : World) (h : decide (lo ≤ n ∧ n ≤ hi) = b) :
    Calls Try.prog 48 #[.int .i64 n, .int .i64 lo, .int .i64 hi] w fun e w' => e = .returned (.bool b) ∧ w' = w := by
  subst h; exact within_is n lo hi w
theorem l1in_is (n lo hi : Int) (w : World) :
    Calls Try.prog 46 #[.int .i64 n, .int .i64 lo, .int .i64 hi] w fun e w' => e = .returned (.bool (decide (lo ≤ n ∧ n ≤ hi))) ∧ w' = w := by
  by_cases h1 : lo ≤ n
  · by_cases h2 : n ≤ hi
    · go_enter Try.func46, Try.ntmps46
      go_wp2
      go_ret
      exact ⟨ret_bool (by rw [Bool.eq_iff_iff]; first | (simp; done) | (simp; omega)), rfl⟩
    · go_enter Try.func46, Try.ntmps46
      go_wp2
      go_ret
      exact ⟨ret_bool (by rw [Bool.eq_iff_iff]; first | (simp; done) | (simp; omega)), rfl⟩
  · go_enter Try.func46, Try.ntmps46
    go_wp2
    go_ret
    exact ⟨ret_bool (by rw [Bool.eq_iff_iff]; first | (simp; done) | (simp; omega)), rfl⟩
theorem l1in_to (n lo hi : Int) (b : Bool) (w : World) (h : decide (lo ≤ n ∧ n ≤ hi) = b) :
    Calls Try.prog 46 #[.int .i64 n, .int .i64 lo, .int .i64 hi] w fun e w' => e = .returned (.bool b) ∧ w' = w := by
  subst h; exact l1in_is n lo hi w
set_option maxHeartbeats 1000000 in
theorem rising_to (v : Value) (n : Nat) (f : Nat → Int) (p : Int) (b : Bool) (w : World) (hv : IntsOf w v n f) (hn : n ≤ 1048576) (hp1 : 1 ≤ p) (hp2 : p ≤ 8) (hb : decide (Ris n f p) = b) :
    Calls Try.prog 49 #[v, .int .i64 p] w fun e w' => e = .returned (.bool b) ∧ w' = w := by
  obtain ⟨a, cap, rfl, hr⟩ := hv
  have HR := hide hr
  have HB := hide hb
  clear hr hb
  go_enter Try.func49, Try.ntmps49
  go_wp2
  go_loop [5, 10] (fun x i => ∃ k : Nat, k ≤ n ∧ i = .int .i64 k ∧ x = .int .i64 (least f k) ∧ Hid (∀ j, j < k → RisAt f p j)) (fun _ i => n - (intOf i).toNat)
  case atStart => exact ⟨0, Nat.zero_le _, rfl, rfl, hide (fun j h => absurd h (by omega))⟩
  case round =>
    obtain ⟨k, hk, rfl, rfl, HP⟩ := hrel
    by_cases hlt : k < n
    · obtain ⟨bb, off, rfl, hbb, hrow⟩ := HR.out (by omega)
      have c0 := hrow k hlt
      have HS := hide (least_succ f k)
      by_cases hg : RisAt f p k
      · have HW := hide (show decide (least f k ≤ f k ∧ f k ≤ p - 1) = true by rw [decide_eq_true_eq]; exact (ris_least HP.out).2 hg)
        have hf0 : 0 ≤ f k := hg.1.1
        have hf1 : f k ≤ 7 := by have := hg.1.2; omega
        have HP2 := hide (show ∀ j, j < k + 1 → RisAt f p j from fun j hj => by
          rcases (show j < k ∨ j = k by omega) with h | h
          · exact HP.out j h
          · subst h; exact hg)
        clear HR hrow HP hg
        go_wp2_with (go_at_call 48; refine (within_to _ _ _ _ _ HW.out).mono ?_; rintro e w' ⟨rfl, rfl⟩)
        go_round
        case rel => exact ⟨k + 1, by omega, by go_num, by rw [HS.out], HP2⟩
        case measure => simp [intOf]; omega
      · have HW := hide (show decide (least f k ≤ f k ∧ f k ≤ p - 1) = false by rw [decide_eq_false_iff_not, ris_least HP.out]; exact hg)
        have eb : b = false := by rw [← HB.out, decide_eq_false_iff_not]; exact ris_split k hlt hg
        subst eb
        clear HR hrow HP hg HB HS
        go_wp2_with (go_at_call 48; refine (within_to _ _ _ _ _ HW.out).mono ?_; rintro e w' ⟨rfl, rfl⟩)
        go_ret
        exact ⟨rfl, rfl⟩
    · obtain rfl : k = n := by omega
      have eb : b = true := by rw [← HB.out, decide_eq_true_eq]; exact HP.out
      subst eb
      clear HR HP HB
      go_wp2
      go_ret
      exact ⟨rfl, rfl⟩
set_option maxHeartbeats 1000000 in
theorem all_within (v : Value) (n : Nat) (f : Nat → Int) (lo hi : Int) (b : Bool) (w : World) (hv : IntsOf w v n f) (hn : n ≤ 1048576) (hb : decide (All n f lo hi) = b) :
    Calls Try.prog 58 #[v, .int .i64 lo, .int .i64 hi] w fun e w' => e = .returned (.bool b) ∧ w' = w := by
  obtain ⟨a, cap, rfl, hr⟩ := hv
  have HR := hide hr
  have HB := hide hb
  clear hr hb
  go_enter Try.func58, Try.ntmps58
  go_wp2
  go_loop [11] (fun i => ∃ k : Nat, k ≤ n ∧ i = .int .i64 k ∧ Hid (∀ j, j < k → lo ≤ f j ∧ f j ≤ hi)) (fun i => n - (intOf i).toNat)
  case atStart => exact ⟨0, Nat.zero_le _, rfl, hide (fun j h => absurd h (by omega))⟩
  case round =>
    obtain ⟨k, hk, rfl, HP⟩ := hrel
    by_cases hlt : k < n
    · obtain ⟨bb, off, rfl, hbb, hrow⟩ := HR.out (by omega)
      have c0 := hrow k hlt
      by_cases hg : lo ≤ f k ∧ f k ≤ hi
      · have HW := hide (show decide (lo ≤ f k ∧ f k ≤ hi) = true by rw [decide_eq_true_eq]; exact hg)
        have HP2 := hide (show ∀ j, j < k + 1 → lo ≤ f j ∧ f j ≤ hi from fun j hj => by
          rcases (show j < k ∨ j = k by omega) with h | h
          · exact HP.out j h
          · subst h; exact hg)
        clear HR hrow HP hg
        go_wp2_with (go_at_call 48; refine (within_to _ _ _ _ _ HW.out).mono ?_; rintro e w' ⟨rfl, rfl⟩)
        go_round
        case rel => exact ⟨k + 1, by omega, by go_num, HP2⟩
        case measure => simp [intOf]; omega
      · have HW := hide (show decide (lo ≤ f k ∧ f k ≤ hi) = false by rw [decide_eq_false_iff_not]; exact hg)
        have eb : b = false := by rw [← HB.out, decide_eq_false_iff_not]; exact fun H => hg (H k hlt)
        subst eb
        clear HR hrow HP hg HB
        go_wp2_with (go_at_call 48; refine (within_to _ _ _ _ _ HW.out).mono ?_; rintro e w' ⟨rfl, rfl⟩)
        go_ret
        exact ⟨rfl, rfl⟩
    · obtain rfl : k = n := by omega
      have eb : b = true := by rw [← HB.out, decide_eq_true_eq]; exact HP.out
      subst eb
      clear HR HP HB
      go_wp2
      go_ret
      exact ⟨rfl, rfl⟩
theorem good_tokens (v : Value) (n : Nat) (f : Nat → Int) (b : Bool) (w : World) (hv : IntsOf w v n f) (hn : n ≤ 1048576) (hb : decide (All n f 0 9) = b) :
    Calls Try.prog 65 #[v] w fun e w' => e = .returned (.bool b) ∧ w' = w := by
  obtain ⟨a, cap, rfl⟩ := hv.form
  have HV := hide hv
  have HB := hide hb
  clear hv hb
  go_enter Try.func65, Try.ntmps65
  go_wp2_with (go_at_call 58; refine (all_within _ n f _ _ _ _ HV.out hn HB.out).mono ?_; rintro e w' ⟨rfl, rfl⟩)
  go_ret
  exact ⟨rfl, rfl⟩
theorem good_weights (v : Value) (n : Nat) (f : Nat → Int) (b : Bool) (w : World) (hv : IntsOf w v n f) (hn : n ≤ 1048576) (hb : decide (All n f (-100) 100) = b) :
    Calls Try.prog 63 #[v] w fun e w' => e = .returned (.bool b) ∧ w' = w := by
  obtain ⟨a, cap, rfl⟩ := hv.form
  have HV := hide hv
  have HB := hide hb
  clear hv hb
  go_enter Try.func63, Try.ntmps63
  go_wp2_with (go_at_call 58; refine (all_within _ n f _ _ _ _ HV.out hn HB.out).mono ?_; rintro e w' ⟨rfl, rfl⟩)
  go_ret
  exact ⟨rfl, rfl⟩
end Go.Proofs.Ythilapalgakhhaa
