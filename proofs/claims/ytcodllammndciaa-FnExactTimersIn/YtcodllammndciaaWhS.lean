/-
  Levels of a wheel: how long a slot of a level is, whether a level reaches a time, which slot is for it: both texts.
-/
import Derived.Test.YtcodllammndciaaIntAid
import Derived.WalkSmall
namespace Go.Proofs.Ytcodllammndciaa
open Go.RowKit M
open Clk (upd upd_same upd_other)
open Go.Sort (grow)
namespace M
theorem ret_bool {a b : Bool} (h : a = b) : Ending.returned (.bool a) = .returned (.bool b) := by rw [h]
/-- How long a slot of a level is. -/
def pw : Nat → Int
  | 0 => 1
  | l + 1 => pw l * 8
theorem pw_le : ∀ l : Nat, l ≤ 3 → 1 ≤ pw l ∧ pw l ≤ 512
  | 0, _ => by simp [pw]
  | 1, _ => by simp [pw]
  | 2, _ => by simp [pw]
  | 3, _ => by simp [pw]
  | n + 4, h => by omega
/-- How many slots of a level a time lies ahead. -/
def ahead (l : Nat) (now tm : Int) : Int := tm / pw l - now / pw l
def Fit (l : Nat) (now tm : Int) : Prop := 1 ≤ ahead l now tm ∧ ahead l now tm ≤ 7
instance (l : Nat) (now tm : Int) : Decidable (Fit l now tm) := by unfold Fit; infer_instance
/-- The slot of a level for a time. -/
def sN (l : Nat) (tm : Int) : Int := (l : Int) * 8 + tm / pw l % 8
def slotF (now tm : Int) : Option Int := if Fit 0 now tm then some (sN 0 tm) else if Fit 1 now tm then some (sN 1 tm) else if Fit 2 now tm then some (sN 2 tm) else none
/-- Times as they may be. -/
def GoodT (now tm : Int) : Prop := now < tm ∧ tm < now + 512
instance (now tm : Int) : Decidable (GoodT now tm) := by unfold GoodT; infer_instance
def GoodN (now : Int) : Prop := 0 ≤ now ∧ now ≤ 100000
instance (now : Int) : Decidable (GoodN now) := by unfold GoodN; infer_instance
end M
theorem within_is (n lo hi : Int) (w : World) :
    Calls Try.prog 49 #[.int .i64 n, .int .i64 lo, .int .i64 hi] w fun e w' => e = .returned (.bool (decide (lo ≤ n ∧ n ≤ hi))) ∧ w' = w := by
  by_cases h1 : lo ≤ n
  · by_cases h2 : n ≤ hi
    · go_enter Try.func49, Try.ntmps49
      go_wp2
      go_ret
      exact ⟨ret_bool (by rw [Bool.eq_iff_iff]; first | (simp; done) | (simp; omega)), rfl⟩
    · go_enter Try.func49, Try.ntmps49
      go_wp2
      go_ret
      exact ⟨ret_bool (by rw [Bool.eq_iff_iff]; first | (simp; done) | (simp; omega)), rfl⟩
  · go_enter Try.func49, Try.ntmps49
    go_wp2
    go_ret
    exact ⟨ret_bool (by rw [Bool.eq_iff_iff]; first | (simp; done) | (simp; omega)), rfl⟩
theorem within_to (n lo hi : Int) (b : Bool) (w : World) (h : decide (lo ≤ n ∧ n ≤ hi) = b) :
    Calls Try.prog 49 #[.int .i64 n, .int .i64 lo, .int .i64 hi] w fun e w' => e = .returned (.bool b) ∧ w' = w := by
  subst h; exact within_is n lo hi w
theorem l1in_is (n lo hi : Int) (w : World) :
    Calls Try.prog 43 #[.int .i64 n, .int .i64 lo, .int .i64 hi] w fun e w' => e = .returned (.bool (decide (lo ≤ n ∧ n ≤ hi))) ∧ w' = w := by
  by_cases h1 : lo ≤ n
  · by_cases h2 : n ≤ hi
    · go_enter Try.func43, Try.ntmps43
      go_wp2
      go_ret
      exact ⟨ret_bool (by rw [Bool.eq_iff_iff]; first | (simp; done) | (simp; omega)), rfl⟩
    · go_enter Try.func43, Try.ntmps43
      go_wp2
      go_ret
      exact ⟨ret_bool (by rw [Bool.eq_iff_iff]; first | (simp; done) | (simp; omega)), rfl⟩
  · go_enter Try.func43, Try.ntmps43
    go_wp2
    go_ret
    exact ⟨ret_bool (by rw [Bool.eq_iff_iff]; first | (simp; done) | (simp; omega)), rfl⟩
theorem l1in_to (n lo hi : Int) (b : Bool) (w : World) (h : decide (lo ≤ n ∧ n ≤ hi) = b) :
    Calls Try.prog 43 #[.int .i64 n, .int .i64 lo, .int .i64 hi] w fun e w' => e = .returned (.bool b) ∧ w' = w := by
  subst h; exact l1in_is n lo hi w
theorem unit_of (l : Nat) (w : World) (hl : l ≤ 3) :
    Calls Try.prog 80 #[.int .i64 (l : Int)] w fun e w' => e = .returned (.int .i64 (pw l)) ∧ w' = w := by
  go_enter Try.func80, Try.ntmps80
  go_wp2
  go_loop [3, 5] (fun x i => ∃ (k : Nat) (u : Int), k ≤ l ∧ i = .int .i64 k ∧ x = .int .i64 u ∧ Hid (u = pw k)) (fun _ i => l - (intOf i).toNat)
  case atStart => exact ⟨0, 1, Nat.zero_le _, rfl, rfl, hide rfl⟩
  case round =>
    obtain ⟨k, u, hk, rfl, rfl, HU⟩ := hrel
    by_cases hlt : k < l
    · have hb : 1 ≤ u ∧ u ≤ 512 := by rw [HU.out]; exact pw_le k (by omega)
      have HU2 := hide (show u * 8 = pw (k + 1) by rw [HU.out]; rfl)
      clear HU
      go_wp2
      go_round
      case rel => exact ⟨k + 1, _, by omega, by go_num, rfl, HU2⟩
      case measure => simp [intOf]; omega
    · obtain rfl : k = l := by omega
      go_wp2
      go_ret
      exact ⟨by rw [HU.out]; rfl, rfl⟩
theorem l5_pow (l : Nat) (w : World) (hl : l ≤ 3) :
    Calls Try.prog 47 #[.int .i64 (l : Int)] w fun e w' => e = .returned (.int .i64 (pw l)) ∧ w' = w := by
  go_enter Try.func47, Try.ntmps47
  go_wp2
  go_loop [0, 3] (fun i x => ∃ (k j : Nat) (u : Int), k + j = l ∧ i = .int .i64 (j : Int) ∧ x = .int .i64 u ∧ Hid (u = pw k)) (fun i _ => (intOf i).toNat)
  case atStart => exact ⟨0, l, 1, by omega, rfl, rfl, hide rfl⟩
  case round =>
    obtain ⟨k, j, u, hk, rfl, rfl, HU⟩ := hrel
    by_cases hlt : 0 < j
    · have hb : 1 ≤ u ∧ u ≤ 512 := by rw [HU.out]; exact pw_le k (by omega)
      have HU2 := hide (show u * 8 = pw (k + 1) by rw [HU.out]; rfl)
      have hj : (j : Int) - 1 = ((j - 1 : Nat) : Int) := by omega
      clear HU
      go_wp2
      go_round
      case rel => exact ⟨k + 1, j - 1, _, by omega, rfl, rfl, HU2⟩
      case measure => simp [intOf]; omega
    · obtain rfl : j = 0 := by omega
      obtain rfl : k = l := by omega
      go_wp2
      go_ret
      exact ⟨by rw [HU.out]; rfl, rfl⟩
theorem M.quo_facts (l : Nat) (tm : Int) (hl : l ≤ 3) (h : 0 ≤ tm ∧ tm ≤ 200000) : tm.tdiv (pw l) = tm / pw l ∧ 0 ≤ tm / pw l ∧ tm / pw l ≤ 200000 := by
  have hp := pw_le l hl
  refine ⟨Int.tdiv_eq_ediv_of_nonneg h.1, Int.ediv_nonneg h.1 (by omega), ?_⟩
  have := Int.ediv_le_self (pw l) h.1
  omega
set_option maxHeartbeats 1000000 in
theorem l5_fits (l : Nat) (now tm : Int) (b : Bool) (w : World) (hl : l ≤ 2) (h0 : 0 ≤ now ∧ now ≤ 200000) (h1 : 0 ≤ tm ∧ tm ≤ 200000) (hb : decide (Fit l now tm) = b) :
    Calls Try.prog 46 #[.int .i64 now, .int .i64 tm, .int .i64 (l : Int)] w fun e w' => e = .returned (.bool b) ∧ ∃ m, w' = w.drewN m := by
  obtain ⟨q1, c1, d1⟩ := quo_facts l tm (by omega) h1
  obtain ⟨q2, c2, d2⟩ := quo_facts l now (by omega) h0
  have HP := hide (show ∀ w, Calls Try.prog 47 #[.int .i64 (l : Int)] w fun e w' => e = .returned (.int .i64 (pw l)) ∧ w' = w from fun w => l5_pow l w (by omega))
  have hu := pw_le l (by omega)
  have HB := hide (show decide (1 ≤ tm / pw l - now / pw l ∧ tm / pw l - now / pw l ≤ 7) = b from hb)
  clear hb
  generalize tm / pw l = x1 at *
  generalize now / pw l = x2 at *
  generalize pw l = u at *
  have hu0 : u ≠ 0 := by omega
  have hu1 : u ≠ -1 := by omega
  go_enter Try.func46, Try.ntmps46
  go_wp2_with fail
  go_big_quiet (exact Calls.quiet_of_same (HP.out _))
  go_wp2_with fail
  refine (l1in_to _ _ _ _ _ HB.out).mono ?_
  rintro e w1 ⟨rfl, rfl⟩
  go_wp2
  go_ret
  exact ⟨rfl, _, rfl⟩
set_option maxHeartbeats 1000000 in
theorem reaches_to (l : Nat) (now tm : Int) (b : Bool) (w : World) (hl : l ≤ 2) (h0 : 0 ≤ now ∧ now ≤ 200000) (h1 : 0 ≤ tm ∧ tm ≤ 200000) (hb : decide (Fit l now tm) = b) :
    Calls Try.prog 70 #[.int .i64 (l : Int), .int .i64 now, .int .i64 tm] w fun e w' => e = .returned (.bool b) ∧ ∃ m, w' = w.drewN m := by
  obtain ⟨q1, c1, d1⟩ := quo_facts l tm (by omega) h1
  obtain ⟨q2, c2, d2⟩ := quo_facts l now (by omega) h0
  have HP := hide (show ∀ w, Calls Try.prog 80 #[.int .i64 (l : Int)] w fun e w' => e = .returned (.int .i64 (pw l)) ∧ w' = w from fun w => unit_of l w (by omega))
  have hu := pw_le l (by omega)
  have HB := hide (show decide (1 ≤ tm / pw l - now / pw l ∧ tm / pw l - now / pw l ≤ 7) = b from hb)
  clear hb
  generalize tm / pw l = x1 at *
  generalize now / pw l = x2 at *
  generalize pw l = u at *
  have hu0 : u ≠ 0 := by omega
  have hu1 : u ≠ -1 := by omega
  go_enter Try.func70, Try.ntmps70
  go_wp2_with fail
  refine (HP.out _).mono ?_
  rintro e w1 ⟨rfl, rfl⟩
  go_wp2_with fail
  go_big_quiet (exact Calls.quiet_of_same (within_to _ _ _ _ _ HB.out))
  go_wp2
  go_ret
  exact ⟨rfl, _, rfl⟩
set_option maxHeartbeats 1000000 in
theorem slot_in (l : Nat) (tm : Int) (w : World) (hl : l ≤ 2) (h1 : 0 ≤ tm ∧ tm ≤ 200000) :
    Calls Try.prog 71 #[.int .i64 (l : Int), .int .i64 tm] w fun e w' => e = .returned (.int .i64 (sN l tm)) ∧ w' = w := by
  obtain ⟨q1, c1, d1⟩ := quo_facts l tm (by omega) h1
  have HP := hide (show ∀ w, Calls Try.prog 80 #[.int .i64 (l : Int)] w fun e w' => e = .returned (.int .i64 (pw l)) ∧ w' = w from fun w => unit_of l w (by omega))
  have hu := pw_le l (by omega)
  have HB := hide (show sN l tm = (l : Int) * 8 + tm / pw l % 8 from rfl)
  have q3 : (tm / pw l).tmod 8 = tm / pw l % 8 := Int.tmod_eq_emod_of_nonneg c1
  have q4 : 0 ≤ tm / pw l % 8 ∧ tm / pw l % 8 < 8 := by omega
  generalize tm / pw l % 8 = x2 at *
  generalize tm / pw l = x1 at *
  generalize pw l = u at *
  have hu0 : u ≠ 0 := by omega
  have hu1 : u ≠ -1 := by omega
  go_enter Try.func71, Try.ntmps71
  go_wp2_with fail
  refine (HP.out _).mono ?_
  rintro e w1 ⟨rfl, rfl⟩
  go_wp2
  go_ret
  exact ⟨by rw [HB.out]; rfl, rfl⟩
theorem good_times (now tm : Int) (b : Bool) (w : World) (hb : decide (GoodN now ∧ GoodT now tm) = b) :
    Calls Try.prog 69 #[.int .i64 now, .int .i64 tm] w fun e w' => e = .returned (.bool b) ∧ w' = w := by
  by_cases hn : GoodN now
  · have HN := hide (show decide (0 ≤ now ∧ now ≤ 100000) = true from decide_eq_true hn)
    have HB := hide (show decide (now + 1 ≤ tm ∧ tm ≤ now + 512 - 1) = b by
      rw [← hb, Bool.eq_iff_iff]; simp only [decide_eq_true_eq]; unfold GoodT; exact ⟨fun h => ⟨hn, by omega, by omega⟩, fun h => by omega⟩)
    have hn0 : 0 ≤ now ∧ now ≤ 100000 := hn
    clear hb hn
    go_enter Try.func69, Try.ntmps69
    go_wp2_with fail
    refine (within_to _ _ _ _ _ HN.out).mono ?_
    rintro e w1 ⟨rfl, rfl⟩
    go_wp2_with fail
    refine (unit_of 3 _ (by omega)).mono ?_
    rintro e w1 ⟨rfl, rfl⟩
    have h3 : pw 3 = 512 := rfl
    go_wp2_with fail
    refine (within_to _ _ _ _ _ HB.out).mono ?_
    rintro e w1 ⟨rfl, rfl⟩
    go_wp2
    go_ret
    exact ⟨rfl, rfl⟩
  · have HN := hide (show decide (0 ≤ now ∧ now ≤ 100000) = false from decide_eq_false hn)
    obtain rfl : b = false := by rw [← hb, decide_eq_false_iff_not]; exact fun h => hn h.1
    clear hb hn
    go_enter Try.func69, Try.ntmps69
    go_wp2_with fail
    refine (within_to _ _ _ _ _ HN.out).mono ?_
    rintro e w1 ⟨rfl, rfl⟩
    go_wp2
    go_ret
    exact ⟨rfl, rfl⟩
end Go.Proofs.Ytcodllammndciaa
