/-
  Bounds, times and breakers that are good, in both texts; the breaker that has seen no call.
-/
import Derived.Test.YtegbfmdilmbpmaaRtB
namespace Go.Proofs.Ytegbfmdilmbpmaa
open Go.RowKit M
open Clk (upd upd_same upd_other)
theorem goodBounds_to (l c : Int) (b : Bool) (w : World) (hb : decide (GBd l c) = b) :
    Calls Try.prog 52 #[.int .i64 l, .int .i64 c] w fun e w' => e = .returned (.bool b) ∧ w' = w := by
  obtain ⟨b0, hb0⟩ : ∃ x, decide (1 ≤ l ∧ l ≤ 20) = x := ⟨_, rfl⟩
  obtain ⟨b1, hb1⟩ : ∃ x, decide (1 ≤ c ∧ c ≤ 10000) = x := ⟨_, rfl⟩
  have eb : b = (b0 && b1) := by rw [← hb, ← hb0, ← hb1, Bool.eq_iff_iff]; simp only [Bool.and_eq_true, decide_eq_true_eq]; exact Iff.rfl
  have B0 := hide hb0
  have B1 := hide hb1
  subst eb
  clear hb hb0 hb1
  go_enter Try.func52, Try.ntmps52
  go_wp2_with fail
  refine (within_to _ _ _ b0 _ B0.out).mono ?_
  rintro e w1 ⟨rfl, rfl⟩
  cases b0 with
  | false =>
    clear B0 B1
    go_wp2
    go_ret
    exact ⟨rfl, rfl⟩
  | true =>
    go_wp2_with fail
    refine (within_to _ _ _ b1 _ B1.out).mono ?_
    rintro e w2 ⟨rfl, rfl⟩
    clear B0 B1
    go_wp2
    go_ret
    exact ⟨rfl, rfl⟩
theorem goodTime_to (n : Int) (b : Bool) (w : World) (hb : decide (GT n) = b) :
    Calls Try.prog 54 #[.int .i64 n] w fun e w' => e = .returned (.bool b) ∧ w' = w := by
  have B0 := hide hb
  clear hb
  go_enter Try.func54, Try.ntmps54
  go_wp2_with fail
  refine (within_to _ _ _ b _ B0.out).mono ?_
  rintro e w1 ⟨rfl, rfl⟩
  clear B0
  go_wp2
  go_ret
  exact ⟨rfl, rfl⟩
set_option maxHeartbeats 4000000 in
theorem impl_breaker (x : Br) (b : Bool) (w : World) (hb : decide (GBr x) = b) :
    Calls Try.prog 28 #[.agg #[.int .i64 x.l, .int .i64 x.c, .int .i64 x.s, .int .i64 x.k, .int .i64 x.o]] w fun e w' => e = .returned (.bool b) ∧ Below w.heap.size w w' := by
  obtain ⟨l, c, s, k, o⟩ := x
  simp only
  have hbw := (Below.refl w.heap.size w).alloc (Nat.le_refl _) (.cells #[.int .i64 l, .int .i64 c, .int .i64 s, .int .i64 k, .int .i64 o] 37)
  have HB := hide hb
  clear hb
  by_cases hd : GBd l c
  · have hd2 := hd
    unfold GBd at hd2
    by_cases hs : s = 0
    · subst hs
      by_cases hk : 0 ≤ k ∧ k ≤ l - 1
      · by_cases ho : o = 0
        · subst ho
          go_enter Try.func28, Try.ntmps28
          go_wp2_with fail
          refine (goodBounds_to l c true _ (decide_eq_true hd)).mono ?_
          rintro e w1 ⟨rfl, rfl⟩
          go_wp2_with fail
          refine (within_to _ _ _ true _ (decide_eq_true hk)).mono ?_
          rintro e w2 ⟨rfl, rfl⟩
          go_wp2
          go_ret
          exact ⟨ret_bool (by rw [← HB.out]; first | exact (decide_eq_true (by unfold GBr GBd GT; simp only; omega)).symm | exact (decide_eq_false (by unfold GBr GBd GT; simp only; omega)).symm | (rw [Bool.eq_iff_iff]; simp [GBr, GBd, GT]; done) | (rw [Bool.eq_iff_iff]; simp [GBr, GBd, GT]; omega)), hbw⟩
        · go_enter Try.func28, Try.ntmps28
          go_wp2_with fail
          refine (goodBounds_to l c true _ (decide_eq_true hd)).mono ?_
          rintro e w1 ⟨rfl, rfl⟩
          go_wp2_with fail
          refine (within_to _ _ _ true _ (decide_eq_true hk)).mono ?_
          rintro e w2 ⟨rfl, rfl⟩
          go_wp2
          go_ret
          exact ⟨ret_bool (by rw [← HB.out]; first | exact (decide_eq_true (by unfold GBr GBd GT; simp only; omega)).symm | exact (decide_eq_false (by unfold GBr GBd GT; simp only; omega)).symm | (rw [Bool.eq_iff_iff]; simp [GBr, GBd, GT]; done) | (rw [Bool.eq_iff_iff]; simp [GBr, GBd, GT]; omega)), hbw⟩
      · go_enter Try.func28, Try.ntmps28
        go_wp2_with fail
        refine (goodBounds_to l c true _ (decide_eq_true hd)).mono ?_
        rintro e w1 ⟨rfl, rfl⟩
        go_wp2_with fail
        refine (within_to _ _ _ false _ (decide_eq_false hk)).mono ?_
        rintro e w2 ⟨rfl, rfl⟩
        go_wp2
        go_ret
        exact ⟨ret_bool (by rw [← HB.out]; first | exact (decide_eq_true (by unfold GBr GBd GT; simp only; omega)).symm | exact (decide_eq_false (by unfold GBr GBd GT; simp only; omega)).symm | (rw [Bool.eq_iff_iff]; simp [GBr, GBd, GT]; done) | (rw [Bool.eq_iff_iff]; simp [GBr, GBd, GT]; omega)), hbw⟩
    · by_cases h12 : s = 1 ∨ s = 2
      · by_cases hk : k = l
        · subst hk
          by_cases ho : GT o
          · have ho2 := ho
            unfold GT at ho2
            rcases h12 with rfl | rfl
            · go_enter Try.func28, Try.ntmps28
              go_wp2_with fail
              refine (goodBounds_to k c true _ (decide_eq_true hd)).mono ?_
              rintro e w1 ⟨rfl, rfl⟩
              go_wp2_with fail
              refine (goodTime_to o true _ (decide_eq_true ho)).mono ?_
              rintro e w2 ⟨rfl, rfl⟩
              go_wp2
              go_ret
              exact ⟨ret_bool (by rw [← HB.out]; first | exact (decide_eq_true (by unfold GBr GBd GT; simp only; omega)).symm | exact (decide_eq_false (by unfold GBr GBd GT; simp only; omega)).symm | (rw [Bool.eq_iff_iff]; simp [GBr, GBd, GT]; done) | (rw [Bool.eq_iff_iff]; simp [GBr, GBd, GT]; omega)), hbw⟩
            · go_enter Try.func28, Try.ntmps28
              go_wp2_with fail
              refine (goodBounds_to k c true _ (decide_eq_true hd)).mono ?_
              rintro e w1 ⟨rfl, rfl⟩
              go_wp2_with fail
              refine (goodTime_to o true _ (decide_eq_true ho)).mono ?_
              rintro e w2 ⟨rfl, rfl⟩
              go_wp2
              go_ret
              exact ⟨ret_bool (by rw [← HB.out]; first | exact (decide_eq_true (by unfold GBr GBd GT; simp only; omega)).symm | exact (decide_eq_false (by unfold GBr GBd GT; simp only; omega)).symm | (rw [Bool.eq_iff_iff]; simp [GBr, GBd, GT]; done) | (rw [Bool.eq_iff_iff]; simp [GBr, GBd, GT]; omega)), hbw⟩
          · have ho2 := ho
            unfold GT at ho2
            rcases h12 with rfl | rfl
            · go_enter Try.func28, Try.ntmps28
              go_wp2_with fail
              refine (goodBounds_to k c true _ (decide_eq_true hd)).mono ?_
              rintro e w1 ⟨rfl, rfl⟩
              go_wp2_with fail
              refine (goodTime_to o false _ (decide_eq_false ho)).mono ?_
              rintro e w2 ⟨rfl, rfl⟩
              go_wp2
              go_ret
              exact ⟨ret_bool (by rw [← HB.out]; first | exact (decide_eq_true (by unfold GBr GBd GT; simp only; omega)).symm | exact (decide_eq_false (by unfold GBr GBd GT; simp only; omega)).symm | (rw [Bool.eq_iff_iff]; simp [GBr, GBd, GT]; done) | (rw [Bool.eq_iff_iff]; simp [GBr, GBd, GT]; omega)), hbw⟩
            · go_enter Try.func28, Try.ntmps28
              go_wp2_with fail
              refine (goodBounds_to k c true _ (decide_eq_true hd)).mono ?_
              rintro e w1 ⟨rfl, rfl⟩
              go_wp2_with fail
              refine (goodTime_to o false _ (decide_eq_false ho)).mono ?_
              rintro e w2 ⟨rfl, rfl⟩
              go_wp2
              go_ret
              exact ⟨ret_bool (by rw [← HB.out]; first | exact (decide_eq_true (by unfold GBr GBd GT; simp only; omega)).symm | exact (decide_eq_false (by unfold GBr GBd GT; simp only; omega)).symm | (rw [Bool.eq_iff_iff]; simp [GBr, GBd, GT]; done) | (rw [Bool.eq_iff_iff]; simp [GBr, GBd, GT]; omega)), hbw⟩
        · rcases h12 with rfl | rfl
          · go_enter Try.func28, Try.ntmps28
            go_wp2_with fail
            refine (goodBounds_to l c true _ (decide_eq_true hd)).mono ?_
            rintro e w1 ⟨rfl, rfl⟩
            go_wp2
            go_ret
            exact ⟨ret_bool (by rw [← HB.out]; first | exact (decide_eq_true (by unfold GBr GBd GT; simp only; omega)).symm | exact (decide_eq_false (by unfold GBr GBd GT; simp only; omega)).symm | (rw [Bool.eq_iff_iff]; simp [GBr, GBd, GT]; done) | (rw [Bool.eq_iff_iff]; simp [GBr, GBd, GT]; omega)), hbw⟩
          · go_enter Try.func28, Try.ntmps28
            go_wp2_with fail
            refine (goodBounds_to l c true _ (decide_eq_true hd)).mono ?_
            rintro e w1 ⟨rfl, rfl⟩
            go_wp2
            go_ret
            exact ⟨ret_bool (by rw [← HB.out]; first | exact (decide_eq_true (by unfold GBr GBd GT; simp only; omega)).symm | exact (decide_eq_false (by unfold GBr GBd GT; simp only; omega)).symm | (rw [Bool.eq_iff_iff]; simp [GBr, GBd, GT]; done) | (rw [Bool.eq_iff_iff]; simp [GBr, GBd, GT]; omega)), hbw⟩
      · have h1 : ¬ s = 1 := fun e => h12 (.inl e)
        have h2 : ¬ s = 2 := fun e => h12 (.inr e)
        go_enter Try.func28, Try.ntmps28
        go_wp2_with fail
        refine (goodBounds_to l c true _ (decide_eq_true hd)).mono ?_
        rintro e w1 ⟨rfl, rfl⟩
        go_wp2
        go_ret
        exact ⟨ret_bool (by rw [← HB.out]; first | exact (decide_eq_true (by unfold GBr GBd GT; simp only; omega)).symm | exact (decide_eq_false (by unfold GBr GBd GT; simp only; omega)).symm | (rw [Bool.eq_iff_iff]; simp [GBr, GBd, GT]; done) | (rw [Bool.eq_iff_iff]; simp [GBr, GBd, GT]; omega)), hbw⟩
  · have hd2 := hd
    unfold GBd at hd2
    go_enter Try.func28, Try.ntmps28
    go_wp2_with fail
    refine (goodBounds_to l c false _ (decide_eq_false hd)).mono ?_
    rintro e w1 ⟨rfl, rfl⟩
    go_wp2
    go_ret
    exact ⟨ret_bool (by rw [← HB.out]; first | exact (decide_eq_true (by unfold GBr GBd GT; simp only; omega)).symm | exact (decide_eq_false (by unfold GBr GBd GT; simp only; omega)).symm | (rw [Bool.eq_iff_iff]; simp [GBr, GBd, GT]; done) | (rw [Bool.eq_iff_iff]; simp [GBr, GBd, GT]; omega)), hbw⟩
set_option maxHeartbeats 4000000 in
theorem spec_breaker (x : Br) (b : Bool) (w : World) (hb : decide (GBr x) = b) :
    Calls Try.prog 26 #[.agg #[.int .i64 x.l, .int .i64 x.c, .int .i64 x.s, .int .i64 x.k, .int .i64 x.o]] w fun e w' => e = .returned (.bool b) ∧ Below w.heap.size w w' := by
  obtain ⟨l, c, s, k, o⟩ := x
  simp only
  have hbw := (Below.refl w.heap.size w).alloc (Nat.le_refl _) (.cells #[.int .i64 l, .int .i64 c, .int .i64 s, .int .i64 k, .int .i64 o] 37)
  have HB := hide hb
  clear hb
  by_cases h0 : 1 ≤ l ∧ l ≤ 20
  · skip
    by_cases h1 : 1 ≤ c ∧ c ≤ 10000
    · skip
      by_cases h2 : 0 ≤ s ∧ s ≤ 2
      · skip
        by_cases h3 : 0 ≤ o ∧ o ≤ 1000000
        · skip
          by_cases hs : s = 0
          · subst hs
            by_cases hk : 0 ≤ k ∧ k ≤ l - 1
            · by_cases ho : o = 0
              · subst ho
                go_enter Try.func26, Try.ntmps26
                go_wp2_with fail
                refine (l1in_to _ _ _ true _ (decide_eq_true h0)).mono ?_
                rintro e w1 ⟨rfl, rfl⟩
                go_wp2_with fail
                refine (l1in_to _ _ _ true _ (decide_eq_true h1)).mono ?_
                rintro e w2 ⟨rfl, rfl⟩
                go_wp2_with fail
                refine (l1in_to _ _ _ true _ (decide_eq_true h2)).mono ?_
                rintro e w3 ⟨rfl, rfl⟩
                go_wp2_with fail
                refine (l1in_to _ _ _ true _ (decide_eq_true h3)).mono ?_
                rintro e w4 ⟨rfl, rfl⟩
                go_wp2_with fail
                refine (l1in_to _ _ _ true _ (decide_eq_true hk)).mono ?_
                rintro e w5 ⟨rfl, rfl⟩
                go_wp2
                go_ret
                exact ⟨ret_bool (by rw [← HB.out]; first | exact (decide_eq_true (by unfold GBr GBd GT; simp only; omega)).symm | exact (decide_eq_false (by unfold GBr GBd GT; simp only; omega)).symm | (rw [Bool.eq_iff_iff]; simp [GBr, GBd, GT]; done) | (rw [Bool.eq_iff_iff]; simp [GBr, GBd, GT]; omega)), hbw⟩
              · skip
                go_enter Try.func26, Try.ntmps26
                go_wp2_with fail
                refine (l1in_to _ _ _ true _ (decide_eq_true h0)).mono ?_
                rintro e w1 ⟨rfl, rfl⟩
                go_wp2_with fail
                refine (l1in_to _ _ _ true _ (decide_eq_true h1)).mono ?_
                rintro e w2 ⟨rfl, rfl⟩
                go_wp2_with fail
                refine (l1in_to _ _ _ true _ (decide_eq_true h2)).mono ?_
                rintro e w3 ⟨rfl, rfl⟩
                go_wp2_with fail
                refine (l1in_to _ _ _ true _ (decide_eq_true h3)).mono ?_
                rintro e w4 ⟨rfl, rfl⟩
                go_wp2_with fail
                refine (l1in_to _ _ _ true _ (decide_eq_true hk)).mono ?_
                rintro e w5 ⟨rfl, rfl⟩
                go_wp2
                go_ret
                exact ⟨ret_bool (by rw [← HB.out]; first | exact (decide_eq_true (by unfold GBr GBd GT; simp only; omega)).symm | exact (decide_eq_false (by unfold GBr GBd GT; simp only; omega)).symm | (rw [Bool.eq_iff_iff]; simp [GBr, GBd, GT]; done) | (rw [Bool.eq_iff_iff]; simp [GBr, GBd, GT]; omega)), hbw⟩
            · skip
              go_enter Try.func26, Try.ntmps26
              go_wp2_with fail
              refine (l1in_to _ _ _ true _ (decide_eq_true h0)).mono ?_
              rintro e w1 ⟨rfl, rfl⟩
              go_wp2_with fail
              refine (l1in_to _ _ _ true _ (decide_eq_true h1)).mono ?_
              rintro e w2 ⟨rfl, rfl⟩
              go_wp2_with fail
              refine (l1in_to _ _ _ true _ (decide_eq_true h2)).mono ?_
              rintro e w3 ⟨rfl, rfl⟩
              go_wp2_with fail
              refine (l1in_to _ _ _ true _ (decide_eq_true h3)).mono ?_
              rintro e w4 ⟨rfl, rfl⟩
              go_wp2_with fail
              refine (l1in_to _ _ _ false _ (decide_eq_false hk)).mono ?_
              rintro e w5 ⟨rfl, rfl⟩
              go_wp2
              go_ret
              exact ⟨ret_bool (by rw [← HB.out]; first | exact (decide_eq_true (by unfold GBr GBd GT; simp only; omega)).symm | exact (decide_eq_false (by unfold GBr GBd GT; simp only; omega)).symm | (rw [Bool.eq_iff_iff]; simp [GBr, GBd, GT]; done) | (rw [Bool.eq_iff_iff]; simp [GBr, GBd, GT]; omega)), hbw⟩
          · by_cases hk : k = l
            · subst hk
              go_enter Try.func26, Try.ntmps26
              go_wp2_with fail
              refine (l1in_to _ _ _ true _ (decide_eq_true h0)).mono ?_
              rintro e w1 ⟨rfl, rfl⟩
              go_wp2_with fail
              refine (l1in_to _ _ _ true _ (decide_eq_true h1)).mono ?_
              rintro e w2 ⟨rfl, rfl⟩
              go_wp2_with fail
              refine (l1in_to _ _ _ true _ (decide_eq_true h2)).mono ?_
              rintro e w3 ⟨rfl, rfl⟩
              go_wp2_with fail
              refine (l1in_to _ _ _ true _ (decide_eq_true h3)).mono ?_
              rintro e w4 ⟨rfl, rfl⟩
              go_wp2
              go_ret
              exact ⟨ret_bool (by rw [← HB.out]; first | exact (decide_eq_true (by unfold GBr GBd GT; simp only; omega)).symm | exact (decide_eq_false (by unfold GBr GBd GT; simp only; omega)).symm | (rw [Bool.eq_iff_iff]; simp [GBr, GBd, GT]; done) | (rw [Bool.eq_iff_iff]; simp [GBr, GBd, GT]; omega)), hbw⟩
            · have hkl : (k == l) = false := by simp [hk]
              go_enter Try.func26, Try.ntmps26
              go_wp2_with fail
              refine (l1in_to _ _ _ true _ (decide_eq_true h0)).mono ?_
              rintro e w1 ⟨rfl, rfl⟩
              go_wp2_with fail
              refine (l1in_to _ _ _ true _ (decide_eq_true h1)).mono ?_
              rintro e w2 ⟨rfl, rfl⟩
              go_wp2_with fail
              refine (l1in_to _ _ _ true _ (decide_eq_true h2)).mono ?_
              rintro e w3 ⟨rfl, rfl⟩
              go_wp2_with fail
              refine (l1in_to _ _ _ true _ (decide_eq_true h3)).mono ?_
              rintro e w4 ⟨rfl, rfl⟩
              go_wp2
              go_ret
              exact ⟨ret_bool (by rw [← HB.out]; first | exact (decide_eq_true (by unfold GBr GBd GT; simp only; omega)).symm | exact (decide_eq_false (by unfold GBr GBd GT; simp only; omega)).symm | (rw [Bool.eq_iff_iff]; simp [GBr, GBd, GT]; done) | (rw [Bool.eq_iff_iff]; simp [GBr, GBd, GT]; omega)), hbw⟩
        · skip
          go_enter Try.func26, Try.ntmps26
          go_wp2_with fail
          refine (l1in_to _ _ _ true _ (decide_eq_true h0)).mono ?_
          rintro e w1 ⟨rfl, rfl⟩
          go_wp2_with fail
          refine (l1in_to _ _ _ true _ (decide_eq_true h1)).mono ?_
          rintro e w2 ⟨rfl, rfl⟩
          go_wp2_with fail
          refine (l1in_to _ _ _ true _ (decide_eq_true h2)).mono ?_
          rintro e w3 ⟨rfl, rfl⟩
          go_wp2_with fail
          refine (l1in_to _ _ _ false _ (decide_eq_false h3)).mono ?_
          rintro e w4 ⟨rfl, rfl⟩
          go_wp2
          go_ret
          exact ⟨ret_bool (by rw [← HB.out]; first | exact (decide_eq_true (by unfold GBr GBd GT; simp only; omega)).symm | exact (decide_eq_false (by unfold GBr GBd GT; simp only; omega)).symm | (rw [Bool.eq_iff_iff]; simp [GBr, GBd, GT]; done) | (rw [Bool.eq_iff_iff]; simp [GBr, GBd, GT]; omega)), hbw⟩
      · skip
        go_enter Try.func26, Try.ntmps26
        go_wp2_with fail
        refine (l1in_to _ _ _ true _ (decide_eq_true h0)).mono ?_
        rintro e w1 ⟨rfl, rfl⟩
        go_wp2_with fail
        refine (l1in_to _ _ _ true _ (decide_eq_true h1)).mono ?_
        rintro e w2 ⟨rfl, rfl⟩
        go_wp2_with fail
        refine (l1in_to _ _ _ false _ (decide_eq_false h2)).mono ?_
        rintro e w3 ⟨rfl, rfl⟩
        go_wp2
        go_ret
        exact ⟨ret_bool (by rw [← HB.out]; first | exact (decide_eq_true (by unfold GBr GBd GT; simp only; omega)).symm | exact (decide_eq_false (by unfold GBr GBd GT; simp only; omega)).symm | (rw [Bool.eq_iff_iff]; simp [GBr, GBd, GT]; done) | (rw [Bool.eq_iff_iff]; simp [GBr, GBd, GT]; omega)), hbw⟩
    · skip
      go_enter Try.func26, Try.ntmps26
      go_wp2_with fail
      refine (l1in_to _ _ _ true _ (decide_eq_true h0)).mono ?_
      rintro e w1 ⟨rfl, rfl⟩
      go_wp2_with fail
      refine (l1in_to _ _ _ false _ (decide_eq_false h1)).mono ?_
      rintro e w2 ⟨rfl, rfl⟩
      go_wp2
      go_ret
      exact ⟨ret_bool (by rw [← HB.out]; first | exact (decide_eq_true (by unfold GBr GBd GT; simp only; omega)).symm | exact (decide_eq_false (by unfold GBr GBd GT; simp only; omega)).symm | (rw [Bool.eq_iff_iff]; simp [GBr, GBd, GT]; done) | (rw [Bool.eq_iff_iff]; simp [GBr, GBd, GT]; omega)), hbw⟩
  · skip
    go_enter Try.func26, Try.ntmps26
    go_wp2_with fail
    refine (l1in_to _ _ _ false _ (decide_eq_false h0)).mono ?_
    rintro e w1 ⟨rfl, rfl⟩
    go_wp2
    go_ret
    exact ⟨ret_bool (by rw [← HB.out]; first | exact (decide_eq_true (by unfold GBr GBd GT; simp only; omega)).symm | exact (decide_eq_false (by unfold GBr GBd GT; simp only; omega)).symm | (rw [Bool.eq_iff_iff]; simp [GBr, GBd, GT]; done) | (rw [Bool.eq_iff_iff]; simp [GBr, GBd, GT]; omega)), hbw⟩
set_option maxHeartbeats 4000000 in
theorem closed_is (l c : Int) (w : World) :
    Calls Try.prog 53 #[.int .i64 l, .int .i64 c] w fun e w' => e = .returned (.agg #[.int .i64 l, .int .i64 c, .int .i64 0, .int .i64 0, .int .i64 0]) ∧ Below w.heap.size w w' := by
  have hbw := (Below.refl w.heap.size w).alloc (Nat.le_refl _) (.cells #[.int .i64 l, .int .i64 c, .int .i64 0, .int .i64 0, .int .i64 0] 37)
  go_enter Try.func53, Try.ntmps53
  go_wp2
  exact bodyPost_ret (v := .agg #[.int .i64 l, .int .i64 c, .int .i64 0, .int .i64 0, .int .i64 0]) (by simp [results, Try.results53, go_sem]) rfl ⟨rfl, hbw⟩
set_option maxHeartbeats 4000000 in
theorem spec_new (l c : Int) (b : Bool) (r : Br) (w : World) (hb : decide (GBd l c) = b) (hr : (if b = true then fresh l c else ⟨0, 0, 0, 0, 0⟩) = r) :
    Calls Try.prog 23 #[.int .i64 l, .int .i64 c] w fun e w' => e = .returned (.tuple #[brv r, .bool b]) ∧ Below w.heap.size w w' := by
  subst hr
  have HB := hide hb
  clear hb
  cases b with
  | false =>
    have hbw := (Below.refl w.heap.size w).alloc (Nat.le_refl _) (.cells #[.int .i64 0, .int .i64 0, .int .i64 0, .int .i64 0, .int .i64 0] 37)
    by_cases h0 : 1 ≤ l ∧ l ≤ 20
    · have h1 : ¬ (1 ≤ c ∧ c ≤ 10000) := fun h => of_decide_eq_false HB.out ⟨h0, h⟩
      clear HB
      go_enter Try.func23, Try.ntmps23
      go_wp2_with fail
      refine (l1in_to _ _ _ true _ (decide_eq_true h0)).mono ?_
      rintro e w1 ⟨rfl, rfl⟩
      go_wp2_with fail
      refine (l1in_to _ _ _ false _ (decide_eq_false h1)).mono ?_
      rintro e w1 ⟨rfl, rfl⟩
      clear h0 h1
      go_wp2
      exact bodyPost_ret (v := .tuple #[.agg #[.int .i64 0, .int .i64 0, .int .i64 0, .int .i64 0, .int .i64 0], .bool false]) (by simp [results, Try.results23, go_sem]) rfl ⟨rfl, hbw⟩
    · clear HB
      go_enter Try.func23, Try.ntmps23
      go_wp2_with fail
      refine (l1in_to _ _ _ false _ (decide_eq_false h0)).mono ?_
      rintro e w1 ⟨rfl, rfl⟩
      clear h0
      go_wp2
      exact bodyPost_ret (v := .tuple #[.agg #[.int .i64 0, .int .i64 0, .int .i64 0, .int .i64 0, .int .i64 0], .bool false]) (by simp [results, Try.results23, go_sem]) rfl ⟨rfl, hbw⟩
  | true =>
    have hbw := (Below.refl w.heap.size w).alloc (Nat.le_refl _) (.cells #[.int .i64 l, .int .i64 c, .int .i64 0, .int .i64 0, .int .i64 0] 37)
    obtain ⟨h0, h1⟩ := of_decide_eq_true HB.out
    clear HB
    go_enter Try.func23, Try.ntmps23
    go_wp2_with fail
    refine (l1in_to _ _ _ true _ (decide_eq_true h0)).mono ?_
    rintro e w1 ⟨rfl, rfl⟩
    go_wp2_with fail
    refine (l1in_to _ _ _ true _ (decide_eq_true h1)).mono ?_
    rintro e w1 ⟨rfl, rfl⟩
    clear h0 h1
    go_wp2
    exact bodyPost_ret (v := .tuple #[.agg #[.int .i64 l, .int .i64 c, .int .i64 0, .int .i64 0, .int .i64 0], .bool true]) (by simp [results, Try.results23, go_sem]) rfl ⟨rfl, hbw⟩
set_option maxHeartbeats 4000000 in
theorem impl_new (l c : Int) (b : Bool) (r : Br) (w : World) (hb : decide (GBd l c) = b) (hr : (if b = true then fresh l c else ⟨0, 0, 0, 0, 0⟩) = r) :
    Calls Try.prog 24 #[.int .i64 l, .int .i64 c] w fun e w' => e = .returned (.tuple #[brv r, .bool b]) ∧ Below w.heap.size w w' := by
  subst hr
  have HB := hide hb
  clear hb
  cases b with
  | false =>
    have hbw := (Below.refl w.heap.size w).alloc (Nat.le_refl _) (.cells #[.int .i64 0, .int .i64 0, .int .i64 0, .int .i64 0, .int .i64 0] 37)
    go_enter Try.func24, Try.ntmps24
    go_wp2_with fail
    refine (goodBounds_to l c false _ HB.out).mono ?_
    rintro e w1 ⟨rfl, rfl⟩
    clear HB
    go_wp2
    exact bodyPost_ret (v := .tuple #[.agg #[.int .i64 0, .int .i64 0, .int .i64 0, .int .i64 0, .int .i64 0], .bool false]) (by simp [results, Try.results24, go_sem]) rfl ⟨rfl, hbw⟩
  | true =>
    have hb0 := (Below.refl w.heap.size w).alloc (Nat.le_refl _) (.cells #[.int .i64 0, .int .i64 0, .int .i64 0, .int .i64 0, .int .i64 0] 37)
    have HN := hide (new5 w (.int .i64 0) (.int .i64 0) (.int .i64 0) (.int .i64 0) (.int .i64 0) 37)
    go_enter Try.func24, Try.ntmps24
    go_wp2_with fail
    refine (goodBounds_to l c true _ HB.out).mono ?_
    rintro e w1 ⟨rfl, rfl⟩
    clear HB
    go_wp2_with fail
    refine (closed_is l c _).mono ?_
    rintro e w2 ⟨rfl, hb⟩
    have hb2 := hb0.trans (hb.mono hb0.size)
    have hN2 := HN.out.down hb
    obtain ⟨⟨e0, e1, e2, e3, e4⟩, t0, t1, t2, t3, t4⟩ := hN2.five
    obtain ⟨WZ, hWZ⟩ : ∃ WZ, ((((w2.setCell ⟨w.heap.size, 0, none⟩ (.int .i64 l)).setCell ⟨w.heap.size, 1, none⟩ (.int .i64 c)).setCell ⟨w.heap.size, 2, none⟩ (.int .i64 0)).setCell ⟨w.heap.size, 3, none⟩ (.int .i64 0)).setCell ⟨w.heap.size, 4, none⟩ (.int .i64 0) = WZ := ⟨_, rfl⟩
    have HZ := hide (put5 hN2 hb2 (Nat.le_refl _) _ _ _ _ _ WZ hWZ)
    have HWZ := hide hWZ
    clear hWZ hN2 hb2 hb hb0 HN
    go_wp2
    rw [HWZ.out]
    clear e0 e1 e2 e3 e4 t0 t1 t2 t3 t4
    obtain ⟨⟨e0, e1, e2, e3, e4⟩, -⟩ := HZ.out.1.five
    exact bodyPost_ret (v := .tuple #[.agg #[.int .i64 l, .int .i64 c, .int .i64 0, .int .i64 0, .int .i64 0], .bool true]) (by simp [results, Try.results24, go_sem, e0, e1, e2, e3, e4]) rfl ⟨rfl, HZ.out.2⟩
end Go.Proofs.Ytegbfmdilmbpmaa
