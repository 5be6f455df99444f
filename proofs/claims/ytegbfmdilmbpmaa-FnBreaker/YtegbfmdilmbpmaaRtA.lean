/-
  Trying again: the small functions of both texts and of the laws: numbers within bounds, policies, breakers and calls that are copied and held against each other.
-/
import Derived.Test.YtegbfmdilmbpmaaAnsC
import Derived.Test.YtegbfmdilmbpmaaRtM
namespace Go.Proofs.Ytegbfmdilmbpmaa
open Go.RowKit M
open Clk (upd upd_same upd_other)
open Go.Sort (grow)
theorem ret_bool {a b : Bool} (h : a = b) : Ending.returned (.bool a) = Ending.returned (.bool b) := by rw [h]
theorem within_is (n lo hi : Int) (w : World) :
    Calls Try.prog 49 #[.int .i64 n, .int .i64 lo, .int .i64 hi] w fun e w' => e = .returned (.bool (decide (lo ≤ n ∧ n ≤ hi))) ∧ w' = w := by
  by_cases h1 : lo ≤ n
  · by_cases h2 : n ≤ hi
    · go_enter Try.func49, Try.ntmps49
      go_wp2
      go_ret
      exact ⟨ret_bool (by rw [Bool.eq_iff_iff]; first | (simp; done) | (simp; omega)), rfl⟩
    · go_enter Try.func49, Try.ntmps49
      go_wp2
      go_ret
      exact ⟨ret_bool (by rw [Bool.eq_iff_iff]; first | (simp; done) | (simp; omega)), rfl⟩
  · go_enter Try.func49, Try.ntmps49
    go_wp2
    go_ret
    exact ⟨ret_bool (by rw [Bool.eq_iff_iff]; first | (simp; done) | (simp; omega)), rfl⟩
theorem within_to (n lo hi : Int) (b : Bool) (w : World) (h : decide (lo ≤ n ∧ n ≤ hi) = b) :
    Calls Try.prog 49 #[.int .i64 n, .int .i64 lo, .int .i64 hi] w fun e w' => e = .returned (.bool b) ∧ w' = w := by
  subst h; exact within_is n lo hi w
theorem l1in_is (n lo hi : Int) (w : World) :
    Calls Try.prog 48 #[.int .i64 n, .int .i64 lo, .int .i64 hi] w fun e w' => e = .returned (.bool (decide (lo ≤ n ∧ n ≤ hi))) ∧ w' = w := by
  by_cases h1 : lo ≤ n
  · by_cases h2 : n ≤ hi
    · go_enter Try.func48, Try.ntmps48
      go_wp2
      go_ret
      exact ⟨ret_bool (by rw [Bool.eq_iff_iff]; first | (simp; done) | (simp; omega)), rfl⟩
    · go_enter Try.func48, Try.ntmps48
      go_wp2
      go_ret
      exact ⟨ret_bool (by rw [Bool.eq_iff_iff]; first | (simp; done) | (simp; omega)), rfl⟩
  · go_enter Try.func48, Try.ntmps48
    go_wp2
    go_ret
    exact ⟨ret_bool (by rw [Bool.eq_iff_iff]; first | (simp; done) | (simp; omega)), rfl⟩
theorem l1in_to (n lo hi : Int) (b : Bool) (w : World) (h : decide (lo ≤ n ∧ n ≤ hi) = b) :
    Calls Try.prog 48 #[.int .i64 n, .int .i64 lo, .int .i64 hi] w fun e w' => e = .returned (.bool b) ∧ w' = w := by
  subst h; exact l1in_is n lo hi w
set_option maxHeartbeats 4000000 in
theorem to_policy (p : Po) (w : World) :
    Calls Try.prog 14 #[.agg #[.int .i64 p.f, .int .i64 p.t, .int .i64 p.m, .int .i64 p.n]] w fun e w' => e = .returned (.agg #[.int .i64 p.f, .int .i64 p.t, .int .i64 p.m, .int .i64 p.n]) ∧ Below w.heap.size w w' := by
  have hbA := (((Below.refl w.heap.size w).alloc (Nat.le_refl _) (.cells #[.int .i64 p.f, .int .i64 p.t, .int .i64 p.m, .int .i64 p.n] 23)).alloc (by simp) (.cells #[.int .i64 p.f, .int .i64 p.t, .int .i64 p.m, .int .i64 p.n] 25)).alloc (by simp; omega) (.cells #[.int .i64 p.f, .int .i64 p.t, .int .i64 p.m, .int .i64 p.n] 25)
  go_enter Try.func14, Try.ntmps14
  go_wp2
  exact bodyPost_ret (v := .agg #[.int .i64 p.f, .int .i64 p.t, .int .i64 p.m, .int .i64 p.n]) (by simp [results, Try.results14, go_sem]) rfl ⟨rfl, hbA⟩
set_option maxHeartbeats 4000000 in
theorem to_breaker (b : Br) (w : World) :
    Calls Try.prog 27 #[.agg #[.int .i64 b.l, .int .i64 b.c, .int .i64 b.s, .int .i64 b.k, .int .i64 b.o]] w fun e w' => e = .returned (.agg #[.int .i64 b.l, .int .i64 b.c, .int .i64 b.s, .int .i64 b.k, .int .i64 b.o]) ∧ Below w.heap.size w w' := by
  have hbA := (((Below.refl w.heap.size w).alloc (Nat.le_refl _) (.cells #[.int .i64 b.l, .int .i64 b.c, .int .i64 b.s, .int .i64 b.k, .int .i64 b.o] 42)).alloc (by simp) (.cells #[.int .i64 b.l, .int .i64 b.c, .int .i64 b.s, .int .i64 b.k, .int .i64 b.o] 37)).alloc (by simp; omega) (.cells #[.int .i64 b.l, .int .i64 b.c, .int .i64 b.s, .int .i64 b.k, .int .i64 b.o] 37)
  go_enter Try.func27, Try.ntmps27
  go_wp2
  exact bodyPost_ret (v := .agg #[.int .i64 b.l, .int .i64 b.c, .int .i64 b.s, .int .i64 b.k, .int .i64 b.o]) (by simp [results, Try.results27, go_sem]) rfl ⟨rfl, hbA⟩
set_option maxHeartbeats 4000000 in
theorem to_call (c : Cl) (w : World) :
    Calls Try.prog 30 #[.agg #[.int .i64 c.w, .bool c.y]] w fun e w' => e = .returned (.agg #[.int .i64 c.w, .bool c.y]) ∧ Below w.heap.size w w' := by
  have hbA := (((Below.refl w.heap.size w).alloc (Nat.le_refl _) (.cells #[.int .i64 c.w, .bool c.y] 47)).alloc (by simp) (.cells #[.int .i64 c.w, .bool c.y] 50)).alloc (by simp; omega) (.cells #[.int .i64 c.w, .bool c.y] 50)
  go_enter Try.func30, Try.ntmps30
  go_wp2
  exact bodyPost_ret (v := .agg #[.int .i64 c.w, .bool c.y]) (by simp [results, Try.results30, go_sem]) rfl ⟨rfl, hbA⟩
set_option maxHeartbeats 4000000 in
theorem eq_breaker (b : Br) (w : World) :
    Calls Try.prog 25 #[.agg #[.int .i64 b.l, .int .i64 b.c, .int .i64 b.s, .int .i64 b.k, .int .i64 b.o], .agg #[.int .i64 b.l, .int .i64 b.c, .int .i64 b.s, .int .i64 b.k, .int .i64 b.o]] w fun e w' => e = .returned (.bool true) ∧ Below w.heap.size w w' := by
  have hbA := ((Below.refl w.heap.size w).alloc (Nat.le_refl _) (.cells #[.int .i64 b.l, .int .i64 b.c, .int .i64 b.s, .int .i64 b.k, .int .i64 b.o] 37)).alloc (by simp) (.cells #[.int .i64 b.l, .int .i64 b.c, .int .i64 b.s, .int .i64 b.k, .int .i64 b.o] 37)
  have h0 : (b.l != b.l) = false := by simp
  have h1 : (b.c != b.c) = false := by simp
  have h2 : (b.s != b.s) = false := by simp
  have h3 : (b.k != b.k) = false := by simp
  have h4 : (b.o != b.o) = false := by simp
  go_enter Try.func25, Try.ntmps25
  go_wp2
  go_ret
  exact ⟨rfl, hbA⟩
set_option maxHeartbeats 4000000 in
theorem eq_call (c : Cl) (w : World) :
    Calls Try.prog 58 #[.agg #[.int .i64 c.w, .bool c.y], .agg #[.int .i64 c.w, .bool c.y]] w fun e w' => e = .returned (.bool true) ∧ Below w.heap.size w w' := by
  have hbA := ((Below.refl w.heap.size w).alloc (Nat.le_refl _) (.cells #[.int .i64 c.w, .bool c.y] 50)).alloc (by simp) (.cells #[.int .i64 c.w, .bool c.y] 50)
  have h0 : (c.w != c.w) = false := by simp
  have h1 : (c.y != c.y) = false := by simp
  go_enter Try.func58, Try.ntmps58
  go_wp2
  go_ret
  exact ⟨rfl, hbA⟩
set_option maxHeartbeats 4000000 in
theorem impl_policy (p : Po) (b : Bool) (w : World) (hb : decide (GPo p) = b) :
    Calls Try.prog 15 #[.agg #[.int .i64 p.f, .int .i64 p.t, .int .i64 p.m, .int .i64 p.n]] w fun e w' => e = .returned (.bool b) ∧ Below w.heap.size w w' := by
  have hbw := (Below.refl w.heap.size w).alloc (Nat.le_refl _) (.cells #[.int .i64 p.f, .int .i64 p.t, .int .i64 p.m, .int .i64 p.n] 25)
  obtain ⟨f, t, m, n⟩ := p
  simp only at hbw ⊢
  obtain ⟨b0, hb0⟩ : ∃ x, decide (1 ≤ f ∧ f ≤ 1000) = x := ⟨_, rfl⟩
  obtain ⟨b1, hb1⟩ : ∃ x, decide (1 ≤ t ∧ t ≤ 10) = x := ⟨_, rfl⟩
  obtain ⟨b2, hb2⟩ : ∃ x, decide (f ≤ m ∧ m ≤ 1000000) = x := ⟨_, rfl⟩
  obtain ⟨b3, hb3⟩ : ∃ x, decide (1 ≤ n ∧ n ≤ 40) = x := ⟨_, rfl⟩
  have eb : b = (b0 && (b1 && (b2 && b3))) := by rw [← hb, ← hb0, ← hb1, ← hb2, ← hb3, Bool.eq_iff_iff]; simp only [Bool.and_eq_true, decide_eq_true_eq]; exact Iff.rfl
  have B0 := hide hb0
  have B1 := hide hb1
  have B2 := hide hb2
  have B3 := hide hb3
  subst eb
  clear hb hb0 hb1 hb2 hb3
  go_enter Try.func15, Try.ntmps15
  go_wp2_with fail
  refine (within_to _ _ _ b0 _ B0.out).mono ?_
  rintro e w1 ⟨rfl, rfl⟩
  cases b0 with
  | false =>
    clear B0 B1 B2 B3
    go_wp2
    go_ret
    exact ⟨rfl, hbw⟩
  | true =>
    go_wp2_with fail
    refine (within_to _ _ _ b1 _ B1.out).mono ?_
    rintro e w2 ⟨rfl, rfl⟩
    cases b1 with
    | false =>
      clear B0 B1 B2 B3
      go_wp2
      go_ret
      exact ⟨rfl, hbw⟩
    | true =>
      go_wp2_with fail
      refine (within_to _ _ _ b2 _ B2.out).mono ?_
      rintro e w3 ⟨rfl, rfl⟩
      cases b2 with
      | false =>
        clear B0 B1 B2 B3
        go_wp2
        go_ret
        exact ⟨rfl, hbw⟩
      | true =>
        go_wp2_with fail
        refine (within_to _ _ _ b3 _ B3.out).mono ?_
        rintro e w4 ⟨rfl, rfl⟩
        clear B0 B1 B2 B3
        go_wp2
        go_ret
        exact ⟨rfl, hbw⟩
set_option maxHeartbeats 4000000 in
theorem spec_policy (p : Po) (b : Bool) (w : World) (hb : decide (GPo p) = b) :
    Calls Try.prog 13 #[.agg #[.int .i64 p.f, .int .i64 p.t, .int .i64 p.m, .int .i64 p.n]] w fun e w' => e = .returned (.bool b) ∧ Below w.heap.size w w' := by
  have hbw := (Below.refl w.heap.size w).alloc (Nat.le_refl _) (.cells #[.int .i64 p.f, .int .i64 p.t, .int .i64 p.m, .int .i64 p.n] 25)
  obtain ⟨f, t, m, n⟩ := p
  simp only at hbw ⊢
  obtain ⟨b0, hb0⟩ : ∃ x, decide (1 ≤ f ∧ f ≤ 1000) = x := ⟨_, rfl⟩
  obtain ⟨b1, hb1⟩ : ∃ x, decide (1 ≤ t ∧ t ≤ 10) = x := ⟨_, rfl⟩
  obtain ⟨b2, hb2⟩ : ∃ x, decide (f ≤ m ∧ m ≤ 1000000) = x := ⟨_, rfl⟩
  obtain ⟨b3, hb3⟩ : ∃ x, decide (1 ≤ n ∧ n ≤ 40) = x := ⟨_, rfl⟩
  have eb : b = (b0 && (b1 && (b2 && b3))) := by rw [← hb, ← hb0, ← hb1, ← hb2, ← hb3, Bool.eq_iff_iff]; simp only [Bool.and_eq_true, decide_eq_true_eq]; exact Iff.rfl
  have B0 := hide hb0
  have B1 := hide hb1
  have B2 := hide hb2
  have B3 := hide hb3
  subst eb
  clear hb hb0 hb1 hb2 hb3
  go_enter Try.func13, Try.ntmps13
  go_wp2_with fail
  refine (l1in_to _ _ _ b0 _ B0.out).mono ?_
  rintro e w1 ⟨rfl, rfl⟩
  cases b0 with
  | false =>
    clear B0 B1 B2 B3
    go_wp2
    go_ret
    exact ⟨rfl, hbw⟩
  | true =>
    go_wp2_with fail
    refine (l1in_to _ _ _ b1 _ B1.out).mono ?_
    rintro e w2 ⟨rfl, rfl⟩
    cases b1 with
    | false =>
      clear B0 B1 B2 B3
      go_wp2
      go_ret
      exact ⟨rfl, hbw⟩
    | true =>
      go_wp2_with fail
      refine (l1in_to _ _ _ b2 _ B2.out).mono ?_
      rintro e w3 ⟨rfl, rfl⟩
      cases b2 with
      | false =>
        clear B0 B1 B2 B3
        go_wp2
        go_ret
        exact ⟨rfl, hbw⟩
      | true =>
        go_wp2_with fail
        refine (l1in_to _ _ _ b3 _ B3.out).mono ?_
        rintro e w4 ⟨rfl, rfl⟩
        clear B0 B1 B2 B3
        go_wp2
        go_ret
        exact ⟨rfl, hbw⟩
end Go.Proofs.Ytegbfmdilmbpmaa
