/-
  AllowsAt in both texts, and its law.
-/
import Derived.Test.YtegbfmdilmbpmaaRtD
import Derived.Test.YtegbfmdilmbpmaaRtL
namespace Go.Proofs.Ytegbfmdilmbpmaa
open Go.RowKit M
open Clk (upd upd_same upd_other)
open Go.Sort (grow)
theorem first_fn (F G : Nat) (W : World) : (Instr.field 86 (.agg #[.func (.func F) #[] #[], .func (.func G) #[] #[]]) 0).run Try.prog W = .ok (.func (.func F) #[] #[]) W := by kernel_rfl
set_option maxHeartbeats 4000000 in
theorem spec_allows (x : Br) (n : Int) (b t : Bool) (w : World) (hb : decide (GBr x ∧ GT n) = b) (ht : (if b = true then lt x n else false) = t) :
    Calls Try.prog 41 #[.agg #[.int .i64 x.l, .int .i64 x.c, .int .i64 x.s, .int .i64 x.k, .int .i64 x.o], .int .i64 n] w fun e w' => e = .returned (.tuple #[.bool t, .bool b]) ∧ Below w.heap.size w w' := by
  obtain ⟨bp, hbp⟩ : ∃ z, decide (GBr x) = z := ⟨_, rfl⟩
  obtain ⟨bx, hbx⟩ : ∃ z, decide (GT n) = z := ⟨_, rfl⟩
  have eb : b = (bp && bx) := by rw [← hb, ← hbp, ← hbx, Bool.eq_iff_iff]; simp only [Bool.and_eq_true, decide_eq_true_eq]
  have hb0 := (Below.refl w.heap.size w).alloc (Nat.le_refl _) (.cells #[.int .i64 x.l, .int .i64 x.c, .int .i64 x.s, .int .i64 x.k, .int .i64 x.o] 37)
  have HX := hide (new5 w (.int .i64 x.l) (.int .i64 x.c) (.int .i64 x.s) (.int .i64 x.k) (.int .i64 x.o) 37)
  have BP := hide hbp
  have BX := hide hbx
  have HT := hide ht
  subst eb
  clear hb ht hbp hbx
  go_enter Try.func41, Try.ntmps41
  go_wp2_with fail
  refine (spec_breaker x bp _ BP.out).mono ?_
  rintro e w1 ⟨rfl, hb⟩
  have hb1 := hb0.trans (hb.mono hb0.size)
  have HX1 := hide (HX.out.down hb)
  clear hb hb0 HX
  cases bp with
  | false =>
    clear BP BX HX1
    go_wp2
    go_ret2
    exact ⟨by rw [← HT.out]; rfl, hb1⟩
  | true =>
    go_wp2_with fail
    refine (l1in_to _ _ _ bx _ BX.out).mono ?_
    rintro e w2 ⟨rfl, rfl⟩
    cases bx with
    | false =>
      clear BP BX HX1
      go_wp2
      go_ret2
      exact ⟨by rw [← HT.out]; rfl, hb1⟩
    | true =>
      have hx := of_decide_eq_true BP.out
      have HU := hide (show lt x n = t by have := HT.out; rwa [if_pos (by rfl)] at this)
      have hsum := hx.sum
      clear BP BX HT
      obtain ⟨s0, s1⟩ := hsum
      obtain ⟨⟨d0, d1, d2, d3, d4⟩, -⟩ := HX1.out.five
      clear HX1 hx
      by_cases hs : x.s = 1
      · have hs1 : (x.s != 1) = false := by simp [hs]
        by_cases hc : x.o + x.c ≤ n
        · have HE := hide (show lt x n = true by unfold lt; simp; omega)
          clear hs
          go_wp2
          go_ret2
          exact ⟨by rw [← HU.out, HE.out] <;> first | rfl | (simp; omega), hb1⟩
        · have HE := hide (show lt x n = false by unfold lt; simp [hs]; omega)
          clear hs
          go_wp2
          go_ret2
          exact ⟨by rw [← HU.out, HE.out] <;> first | rfl | (simp; omega), hb1⟩
      · have hs1 : (x.s != 1) = true := by simp [hs]
        have HE := hide (show lt x n = true by unfold lt; simp [hs])
        clear hs
        go_wp2
        go_ret2
        exact ⟨by rw [← HU.out, HE.out]; rfl, hb1⟩
set_option maxHeartbeats 4000000 in
theorem impl_allows (x : Br) (n : Int) (b t : Bool) (w : World) (hb : decide (GBr x ∧ GT n) = b) (ht : (if b = true then lt x n else false) = t) :
    Calls Try.prog 42 #[.agg #[.int .i64 x.l, .int .i64 x.c, .int .i64 x.s, .int .i64 x.k, .int .i64 x.o], .int .i64 n] w fun e w' => e = .returned (.tuple #[.bool t, .bool b]) ∧ Below w.heap.size w w' := by
  obtain ⟨bp, hbp⟩ : ∃ z, decide (GBr x) = z := ⟨_, rfl⟩
  obtain ⟨bx, hbx⟩ : ∃ z, decide (GT n) = z := ⟨_, rfl⟩
  have eb : b = (bp && bx) := by rw [← hb, ← hbp, ← hbx, Bool.eq_iff_iff]; simp only [Bool.and_eq_true, decide_eq_true_eq]
  have hb0 := (Below.refl w.heap.size w).alloc (Nat.le_refl _) (.cells #[.int .i64 x.l, .int .i64 x.c, .int .i64 x.s, .int .i64 x.k, .int .i64 x.o] 37)
  have HX := hide (new5 w (.int .i64 x.l) (.int .i64 x.c) (.int .i64 x.s) (.int .i64 x.k) (.int .i64 x.o) 37)
  have BP := hide hbp
  have BX := hide hbx
  have HT := hide ht
  subst eb
  clear hb ht hbp hbx
  go_enter Try.func42, Try.ntmps42
  go_wp2_with fail
  refine (impl_breaker x bp _ BP.out).mono ?_
  rintro e w1 ⟨rfl, hb⟩
  have hb1 := hb0.trans (hb.mono hb0.size)
  have HX1 := hide (HX.out.down hb)
  clear hb hb0 HX
  cases bp with
  | false =>
    clear BP BX HX1
    go_wp2
    go_ret2
    exact ⟨by rw [← HT.out]; rfl, hb1⟩
  | true =>
    go_wp2_with fail
    refine (goodTime_to _ bx _ BX.out).mono ?_
    rintro e w2 ⟨rfl, rfl⟩
    cases bx with
    | false =>
      clear BP BX HX1
      go_wp2
      go_ret2
      exact ⟨by rw [← HT.out]; rfl, hb1⟩
    | true =>
      have hx := of_decide_eq_true BP.out
      have HU := hide (show lt x n = t by have := HT.out; rwa [if_pos (by rfl)] at this)
      have hsum := hx.sum
      clear BP BX HT
      obtain ⟨⟨d0, d1, d2, d3, d4⟩, -⟩ := HX1.out.five
      have k0 := cell_regrown d0
      have k1 := cell_regrown d1
      have k2 := cell_regrown d2
      have k3 := cell_regrown d3
      have k4 := cell_regrown d4
      clear d0 d1 d2 d3 d4 HX1
      rcases hx.2 with ⟨h0, -, -⟩ | ⟨h1 | h2, -, -⟩
      · have HSt := hide (show ∀ d os, Calls Try.prog 59 #[.agg #[.int .i64 x.l, .int .i64 x.c, .int .i64 x.s, .int .i64 x.k, .int .i64 x.o]] (grow (redrawn w2 d) os) fun e w'' => e = .returned (.agg #[.func (.func 67) #[] #[], .func (.func 68) #[] #[]]) ∧ ∃ p : Regrown, w'' = grow (redrawn w2 p.d) p.os from fun d os =>
          Calls.regrown_of (state_is x _ _ _ (.inr (.inr ⟨h0, rfl, rfl⟩))))
        have hfd := first_fn 67 68
        have HF := hide (show ∀ d os, Calls Try.prog 67 #[.agg #[.int .i64 x.l, .int .i64 x.c, .int .i64 x.s, .int .i64 x.k, .int .i64 x.o], .int .i64 n] (grow (redrawn w2 d) os) fun e w'' => e = .returned (.bool true) ∧ ∃ p : Regrown, w'' = grow (redrawn w2 p.d) p.os from fun d os =>
          Calls.regrown_of (letsAll_is x n _))
        have HE := hide (show t = true by rw [← HU.out]; unfold lt; rw [h0]; rfl)
        clear h0 hsum hx
        go_wp2
        refine wp_region_quiet_below (by kernel_rfl) (by kernel_rfl) ?_
        repeat (go_big_quiet_step (first | with_reducible exact HSt.out _ _ | with_reducible exact HF.out _ _))
        refine wpQuiet_nil ?_
        intro _ hw'
        obtain ⟨⟨dq, osq⟩, hw''⟩ := hw'
        subst hw''
        have hbw2 := hb1.trans ((below_regrown w2 dq osq).mono hb1.size)
        go_wp2
        go_ret2
        exact ⟨by rw [HE.out]; rfl, hbw2⟩
      · have HSt := hide (show ∀ d os, Calls Try.prog 59 #[.agg #[.int .i64 x.l, .int .i64 x.c, .int .i64 x.s, .int .i64 x.k, .int .i64 x.o]] (grow (redrawn w2 d) os) fun e w'' => e = .returned (.agg #[.func (.func 65) #[] #[], .func (.func 66) #[] #[]]) ∧ ∃ p : Regrown, w'' = grow (redrawn w2 p.d) p.os from fun d os =>
          Calls.regrown_of (state_is x _ _ _ (.inl ⟨h1, rfl, rfl⟩)))
        have hfd := first_fn 65 66
        have HF := hide (show ∀ d os, Calls Try.prog 65 #[.agg #[.int .i64 x.l, .int .i64 x.c, .int .i64 x.s, .int .i64 x.k, .int .i64 x.o], .int .i64 n] (grow (redrawn w2 d) os) fun e w'' => e = .returned (.bool t) ∧ ∃ p : Regrown, w'' = grow (redrawn w2 p.d) p.os from fun d os =>
          Calls.regrown_of (cooled_is x n t _ hsum.1 hsum.2 (by rw [← HU.out]; unfold lt; rw [h1, Bool.eq_iff_iff]; simp)))
        clear h1 hsum hx
        go_wp2
        refine wp_region_quiet_below (by kernel_rfl) (by kernel_rfl) ?_
        repeat (go_big_quiet_step (first | with_reducible exact HSt.out _ _ | with_reducible exact HF.out _ _))
        refine wpQuiet_nil ?_
        intro _ hw'
        obtain ⟨⟨dq, osq⟩, hw''⟩ := hw'
        subst hw''
        have hbw2 := hb1.trans ((below_regrown w2 dq osq).mono hb1.size)
        go_wp2
        go_ret2
        exact ⟨rfl, hbw2⟩
      · have HSt := hide (show ∀ d os, Calls Try.prog 59 #[.agg #[.int .i64 x.l, .int .i64 x.c, .int .i64 x.s, .int .i64 x.k, .int .i64 x.o]] (grow (redrawn w2 d) os) fun e w'' => e = .returned (.agg #[.func (.func 67) #[] #[], .func (.func 66) #[] #[]]) ∧ ∃ p : Regrown, w'' = grow (redrawn w2 p.d) p.os from fun d os =>
          Calls.regrown_of (state_is x _ _ _ (.inr (.inl ⟨h2, rfl, rfl⟩))))
        have hfd := first_fn 67 66
        have HF := hide (show ∀ d os, Calls Try.prog 67 #[.agg #[.int .i64 x.l, .int .i64 x.c, .int .i64 x.s, .int .i64 x.k, .int .i64 x.o], .int .i64 n] (grow (redrawn w2 d) os) fun e w'' => e = .returned (.bool true) ∧ ∃ p : Regrown, w'' = grow (redrawn w2 p.d) p.os from fun d os =>
          Calls.regrown_of (letsAll_is x n _))
        have HE := hide (show t = true by rw [← HU.out]; unfold lt; rw [h2]; rfl)
        clear h2 hsum hx
        go_wp2
        refine wp_region_quiet_below (by kernel_rfl) (by kernel_rfl) ?_
        repeat (go_big_quiet_step (first | with_reducible exact HSt.out _ _ | with_reducible exact HF.out _ _))
        refine wpQuiet_nil ?_
        intro _ hw'
        obtain ⟨⟨dq, osq⟩, hw''⟩ := hw'
        subst hw''
        have hbw2 := hb1.trans ((below_regrown w2 dq osq).mono hb1.size)
        go_wp2
        go_ret2
        exact ⟨by rw [HE.out]; rfl, hbw2⟩
theorem law_allows (p : Br) (x : Int) (w : World) :
    Calls Try.prog 10 #[brv p, .int .i64 x] w fun e w' => e = .returned (.bool true) ∧ Below w.heap.size w w' :=
  law_allows_run p x _ _ w (fun W => spec_allows p x _ _ W rfl rfl) (fun W => impl_allows p x _ _ W rfl rfl)
end Go.Proofs.Ytegbfmdilmbpmaa
