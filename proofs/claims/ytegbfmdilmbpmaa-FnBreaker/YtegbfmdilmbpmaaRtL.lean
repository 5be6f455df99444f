/-
  The laws of chapter 10 whose answers are numbers and bools, walked: each returns true and turns nothing that was there, wherever both texts tell the same.
-/
import Derived.Test.YtegbfmdilmbpmaaRtB
namespace Go.Proofs.Ytegbfmdilmbpmaa
open Go.RowKit M
set_option maxRecDepth 20000 in
set_option maxHeartbeats 2000000 in
theorem law_policy_run (p : Po) (r0 : Bool) (w : World)
    (hS : ∀ W, Calls Try.prog 13 #[.agg #[.int .i64 p.f, .int .i64 p.t, .int .i64 p.m, .int .i64 p.n]] W fun e w' => e = .returned (.bool r0) ∧ Below W.heap.size W w')
    (hI : ∀ W, Calls Try.prog 15 #[.agg #[.int .i64 p.f, .int .i64 p.t, .int .i64 p.m, .int .i64 p.n]] W fun e w' => e = .returned (.bool r0) ∧ Below W.heap.size W w') :
    Calls Try.prog 3 #[.agg #[.int .i64 p.f, .int .i64 p.t, .int .i64 p.m, .int .i64 p.n]] w fun e w' => e = .returned (.bool true) ∧ Below w.heap.size w w' := by
  have HS := hide hS
  have HI := hide hI
  have hr0 : (r0 != r0) = false := by simp
  have hbA := (Below.refl w.heap.size w).alloc (Nat.le_refl _) (.cells #[.int .i64 p.f, .int .i64 p.t, .int .i64 p.m, .int .i64 p.n] 23)
  have HL0 := hide (new4 w (.int .i64 p.f) (.int .i64 p.t) (.int .i64 p.m) (.int .i64 p.n) 23)
  clear hS hI
  go_enter Try.func3, Try.ntmps3
  go_wp2_with fail
  refine (to_policy p _).mono ?_
  rintro e w1 ⟨rfl, hb⟩
  have hb1 := hbA.trans (hb.mono hbA.size)
  have HL1 := hide (HL0.out.down hb)
  clear hb hbA HL0
  go_wp2_with fail
  refine (HS.out _).mono ?_
  rintro e w2 ⟨rfl, hb⟩
  have hb2 := hb1.trans (hb.mono hb1.size)
  obtain ⟨⟨d0, d1, d2, d3⟩, -⟩ := (HL1.out.down hb).quad
  clear hb hb1 HL1 HS
  go_wp2_with fail
  refine (to_policy p _).mono ?_
  rintro e w3 ⟨rfl, hb⟩
  have hb3 := hb2.trans (hb.mono hb2.size)
  clear hb hb2 d0 d1 d2 d3
  go_wp2_with fail
  refine (HI.out _).mono ?_
  rintro e w4 ⟨rfl, hb⟩
  have hb4 := hb3.trans (hb.mono hb3.size)
  clear hb hb3 HI
  go_wp2
  go_ret
  exact ⟨rfl, hb4⟩
set_option maxRecDepth 20000 in
set_option maxHeartbeats 2000000 in
theorem law_wait_run (p : Po) (x : Int) (r0 : Int) (r1 : Bool) (w : World)
    (hS : ∀ W, Calls Try.prog 16 #[.agg #[.int .i64 p.f, .int .i64 p.t, .int .i64 p.m, .int .i64 p.n], .int .i64 x] W fun e w' => e = .returned (.tuple #[.int .i64 r0, .bool r1]) ∧ Below W.heap.size W w')
    (hI : ∀ W, Calls Try.prog 17 #[.agg #[.int .i64 p.f, .int .i64 p.t, .int .i64 p.m, .int .i64 p.n], .int .i64 x] W fun e w' => e = .returned (.tuple #[.int .i64 r0, .bool r1]) ∧ Below W.heap.size W w') :
    Calls Try.prog 4 #[.agg #[.int .i64 p.f, .int .i64 p.t, .int .i64 p.m, .int .i64 p.n], .int .i64 x] w fun e w' => e = .returned (.bool true) ∧ Below w.heap.size w w' := by
  have HS := hide hS
  have HI := hide hI
  have hr0 : (r0 != r0) = false := by simp
  have hr1 : (r1 != r1) = false := by simp
  have hbA := (Below.refl w.heap.size w).alloc (Nat.le_refl _) (.cells #[.int .i64 p.f, .int .i64 p.t, .int .i64 p.m, .int .i64 p.n] 23)
  have HL0 := hide (new4 w (.int .i64 p.f) (.int .i64 p.t) (.int .i64 p.m) (.int .i64 p.n) 23)
  clear hS hI
  go_enter Try.func4, Try.ntmps4
  go_wp2_with fail
  refine (to_policy p _).mono ?_
  rintro e w1 ⟨rfl, hb⟩
  have hb1 := hbA.trans (hb.mono hbA.size)
  have HL1 := hide (HL0.out.down hb)
  clear hb hbA HL0
  go_wp2_with fail
  refine (HS.out _).mono ?_
  rintro e w2 ⟨rfl, hb⟩
  have hb2 := hb1.trans (hb.mono hb1.size)
  obtain ⟨⟨d0, d1, d2, d3⟩, -⟩ := (HL1.out.down hb).quad
  clear hb hb1 HL1 HS
  go_wp2_with fail
  refine (to_policy p _).mono ?_
  rintro e w3 ⟨rfl, hb⟩
  have hb3 := hb2.trans (hb.mono hb2.size)
  clear hb hb2 d0 d1 d2 d3
  go_wp2_with fail
  refine (HI.out _).mono ?_
  rintro e w4 ⟨rfl, hb⟩
  have hb4 := hb3.trans (hb.mono hb3.size)
  clear hb hb3 HI
  go_wp2
  go_ret
  exact ⟨rfl, hb4⟩
set_option maxRecDepth 20000 in
set_option maxHeartbeats 2000000 in
theorem law_breaker_run (p : Br) (r0 : Bool) (w : World)
    (hS : ∀ W, Calls Try.prog 26 #[.agg #[.int .i64 p.l, .int .i64 p.c, .int .i64 p.s, .int .i64 p.k, .int .i64 p.o]] W fun e w' => e = .returned (.bool r0) ∧ Below W.heap.size W w')
    (hI : ∀ W, Calls Try.prog 28 #[.agg #[.int .i64 p.l, .int .i64 p.c, .int .i64 p.s, .int .i64 p.k, .int .i64 p.o]] W fun e w' => e = .returned (.bool r0) ∧ Below W.heap.size W w') :
    Calls Try.prog 7 #[.agg #[.int .i64 p.l, .int .i64 p.c, .int .i64 p.s, .int .i64 p.k, .int .i64 p.o]] w fun e w' => e = .returned (.bool true) ∧ Below w.heap.size w w' := by
  have HS := hide hS
  have HI := hide hI
  have hr0 : (r0 != r0) = false := by simp
  have hbA := (Below.refl w.heap.size w).alloc (Nat.le_refl _) (.cells #[.int .i64 p.l, .int .i64 p.c, .int .i64 p.s, .int .i64 p.k, .int .i64 p.o] 42)
  have HL0 := hide (new5 w (.int .i64 p.l) (.int .i64 p.c) (.int .i64 p.s) (.int .i64 p.k) (.int .i64 p.o) 42)
  clear hS hI
  go_enter Try.func7, Try.ntmps7
  go_wp2_with fail
  refine (to_breaker p _).mono ?_
  rintro e w1 ⟨rfl, hb⟩
  have hb1 := hbA.trans (hb.mono hbA.size)
  have HL1 := hide (HL0.out.down hb)
  clear hb hbA HL0
  go_wp2_with fail
  refine (HS.out _).mono ?_
  rintro e w2 ⟨rfl, hb⟩
  have hb2 := hb1.trans (hb.mono hb1.size)
  obtain ⟨⟨d0, d1, d2, d3, d4⟩, -⟩ := (HL1.out.down hb).five
  clear hb hb1 HL1 HS
  go_wp2_with fail
  refine (to_breaker p _).mono ?_
  rintro e w3 ⟨rfl, hb⟩
  have hb3 := hb2.trans (hb.mono hb2.size)
  clear hb hb2 d0 d1 d2 d3 d4
  go_wp2_with fail
  refine (HI.out _).mono ?_
  rintro e w4 ⟨rfl, hb⟩
  have hb4 := hb3.trans (hb.mono hb3.size)
  clear hb hb3 HI
  go_wp2
  go_ret
  exact ⟨rfl, hb4⟩
set_option maxRecDepth 20000 in
set_option maxHeartbeats 2000000 in
theorem law_allows_run (p : Br) (x : Int) (r0 : Bool) (r1 : Bool) (w : World)
    (hS : ∀ W, Calls Try.prog 41 #[.agg #[.int .i64 p.l, .int .i64 p.c, .int .i64 p.s, .int .i64 p.k, .int .i64 p.o], .int .i64 x] W fun e w' => e = .returned (.tuple #[.bool r0, .bool r1]) ∧ Below W.heap.size W w')
    (hI : ∀ W, Calls Try.prog 42 #[.agg #[.int .i64 p.l, .int .i64 p.c, .int .i64 p.s, .int .i64 p.k, .int .i64 p.o], .int .i64 x] W fun e w' => e = .returned (.tuple #[.bool r0, .bool r1]) ∧ Below W.heap.size W w') :
    Calls Try.prog 10 #[.agg #[.int .i64 p.l, .int .i64 p.c, .int .i64 p.s, .int .i64 p.k, .int .i64 p.o], .int .i64 x] w fun e w' => e = .returned (.bool true) ∧ Below w.heap.size w w' := by
  have HS := hide hS
  have HI := hide hI
  have hr0 : (r0 != r0) = false := by simp
  have hr1 : (r1 != r1) = false := by simp
  have hbA := (Below.refl w.heap.size w).alloc (Nat.le_refl _) (.cells #[.int .i64 p.l, .int .i64 p.c, .int .i64 p.s, .int .i64 p.k, .int .i64 p.o] 42)
  have HL0 := hide (new5 w (.int .i64 p.l) (.int .i64 p.c) (.int .i64 p.s) (.int .i64 p.k) (.int .i64 p.o) 42)
  clear hS hI
  go_enter Try.func10, Try.ntmps10
  go_wp2_with fail
  refine (to_breaker p _).mono ?_
  rintro e w1 ⟨rfl, hb⟩
  have hb1 := hbA.trans (hb.mono hbA.size)
  have HL1 := hide (HL0.out.down hb)
  clear hb hbA HL0
  go_wp2_with fail
  refine (HS.out _).mono ?_
  rintro e w2 ⟨rfl, hb⟩
  have hb2 := hb1.trans (hb.mono hb1.size)
  obtain ⟨⟨d0, d1, d2, d3, d4⟩, -⟩ := (HL1.out.down hb).five
  clear hb hb1 HL1 HS
  go_wp2_with fail
  refine (to_breaker p _).mono ?_
  rintro e w3 ⟨rfl, hb⟩
  have hb3 := hb2.trans (hb.mono hb2.size)
  clear hb hb2 d0 d1 d2 d3 d4
  go_wp2_with fail
  refine (HI.out _).mono ?_
  rintro e w4 ⟨rfl, hb⟩
  have hb4 := hb3.trans (hb.mono hb3.size)
  clear hb hb3 HI
  go_wp2
  go_ret
  exact ⟨rfl, hb4⟩
end Go.Proofs.Ytegbfmdilmbpmaa
