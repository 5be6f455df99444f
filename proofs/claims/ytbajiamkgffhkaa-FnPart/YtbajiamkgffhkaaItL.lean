/-
  The laws of GoodItems, VersionAt, LastOf, NewerOf, IsAhead and LcaOf, walked: each returns true and turns nothing that was there, wherever both texts tell the same.
-/
import Derived.Test.YtbajiamkgffhkaaItG
namespace Go.Proofs.Ytbajiamkgffhkaa
open Go.RowKit M
open Clk (upd upd_same upd_other)
set_option maxRecDepth 20000 in
set_option maxHeartbeats 2000000 in
theorem law_goodItems_run (v0 : Value) (n0 : Nat) (l0 : Nat → Im)  (r0 : Bool) (w : World) (hv0 : ItemsOf w v0 n0 l0) (hl0 : n0 ≤ maxLen)
    (hS : ∀ (u0 : Value) (W : World), n0 ≤ 1048576 → ItemsOf W u0 n0 l0 → Calls Try.prog 13 #[u0] W fun e w' => e = .returned (.bool r0) ∧ Below W.heap.size W w')
    (hI : ∀ (u0 : Value) (W : World), n0 ≤ 1048576 → ItemsOf W u0 n0 l0 → Calls Try.prog 15 #[u0] W fun e w' => e = .returned (.bool r0) ∧ Below W.heap.size W w') :
    Calls Try.prog 3 #[v0] w fun e w' => e = .returned (.bool true) ∧ Below w.heap.size w w' := by
  have HS := hide hS
  have HI := hide hI
  have HV0 := hide hv0
  have HL0 := hide hl0
  obtain ⟨a0, cap0, rfl⟩ := hv0.form
  have hr0 : (r0 != r0) = false := by simp
  clear hS hI hv0 hl0
  go_enter Try.func3, Try.ntmps3
  go_wp2_with fail
  refine (sz_items _ n0 _ 1048576 _ HL0.out (by omega) (by omega)).mono ?_
  rintro e w1 ⟨⟨q0, rfl, hq0⟩, rfl⟩
  by_cases hn0 : q0 < 0
  · clear hq0
    go_wp2
    go_ret
    exact ⟨rfl, Below.refl _ _⟩
  have hc0 : n0 ≤ 1048576 := by omega
  have HC0 := hide hc0
  have hz0 : 0 ≤ q0 ∧ q0 ≤ 1048576 := by omega
  obtain ⟨hy0, hx0⟩ := hz0
  clear hq0 hc0
  go_wp2_with fail
  refine (to_items _ n0 l0 _ HV0.out HC0.out).mono ?_
  rintro e w3 ⟨⟨rfl, hO⟩, hb⟩
  have hB2 := hb
  clear hb
  have HOs0 := hide hO
  clear hO
  go_wp2_with fail
  refine (HS.out _ _ HC0.out HOs0.out.items).mono ?_
  rintro e w4 ⟨rfl, hb⟩
  have hB3 := hB2.trans (hb.mono hB2.size)
  have HOs0n := hide (HOs0.out.down hb)
  clear HOs0
  have HOs0 := hide HOs0n.out
  clear HOs0n
  clear hB2
  clear hb HS
  clear HOs0
  go_wp2_with fail
  refine (to_items _ n0 l0 _ (HV0.out.below hB3) HC0.out).mono ?_
  rintro e w5 ⟨⟨rfl, hO⟩, hb⟩
  have hB4 := hB3.trans (hb.mono hB3.size)
  clear hB3
  clear hb
  have HOx0 := hide hO
  clear hO
  go_wp2_with fail
  refine (HI.out _ _ HC0.out HOx0.out.items).mono ?_
  rintro e w6 ⟨rfl, hb⟩
  have hB5 := hB4.trans (hb.mono hB4.size)
  have HOx0n := hide (HOx0.out.down hb)
  clear HOx0
  have HOx0 := hide HOx0n.out
  clear HOx0n
  clear hB4
  clear hb HI
  go_wp2_with fail
  refine (to_items _ n0 l0 _ (HV0.out.below hB5) HC0.out).mono ?_
  rintro e w7 ⟨⟨rfl, hO⟩, hb⟩
  have hB6 := hB5.trans (hb.mono hB5.size)
  have HOx0n := hide (HOx0.out.down hb)
  clear HOx0
  have HOx0 := hide HOx0n.out
  clear HOx0n
  clear hB5
  clear hb
  have HOy0 := hide hO
  clear hO
  go_wp2_with fail
  refine (eq_items _ _ n0 l0 _ HOx0.out.items HOy0.out.items HC0.out).mono ?_
  rintro e w8 ⟨rfl, hb⟩
  have hB7 := hB6.trans (hb.mono hB6.size)
  have HOx0n := hide (HOx0.out.down hb)
  clear HOx0
  have HOx0 := hide HOx0n.out
  clear HOx0n
  have HOy0n := hide (HOy0.out.down hb)
  clear HOy0
  have HOy0 := hide HOy0n.out
  clear HOy0n
  clear hB6
  clear hb
  clear HOy0
  clear HOx0
  clear HV0
  go_wp2
  go_ret
  exact ⟨rfl, hB7⟩
set_option maxRecDepth 20000 in
set_option maxHeartbeats 2000000 in
theorem law_versionAt_run (v0 : Value) (n0 : Nat) (l0 : Nat → Im) (x0 : Int) (r0 : Int) (r1 : Bool) (w : World) (hv0 : ItemsOf w v0 n0 l0) (hl0 : n0 ≤ maxLen)
    (hS : ∀ (u0 : Value) (W : World), n0 ≤ 1048576 → ItemsOf W u0 n0 l0 → Calls Try.prog 17 #[u0, .int .i64 x0] W fun e w' => e = .returned (.tuple #[.int .i64 r0, .bool r1]) ∧ Below W.heap.size W w')
    (hI : ∀ (u0 : Value) (W : World), n0 ≤ 1048576 → ItemsOf W u0 n0 l0 → Calls Try.prog 18 #[u0, .int .i64 x0] W fun e w' => e = .returned (.tuple #[.int .i64 r0, .bool r1]) ∧ Below W.heap.size W w') :
    Calls Try.prog 4 #[v0, .int .i64 x0] w fun e w' => e = .returned (.bool true) ∧ Below w.heap.size w w' := by
  have HS := hide hS
  have HI := hide hI
  have HV0 := hide hv0
  have HL0 := hide hl0
  obtain ⟨a0, cap0, rfl⟩ := hv0.form
  have hr0 : (r0 != r0) = false := by simp
  have hr1 : (r1 != r1) = false := by simp
  clear hS hI hv0 hl0
  go_enter Try.func4, Try.ntmps4
  go_wp2_with fail
  refine (sz_items _ n0 _ 1048576 _ HL0.out (by omega) (by omega)).mono ?_
  rintro e w1 ⟨⟨q0, rfl, hq0⟩, rfl⟩
  by_cases hn0 : q0 < 0
  · clear hq0
    go_wp2
    go_ret
    exact ⟨rfl, Below.refl _ _⟩
  have hc0 : n0 ≤ 1048576 := by omega
  have HC0 := hide hc0
  have hz0 : 0 ≤ q0 ∧ q0 ≤ 1048576 := by omega
  obtain ⟨hy0, hx0⟩ := hz0
  clear hq0 hc0
  go_wp2_with fail
  refine (to_items _ n0 l0 _ HV0.out HC0.out).mono ?_
  rintro e w3 ⟨⟨rfl, hO⟩, hb⟩
  have hB2 := hb
  clear hb
  have HOs0 := hide hO
  clear hO
  go_wp2_with fail
  refine (HS.out _ _ HC0.out HOs0.out.items).mono ?_
  rintro e w4 ⟨rfl, hb⟩
  have hB3 := hB2.trans (hb.mono hB2.size)
  have HOs0n := hide (HOs0.out.down hb)
  clear HOs0
  have HOs0 := hide HOs0n.out
  clear HOs0n
  clear hB2
  clear hb HS
  clear HOs0
  go_wp2_with fail
  refine (to_items _ n0 l0 _ (HV0.out.below hB3) HC0.out).mono ?_
  rintro e w5 ⟨⟨rfl, hO⟩, hb⟩
  have hB4 := hB3.trans (hb.mono hB3.size)
  clear hB3
  clear hb
  have HOx0 := hide hO
  clear hO
  go_wp2_with fail
  refine (HI.out _ _ HC0.out HOx0.out.items).mono ?_
  rintro e w6 ⟨rfl, hb⟩
  have hB5 := hB4.trans (hb.mono hB4.size)
  have HOx0n := hide (HOx0.out.down hb)
  clear HOx0
  have HOx0 := hide HOx0n.out
  clear HOx0n
  clear hB4
  clear hb HI
  go_wp2_with fail
  refine (to_items _ n0 l0 _ (HV0.out.below hB5) HC0.out).mono ?_
  rintro e w7 ⟨⟨rfl, hO⟩, hb⟩
  have hB6 := hB5.trans (hb.mono hB5.size)
  have HOx0n := hide (HOx0.out.down hb)
  clear HOx0
  have HOx0 := hide HOx0n.out
  clear HOx0n
  clear hB5
  clear hb
  have HOy0 := hide hO
  clear hO
  go_wp2_with fail
  refine (eq_items _ _ n0 l0 _ HOx0.out.items HOy0.out.items HC0.out).mono ?_
  rintro e w8 ⟨rfl, hb⟩
  have hB7 := hB6.trans (hb.mono hB6.size)
  have HOx0n := hide (HOx0.out.down hb)
  clear HOx0
  have HOx0 := hide HOx0n.out
  clear HOx0n
  have HOy0n := hide (HOy0.out.down hb)
  clear HOy0
  have HOy0 := hide HOy0n.out
  clear HOy0n
  clear hB6
  clear hb
  clear HOy0
  clear HOx0
  clear HV0
  go_wp2
  go_ret
  exact ⟨rfl, hB7⟩
set_option maxRecDepth 20000 in
set_option maxHeartbeats 2000000 in
theorem law_lastOf_run (v0 : Value) (n0 : Nat) (l0 : Nat → Im)  (r0 : Int) (r1 : Int) (r2 : Bool) (w : World) (hv0 : ItemsOf w v0 n0 l0) (hl0 : n0 ≤ maxLen)
    (hS : ∀ (u0 : Value) (W : World), n0 ≤ 1048576 → ItemsOf W u0 n0 l0 → Calls Try.prog 19 #[u0] W fun e w' => e = .returned (.tuple #[.int .i64 r0, .int .i64 r1, .bool r2]) ∧ Below W.heap.size W w')
    (hI : ∀ (u0 : Value) (W : World), n0 ≤ 1048576 → ItemsOf W u0 n0 l0 → Calls Try.prog 20 #[u0] W fun e w' => e = .returned (.tuple #[.int .i64 r0, .int .i64 r1, .bool r2]) ∧ Below W.heap.size W w') :
    Calls Try.prog 5 #[v0] w fun e w' => e = .returned (.bool true) ∧ Below w.heap.size w w' := by
  have HS := hide hS
  have HI := hide hI
  have HV0 := hide hv0
  have HL0 := hide hl0
  obtain ⟨a0, cap0, rfl⟩ := hv0.form
  have hr0 : (r0 != r0) = false := by simp
  have hr1 : (r1 != r1) = false := by simp
  have hr2 : (r2 != r2) = false := by simp
  clear hS hI hv0 hl0
  go_enter Try.func5, Try.ntmps5
  go_wp2_with fail
  refine (sz_items _ n0 _ 1048576 _ HL0.out (by omega) (by omega)).mono ?_
  rintro e w1 ⟨⟨q0, rfl, hq0⟩, rfl⟩
  by_cases hn0 : q0 < 0
  · clear hq0
    go_wp2
    go_ret
    exact ⟨rfl, Below.refl _ _⟩
  have hc0 : n0 ≤ 1048576 := by omega
  have HC0 := hide hc0
  have hz0 : 0 ≤ q0 ∧ q0 ≤ 1048576 := by omega
  obtain ⟨hy0, hx0⟩ := hz0
  clear hq0 hc0
  go_wp2_with fail
  refine (to_items _ n0 l0 _ HV0.out HC0.out).mono ?_
  rintro e w3 ⟨⟨rfl, hO⟩, hb⟩
  have hB2 := hb
  clear hb
  have HOs0 := hide hO
  clear hO
  go_wp2_with fail
  refine (HS.out _ _ HC0.out HOs0.out.items).mono ?_
  rintro e w4 ⟨rfl, hb⟩
  have hB3 := hB2.trans (hb.mono hB2.size)
  have HOs0n := hide (HOs0.out.down hb)
  clear HOs0
  have HOs0 := hide HOs0n.out
  clear HOs0n
  clear hB2
  clear hb HS
  clear HOs0
  go_wp2_with fail
  refine (to_items _ n0 l0 _ (HV0.out.below hB3) HC0.out).mono ?_
  rintro e w5 ⟨⟨rfl, hO⟩, hb⟩
  have hB4 := hB3.trans (hb.mono hB3.size)
  clear hB3
  clear hb
  have HOx0 := hide hO
  clear hO
  go_wp2_with fail
  refine (HI.out _ _ HC0.out HOx0.out.items).mono ?_
  rintro e w6 ⟨rfl, hb⟩
  have hB5 := hB4.trans (hb.mono hB4.size)
  have HOx0n := hide (HOx0.out.down hb)
  clear HOx0
  have HOx0 := hide HOx0n.out
  clear HOx0n
  clear hB4
  clear hb HI
  go_wp2_with fail
  refine (to_items _ n0 l0 _ (HV0.out.below hB5) HC0.out).mono ?_
  rintro e w7 ⟨⟨rfl, hO⟩, hb⟩
  have hB6 := hB5.trans (hb.mono hB5.size)
  have HOx0n := hide (HOx0.out.down hb)
  clear HOx0
  have HOx0 := hide HOx0n.out
  clear HOx0n
  clear hB5
  clear hb
  have HOy0 := hide hO
  clear hO
  go_wp2_with fail
  refine (eq_items _ _ n0 l0 _ HOx0.out.items HOy0.out.items HC0.out).mono ?_
  rintro e w8 ⟨rfl, hb⟩
  have hB7 := hB6.trans (hb.mono hB6.size)
  have HOx0n := hide (HOx0.out.down hb)
  clear HOx0
  have HOx0 := hide HOx0n.out
  clear HOx0n
  have HOy0n := hide (HOy0.out.down hb)
  clear HOy0
  have HOy0 := hide HOy0n.out
  clear HOy0n
  clear hB6
  clear hb
  clear HOy0
  clear HOx0
  clear HV0
  go_wp2
  go_ret
  exact ⟨rfl, hB7⟩
set_option maxRecDepth 20000 in
set_option maxHeartbeats 2000000 in
theorem law_newerOf_run (v0 : Value) (n0 : Nat) (l0 : Nat → Im) (v1 : Value) (n1 : Nat) (l1 : Nat → Im)  (r0 : Int) (r1 : Bool) (w : World) (hv0 : ItemsOf w v0 n0 l0) (hl0 : n0 ≤ maxLen) (hv1 : ItemsOf w v1 n1 l1) (hl1 : n1 ≤ maxLen)
    (hS : ∀ (u0 u1 : Value) (W : World), n0 ≤ 1048576 → ItemsOf W u0 n0 l0 → n1 ≤ 1048576 → ItemsOf W u1 n1 l1 → Calls Try.prog 32 #[u0, u1] W fun e w' => e = .returned (.tuple #[.int .i64 r0, .bool r1]) ∧ Below W.heap.size W w')
    (hI : ∀ (u0 u1 : Value) (W : World), n0 ≤ 1048576 → ItemsOf W u0 n0 l0 → n1 ≤ 1048576 → ItemsOf W u1 n1 l1 → Calls Try.prog 33 #[u0, u1] W fun e w' => e = .returned (.tuple #[.int .i64 r0, .bool r1]) ∧ Below W.heap.size W w') :
    Calls Try.prog 10 #[v0, v1] w fun e w' => e = .returned (.bool true) ∧ Below w.heap.size w w' := by
  have HS := hide hS
  have HI := hide hI
  have HV0 := hide hv0
  have HL0 := hide hl0
  obtain ⟨a0, cap0, rfl⟩ := hv0.form
  have HV1 := hide hv1
  have HL1 := hide hl1
  obtain ⟨a1, cap1, rfl⟩ := hv1.form
  have hr0 : (r0 != r0) = false := by simp
  have hr1 : (r1 != r1) = false := by simp
  clear hS hI hv0 hl0 hv1 hl1
  go_enter Try.func10, Try.ntmps10
  go_wp2_with fail
  refine (sz_items _ n0 _ 1048576 _ HL0.out (by omega) (by omega)).mono ?_
  rintro e w1 ⟨⟨q0, rfl, hq0⟩, rfl⟩
  by_cases hn0 : q0 < 0
  · clear hq0
    go_wp2
    go_ret
    exact ⟨rfl, Below.refl _ _⟩
  have hc0 : n0 ≤ 1048576 := by omega
  have HC0 := hide hc0
  have hz0 : 0 ≤ q0 ∧ q0 ≤ 1048576 := by omega
  obtain ⟨hy0, hx0⟩ := hz0
  clear hq0 hc0
  go_wp2_with fail
  refine (sz_items _ n1 _ q0 _ HL1.out (by omega) (by omega)).mono ?_
  rintro e w1 ⟨⟨q1, rfl, hq1⟩, rfl⟩
  by_cases hn1 : q1 < 0
  · clear hq1
    go_wp2
    go_ret
    exact ⟨rfl, Below.refl _ _⟩
  have hc1 : n1 ≤ 1048576 := by omega
  have HC1 := hide hc1
  have hz1 : 0 ≤ q1 ∧ q1 ≤ 1048576 := by omega
  obtain ⟨hy1, hx1⟩ := hz1
  clear hq1 hc1
  go_wp2_with fail
  refine (to_items _ n0 l0 _ HV0.out HC0.out).mono ?_
  rintro e w3 ⟨⟨rfl, hO⟩, hb⟩
  have hB2 := hb
  clear hb
  have HOs0 := hide hO
  clear hO
  go_wp2_with fail
  refine (to_items _ n1 l1 _ (HV1.out.below hB2) HC1.out).mono ?_
  rintro e w4 ⟨⟨rfl, hO⟩, hb⟩
  have hB3 := hB2.trans (hb.mono hB2.size)
  have HOs0n := hide (HOs0.out.down hb)
  clear HOs0
  have HOs0 := hide HOs0n.out
  clear HOs0n
  clear hB2
  clear hb
  have HOs1 := hide hO
  clear hO
  go_wp2_with fail
  refine (HS.out _ _ _ HC0.out HOs0.out.items HC1.out HOs1.out.items).mono ?_
  rintro e w5 ⟨rfl, hb⟩
  have hB4 := hB3.trans (hb.mono hB3.size)
  have HOs0n := hide (HOs0.out.down hb)
  clear HOs0
  have HOs0 := hide HOs0n.out
  clear HOs0n
  have HOs1n := hide (HOs1.out.down hb)
  clear HOs1
  have HOs1 := hide HOs1n.out
  clear HOs1n
  clear hB3
  clear hb HS
  clear HOs0
  clear HOs1
  go_wp2_with fail
  refine (to_items _ n0 l0 _ (HV0.out.below hB4) HC0.out).mono ?_
  rintro e w6 ⟨⟨rfl, hO⟩, hb⟩
  have hB5 := hB4.trans (hb.mono hB4.size)
  clear hB4
  clear hb
  have HOx0 := hide hO
  clear hO
  go_wp2_with fail
  refine (to_items _ n1 l1 _ (HV1.out.below hB5) HC1.out).mono ?_
  rintro e w7 ⟨⟨rfl, hO⟩, hb⟩
  have hB6 := hB5.trans (hb.mono hB5.size)
  have HOx0n := hide (HOx0.out.down hb)
  clear HOx0
  have HOx0 := hide HOx0n.out
  clear HOx0n
  clear hB5
  clear hb
  have HOx1 := hide hO
  clear hO
  go_wp2_with fail
  refine (HI.out _ _ _ HC0.out HOx0.out.items HC1.out HOx1.out.items).mono ?_
  rintro e w8 ⟨rfl, hb⟩
  have hB7 := hB6.trans (hb.mono hB6.size)
  have HOx0n := hide (HOx0.out.down hb)
  clear HOx0
  have HOx0 := hide HOx0n.out
  clear HOx0n
  have HOx1n := hide (HOx1.out.down hb)
  clear HOx1
  have HOx1 := hide HOx1n.out
  clear HOx1n
  clear hB6
  clear hb HI
  go_wp2_with fail
  refine (to_items _ n0 l0 _ (HV0.out.below hB7) HC0.out).mono ?_
  rintro e w9 ⟨⟨rfl, hO⟩, hb⟩
  have hB8 := hB7.trans (hb.mono hB7.size)
  have HOx0n := hide (HOx0.out.down hb)
  clear HOx0
  have HOx0 := hide HOx0n.out
  clear HOx0n
  have HOx1n := hide (HOx1.out.down hb)
  clear HOx1
  have HOx1 := hide HOx1n.out
  clear HOx1n
  clear hB7
  clear hb
  have HOy0 := hide hO
  clear hO
  go_wp2_with fail
  refine (eq_items _ _ n0 l0 _ HOx0.out.items HOy0.out.items HC0.out).mono ?_
  rintro e w10 ⟨rfl, hb⟩
  have hB9 := hB8.trans (hb.mono hB8.size)
  have HOx0n := hide (HOx0.out.down hb)
  clear HOx0
  have HOx0 := hide HOx0n.out
  clear HOx0n
  have HOx1n := hide (HOx1.out.down hb)
  clear HOx1
  have HOx1 := hide HOx1n.out
  clear HOx1n
  have HOy0n := hide (HOy0.out.down hb)
  clear HOy0
  have HOy0 := hide HOy0n.out
  clear HOy0n
  clear hB8
  clear hb
  clear HOy0
  clear HOx0
  go_wp2_with fail
  refine (to_items _ n1 l1 _ (HV1.out.below hB9) HC1.out).mono ?_
  rintro e w11 ⟨⟨rfl, hO⟩, hb⟩
  have hB10 := hB9.trans (hb.mono hB9.size)
  have HOx1n := hide (HOx1.out.down hb)
  clear HOx1
  have HOx1 := hide HOx1n.out
  clear HOx1n
  clear hB9
  clear hb
  have HOy1 := hide hO
  clear hO
  go_wp2_with fail
  refine (eq_items _ _ n1 l1 _ HOx1.out.items HOy1.out.items HC1.out).mono ?_
  rintro e w12 ⟨rfl, hb⟩
  have hB11 := hB10.trans (hb.mono hB10.size)
  have HOx1n := hide (HOx1.out.down hb)
  clear HOx1
  have HOx1 := hide HOx1n.out
  clear HOx1n
  have HOy1n := hide (HOy1.out.down hb)
  clear HOy1
  have HOy1 := hide HOy1n.out
  clear HOy1n
  clear hB10
  clear hb
  clear HOy1
  clear HOx1
  clear HV0 HV1
  go_wp2
  go_ret
  exact ⟨rfl, hB11⟩
set_option maxRecDepth 20000 in
set_option maxHeartbeats 2000000 in
theorem law_isAhead_run (v0 : Value) (n0 : Nat) (l0 : Nat → Im) (v1 : Value) (n1 : Nat) (l1 : Nat → Im)  (r0 : Bool) (r1 : Bool) (w : World) (hv0 : ItemsOf w v0 n0 l0) (hl0 : n0 ≤ maxLen) (hv1 : ItemsOf w v1 n1 l1) (hl1 : n1 ≤ maxLen)
    (hS : ∀ (u0 u1 : Value) (W : World), n0 ≤ 1048576 → ItemsOf W u0 n0 l0 → n1 ≤ 1048576 → ItemsOf W u1 n1 l1 → Calls Try.prog 30 #[u0, u1] W fun e w' => e = .returned (.tuple #[.bool r0, .bool r1]) ∧ Below W.heap.size W w')
    (hI : ∀ (u0 u1 : Value) (W : World), n0 ≤ 1048576 → ItemsOf W u0 n0 l0 → n1 ≤ 1048576 → ItemsOf W u1 n1 l1 → Calls Try.prog 31 #[u0, u1] W fun e w' => e = .returned (.tuple #[.bool r0, .bool r1]) ∧ Below W.heap.size W w') :
    Calls Try.prog 9 #[v0, v1] w fun e w' => e = .returned (.bool true) ∧ Below w.heap.size w w' := by
  have HS := hide hS
  have HI := hide hI
  have HV0 := hide hv0
  have HL0 := hide hl0
  obtain ⟨a0, cap0, rfl⟩ := hv0.form
  have HV1 := hide hv1
  have HL1 := hide hl1
  obtain ⟨a1, cap1, rfl⟩ := hv1.form
  have hr0 : (r0 != r0) = false := by simp
  have hr1 : (r1 != r1) = false := by simp
  clear hS hI hv0 hl0 hv1 hl1
  go_enter Try.func9, Try.ntmps9
  go_wp2_with fail
  refine (sz_items _ n0 _ 1048576 _ HL0.out (by omega) (by omega)).mono ?_
  rintro e w1 ⟨⟨q0, rfl, hq0⟩, rfl⟩
  by_cases hn0 : q0 < 0
  · clear hq0
    go_wp2
    go_ret
    exact ⟨rfl, Below.refl _ _⟩
  have hc0 : n0 ≤ 1048576 := by omega
  have HC0 := hide hc0
  have hz0 : 0 ≤ q0 ∧ q0 ≤ 1048576 := by omega
  obtain ⟨hy0, hx0⟩ := hz0
  clear hq0 hc0
  go_wp2_with fail
  refine (sz_items _ n1 _ q0 _ HL1.out (by omega) (by omega)).mono ?_
  rintro e w1 ⟨⟨q1, rfl, hq1⟩, rfl⟩
  by_cases hn1 : q1 < 0
  · clear hq1
    go_wp2
    go_ret
    exact ⟨rfl, Below.refl _ _⟩
  have hc1 : n1 ≤ 1048576 := by omega
  have HC1 := hide hc1
  have hz1 : 0 ≤ q1 ∧ q1 ≤ 1048576 := by omega
  obtain ⟨hy1, hx1⟩ := hz1
  clear hq1 hc1
  go_wp2_with fail
  refine (to_items _ n0 l0 _ HV0.out HC0.out).mono ?_
  rintro e w3 ⟨⟨rfl, hO⟩, hb⟩
  have hB2 := hb
  clear hb
  have HOs0 := hide hO
  clear hO
  go_wp2_with fail
  refine (to_items _ n1 l1 _ (HV1.out.below hB2) HC1.out).mono ?_
  rintro e w4 ⟨⟨rfl, hO⟩, hb⟩
  have hB3 := hB2.trans (hb.mono hB2.size)
  have HOs0n := hide (HOs0.out.down hb)
  clear HOs0
  have HOs0 := hide HOs0n.out
  clear HOs0n
  clear hB2
  clear hb
  have HOs1 := hide hO
  clear hO
  go_wp2_with fail
  refine (HS.out _ _ _ HC0.out HOs0.out.items HC1.out HOs1.out.items).mono ?_
  rintro e w5 ⟨rfl, hb⟩
  have hB4 := hB3.trans (hb.mono hB3.size)
  have HOs0n := hide (HOs0.out.down hb)
  clear HOs0
  have HOs0 := hide HOs0n.out
  clear HOs0n
  have HOs1n := hide (HOs1.out.down hb)
  clear HOs1
  have HOs1 := hide HOs1n.out
  clear HOs1n
  clear hB3
  clear hb HS
  clear HOs0
  clear HOs1
  go_wp2_with fail
  refine (to_items _ n0 l0 _ (HV0.out.below hB4) HC0.out).mono ?_
  rintro e w6 ⟨⟨rfl, hO⟩, hb⟩
  have hB5 := hB4.trans (hb.mono hB4.size)
  clear hB4
  clear hb
  have HOx0 := hide hO
  clear hO
  go_wp2_with fail
  refine (to_items _ n1 l1 _ (HV1.out.below hB5) HC1.out).mono ?_
  rintro e w7 ⟨⟨rfl, hO⟩, hb⟩
  have hB6 := hB5.trans (hb.mono hB5.size)
  have HOx0n := hide (HOx0.out.down hb)
  clear HOx0
  have HOx0 := hide HOx0n.out
  clear HOx0n
  clear hB5
  clear hb
  have HOx1 := hide hO
  clear hO
  go_wp2_with fail
  refine (HI.out _ _ _ HC0.out HOx0.out.items HC1.out HOx1.out.items).mono ?_
  rintro e w8 ⟨rfl, hb⟩
  have hB7 := hB6.trans (hb.mono hB6.size)
  have HOx0n := hide (HOx0.out.down hb)
  clear HOx0
  have HOx0 := hide HOx0n.out
  clear HOx0n
  have HOx1n := hide (HOx1.out.down hb)
  clear HOx1
  have HOx1 := hide HOx1n.out
  clear HOx1n
  clear hB6
  clear hb HI
  go_wp2_with fail
  refine (to_items _ n0 l0 _ (HV0.out.below hB7) HC0.out).mono ?_
  rintro e w9 ⟨⟨rfl, hO⟩, hb⟩
  have hB8 := hB7.trans (hb.mono hB7.size)
  have HOx0n := hide (HOx0.out.down hb)
  clear HOx0
  have HOx0 := hide HOx0n.out
  clear HOx0n
  have HOx1n := hide (HOx1.out.down hb)
  clear HOx1
  have HOx1 := hide HOx1n.out
  clear HOx1n
  clear hB7
  clear hb
  have HOy0 := hide hO
  clear hO
  go_wp2_with fail
  refine (eq_items _ _ n0 l0 _ HOx0.out.items HOy0.out.items HC0.out).mono ?_
  rintro e w10 ⟨rfl, hb⟩
  have hB9 := hB8.trans (hb.mono hB8.size)
  have HOx0n := hide (HOx0.out.down hb)
  clear HOx0
  have HOx0 := hide HOx0n.out
  clear HOx0n
  have HOx1n := hide (HOx1.out.down hb)
  clear HOx1
  have HOx1 := hide HOx1n.out
  clear HOx1n
  have HOy0n := hide (HOy0.out.down hb)
  clear HOy0
  have HOy0 := hide HOy0n.out
  clear HOy0n
  clear hB8
  clear hb
  clear HOy0
  clear HOx0
  go_wp2_with fail
  refine (to_items _ n1 l1 _ (HV1.out.below hB9) HC1.out).mono ?_
  rintro e w11 ⟨⟨rfl, hO⟩, hb⟩
  have hB10 := hB9.trans (hb.mono hB9.size)
  have HOx1n := hide (HOx1.out.down hb)
  clear HOx1
  have HOx1 := hide HOx1n.out
  clear HOx1n
  clear hB9
  clear hb
  have HOy1 := hide hO
  clear hO
  go_wp2_with fail
  refine (eq_items _ _ n1 l1 _ HOx1.out.items HOy1.out.items HC1.out).mono ?_
  rintro e w12 ⟨rfl, hb⟩
  have hB11 := hB10.trans (hb.mono hB10.size)
  have HOx1n := hide (HOx1.out.down hb)
  clear HOx1
  have HOx1 := hide HOx1n.out
  clear HOx1n
  have HOy1n := hide (HOy1.out.down hb)
  clear HOy1
  have HOy1 := hide HOy1n.out
  clear HOy1n
  clear hB10
  clear hb
  clear HOy1
  clear HOx1
  clear HV0 HV1
  go_wp2
  go_ret
  exact ⟨rfl, hB11⟩
end Go.Proofs.Ytbajiamkgffhkaa
