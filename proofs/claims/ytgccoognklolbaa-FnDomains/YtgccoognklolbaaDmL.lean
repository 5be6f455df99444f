/-
  The laws of GoodDomains, LeaderOf and KnowsAll, walked: each returns true and turns nothing that was there, wherever both texts tell the same.
-/
import Derived.Test.YtgccoognklolbaaDmA
namespace Go.Proofs.Ytgccoognklolbaa
open Go.RowKit M
set_option maxRecDepth 20000 in
set_option maxHeartbeats 2000000 in
theorem law_good_run (v0 : Value) (l0 : Dms) (r0 : Bool) (w : World) (hv0 : DomsOf w v0 l0) (hl0 : LenD l0)
    (hS : ∀ (u0 : Value) (W : World), l0.length ≤ 1048576 → DomsOf W u0 l0 → Calls Try.prog 20 #[u0] W fun e w' => e = .returned (.bool r0) ∧ Below W.heap.size W w')
    (hI : ∀ (u0 : Value) (W : World), l0.length ≤ 1048576 → DomsOf W u0 l0 → Calls Try.prog 22 #[u0] W fun e w' => e = .returned (.bool r0) ∧ Below W.heap.size W w') :
    Calls Try.prog 6 #[v0] w fun e w' => e = .returned (.bool true) ∧ Below w.heap.size w w' := by
  have HS := hide hS
  have HI := hide hI
  have HV0 := hide hv0
  have HL0 := hide hl0
  obtain ⟨a0, cap0, rfl⟩ := hv0.form
  have hr0 : (r0 != r0) = false := by simp
  clear hS hI hv0 hl0
  go_enter Try.func6, Try.ntmps6
  go_wp2_with fail
  refine (sz_doms _ l0 1048576 _ HV0.out HL0.out (by omega) (by omega)).mono ?_
  rintro e w1 ⟨⟨q0, rfl, hq0⟩, hb⟩
  have hB1 := hb
  clear hb
  by_cases hn0 : q0 < 0
  · clear hq0
    go_wp2
    go_ret
    exact ⟨rfl, hB1⟩
  have hc0 : l0.length ≤ 1048576 := by omega
  have HC0 := hide hc0
  have hz0 : 0 ≤ q0 ∧ q0 ≤ 1048576 := by omega
  obtain ⟨hy0, hx0⟩ := hz0
  clear hq0 hc0
  go_wp2_with fail
  refine (to_doms _ l0 _ (HV0.out.below hB1) HC0.out).mono ?_
  rintro e w2 ⟨⟨rfl, hO⟩, hb⟩
  have hB2 := hB1.trans (hb.mono hB1.size)
  clear hB1
  clear hb
  have HOs0 := hide hO
  clear hO
  go_wp2_with fail
  refine (HS.out _ _ HC0.out HOs0.out.doms).mono ?_
  rintro e w3 ⟨rfl, hb⟩
  have hB3 := hB2.trans (hb.mono hB2.size)
  have HOs0n := hide (HOs0.out.down hb)
  clear HOs0
  have HOs0 := hide HOs0n.out
  clear HOs0n
  clear hB2
  clear hb
  clear HS
  clear HOs0
  go_wp2_with fail
  refine (to_doms _ l0 _ (HV0.out.below hB3) HC0.out).mono ?_
  rintro e w4 ⟨⟨rfl, hO⟩, hb⟩
  have hB4 := hB3.trans (hb.mono hB3.size)
  clear hB3
  clear hb
  have HOx0 := hide hO
  clear hO
  go_wp2_with fail
  refine (HI.out _ _ HC0.out HOx0.out.doms).mono ?_
  rintro e w5 ⟨rfl, hb⟩
  have hB5 := hB4.trans (hb.mono hB4.size)
  have HOx0n := hide (HOx0.out.down hb)
  clear HOx0
  have HOx0 := hide HOx0n.out
  clear HOx0n
  clear hB4
  clear hb
  clear HI
  go_wp2_with fail
  refine (to_doms _ l0 _ (HV0.out.below hB5) HC0.out).mono ?_
  rintro e w6 ⟨⟨rfl, hO⟩, hb⟩
  have hB6 := hB5.trans (hb.mono hB5.size)
  have HOx0n := hide (HOx0.out.down hb)
  clear HOx0
  have HOx0 := hide HOx0n.out
  clear HOx0n
  clear hB5
  clear hb
  have HOy0 := hide hO
  clear hO
  go_wp2_with fail
  refine (eq_doms _ _ l0 _ HOx0.out.doms HOy0.out.doms HC0.out).mono ?_
  rintro e w7 ⟨rfl, hb⟩
  have hB7 := hB6.trans (hb.mono hB6.size)
  have HOx0n := hide (HOx0.out.down hb)
  clear HOx0
  have HOx0 := hide HOx0n.out
  clear HOx0n
  have HOy0n := hide (HOy0.out.down hb)
  clear HOy0
  have HOy0 := hide HOy0n.out
  clear HOy0n
  clear hB6
  clear hb
  clear HOy0
  clear HOx0
  clear HV0
  go_wp2
  go_ret
  exact ⟨rfl, hB7⟩
set_option maxRecDepth 20000 in
set_option maxHeartbeats 2000000 in
theorem law_leader_run (v0 : Value) (l0 : Dms) (nm : ByteArray) (r0 : Int) (r1 : Bool) (w : World) (hv0 : DomsOf w v0 l0) (hl0 : LenD l0) (hnm : nm.size ≤ maxLen)
    (hS : ∀ (u0 : Value) (W : World), l0.length ≤ 1048576 → DomsOf W u0 l0 → Calls Try.prog 30 #[u0, .string nm] W fun e w' => e = .returned (.tuple #[.int .i64 r0, .bool r1]) ∧ Below W.heap.size W w')
    (hI : ∀ (u0 : Value) (W : World), l0.length ≤ 1048576 → DomsOf W u0 l0 → Calls Try.prog 31 #[u0, .string nm] W fun e w' => e = .returned (.tuple #[.int .i64 r0, .bool r1]) ∧ Below W.heap.size W w') :
    Calls Try.prog 9 #[v0, .string nm] w fun e w' => e = .returned (.bool true) ∧ Below w.heap.size w w' := by
  have HS := hide hS
  have HI := hide hI
  have HV0 := hide hv0
  have HL0 := hide hl0
  obtain ⟨a0, cap0, rfl⟩ := hv0.form
  have hr0 : (r0 != r0) = false := by simp
  have hr1 : (r1 != r1) = false := by simp
  clear hS hI hv0 hl0
  unfold maxLen at hnm
  by_cases hbig : 1048576 < nm.size
  · have hbig2 : (1048576 : Int) < (nm.size : Int) := by omega
    go_enter Try.func9, Try.ntmps9
    go_wp2
    go_ret
    exact ⟨rfl, Below.refl _ _⟩
  have hbig2 : ¬ (1048576 : Int) < (nm.size : Int) := by omega
  go_enter Try.func9, Try.ntmps9
  go_wp2_with fail
  refine (sz_doms _ l0 1048576 _ HV0.out HL0.out (by omega) (by omega)).mono ?_
  rintro e w1 ⟨⟨q0, rfl, hq0⟩, hb⟩
  have hB1 := hb
  clear hb
  by_cases hn0 : q0 < 0
  · clear hq0
    go_wp2
    go_ret
    exact ⟨rfl, hB1⟩
  have hc0 : l0.length ≤ 1048576 := by omega
  have HC0 := hide hc0
  have hz0 : 0 ≤ q0 ∧ q0 ≤ 1048576 := by omega
  obtain ⟨hy0, hx0⟩ := hz0
  clear hq0 hc0
  go_wp2_with fail
  refine (to_doms _ l0 _ (HV0.out.below hB1) HC0.out).mono ?_
  rintro e w2 ⟨⟨rfl, hO⟩, hb⟩
  have hB2 := hB1.trans (hb.mono hB1.size)
  clear hB1
  clear hb
  have HOs0 := hide hO
  clear hO
  go_wp2_with fail
  refine (HS.out _ _ HC0.out HOs0.out.doms).mono ?_
  rintro e w3 ⟨rfl, hb⟩
  have hB3 := hB2.trans (hb.mono hB2.size)
  have HOs0n := hide (HOs0.out.down hb)
  clear HOs0
  have HOs0 := hide HOs0n.out
  clear HOs0n
  clear hB2
  clear hb
  clear HS
  clear HOs0
  go_wp2_with fail
  refine (to_doms _ l0 _ (HV0.out.below hB3) HC0.out).mono ?_
  rintro e w4 ⟨⟨rfl, hO⟩, hb⟩
  have hB4 := hB3.trans (hb.mono hB3.size)
  clear hB3
  clear hb
  have HOx0 := hide hO
  clear hO
  go_wp2_with fail
  refine (HI.out _ _ HC0.out HOx0.out.doms).mono ?_
  rintro e w5 ⟨rfl, hb⟩
  have hB5 := hB4.trans (hb.mono hB4.size)
  have HOx0n := hide (HOx0.out.down hb)
  clear HOx0
  have HOx0 := hide HOx0n.out
  clear HOx0n
  clear hB4
  clear hb
  clear HI
  go_wp2_with fail
  refine (to_doms _ l0 _ (HV0.out.below hB5) HC0.out).mono ?_
  rintro e w6 ⟨⟨rfl, hO⟩, hb⟩
  have hB6 := hB5.trans (hb.mono hB5.size)
  have HOx0n := hide (HOx0.out.down hb)
  clear HOx0
  have HOx0 := hide HOx0n.out
  clear HOx0n
  clear hB5
  clear hb
  have HOy0 := hide hO
  clear hO
  go_wp2_with fail
  refine (eq_doms _ _ l0 _ HOx0.out.doms HOy0.out.doms HC0.out).mono ?_
  rintro e w7 ⟨rfl, hb⟩
  have hB7 := hB6.trans (hb.mono hB6.size)
  have HOx0n := hide (HOx0.out.down hb)
  clear HOx0
  have HOx0 := hide HOx0n.out
  clear HOx0n
  have HOy0n := hide (HOy0.out.down hb)
  clear HOy0
  have HOy0 := hide HOy0n.out
  clear HOy0n
  clear hB6
  clear hb
  clear HOy0
  clear HOx0
  clear HV0
  go_wp2
  go_ret
  exact ⟨rfl, hB7⟩
set_option maxRecDepth 20000 in
set_option maxHeartbeats 2000000 in
theorem law_knows_run (v0 : Value) (l0 : Dms) (v1 : Value) (l1 : Dms) (r0 : Bool) (r1 : Bool) (w : World) (hv0 : DomsOf w v0 l0) (hl0 : LenD l0) (hv1 : DomsOf w v1 l1) (hl1 : LenD l1)
    (hS : ∀ (u0 u1 : Value) (W : World), l0.length ≤ 1048576 → DomsOf W u0 l0 → l1.length ≤ 1048576 → DomsOf W u1 l1 → Calls Try.prog 32 #[u0, u1] W fun e w' => e = .returned (.tuple #[.bool r0, .bool r1]) ∧ Below W.heap.size W w')
    (hI : ∀ (u0 u1 : Value) (W : World), l0.length ≤ 1048576 → DomsOf W u0 l0 → l1.length ≤ 1048576 → DomsOf W u1 l1 → Calls Try.prog 33 #[u0, u1] W fun e w' => e = .returned (.tuple #[.bool r0, .bool r1]) ∧ Below W.heap.size W w') :
    Calls Try.prog 10 #[v0, v1] w fun e w' => e = .returned (.bool true) ∧ Below w.heap.size w w' := by
  have HS := hide hS
  have HI := hide hI
  have HV0 := hide hv0
  have HL0 := hide hl0
  obtain ⟨a0, cap0, rfl⟩ := hv0.form
  have HV1 := hide hv1
  have HL1 := hide hl1
  obtain ⟨a1, cap1, rfl⟩ := hv1.form
  have hr0 : (r0 != r0) = false := by simp
  have hr1 : (r1 != r1) = false := by simp
  clear hS hI hv0 hl0 hv1 hl1
  go_enter Try.func10, Try.ntmps10
  go_wp2_with fail
  refine (sz_doms _ l0 1048576 _ HV0.out HL0.out (by omega) (by omega)).mono ?_
  rintro e w1 ⟨⟨q0, rfl, hq0⟩, hb⟩
  have hB1 := hb
  clear hb
  by_cases hn0 : q0 < 0
  · clear hq0
    go_wp2
    go_ret
    exact ⟨rfl, hB1⟩
  have hc0 : l0.length ≤ 1048576 := by omega
  have HC0 := hide hc0
  have hz0 : 0 ≤ q0 ∧ q0 ≤ 1048576 := by omega
  obtain ⟨hy0, hx0⟩ := hz0
  clear hq0 hc0
  go_wp2_with fail
  refine (sz_doms _ l1 q0 _ (HV1.out.below hB1) HL1.out (by omega) (by omega)).mono ?_
  rintro e w2 ⟨⟨q1, rfl, hq1⟩, hb⟩
  have hB2 := hB1.trans (hb.mono hB1.size)
  clear hB1
  clear hb
  by_cases hn1 : q1 < 0
  · clear hq1
    go_wp2
    go_ret
    exact ⟨rfl, hB2⟩
  have hc1 : l1.length ≤ 1048576 := by omega
  have HC1 := hide hc1
  have hz1 : 0 ≤ q1 ∧ q1 ≤ 1048576 := by omega
  obtain ⟨hy1, hx1⟩ := hz1
  clear hq1 hc1
  go_wp2_with fail
  refine (to_doms _ l0 _ (HV0.out.below hB2) HC0.out).mono ?_
  rintro e w3 ⟨⟨rfl, hO⟩, hb⟩
  have hB3 := hB2.trans (hb.mono hB2.size)
  clear hB2
  clear hb
  have HOs0 := hide hO
  clear hO
  go_wp2_with fail
  refine (to_doms _ l1 _ (HV1.out.below hB3) HC1.out).mono ?_
  rintro e w4 ⟨⟨rfl, hO⟩, hb⟩
  have hB4 := hB3.trans (hb.mono hB3.size)
  have HOs0n := hide (HOs0.out.down hb)
  clear HOs0
  have HOs0 := hide HOs0n.out
  clear HOs0n
  clear hB3
  clear hb
  have HOs1 := hide hO
  clear hO
  go_wp2_with fail
  refine (HS.out _ _ _ HC0.out HOs0.out.doms HC1.out HOs1.out.doms).mono ?_
  rintro e w5 ⟨rfl, hb⟩
  have hB5 := hB4.trans (hb.mono hB4.size)
  have HOs0n := hide (HOs0.out.down hb)
  clear HOs0
  have HOs0 := hide HOs0n.out
  clear HOs0n
  have HOs1n := hide (HOs1.out.down hb)
  clear HOs1
  have HOs1 := hide HOs1n.out
  clear HOs1n
  clear hB4
  clear hb
  clear HS
  clear HOs0
  clear HOs1
  go_wp2_with fail
  refine (to_doms _ l0 _ (HV0.out.below hB5) HC0.out).mono ?_
  rintro e w6 ⟨⟨rfl, hO⟩, hb⟩
  have hB6 := hB5.trans (hb.mono hB5.size)
  clear hB5
  clear hb
  have HOx0 := hide hO
  clear hO
  go_wp2_with fail
  refine (to_doms _ l1 _ (HV1.out.below hB6) HC1.out).mono ?_
  rintro e w7 ⟨⟨rfl, hO⟩, hb⟩
  have hB7 := hB6.trans (hb.mono hB6.size)
  have HOx0n := hide (HOx0.out.down hb)
  clear HOx0
  have HOx0 := hide HOx0n.out
  clear HOx0n
  clear hB6
  clear hb
  have HOx1 := hide hO
  clear hO
  go_wp2_with fail
  refine (HI.out _ _ _ HC0.out HOx0.out.doms HC1.out HOx1.out.doms).mono ?_
  rintro e w8 ⟨rfl, hb⟩
  have hB8 := hB7.trans (hb.mono hB7.size)
  have HOx0n := hide (HOx0.out.down hb)
  clear HOx0
  have HOx0 := hide HOx0n.out
  clear HOx0n
  have HOx1n := hide (HOx1.out.down hb)
  clear HOx1
  have HOx1 := hide HOx1n.out
  clear HOx1n
  clear hB7
  clear hb
  clear HI
  go_wp2_with fail
  refine (to_doms _ l0 _ (HV0.out.below hB8) HC0.out).mono ?_
  rintro e w9 ⟨⟨rfl, hO⟩, hb⟩
  have hB9 := hB8.trans (hb.mono hB8.size)
  have HOx0n := hide (HOx0.out.down hb)
  clear HOx0
  have HOx0 := hide HOx0n.out
  clear HOx0n
  have HOx1n := hide (HOx1.out.down hb)
  clear HOx1
  have HOx1 := hide HOx1n.out
  clear HOx1n
  clear hB8
  clear hb
  have HOy0 := hide hO
  clear hO
  go_wp2_with fail
  refine (eq_doms _ _ l0 _ HOx0.out.doms HOy0.out.doms HC0.out).mono ?_
  rintro e w10 ⟨rfl, hb⟩
  have hB10 := hB9.trans (hb.mono hB9.size)
  have HOx0n := hide (HOx0.out.down hb)
  clear HOx0
  have HOx0 := hide HOx0n.out
  clear HOx0n
  have HOx1n := hide (HOx1.out.down hb)
  clear HOx1
  have HOx1 := hide HOx1n.out
  clear HOx1n
  have HOy0n := hide (HOy0.out.down hb)
  clear HOy0
  have HOy0 := hide HOy0n.out
  clear HOy0n
  clear hB9
  clear hb
  clear HOy0
  clear HOx0
  go_wp2_with fail
  refine (to_doms _ l1 _ (HV1.out.below hB10) HC1.out).mono ?_
  rintro e w11 ⟨⟨rfl, hO⟩, hb⟩
  have hB11 := hB10.trans (hb.mono hB10.size)
  have HOx1n := hide (HOx1.out.down hb)
  clear HOx1
  have HOx1 := hide HOx1n.out
  clear HOx1n
  clear hB10
  clear hb
  have HOy1 := hide hO
  clear hO
  go_wp2_with fail
  refine (eq_doms _ _ l1 _ HOx1.out.doms HOy1.out.doms HC1.out).mono ?_
  rintro e w12 ⟨rfl, hb⟩
  have hB12 := hB11.trans (hb.mono hB11.size)
  have HOx1n := hide (HOx1.out.down hb)
  clear HOx1
  have HOx1 := hide HOx1n.out
  clear HOx1n
  have HOy1n := hide (HOy1.out.down hb)
  clear HOy1
  have HOy1 := hide HOy1n.out
  clear HOy1n
  clear hB11
  clear hb
  clear HOy1
  clear HOx1
  clear HV0 HV1
  go_wp2
  go_ret
  exact ⟨rfl, hB12⟩
end Go.Proofs.Ytgccoognklolbaa
