/-
  The laws of FailOver and MergeDomains, walked: each returns true and turns nothing that was there, wherever both texts tell the same domains.
-/
import Derived.Test.YtgccoognklolbaaDmS
namespace Go.Proofs.Ytgccoognklolbaa
open Go.RowKit M
namespace M
/-- What is held while the law goes on: what the program answered (from block B on), the copies that were handed in, what the specification answered. -/
structure L1D (w A W : World) (n0 g0 : Nat) (l0 : Dms) (B : Nat) (r : Value) (f : Dms) : Prop where
  low : Below w.heap.size w W
  sp : Below A.heap.size A W
  inn0 : OwnD W A.heap.size (.slice (some ⟨g0, 0, none⟩) n0 n0) l0
  out : OwnD W B r f
  ge0 : A.heap.size ≤ g0
  gt0 : g0 < B
  lo : w.heap.size ≤ A.heap.size
  bs : B ≤ W.heap.size
theorem L1D.down {w A W W' : World} {n0 g0 : Nat} {l0 : Dms} {B : Nat} {r : Value} {f : Dms} (h : L1D w A W n0 g0 l0 B r f) (hb : Below W.heap.size W W') : L1D w A W' n0 g0 l0 B r f :=
  ⟨h.low.trans (hb.mono h.low.size), h.sp.trans (hb.mono h.sp.size), h.inn0.down hb, h.out.down hb, h.ge0, h.gt0, h.lo, Nat.le_trans h.bs hb.size⟩
theorem L1D.mark0 {w A W W' : World} {n0 g0 : Nat} {l0 : Dms} {B : Nat} {r : Value} {f : Dms} {l0' : Dms} (h : L1D w A W n0 g0 l0 B r f) (hg : W.grownBy W' (some g0)) (hk : OwnD W' A.heap.size (.slice (some ⟨g0, 0, none⟩) n0 n0) l0') : L1D w A W' n0 g0 l0' B r f :=
  have h1 := h.ge0
  have h2 := h.lo
  have h3 := h.sp.size
  have h4 := h.gt0
  ⟨h.low.grown hg h.low.size (fun q hq => by simp only [Option.some.injEq] at hq; omega), h.sp.grown hg h3 (fun q hq => by simp only [Option.some.injEq] at hq; omega), hk, h.out.other hg (fun g hg' e => by have := (h.out.lt hg').1; simp only [Option.some.injEq] at e; omega), h.ge0, h.gt0, h.lo, Nat.le_trans h.bs hg.size⟩
theorem L1D.marks {w A W W' : World} {n0 g0 : Nat} {l0 : Dms} {B : Nat} {r : Value} {f : Dms} {f' : Dms} (h : L1D w A W n0 g0 l0 B r f) (hg : W.grownBy W' r.ownBlock) (hk : OwnD W' B r f') : L1D w A W' n0 g0 l0 B r f' :=
  have a0 := h.ge0
  have b0 := h.gt0
  have h2 := h.lo
  have h3 := h.sp.size
  ⟨h.low.grown hg h.low.size (fun q hq => by have := (h.out.lt hq).1; omega), h.sp.grown hg h3 (fun q hq => by have := (h.out.lt hq).1; omega), h.inn0.other hg (fun g hg' e => by have := (h.out.lt e.symm).1; simp only [Value.ownBlock, Option.some.injEq] at hg'; omega), hk, h.ge0, h.gt0, h.lo, Nat.le_trans h.bs hg.size⟩
end M
namespace M
/-- What is held while the law goes on: what the program answered (from block B on), the copies that were handed in, what the specification answered. -/
structure L2D (w A W : World) (n0 n1 g0 g1 : Nat) (l0 l1 : Dms) (B : Nat) (r : Value) (f : Dms) : Prop where
  low : Below w.heap.size w W
  sp : Below A.heap.size A W
  inn0 : OwnD W A.heap.size (.slice (some ⟨g0, 0, none⟩) n0 n0) l0
  inn1 : OwnD W A.heap.size (.slice (some ⟨g1, 0, none⟩) n1 n1) l1
  out : OwnD W B r f
  ge0 : A.heap.size ≤ g0
  gt0 : g0 < B
  ge1 : A.heap.size ≤ g1
  gt1 : g1 < B
  ne : g0 ≠ g1
  lo : w.heap.size ≤ A.heap.size
  bs : B ≤ W.heap.size
theorem L2D.down {w A W W' : World} {n0 n1 g0 g1 : Nat} {l0 l1 : Dms} {B : Nat} {r : Value} {f : Dms} (h : L2D w A W n0 n1 g0 g1 l0 l1 B r f) (hb : Below W.heap.size W W') : L2D w A W' n0 n1 g0 g1 l0 l1 B r f :=
  ⟨h.low.trans (hb.mono h.low.size), h.sp.trans (hb.mono h.sp.size), h.inn0.down hb, h.inn1.down hb, h.out.down hb, h.ge0, h.gt0, h.ge1, h.gt1, h.ne, h.lo, Nat.le_trans h.bs hb.size⟩
theorem L2D.mark0 {w A W W' : World} {n0 n1 g0 g1 : Nat} {l0 l1 : Dms} {B : Nat} {r : Value} {f : Dms} {l0' : Dms} (h : L2D w A W n0 n1 g0 g1 l0 l1 B r f) (hg : W.grownBy W' (some g0)) (hk : OwnD W' A.heap.size (.slice (some ⟨g0, 0, none⟩) n0 n0) l0') : L2D w A W' n0 n1 g0 g1 l0' l1 B r f :=
  have h1 := h.ge0
  have h2 := h.lo
  have h3 := h.sp.size
  have h4 := h.gt0
  ⟨h.low.grown hg h.low.size (fun q hq => by simp only [Option.some.injEq] at hq; omega), h.sp.grown hg h3 (fun q hq => by simp only [Option.some.injEq] at hq; omega), hk, h.inn1.other hg (fun g hg' e => by simp only [Value.ownBlock, Option.some.injEq] at hg' e; have := h.ne; omega), h.out.other hg (fun g hg' e => by have := (h.out.lt hg').1; simp only [Option.some.injEq] at e; omega), h.ge0, h.gt0, h.ge1, h.gt1, h.ne, h.lo, Nat.le_trans h.bs hg.size⟩
theorem L2D.mark1 {w A W W' : World} {n0 n1 g0 g1 : Nat} {l0 l1 : Dms} {B : Nat} {r : Value} {f : Dms} {l1' : Dms} (h : L2D w A W n0 n1 g0 g1 l0 l1 B r f) (hg : W.grownBy W' (some g1)) (hk : OwnD W' A.heap.size (.slice (some ⟨g1, 0, none⟩) n1 n1) l1') : L2D w A W' n0 n1 g0 g1 l0 l1' B r f :=
  have h1 := h.ge1
  have h2 := h.lo
  have h3 := h.sp.size
  have h4 := h.gt1
  ⟨h.low.grown hg h.low.size (fun q hq => by simp only [Option.some.injEq] at hq; omega), h.sp.grown hg h3 (fun q hq => by simp only [Option.some.injEq] at hq; omega), h.inn0.other hg (fun g hg' e => by simp only [Value.ownBlock, Option.some.injEq] at hg' e; have := h.ne; omega), hk, h.out.other hg (fun g hg' e => by have := (h.out.lt hg').1; simp only [Option.some.injEq] at e; omega), h.ge0, h.gt0, h.ge1, h.gt1, h.ne, h.lo, Nat.le_trans h.bs hg.size⟩
theorem L2D.marks {w A W W' : World} {n0 n1 g0 g1 : Nat} {l0 l1 : Dms} {B : Nat} {r : Value} {f : Dms} {f' : Dms} (h : L2D w A W n0 n1 g0 g1 l0 l1 B r f) (hg : W.grownBy W' r.ownBlock) (hk : OwnD W' B r f') : L2D w A W' n0 n1 g0 g1 l0 l1 B r f' :=
  have a0 := h.ge0
  have b0 := h.gt0
  have a1 := h.ge1
  have b1 := h.gt1
  have h2 := h.lo
  have h3 := h.sp.size
  ⟨h.low.grown hg h.low.size (fun q hq => by have := (h.out.lt hq).1; omega), h.sp.grown hg h3 (fun q hq => by have := (h.out.lt hq).1; omega), h.inn0.other hg (fun g hg' e => by have := (h.out.lt e.symm).1; simp only [Value.ownBlock, Option.some.injEq] at hg'; omega), h.inn1.other hg (fun g hg' e => by have := (h.out.lt e.symm).1; simp only [Value.ownBlock, Option.some.injEq] at hg'; omega), hk, h.ge0, h.gt0, h.ge1, h.gt1, h.ne, h.lo, Nat.le_trans h.bs hg.size⟩
end M
set_option maxRecDepth 20000 in
set_option maxHeartbeats 4000000 in
theorem law_fail_run (v0 : Value) (l0 : Dms) (nm : ByteArray) (x0 : Int) (f : Dms) (ok : Bool) (w : World) (hv0 : DomsOf w v0 l0) (hl0 : LenD l0) (hnm : nm.size ≤ maxLen)
    (hq : l0.length ≤ 1048576 → f.length ≤ 1048576)
    (hS : l0.length ≤ 1048576 → ∀ (b0 : Nat) (W : World), DomsOf W (.slice (some ⟨b0, 0, none⟩) l0.length l0.length) l0 → Calls Try.prog 24 #[.slice (some ⟨b0, 0, none⟩) l0.length l0.length, .string nm, .int .i64 x0] W fun e w' => (∃ u, e = .returned (.tuple #[u, .bool ok]) ∧ OwnD w' W.heap.size u f) ∧ Below W.heap.size W w')
    (hI : l0.length ≤ 1048576 → ∀ (b0 : Nat) (W : World), DomsOf W (.slice (some ⟨b0, 0, none⟩) l0.length l0.length) l0 → Calls Try.prog 25 #[.slice (some ⟨b0, 0, none⟩) l0.length l0.length, .string nm, .int .i64 x0] W fun e w' => (∃ u, e = .returned (.tuple #[u, .bool ok]) ∧ OwnD w' W.heap.size u f) ∧ Below W.heap.size W w') :
    Calls Try.prog 7 #[v0, .string nm, .int .i64 x0] w fun e w' => e = .returned (.bool true) ∧ Below w.heap.size w w' := by
  have HS0 := hide hS
  have HI0 := hide hI
  have HQ0 := hide hq
  have HV0 := hide hv0
  have HL0 := hide hl0
  obtain ⟨a0, cap0, rfl⟩ := hv0.form
  have hok : (ok != ok) = false := by simp
  clear hS hI hq hv0 hl0
  unfold maxLen at hnm
  by_cases hbig : 1048576 < nm.size
  · have hbig2 : (1048576 : Int) < (nm.size : Int) := by omega
    go_enter Try.func7, Try.ntmps7
    go_wp2
    go_ret
    exact ⟨rfl, Below.refl _ _⟩
  have hbig2 : ¬ (1048576 : Int) < (nm.size : Int) := by omega
  go_enter Try.func7, Try.ntmps7
  go_wp2_with fail
  refine (sz_doms _ l0 1048576 _ HV0.out HL0.out (by omega) (by omega)).mono ?_
  rintro e w1 ⟨⟨q0, rfl, hq0⟩, hb⟩
  have hB1 := hb
  clear hb
  by_cases hn0 : q0 < 0
  · clear hq0
    go_wp2
    go_ret
    exact ⟨rfl, hB1⟩
  have hc0 : l0.length ≤ 1048576 := by omega
  have HC0 := hide hc0
  have hz0 : 0 ≤ q0 ∧ q0 ≤ 1048576 := by omega
  obtain ⟨hy0, hx0⟩ := hz0
  clear hq0 hc0
  have HQ := hide (HQ0.out HC0.out)
  have HS := hide (HS0.out HC0.out)
  have HI := hide (HI0.out HC0.out)
  clear HQ0 HS0 HI0
  obtain ⟨mm0, hmm0⟩ : ∃ mm0, 1 + l0.length * 3 = mm0 := ⟨_, rfl⟩
  have HM0 := hide hmm0
  have hmk0 : 1 ≤ mm0 ∧ mm0 ≤ 10000000 := by have := HC0.out; omega
  have hkn : ¬ ((mm0 : Int) < 0) := by omega
  obtain ⟨mo, hmo⟩ : ∃ mo, 1 + f.length * 3 = mo := ⟨_, rfl⟩
  have HMO := hide hmo
  have hm0 : ¬ ((mo : Int) < 0) := by omega
  have hm1 : ((mo : Int) != (mo : Int)) = false := by simp
  clear hmo hmm0
  go_wp2_with fail
  refine (to_doms _ l0 _ (HV0.out.below hB1) HC0.out).mono ?_
  rintro e w2 ⟨⟨rfl, hO⟩, hb⟩
  have hB2 := hB1.trans (hb.mono hB1.size)
  have HT0 := hide hO.doms
  clear hO hb
  clear hB1
  go_wp2_with fail
  refine (HS.out _ _ HT0.out).mono ?_
  rintro e w3 ⟨⟨rs, rfl, hR⟩, hb⟩
  have hB3 := hB2.trans (hb.mono hB2.size)
  have HR := hide hR.doms
  obtain ⟨asp, csp, rfl⟩ := hR.form
  clear hb hR HS HT0
  clear hB2
  have HBA := hide hB3
  go_wp2_with fail
  refine (to_doms _ l0 _ (HV0.out.below hB3) HC0.out).mono ?_
  rintro e w4 ⟨⟨rfl, hO⟩, hb⟩
  have hs0 := hb
  have HX0 := hide hO
  have HG0 := hide (show w3.heap.size ≤ w3.heap.size ∧ w3.heap.size < w4.heap.size from ⟨Nat.le_refl _, (HX0.out.lt rfl).2⟩)
  clear hO hb
  clear hB3
  go_wp2_with fail
  refine (HI.out _ _ HX0.out.doms).mono ?_
  rintro e w5 ⟨⟨r, rfl, hA⟩, hb⟩
  obtain ⟨ar, cr, rfl⟩ := hA.form
  have hlow := (HBA.out.trans (hs0.mono HBA.out.size))
  have HL := hide (show L1D w w3 w5 l0.length w3.heap.size l0 w4.heap.size (.slice ar f.length cr) f from ⟨hlow.trans (hb.mono hlow.size), hs0.trans (hb.mono hs0.size), (HX0.out.down hb), hA, HG0.out.1, HG0.out.2, HBA.out.size, hb.size⟩)
  clear hb hA hlow HBA HX0 HG0 hs0
  go_wp2_with fail
  refine (eq_doms _ _ f _ HL.out.out.doms (HR.out.below HL.out.sp) HQ.out).mono ?_
  rintro e w6 ⟨rfl, hb⟩
  have HLn := hide (HL.out.down hb)
  clear HL
  have HL := hide HLn.out
  clear HLn hb
  go_wp2_with fail
  refine (to_doms _ l0 _ (HV0.out.below HL.out.low) HC0.out).mono ?_
  rintro e w7 ⟨⟨rfl, hO⟩, hb⟩
  have HO := hide hO
  have HLn := hide (HL.out.down hb)
  clear HL
  have HL := hide HLn.out
  clear HLn hb hO
  go_wp2_with fail
  refine (eq_doms _ _ l0 _ HL.out.inn0.doms HO.out.doms HC0.out).mono ?_
  rintro e w8 ⟨rfl, hb⟩
  have HLn := hide (HL.out.down hb)
  clear HL
  have HL := hide HLn.out
  clear HLn hb HO
  go_wp2_with fail
  refine (mark_doms _ 1 _ l0 _ HL.out.inn0 HC0.out (by omega) (by omega)).mono ?_
  rintro e w9 ⟨rfl, hk, hg⟩
  have HLn := hide (HL.out.mark0 hg hk)
  clear HL
  have HL := hide HLn.out
  clear HLn hk hg
  rw [HM0.out]
  go_wp2_with fail
  refine (eq_doms _ _ f _ HL.out.out.doms (HR.out.below HL.out.sp) HQ.out).mono ?_
  rintro e w10 ⟨rfl, hb⟩
  have HLn := hide (HL.out.down hb)
  clear HL
  have HL := hide HLn.out
  clear HLn hb
  go_wp2_with fail
  refine (mark_doms _ 1 _ f _ HL.out.out HQ.out (by omega) (by omega)).mono ?_
  rintro e w11 ⟨rfl, hk, hg⟩
  have HLn := hide (HL.out.marks hg hk)
  clear HL
  have HL := hide HLn.out
  clear HLn hk hg hkn
  rw [HMO.out]
  go_wp2_with fail
  refine (held_doms _ 1 f.length _ HL.out.out.doms HQ.out (by omega) (by omega)).mono ?_
  rintro e w12 ⟨rfl, hb⟩
  have HLn := hide (HL.out.down hb)
  clear HL
  have HL := hide HLn.out
  clear HLn hb
  rw [HMO.out]
  go_wp2_with fail
  refine (to_doms _ l0 _ (HV0.out.below HL.out.low) HC0.out).mono ?_
  rintro e w13 ⟨⟨rfl, hO⟩, hb⟩
  have HU0 := hide hO.doms
  have HLn := hide (HL.out.down hb)
  clear HL
  have HL := hide HLn.out
  clear HLn hb hO
  go_wp2_with fail
  refine (HI.out _ _ HU0.out).mono ?_
  rintro e w14 ⟨⟨r2, rfl, hA⟩, hb⟩
  obtain ⟨ar2, cr2, rfl⟩ := hA.form
  have HA := hide hA.doms
  have HLn := hide (HL.out.down hb)
  clear HL
  have HL := hide HLn.out
  clear HLn hb hA HI HU0
  go_wp2_with fail
  refine (eq_doms _ _ f _ HA.out (HR.out.below HL.out.sp) HQ.out).mono ?_
  rintro e w15 ⟨rfl, hb⟩
  have HLn := hide (HL.out.down hb)
  clear HL
  have HL := hide HLn.out
  clear HLn hb HA
  go_wp2_with fail
  refine (held_doms _ 1 f.length _ HL.out.out.doms HQ.out (by omega) (by omega)).mono ?_
  rintro e w16 ⟨rfl, hb⟩
  have HLn := hide (HL.out.down hb)
  clear HL
  have HL := hide HLn.out
  clear HLn hb
  rw [HMO.out]
  have hbz := HL.out.low
  clear HL HR HQ HMO HV0 HM0 HC0
  go_wp2
  go_ret
  exact ⟨rfl, hbz⟩
set_option maxRecDepth 20000 in
set_option maxHeartbeats 4000000 in
theorem law_merge_run (v0 : Value) (l0 : Dms) (v1 : Value) (l1 : Dms) (f : Dms) (ok : Bool) (w : World) (hv0 : DomsOf w v0 l0) (hl0 : LenD l0) (hv1 : DomsOf w v1 l1) (hl1 : LenD l1)
    (hq : l0.length ≤ 1048576 → l1.length ≤ 1048576 → f.length ≤ 1048576)
    (hS : l0.length ≤ 1048576 → l1.length ≤ 1048576 → ∀ (b0 b1 : Nat) (W : World), DomsOf W (.slice (some ⟨b0, 0, none⟩) l0.length l0.length) l0 → DomsOf W (.slice (some ⟨b1, 0, none⟩) l1.length l1.length) l1 → Calls Try.prog 28 #[.slice (some ⟨b0, 0, none⟩) l0.length l0.length, .slice (some ⟨b1, 0, none⟩) l1.length l1.length] W fun e w' => (∃ u, e = .returned (.tuple #[u, .bool ok]) ∧ OwnD w' W.heap.size u f) ∧ Below W.heap.size W w')
    (hI : l0.length ≤ 1048576 → l1.length ≤ 1048576 → ∀ (b0 b1 : Nat) (W : World), DomsOf W (.slice (some ⟨b0, 0, none⟩) l0.length l0.length) l0 → DomsOf W (.slice (some ⟨b1, 0, none⟩) l1.length l1.length) l1 → Calls Try.prog 29 #[.slice (some ⟨b0, 0, none⟩) l0.length l0.length, .slice (some ⟨b1, 0, none⟩) l1.length l1.length] W fun e w' => (∃ u, e = .returned (.tuple #[u, .bool ok]) ∧ OwnD w' W.heap.size u f) ∧ Below W.heap.size W w') :
    Calls Try.prog 8 #[v0, v1] w fun e w' => e = .returned (.bool true) ∧ Below w.heap.size w w' := by
  have HS0 := hide hS
  have HI0 := hide hI
  have HQ0 := hide hq
  have HV0 := hide hv0
  have HL0 := hide hl0
  obtain ⟨a0, cap0, rfl⟩ := hv0.form
  have HV1 := hide hv1
  have HL1 := hide hl1
  obtain ⟨a1, cap1, rfl⟩ := hv1.form
  have hok : (ok != ok) = false := by simp
  clear hS hI hq hv0 hl0 hv1 hl1
  go_enter Try.func8, Try.ntmps8
  go_wp2_with fail
  refine (sz_doms _ l0 1048576 _ HV0.out HL0.out (by omega) (by omega)).mono ?_
  rintro e w1 ⟨⟨q0, rfl, hq0⟩, hb⟩
  have hB1 := hb
  clear hb
  by_cases hn0 : q0 < 0
  · clear hq0
    go_wp2
    go_ret
    exact ⟨rfl, hB1⟩
  have hc0 : l0.length ≤ 1048576 := by omega
  have HC0 := hide hc0
  have hz0 : 0 ≤ q0 ∧ q0 ≤ 1048576 := by omega
  obtain ⟨hy0, hx0⟩ := hz0
  clear hq0 hc0
  go_wp2_with fail
  refine (sz_doms _ l1 q0 _ (HV1.out.below hB1) HL1.out (by omega) (by omega)).mono ?_
  rintro e w2 ⟨⟨q1, rfl, hq1⟩, hb⟩
  have hB2 := hB1.trans (hb.mono hB1.size)
  clear hb
  clear hB1
  by_cases hn1 : q1 < 0
  · clear hq1
    go_wp2
    go_ret
    exact ⟨rfl, hB2⟩
  have hc1 : l1.length ≤ 1048576 := by omega
  have HC1 := hide hc1
  have hz1 : 0 ≤ q1 ∧ q1 ≤ 1048576 := by omega
  obtain ⟨hy1, hx1⟩ := hz1
  clear hq1 hc1
  have HQ := hide (HQ0.out HC0.out HC1.out)
  have HS := hide (HS0.out HC0.out HC1.out)
  have HI := hide (HI0.out HC0.out HC1.out)
  clear HQ0 HS0 HI0
  obtain ⟨mm0, hmm0⟩ : ∃ mm0, 1 + l0.length * 3 = mm0 := ⟨_, rfl⟩
  have HM0 := hide hmm0
  have hmk0 : 1 ≤ mm0 ∧ mm0 ≤ 10000000 := by have := HC0.out; omega
  obtain ⟨mm1, hmm1⟩ : ∃ mm1, mm0 + l1.length * 3 = mm1 := ⟨_, rfl⟩
  have HM1 := hide hmm1
  have hmk1 : 1 ≤ mm1 ∧ mm1 ≤ 20000000 := by have := HC1.out; omega
  have hkn : ¬ ((mm1 : Int) < 0) := by omega
  obtain ⟨mo, hmo⟩ : ∃ mo, 1 + f.length * 3 = mo := ⟨_, rfl⟩
  have HMO := hide hmo
  have hm0 : ¬ ((mo : Int) < 0) := by omega
  have hm1 : ((mo : Int) != (mo : Int)) = false := by simp
  clear hmo hmm0 hmm1
  go_wp2_with fail
  refine (to_doms _ l0 _ (HV0.out.below hB2) HC0.out).mono ?_
  rintro e w3 ⟨⟨rfl, hO⟩, hb⟩
  have hB3 := hB2.trans (hb.mono hB2.size)
  have HT0 := hide hO.doms
  clear hO hb
  clear hB2
  go_wp2_with fail
  refine (to_doms _ l1 _ (HV1.out.below hB3) HC1.out).mono ?_
  rintro e w4 ⟨⟨rfl, hO⟩, hb⟩
  have hB4 := hB3.trans (hb.mono hB3.size)
  have HT0n := hide (HT0.out.below hb)
  clear HT0
  have HT0 := hide HT0n.out
  clear HT0n
  have HT1 := hide hO.doms
  clear hO hb
  clear hB3
  go_wp2_with fail
  refine (HS.out _ _ _ HT0.out HT1.out).mono ?_
  rintro e w5 ⟨⟨rs, rfl, hR⟩, hb⟩
  have hB5 := hB4.trans (hb.mono hB4.size)
  have HR := hide hR.doms
  obtain ⟨asp, csp, rfl⟩ := hR.form
  clear hb hR HS HT0 HT1
  clear hB4
  have HBA := hide hB5
  go_wp2_with fail
  refine (to_doms _ l0 _ (HV0.out.below hB5) HC0.out).mono ?_
  rintro e w6 ⟨⟨rfl, hO⟩, hb⟩
  have hs0 := hb
  have HX0 := hide hO
  have HG0 := hide (show w5.heap.size ≤ w5.heap.size ∧ w5.heap.size < w6.heap.size from ⟨Nat.le_refl _, (HX0.out.lt rfl).2⟩)
  clear hO hb
  go_wp2_with fail
  refine (to_doms _ l1 _ (HV1.out.below (HBA.out.trans (hs0.mono HBA.out.size))) HC1.out).mono ?_
  rintro e w7 ⟨⟨rfl, hO⟩, hb⟩
  have hs1 := hs0.trans (hb.mono hs0.size)
  have HX0n := hide (HX0.out.down hb)
  clear HX0
  have HX0 := hide HX0n.out
  clear HX0n
  have HX1 := hide hO
  have HG1 := hide (show w5.heap.size ≤ w6.heap.size ∧ w6.heap.size < w7.heap.size from ⟨hs0.size, (HX1.out.lt rfl).2⟩)
  clear hO hb
  clear hB5
  go_wp2_with fail
  refine (HI.out _ _ _ HX0.out.doms HX1.out.doms).mono ?_
  rintro e w8 ⟨⟨r, rfl, hA⟩, hb⟩
  obtain ⟨ar, cr, rfl⟩ := hA.form
  have hs01 : w6.heap.size ≤ w7.heap.size := by have := HG1.out.2; omega
  have hlow := (HBA.out.trans (hs1.mono HBA.out.size))
  have HL := hide (show L2D w w5 w8 l0.length l1.length w5.heap.size w6.heap.size l0 l1 w7.heap.size (.slice ar f.length cr) f from ⟨hlow.trans (hb.mono hlow.size), hs1.trans (hb.mono hs1.size), (HX0.out.down hb), ((HX1.out.down hb).mono HG1.out.1), hA, HG0.out.1, Nat.lt_of_lt_of_le HG0.out.2 hs01, HG1.out.1, HG1.out.2, (by have := HG0.out.2; have := HG1.out.2; omega), HBA.out.size, hb.size⟩)
  clear hb hA hlow HBA HX0 HG0 hs0 HX1 HG1 hs1 hs01
  go_wp2_with fail
  refine (eq_doms _ _ f _ HL.out.out.doms (HR.out.below HL.out.sp) HQ.out).mono ?_
  rintro e w9 ⟨rfl, hb⟩
  have HLn := hide (HL.out.down hb)
  clear HL
  have HL := hide HLn.out
  clear HLn hb
  go_wp2_with fail
  refine (to_doms _ l0 _ (HV0.out.below HL.out.low) HC0.out).mono ?_
  rintro e w10 ⟨⟨rfl, hO⟩, hb⟩
  have HO := hide hO
  have HLn := hide (HL.out.down hb)
  clear HL
  have HL := hide HLn.out
  clear HLn hb hO
  go_wp2_with fail
  refine (eq_doms _ _ l0 _ HL.out.inn0.doms HO.out.doms HC0.out).mono ?_
  rintro e w11 ⟨rfl, hb⟩
  have HLn := hide (HL.out.down hb)
  clear HL
  have HL := hide HLn.out
  clear HLn hb HO
  go_wp2_with fail
  refine (to_doms _ l1 _ (HV1.out.below HL.out.low) HC1.out).mono ?_
  rintro e w12 ⟨⟨rfl, hO⟩, hb⟩
  have HO := hide hO
  have HLn := hide (HL.out.down hb)
  clear HL
  have HL := hide HLn.out
  clear HLn hb hO
  go_wp2_with fail
  refine (eq_doms _ _ l1 _ HL.out.inn1.doms HO.out.doms HC1.out).mono ?_
  rintro e w13 ⟨rfl, hb⟩
  have HLn := hide (HL.out.down hb)
  clear HL
  have HL := hide HLn.out
  clear HLn hb HO
  go_wp2_with fail
  refine (mark_doms _ 1 _ l0 _ HL.out.inn0 HC0.out (by omega) (by omega)).mono ?_
  rintro e w14 ⟨rfl, hk, hg⟩
  have HLn := hide (HL.out.mark0 hg hk)
  clear HL
  have HL := hide HLn.out
  clear HLn hk hg
  rw [HM0.out]
  go_wp2_with fail
  refine (mark_doms _ mm0 _ l1 _ HL.out.inn1 HC1.out (by omega) (by omega)).mono ?_
  rintro e w15 ⟨rfl, hk, hg⟩
  have HLn := hide (HL.out.mark1 hg hk)
  clear HL
  have HL := hide HLn.out
  clear HLn hk hg
  rw [HM1.out]
  go_wp2_with fail
  refine (eq_doms _ _ f _ HL.out.out.doms (HR.out.below HL.out.sp) HQ.out).mono ?_
  rintro e w16 ⟨rfl, hb⟩
  have HLn := hide (HL.out.down hb)
  clear HL
  have HL := hide HLn.out
  clear HLn hb
  go_wp2_with fail
  refine (mark_doms _ 1 _ f _ HL.out.out HQ.out (by omega) (by omega)).mono ?_
  rintro e w17 ⟨rfl, hk, hg⟩
  have HLn := hide (HL.out.marks hg hk)
  clear HL
  have HL := hide HLn.out
  clear HLn hk hg hkn
  rw [HMO.out]
  go_wp2_with fail
  refine (held_doms _ 1 f.length _ HL.out.out.doms HQ.out (by omega) (by omega)).mono ?_
  rintro e w18 ⟨rfl, hb⟩
  have HLn := hide (HL.out.down hb)
  clear HL
  have HL := hide HLn.out
  clear HLn hb
  rw [HMO.out]
  go_wp2_with fail
  refine (to_doms _ l0 _ (HV0.out.below HL.out.low) HC0.out).mono ?_
  rintro e w19 ⟨⟨rfl, hO⟩, hb⟩
  have HU0 := hide hO.doms
  have HLn := hide (HL.out.down hb)
  clear HL
  have HL := hide HLn.out
  clear HLn hb hO
  go_wp2_with fail
  refine (to_doms _ l1 _ (HV1.out.below HL.out.low) HC1.out).mono ?_
  rintro e w20 ⟨⟨rfl, hO⟩, hb⟩
  have HU0n := hide (HU0.out.below hb)
  clear HU0
  have HU0 := hide HU0n.out
  clear HU0n
  have HU1 := hide hO.doms
  have HLn := hide (HL.out.down hb)
  clear HL
  have HL := hide HLn.out
  clear HLn hb hO
  go_wp2_with fail
  refine (HI.out _ _ _ HU0.out HU1.out).mono ?_
  rintro e w21 ⟨⟨r2, rfl, hA⟩, hb⟩
  obtain ⟨ar2, cr2, rfl⟩ := hA.form
  have HA := hide hA.doms
  have HLn := hide (HL.out.down hb)
  clear HL
  have HL := hide HLn.out
  clear HLn hb hA HI HU0 HU1
  go_wp2_with fail
  refine (eq_doms _ _ f _ HA.out (HR.out.below HL.out.sp) HQ.out).mono ?_
  rintro e w22 ⟨rfl, hb⟩
  have HLn := hide (HL.out.down hb)
  clear HL
  have HL := hide HLn.out
  clear HLn hb HA
  go_wp2_with fail
  refine (held_doms _ 1 f.length _ HL.out.out.doms HQ.out (by omega) (by omega)).mono ?_
  rintro e w23 ⟨rfl, hb⟩
  have HLn := hide (HL.out.down hb)
  clear HL
  have HL := hide HLn.out
  clear HLn hb
  rw [HMO.out]
  have hbz := HL.out.low
  clear HL HR HQ HMO HV0 HM0 HC0 HV1 HM1 HC1
  go_wp2
  go_ret
  exact ⟨rfl, hbz⟩
end Go.Proofs.Ytgccoognklolbaa
