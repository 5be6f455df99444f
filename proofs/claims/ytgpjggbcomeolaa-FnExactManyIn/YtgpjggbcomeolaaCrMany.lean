/-
  Both texts of ManyIn.
-/
import Derived.Test.YtgpjggbcomeolaaCrG
namespace Go.Proofs.Ytgpjggbcomeolaa
open Go.RowKit M
namespace M
def manyC (c : Crn) : Int := if GoodC c then ((c.nm * c.nh * c.nd : Nat) : Int) else 0
theorem GoodC.few {c : Crn} (h : GoodC c) : c.nm ≤ 60 ∧ c.nh ≤ 24 ∧ c.nd ≤ 7 :=
  ⟨by have := ris_len h.1.1 (by decide); omega, by have := ris_len h.2.1.1 (by decide); omega, by have := ris_len h.2.2.1 (by decide); omega⟩
theorem w64 {x : Int} (h0 : 0 ≤ x) (h1 : x ≤ 1100000) : wrap64 x = x := by unfold wrap64; omega
end M
set_option maxHeartbeats 1000000 in
theorem spec_many (v0 v1 v2 : Value) (c : Crn) (b : Bool) (w : World) (hv : CronOf w v0 v1 v2 c) (hs : ShortC c) (hb : decide (GoodC c) = b) :
    Calls Try.prog 23 #[.agg #[v0, v1, v2]] w fun e w' => e = .returned (.tuple #[.int .i64 (manyC c), .bool b]) ∧ Below w.heap.size w w' := by
  have hb0 := (Below.refl w.heap.size w).alloc (Nat.le_refl _) (.cells #[v0, v1, v2] 27)
  have HN0 := hide (new3 w v0 v1 v2 27)
  obtain ⟨a0, p0, rfl⟩ := hv.1.form
  obtain ⟨a1, p1, rfl⟩ := hv.2.1.form
  obtain ⟨a2, p2, rfl⟩ := hv.2.2.form
  have HV := hide hv
  have HS := hide hs
  have HB := hide hb
  clear hv hs hb
  go_enter Try.func23, Try.ntmps23
  go_wp2_with fail
  refine (spec_good _ _ _ c b _ (HV.out.below hb0) HS.out HB.out).mono ?_
  rintro e w1 ⟨rfl, hb⟩
  have hb1 := hb0.trans (hb.mono hb0.size)
  have HN1 := hide (HN0.out.down hb)
  clear hb hb0 HN0
  cases b with
  | false =>
    have HZ := hide (show manyC c = 0 from if_neg (of_decide_eq_false HB.out))
    clear HN1 HV HS HB
    go_wp2
    go_ret2
    exact ⟨by rw [HZ.out]; rfl, hb1⟩
  | true =>
    have hg := of_decide_eq_true HB.out
    obtain ⟨f0, f1, f2⟩ := hg.few
    have HZ := hide (show manyC c = ((c.nm * c.nh * c.nd : Nat) : Int) from if_pos hg)
    obtain ⟨⟨d0, d1, d2⟩, -⟩ := HN1.out.tri
    have h1 : c.nm * c.nh ≤ 60 * 24 := Nat.mul_le_mul f0 f1
    have h2 : c.nm * c.nh * c.nd ≤ 60 * 24 * 7 := Nat.mul_le_mul h1 f2
    have HE := hide (show wrap64 (wrap64 ((c.nm : Int) * (c.nh : Int)) * (c.nd : Int)) = ((c.nm * c.nh * c.nd : Nat) : Int) from by
      rw [← Int.natCast_mul, w64 (x := ((c.nm * c.nh : Nat) : Int)) (by omega) (by omega), ← Int.natCast_mul, w64 (by omega) (by omega)])
    clear HV HS HB hg HN1 h1 h2 f0 f1 f2
    go_wp2
    go_ret2
    refine ⟨?_, hb1⟩
    rw [HZ.out, ← HE.out]
    rfl
set_option maxHeartbeats 1000000 in
theorem impl_many (v0 v1 v2 : Value) (c : Crn) (b : Bool) (w : World) (hv : CronOf w v0 v1 v2 c) (hs : ShortC c) (hb : decide (GoodC c) = b) :
    Calls Try.prog 24 #[.agg #[v0, v1, v2]] w fun e w' => e = .returned (.tuple #[.int .i64 (manyC c), .bool b]) ∧ Below w.heap.size w w' := by
  have hb0 := (Below.refl w.heap.size w).alloc (Nat.le_refl _) (.cells #[v0, v1, v2] 27)
  have HN0 := hide (new3 w v0 v1 v2 27)
  obtain ⟨a0, p0, rfl⟩ := hv.1.form
  obtain ⟨a1, p1, rfl⟩ := hv.2.1.form
  obtain ⟨a2, p2, rfl⟩ := hv.2.2.form
  have HV := hide hv
  have HS := hide hs
  have HB := hide hb
  clear hv hs hb
  go_enter Try.func24, Try.ntmps24
  go_wp2_with fail
  refine (impl_good _ _ _ c b _ (HV.out.below hb0) HS.out HB.out).mono ?_
  rintro e w1 ⟨rfl, hb⟩
  have hb1 := hb0.trans (hb.mono hb0.size)
  have HN1 := hide (HN0.out.down hb)
  clear hb hb0 HN0
  cases b with
  | false =>
    have HZ := hide (show manyC c = 0 from if_neg (of_decide_eq_false HB.out))
    clear HN1 HV HS HB
    go_wp2
    go_ret2
    exact ⟨by rw [HZ.out]; rfl, hb1⟩
  | true =>
    have hg := of_decide_eq_true HB.out
    obtain ⟨f0, f1, f2⟩ := hg.few
    have HZ := hide (show manyC c = ((c.nm * c.nh * c.nd : Nat) : Int) from if_pos hg)
    obtain ⟨⟨d0, d1, d2⟩, -⟩ := HN1.out.tri
    have h1 : c.nm * c.nh ≤ 60 * 24 := Nat.mul_le_mul f0 f1
    have h2 : c.nm * c.nh * c.nd ≤ 60 * 24 * 7 := Nat.mul_le_mul h1 f2
    have HE := hide (show wrap64 (wrap64 ((c.nm : Int) * (c.nh : Int)) * (c.nd : Int)) = ((c.nm * c.nh * c.nd : Nat) : Int) from by
      rw [← Int.natCast_mul, w64 (x := ((c.nm * c.nh : Nat) : Int)) (by omega) (by omega), ← Int.natCast_mul, w64 (by omega) (by omega)])
    clear HV HS HB hg HN1 h1 h2 f0 f1 f2
    go_wp2
    go_ret2
    refine ⟨?_, hb1⟩
    rw [HZ.out, ← HE.out]
    rfl
end Go.Proofs.Ytgpjggbcomeolaa
