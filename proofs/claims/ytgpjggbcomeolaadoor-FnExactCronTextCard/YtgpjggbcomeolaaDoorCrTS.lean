/-
  The specification's CronText.
-/
import Derived.Test.YtgpjggbcomeolaaDoorCrT
namespace Go.Proofs.YtgpjggbcomeolaaDoor
open Go.RowKit M
open Go.Sort (grow)
namespace M
theorem GoodC.m60 {c : Crn} (h : GoodC c) : ∀ i, i < c.nm → 0 ≤ c.fm i ∧ c.fm i < 60 := fun i hi => by have := (h.1.1 i hi).1; omega
theorem GoodC.h60 {c : Crn} (h : GoodC c) : ∀ i, i < c.nh → 0 ≤ c.fh i ∧ c.fh i < 60 := fun i hi => by have := (h.2.1.1 i hi).1; omega
theorem GoodC.d60 {c : Crn} (h : GoodC c) : ∀ i, i < c.nd → 0 ≤ c.fd i ∧ c.fd i < 60 := fun i hi => by have := (h.2.2.1 i hi).1; omega
theorem GoodC.few {c : Crn} (h : GoodC c) : c.nm ≤ 60 ∧ c.nh ≤ 24 ∧ c.nd ≤ 7 :=
  ⟨by have := ris_len h.1.1 (by decide); omega, by have := ris_len h.2.1.1 (by decide); omega, by have := ris_len h.2.2.1 (by decide); omega⟩
end M
set_option maxRecDepth 20000 in
set_option maxHeartbeats 2000000 in
theorem spec_text (v0 v1 v2 : Value) (c : Crn) (w : World) (hv : CronOf w v0 v1 v2 c) (hs : ShortC c) (hg : GoodC c) :
    Calls Tryd.prog 11 #[.agg #[v0, v1, v2]] w fun e w' => e = .returned (.tuple #[.string (ct c), .bool true]) ∧ Below w.heap.size w w' := by
  have hb0 := (Below.refl w.heap.size w).alloc (Nat.le_refl _) (.cells #[v0, v1, v2] 24)
  have HN0 := hide (new3 w v0 v1 v2 24)
  obtain ⟨a0, p0, rfl⟩ := hv.1.form
  obtain ⟨a1, p1, rfl⟩ := hv.2.1.form
  obtain ⟨a2, p2, rfl⟩ := hv.2.2.form
  have HV := hide hv
  have HS := hide hs
  have HGG := hide hg
  have HG := hide (show decide (GoodC c) = true from decide_eq_true hg)
  obtain ⟨f0, f1, f2⟩ := hg.few
  clear hv hs
  go_enter Tryd.func11, Tryd.ntmps11
  go_wp2_with fail
  refine (spec_good _ _ _ c true _ (HV.out.below hb0) HS.out HG.out).mono ?_
  rintro e w1 ⟨rfl, hb⟩
  have hb1 := hb0.trans (hb.mono hb0.size)
  have HN1 := hide (HN0.out.down hb)
  clear hb hb0 HN0
  obtain ⟨⟨d0, d1, d2⟩, -⟩ := HN1.out.tri
  have k0 := cell_regrown d0
  have k1 := cell_regrown d1
  have k2 := cell_regrown d2
  have HM := hide (show ∀ d os, Calls Tryd.prog 23 #[.slice a0 c.nm p0, .int .i64 59] (grow (redrawn w1 d) os) fun e w'' => e = .returned (.string (ft c.nm c.fm 60)) ∧ ∃ p : Regrown, w'' = grow (redrawn w1 p.d) p.os from fun d os => Calls.regrown_of (l6_text _ c.nm c.fm 60 _ ((HV.out.1.below hb1).below (below_regrown w1 d os)) f0 (by decide) (by decide) HGG.out.m60))
  have HH := hide (show ∀ d os, Calls Tryd.prog 23 #[.slice a1 c.nh p1, .int .i64 23] (grow (redrawn w1 d) os) fun e w'' => e = .returned (.string (ft c.nh c.fh 24)) ∧ ∃ p : Regrown, w'' = grow (redrawn w1 p.d) p.os from fun d os => Calls.regrown_of (l6_text _ c.nh c.fh 24 _ ((HV.out.2.1.below hb1).below (below_regrown w1 d os)) (by omega) (by decide) (by decide) HGG.out.h60))
  have HD := hide (show ∀ d os, Calls Tryd.prog 23 #[.slice a2 c.nd p2, .int .i64 6] (grow (redrawn w1 d) os) fun e w'' => e = .returned (.string (ft c.nd c.fd 7)) ∧ ∃ p : Regrown, w'' = grow (redrawn w1 p.d) p.os from fun d os => Calls.regrown_of (l6_text _ c.nd c.fd 7 _ ((HV.out.2.2.below hb1).below (below_regrown w1 d os)) (by omega) (by decide) (by decide) HGG.out.d60))
  have z0 := ft_size (p := 60) hg.m60 f0
  have z1 := ft_size (p := 24) hg.h60 (by omega)
  have z2 := ft_size (p := 7) hg.d60 (by omega)
  have HT := hide (show ct c = ft c.nm c.fm 60 ++ ⟨#[32]⟩ ++ ft c.nh c.fh 24 ++ ⟨#[32]⟩ ++ ft c.nd c.fd 7 from rfl)
  generalize ft c.nm c.fm 60 = T0 at *
  generalize ft c.nh c.fh 24 = T1 at *
  generalize ft c.nd c.fd 7 = T2 at *
  have zd : (⟨#[32]⟩ : ByteArray).size = 1 := rfl
  have za := @ByteArray.size_append
  have n1 : ¬ 9223372036854775807 < T0.size + 1 := by omega
  have n2 : ¬ 9223372036854775807 < T0.size + 1 + T1.size := by omega
  have n3 : ¬ 9223372036854775807 < T0.size + 1 + T1.size + 1 := by omega
  have n4 : ¬ 9223372036854775807 < T0.size + 1 + T1.size + 1 + T2.size := by omega
  clear d0 d1 d2 HN1 HV HS HGG HG hg f0 f1 f2
  go_wp2
  refine wp_region_quiet_below (by kernel_rfl) (by kernel_rfl) ?_
  repeat (go_big_quiet_step (first | (with_reducible exact HM.out _ _) | (with_reducible exact HH.out _ _) | (with_reducible exact HD.out _ _)))
  refine wpQuiet_nil ?_
  intro _ hw'
  obtain ⟨⟨dq, osq⟩, hw''⟩ := hw'
  subst hw''
  go_wp2
  go_ret2
  exact ⟨by rw [HT.out]; rfl, hb1.trans ((below_regrown _ dq osq).mono hb1.size)⟩
set_option maxHeartbeats 1000000 in
theorem spec_text_no (v0 v1 v2 : Value) (c : Crn) (w : World) (hv : CronOf w v0 v1 v2 c) (hs : ShortC c) (hg : ¬ GoodC c) :
    Calls Tryd.prog 11 #[.agg #[v0, v1, v2]] w fun e w' => e = .returned (.tuple #[.string ⟨#[]⟩, .bool false]) ∧ Below w.heap.size w w' := by
  have hb0 := (Below.refl w.heap.size w).alloc (Nat.le_refl _) (.cells #[v0, v1, v2] 24)
  obtain ⟨a0, p0, rfl⟩ := hv.1.form
  obtain ⟨a1, p1, rfl⟩ := hv.2.1.form
  obtain ⟨a2, p2, rfl⟩ := hv.2.2.form
  have HV := hide hv
  have HS := hide hs
  have HG := hide (show decide (GoodC c) = false from decide_eq_false hg)
  clear hv hs hg
  go_enter Tryd.func11, Tryd.ntmps11
  go_wp2_with fail
  refine (spec_good _ _ _ c false _ (HV.out.below hb0) HS.out HG.out).mono ?_
  rintro e w1 ⟨rfl, hb⟩
  have hb1 := hb0.trans (hb.mono hb0.size)
  clear hb hb0 HV HS HG
  go_wp2
  go_ret2
  exact ⟨rfl, hb1⟩
end Go.Proofs.YtgpjggbcomeolaaDoor
