/-
  The law of IsOver, walked: it returns true and turns nothing that was there, wherever both texts tell the same.
-/
import Derived.Test.YtmpedadjikmnhaaSgG
import Derived.Deep.RegionWith
namespace Go.Proofs.Ytmpedadjikmnhaa
open Go.RowKit M
set_option maxRecDepth 20000 in
set_option maxHeartbeats 4000000 in
theorem law_IsOver_run (v0 v1 : Value) (s : Sg) (w : World) (hv : SagQ w v0 v1 s.na s.fa s.nm (fl s.fm)) (hl : LensS s.na s.nm)
    (hC : ShortS s.na s.nm → ∃ (r0 : Bool) (r1 : Bool) (r2 : Bool), (∀ (v0 v1 : Value) (w : World), SagQ w v0 v1 s.na s.fa s.nm (fl s.fm) → Calls Try.prog 33 #[sgv v0 v1 s] w fun e w' => e = .returned (.tuple #[.bool r0, .bool r1, .bool r2]) ∧ Below w.heap.size w w') ∧
      (∀ (v0 v1 : Value) (w : World), SagC w v0 v1 s.na s.fa s.nm (fl s.fm) → Calls Try.prog 34 #[sgv v0 v1 s] w fun e w' => e = .returned (.tuple #[.bool r0, .bool r1, .bool r2]) ∧ Below w.heap.size w w')) :
    Calls Try.prog 8 #[sgv v0 v1 s] w fun e w' => e = .returned (.bool true) ∧ Below w.heap.size w w' := by
  obtain ⟨na, fa, nm, fm, dn, un⟩ := s
  simp only [sgv] at *
  have hb0 := (Below.refl w.heap.size w).alloc (Nat.le_refl _) (.cells #[v0, v1, .int .i64 dn, .bool un] 40)
  have HN0 := hide (new4 w v0 v1 (.int .i64 dn) (.bool un) 40)
  obtain ⟨a0, p0, rfl⟩ := hv.1.form
  obtain ⟨a1, p1, rfl⟩ := hv.2.form
  have HV := hide hv
  have HL := hide hl
  have HC := hide hC
  clear hv hl hC
  go_enter Try.func8, Try.ntmps8
  go_wp2_with fail
  refine (sz_saga _ _ na fa nm (fl fm) dn un _ (HV.out.below hb0) HL.out).mono ?_
  rintro e w1 ⟨⟨r, rfl, hr⟩, hb⟩
  have hb1 := hb0.trans (hb.mono hb0.size)
  have HN1 := hide (HN0.out.down hb)
  clear hb hb0 HN0
  by_cases hrn : r < 0
  · clear HN1 hr HC
    go_wp2
    go_ret
    exact ⟨rfl, hb1⟩
  · have hsh : ShortS na nm := by
      rcases hr with h | ⟨_, h⟩
      · omega
      · exact h
    have HS := hide hsh
    obtain ⟨r0, r1, r2, hS, hI⟩ := HC.out hsh
    have CS := hide hS
    have CI := hide hI
    have er0 : (r0 != r0) = false := by simp
    have er1 : (r1 != r1) = false := by simp
    have er2 : (r2 != r2) = false := by simp
    clear hr hsh HC HL hS hI
    obtain ⟨⟨d0, d1, d2, d3⟩, -⟩ := HN1.out.quad
    go_wp2_with fail
    refine (to_saga _ _ na fa nm (fl fm) dn un _ (HV.out.below hb1) HS.out).mono ?_
    rintro e w2 ⟨⟨u0, u1, rfl, hu⟩, hb⟩
    have hb2 := hb1.trans (hb.mono hb1.size)
    have HN2 := hide (HN1.out.down hb)
    have HU := hide hu
    obtain ⟨q0, k0, rfl⟩ := hu.q.1.form
    obtain ⟨q1, k1, rfl⟩ := hu.q.2.form
    clear d0 d1 d2 d3 hb hb1 HN1 hu
    go_wp2_with fail
    refine (CS.out _ _ _ HU.out.q).mono ?_
    rintro e w3 ⟨rfl, hb⟩
    have hb3 := hb2.trans (hb.mono hb2.size)
    have HN3 := hide (HN2.out.down hb)
    clear hb hb2 HN2 HU
    obtain ⟨⟨d0, d1, d2, d3⟩, -⟩ := HN3.out.quad
    go_wp2_with fail
    refine (to_saga _ _ na fa nm (fl fm) dn un _ (HV.out.below hb3) HS.out).mono ?_
    rintro e w4 ⟨⟨y0, y1, rfl, hy⟩, hb⟩
    have hb4 := hb3.trans (hb.mono hb3.size)
    have hbC := (Below.refl w4.heap.size w4).alloc (Nat.le_refl _) (.cells #[y0, y1, .int .i64 dn, .bool un] 27)
    have HM5 := hide (new4 w4 y0 y1 (.int .i64 dn) (.bool un) 27)
    have HN5 := hide ((HN3.out.down hb).down hbC)
    have HY5 := hide (hy.down hbC)
    have hb5 := hb4.trans (hbC.mono hb4.size)
    obtain ⟨q3, k3, rfl⟩ := hy.q.1.form
    obtain ⟨q4, k4, rfl⟩ := hy.q.2.form
    clear d0 d1 d2 d3 hb hb3 hb4 HN3 hy hbC
    obtain ⟨⟨d0, d1, d2, d3⟩, -⟩ := HM5.out.quad
    go_wp2_with fail
    refine (CI.out _ _ _ HY5.out.c).mono ?_
    rintro e w6 ⟨rfl, hb⟩
    have hb6 := hb5.trans (hb.mono hb5.size)
    have HN6 := hide (HN5.out.down hb)
    have HM6 := hide (HM5.out.down hb)
    have HY6 := hide (HY5.out.down hb)
    clear d0 d1 d2 d3 hb hb5 HN5 HM5 HY5 CI CS
    obtain ⟨⟨d0, d1, d2, d3⟩, -⟩ := HN6.out.quad
    obtain ⟨⟨e0, e1, e2, e3⟩, -⟩ := HM6.out.quad
    have HC := hide (show ∀ wx wy : World, wx.heap = w6.heap → Below wx.heap.size wx wy → (wy.cell? ⟨w4.heap.size, 0, none⟩ = some (.slice q3 na k3) ∧ wy.cell? ⟨w4.heap.size, 1, none⟩ = some (.slice q4 nm k4) ∧ wy.cell? ⟨w4.heap.size, 2, none⟩ = some (.int .i64 dn) ∧ wy.cell? ⟨w4.heap.size, 3, none⟩ = some (.bool un)) from fun wx wy hh hb => by
      have h : Blk wx w4.heap.size 4 (p4 (.slice q3 na k3) (.slice q4 nm k4) (.int .i64 dn) (.bool un)) 27 := by unfold Blk; rw [hh]; exact HM6.out
      exact (h.down hb).quad.1)
    clear HM6
    go_wp2_with fail
    go_region_with (first | (go_at_call 25; refine (to_saga _ _ na fa nm (fl fm) dn un _ (HV.out.below (hb6.drew)) HS.out).mono ?_; rintro e w7 ⟨⟨z0, z1, rfl, hz⟩, hb7⟩; have HZ := hide hz; obtain ⟨q6, k6, rfl⟩ := hz.q.1.form; obtain ⟨q7, k7, rfl⟩ := hz.q.2.form; clear hz; obtain ⟨m0, m1, m2, m3⟩ := HC.out w6.drew w7 rfl hb7) | (go_at_call 16; refine (eq_saga _ _ _ _ na fa nm (fl fm) dn un _ (HY6.out.down ((Below.refl _ _).drew.trans hb7)).q HZ.out.q HS.out).mono ?_; rintro e w8 ⟨rfl, hb8⟩))
    all_goals
      have hbz : Below w.heap.size w w8 := (hb6.drew.trans (hb7.mono hb6.size)).trans (hb8.mono (Nat.le_trans hb6.size hb7.size))
      clear hb7 hb8 HZ m0 m1 m2 m3 d0 d1 d2 d3 e0 e1 e2 e3 HC HY6 HN6 HV HS
      go_wp2
      go_ret
      exact ⟨rfl, hbz⟩
end Go.Proofs.Ytmpedadjikmnhaa
