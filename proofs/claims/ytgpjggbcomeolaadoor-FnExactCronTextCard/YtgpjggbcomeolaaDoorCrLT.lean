/-
  The law of CronText, walked: it returns true and turns nothing that was there, wherever both texts tell the same.
-/
import Derived.Test.YtgpjggbcomeolaaDoorCrA
import Derived.Deep.RegionWith
namespace Go.Proofs.YtgpjggbcomeolaaDoor
open Go.RowKit M
set_option maxRecDepth 20000 in
set_option maxHeartbeats 4000000 in
theorem law_CronText_run (v0 v1 v2 : Value) (c : Crn) (w : World) (hv : CronOf w v0 v1 v2 c) (hl : LensC c)
    (hC : ShortC c → ∃ (r0 : ByteArray) (r1 : Bool), (∀ (v0 v1 v2 : Value) (w : World), CronOf w v0 v1 v2 c → Calls Tryd.prog 11 #[.agg #[v0, v1, v2]] w fun e w' => e = .returned (.tuple #[.string r0, .bool r1]) ∧ Below w.heap.size w w') ∧
      (∀ (v0 v1 v2 : Value) (w : World), CronOf w v0 v1 v2 c → Calls Tryd.prog 13 #[.agg #[v0, v1, v2]] w fun e w' => e = .returned (.tuple #[.string r0, .bool r1]) ∧ Below w.heap.size w w')) :
    Calls Tryd.prog 4 #[.agg #[v0, v1, v2]] w fun e w' => e = .returned (.bool true) ∧ Below w.heap.size w w' := by
  have hb0 := (Below.refl w.heap.size w).alloc (Nat.le_refl _) (.cells #[v0, v1, v2] 30)
  have HN0 := hide (new3 w v0 v1 v2 30)
  obtain ⟨a0, p0, rfl⟩ := hv.1.form
  obtain ⟨a1, p1, rfl⟩ := hv.2.1.form
  obtain ⟨a2, p2, rfl⟩ := hv.2.2.form
  have HV := hide hv
  have HL := hide hl
  have HC := hide hC
  clear hv hl hC
  go_enter Tryd.func4, Tryd.ntmps4
  go_wp2_with fail
  refine (sz_cron _ _ _ c _ (HV.out.below hb0) HL.out).mono ?_
  rintro e w1 ⟨⟨r, rfl, hr⟩, hb⟩
  have hb1 := hb0.trans (hb.mono hb0.size)
  have HN1 := hide (HN0.out.down hb)
  clear hb hb0 HN0
  by_cases hrn : r < 0
  · clear HN1 hr HC
    go_wp2
    go_ret
    exact ⟨rfl, hb1⟩
  · have hsh : ShortC c := by
      rcases hr with h | ⟨_, h⟩
      · omega
      · exact h
    have HS := hide hsh
    obtain ⟨r0, r1, hS, hI⟩ := HC.out hsh
    have CS := hide hS
    have CI := hide hI
    have er0 : (r0.toList != r0.toList) = false := by simp
    have er0b : (r0.toList == r0.toList) = true := by simp
    have er1 : (r1 != r1) = false := by simp
    clear hr hsh HC HL hS hI
    obtain ⟨⟨d0, d1, d2⟩, -⟩ := HN1.out.tri
    go_wp2_with fail
    refine (to_cron _ _ _ c _ (HV.out.below hb1) HS.out).mono ?_
    rintro e w2 ⟨⟨u0, u1, u2, rfl, hu⟩, hb⟩
    have hb2 := hb1.trans (hb.mono hb1.size)
    have HN2 := hide (HN1.out.down hb)
    have HU := hide hu
    obtain ⟨q0, k0, rfl⟩ := hu.1.form
    obtain ⟨q1, k1, rfl⟩ := hu.2.1.form
    obtain ⟨q2, k2, rfl⟩ := hu.2.2.form
    clear d0 d1 d2 hb hb1 HN1 hu
    go_wp2_with fail
    refine (CS.out _ _ _ _ HU.out).mono ?_
    rintro e w3 ⟨rfl, hb⟩
    have hb3 := hb2.trans (hb.mono hb2.size)
    have HN3 := hide (HN2.out.down hb)
    clear hb hb2 HN2 HU
    obtain ⟨⟨d0, d1, d2⟩, -⟩ := HN3.out.tri
    go_wp2_with fail
    refine (to_cron _ _ _ c _ (HV.out.below hb3) HS.out).mono ?_
    rintro e w4 ⟨⟨y0, y1, y2, rfl, hy⟩, hb⟩
    have hb4 := hb3.trans (hb.mono hb3.size)
    have hbC := (Below.refl w4.heap.size w4).alloc (Nat.le_refl _) (.cells #[y0, y1, y2] 24)
    have HM5 := hide (new3 w4 y0 y1 y2 24)
    have HN5 := hide ((HN3.out.down hb).down hbC)
    have HY5 := hide (hy.below hbC)
    have hb5 := hb4.trans (hbC.mono hb4.size)
    obtain ⟨q3, k3, rfl⟩ := hy.1.form
    obtain ⟨q4, k4, rfl⟩ := hy.2.1.form
    obtain ⟨q5, k5, rfl⟩ := hy.2.2.form
    clear d0 d1 d2 hb hb3 hb4 HN3 hy hbC
    obtain ⟨⟨d0, d1, d2⟩, -⟩ := HM5.out.tri
    go_wp2_with fail
    refine (CI.out _ _ _ _ HY5.out).mono ?_
    rintro e w6 ⟨rfl, hb⟩
    have hb6 := hb5.trans (hb.mono hb5.size)
    have HN6 := hide (HN5.out.down hb)
    have HM6 := hide (HM5.out.down hb)
    have HY6 := hide (HY5.out.below hb)
    clear d0 d1 d2 hb hb5 HN5 HM5 HY5 CI CS
    obtain ⟨⟨d0, d1, d2⟩, -⟩ := HN6.out.tri
    obtain ⟨⟨e0, e1, e2⟩, -⟩ := HM6.out.tri
    have HC := hide (show ∀ wx wy : World, wx.heap = w6.heap → Below wx.heap.size wx wy → (wy.cell? ⟨w4.heap.size, 0, none⟩ = some (.slice q3 c.nm k3) ∧ wy.cell? ⟨w4.heap.size, 1, none⟩ = some (.slice q4 c.nh k4) ∧ wy.cell? ⟨w4.heap.size, 2, none⟩ = some (.slice q5 c.nd k5)) from fun wx wy hh hb => by
      have h : Blk wx w4.heap.size 3 (p3 (.slice q3 c.nm k3) (.slice q4 c.nh k4) (.slice q5 c.nd k5)) 24 := by unfold Blk; rw [hh]; exact HM6.out
      exact (h.down hb).tri.1)
    clear HM6
    go_wp2_with fail
    go_region_with (first | (go_at_call 12; refine (to_cron _ _ _ c _ (HV.out.below (hb6.drew)) HS.out).mono ?_; rintro e w7 ⟨⟨z0, z1, z2, rfl, hz⟩, hb7⟩; have HZ := hide hz; obtain ⟨q6, k6, rfl⟩ := hz.1.form; obtain ⟨q7, k7, rfl⟩ := hz.2.1.form; obtain ⟨q8, k8, rfl⟩ := hz.2.2.form; clear hz; obtain ⟨m0, m1, m2⟩ := HC.out w6.drew w7 rfl hb7) | (go_at_call 7; refine (eq_cron _ _ _ _ _ _ c _ (HY6.out.below ((Below.refl _ _).drew.trans hb7)) HZ.out HS.out).mono ?_; rintro e w8 ⟨rfl, hb8⟩))
    all_goals
      have hbz : Below w.heap.size w w8 := (hb6.drew.trans (hb7.mono hb6.size)).trans (hb8.mono (Nat.le_trans hb6.size hb7.size))
      clear hb7 hb8 HZ m0 m1 m2 d0 d1 d2 e0 e1 e2 HC HY6 HN6 HV HS
      go_wp2
      go_ret
      exact ⟨rfl, hbz⟩
end Go.Proofs.YtgpjggbcomeolaaDoor
