/-
  The law of MayCome, walked: it returns true and turns nothing that was there, wherever both texts tell the same.
-/
import Derived.Test.YtglpkikncgdghaaDoorStZ
import Derived.Deep.RegionWith
namespace Go.Proofs.YtglpkikncgdghaaDoor
open Go.RowKit M
set_option maxRecDepth 20000 in
set_option maxHeartbeats 4000000 in
theorem law_MayCome_run (v0 v1 : Value) (s : St) (t0 : Int) (t1 : ByteArray) (w : World) (hv : StQ w v0 v1 s) (hl : LensT s) (hzt1 : t1.size ≤ maxLen) (hkk : KK w)
    (hC : ShortT s → t1.size ≤ 1048576 → ∃ (r0 : Bool) (r1 : Bool), (∀ (v0 v1 : Value) (w : World), StC w v0 v1 s → Calls Tryd.prog 24 #[stv v0 v1 s, .int .i64 t0, .string t1] w fun e w' => e = .returned (.tuple #[.bool r0, .bool r1]) ∧ Below w.heap.size w w') ∧
      (∀ (v0 v1 : Value) (w : World), StC w v0 v1 s → KK w → Calls Tryd.prog 25 #[stv v0 v1 s, .int .i64 t0, .string t1] w fun e w' => e = .returned (.tuple #[.bool r0, .bool r1]) ∧ Below w.heap.size w w')) :
    Calls Tryd.prog 5 #[stv v0 v1 s, .int .i64 t0, .string t1] w fun e w' => e = .returned (.bool true) ∧ Below w.heap.size w w' := by
  obtain ⟨a0, p0, rfl⟩ := hv.1.form
  obtain ⟨a1, p1, rfl⟩ := hv.2.form
  have hb0 := (Below.refl w.heap.size w).alloc (Nat.le_refl _) (.cells (sarr (.slice a0 s.sg.length p0) (.slice a1 s.tm.length p1) s) 24)
  have HN0 := hide (show Blk (w.alloc (.cells (sarr (.slice a0 s.sg.length p0) (.slice a1 s.tm.length p1) s) 24)) w.heap.size 6 (sq (.slice a0 s.sg.length p0) (.slice a1 s.tm.length p1) s) 24 from new6 w _ _ _ _ _ _ 24)
  have HV := hide hv
  have HL := hide hl
  have HC := hide hC
  clear hv hl hC
  have HK := hide hkk
  clear hkk
  by_cases hst1 : t1.size ≤ 1048576
  case neg =>
    have hgt1 : (1048576 : Int) < (t1.size : Int) := by omega
    have hyt1 := hzt1
    unfold maxLen at hyt1
    go_enter Tryd.func5, Tryd.ntmps5
    go_wp2
    go_ret
    exact ⟨rfl, hb0⟩
  have hgt1 : ¬ (1048576 : Int) < (t1.size : Int) := by omega
  go_enter Tryd.func5, Tryd.ntmps5
  go_wp2_with fail
  refine (sz_state _ _ s _ (HV.out.below hb0) HL.out).mono ?_
  rintro e w1 ⟨⟨r, rfl, hr⟩, hb⟩
  have hb1 := hb0.trans (hb.mono hb0.size)
  have HN1 := hide (HN0.out.down hb)
  clear hb hb0 HN0
  by_cases hrn : r < 0
  · clear HN1 hr HC
    go_wp2
    go_ret
    exact ⟨rfl, hb1⟩
  · have hsh : ShortT s := by
      rcases hr with h | ⟨_, _, h⟩
      · omega
      · exact h
    have HS := hide hsh
    obtain ⟨r0, r1, hS, hI⟩ := HC.out hsh hst1
    have CS := hide hS
    have CI := hide hI
    have er0 : (r0 != r0) = false := by simp
    have er1 : (r1 != r1) = false := by simp
    clear hr hsh HC HL hS hI
    obtain ⟨⟨d0, d1, d2, d3, d4, d5⟩, -⟩ := HN1.out.hex
    go_wp2_with fail
    refine (to_state _ _ s _ (HV.out.below hb1) HS.out).mono ?_
    rintro e w2 ⟨⟨u0, u1, rfl, hu⟩, hb⟩
    have hb2 := hb1.trans (hb.mono hb1.size)
    have HN2 := hide (HN1.out.down hb)
    have HU := hide hu
    obtain ⟨q0, k0, rfl⟩ := hu.o0.form
    obtain ⟨q1, k1, rfl⟩ := hu.o1.form
    clear d0 d1 d2 d3 d4 d5 hb hb1 HN1 hu
    go_wp2_with fail
    refine (CS.out _ _ _ HU.out.c).mono ?_
    rintro e w3 ⟨rfl, hb⟩
    have hb3 := hb2.trans (hb.mono hb2.size)
    have HN3 := hide (HN2.out.down hb)
    clear hb hb2 HN2 HU
    obtain ⟨⟨d0, d1, d2, d3, d4, d5⟩, -⟩ := HN3.out.hex
    go_wp2_with fail
    refine (to_state _ _ s _ (HV.out.below hb3) HS.out).mono ?_
    rintro e w4 ⟨⟨y0, y1, rfl, hy⟩, hb⟩
    have hb4 := hb3.trans (hb.mono hb3.size)
    obtain ⟨q3, k3, rfl⟩ := hy.o0.form
    obtain ⟨q4, k4, rfl⟩ := hy.o1.form
    have hbC := (Below.refl w4.heap.size w4).alloc (Nat.le_refl _) (.cells (sarr (.slice q3 s.sg.length k3) (.slice q4 s.tm.length k4) s) 29)
    have HM5 := hide (show Blk (w4.alloc (.cells (sarr (.slice q3 s.sg.length k3) (.slice q4 s.tm.length k4) s) 29)) w4.heap.size 6 (sq (.slice q3 s.sg.length k3) (.slice q4 s.tm.length k4) s) 29 from new6 w4 _ _ _ _ _ _ 29)
    have HN5 := hide ((HN3.out.down hb).down hbC)
    have HY5 := hide (hy.down hbC)
    have hb5 := hb4.trans (hbC.mono hb4.size)
    clear d0 d1 d2 d3 d4 d5 hb hb3 hb4 HN3 hy hbC
    obtain ⟨⟨d0, d1, d2, d3, d4, d5⟩, -⟩ := HM5.out.hex
    go_wp2_with fail
    refine (CI.out _ _ _ HY5.out.c (HK.out.below hb5)).mono ?_
    rintro e w6 ⟨rfl, hb⟩
    have hb6 := hb5.trans (hb.mono hb5.size)
    have HN6 := hide (HN5.out.down hb)
    have HM6 := hide (HM5.out.down hb)
    have HY6 := hide (HY5.out.down hb)
    clear d0 d1 d2 d3 d4 d5 hb hb5 HN5 HM5 HY5 CI CS
    obtain ⟨⟨d0, d1, d2, d3, d4, d5⟩, -⟩ := HN6.out.hex
    obtain ⟨⟨e0, e1, e2, e3, e4, e5⟩, -⟩ := HM6.out.hex
    have HC := hide (show ∀ wx wy : World, wx.heap = w6.heap → Below wx.heap.size wx wy → (wy.cell? ⟨w4.heap.size, 0, none⟩ = some (.int .i64 s.st) ∧ wy.cell? ⟨w4.heap.size, 1, none⟩ = some (.int .i64 s.nx) ∧ wy.cell? ⟨w4.heap.size, 2, none⟩ = some (.bool s.ca) ∧ wy.cell? ⟨w4.heap.size, 3, none⟩ = some (.int .i64 s.dn) ∧ wy.cell? ⟨w4.heap.size, 4, none⟩ = some (.slice q3 s.sg.length k3) ∧ wy.cell? ⟨w4.heap.size, 5, none⟩ = some (.slice q4 s.tm.length k4)) from fun wx wy hh hb => by
      have h : Blk wx w4.heap.size 6 (sq (.slice q3 s.sg.length k3) (.slice q4 s.tm.length k4) s) 29 := by unfold Blk; rw [hh]; exact HM6.out
      exact (h.down hb).hex.1)
    clear HM6
    go_wp2_with fail
    go_region_with (first | (go_at_call 12; refine (to_state _ _ s _ (HV.out.below (hb6.drew)) HS.out).mono ?_; rintro e w7 ⟨⟨z0, z1, rfl, hz⟩, hb7⟩; have HZ := hide hz; obtain ⟨q6, k6, rfl⟩ := hz.o0.form; obtain ⟨q7, k7, rfl⟩ := hz.o1.form; clear hz; obtain ⟨m0, m1, m2, m3, m4, m5⟩ := HC.out w6.drew w7 rfl hb7) | (go_at_call 15; refine (eq_state _ _ _ _ s _ (HY6.out.down ((Below.refl _ _).drew.trans hb7)).q HZ.out.q HS.out).mono ?_; rintro e w8 ⟨rfl, hb8⟩))
    all_goals
      have hbz : Below w.heap.size w w8 := (hb6.drew.trans (hb7.mono hb6.size)).trans (hb8.mono (Nat.le_trans hb6.size hb7.size))
      clear hb7 hb8 HZ m0 m1 m2 m3 m4 m5 d0 d1 d2 d3 d4 d5 e0 e1 e2 e3 e4 e5 HC HY6 HN6 HV HS
      go_wp2
      go_ret
      exact ⟨rfl, hbz⟩
theorem law_mayCome (v0 v1 : Value) (s : St) (k : Int) (x : ByteArray) (w : World) (hv : StQ w v0 v1 s) (hl : LensT s) (hx : x.size ≤ maxLen) (hkk : KK w) :
    Calls Tryd.prog 5 #[stv v0 v1 s, .int .i64 k, .string x] w fun e w' => e = .returned (.bool true) ∧ Below w.heap.size w w' :=
  law_MayCome_run v0 v1 s k x w hv hl hx hkk (fun hs _ => by
    obtain ⟨b0, hb0⟩ := bp_ex (MayG s k x)
    obtain ⟨b, hb⟩ := bp_ex (MayG s k x ∧ May s (evM s k x))
    exact ⟨b, b0, fun v0 v1 w h => spec_may v0 v1 s k x b b0 w h hs ⟨hl.1.2, hl.2.2⟩ hx hb0 hb, fun v0 v1 w h hk => impl_may v0 v1 s k x b b0 w h hs ⟨hl.1.2, hl.2.2⟩ hx hk hb0 hb⟩)
end Go.Proofs.YtglpkikncgdghaaDoor
