/-
  The law of IsSound, walked: it returns true and turns nothing that was there, wherever both texts tell the same.
-/
import Derived.Test.YthilapalgakhhaaNetAid3
import Derived.Test.YthilapalgakhhaaNetGoodS
import Derived.RegionTactic
namespace Go.Proofs.Ythilapalgakhhaa
open Go.RowKit M
set_option maxHeartbeats 1000000 in
theorem law_sound_run (p : Int) (v : Value) (k : Nat) (st : Nat → Sp) (w : World) (hv : StepsOf w v k st) (hl : Lens k st)
    (hC : Small k st → ∃ z1 z2 : Bool, (∀ (v : Value) (W : World), StepsOf W v k st → Calls Try.prog 40 #[netV p v] W fun e w' => e = .returned (.tuple #[.bool z1, .bool z2]) ∧ Below W.heap.size W w') ∧
      (∀ (v : Value) (W : World), StepsOf W v k st → Calls Try.prog 41 #[netV p v] W fun e w' => e = .returned (.tuple #[.bool z1, .bool z2]) ∧ Below W.heap.size W w')) :
    Calls Try.prog 11 #[netV p v] w fun e w' => e = .returned (.bool true) ∧ Below w.heap.size w w' := by
  have HV := hide hv
  obtain ⟨a, cap, rfl⟩ := hv.form
  have HL := hide hl
  have HC0 := hide hC
  clear hv hl hC
  go_enter Try.func11, Try.ntmps11
  go_wp2_with fail
  have hb0 := (Below.refl w.heap.size w).alloc (Nat.le_refl _) (.cells #[.int .i64 p, .slice a k cap] 24)
  have hN0 := Blk.fresh w _ 2 (p2 (.int .i64 p) (.slice a k cap)) 24 rfl
  refine (sz_net p _ k st _ (HV.out.below hb0) HL.out).mono ?_
  rintro e w1 ⟨⟨r, rfl, hr⟩, hb⟩
  have hb1 := hb0.trans (hb.mono hb0.size)
  have HN1 := hide (hN0.down hb)
  clear hb hb0 hN0
  by_cases hrn : r < 0
  · clear HN1 hr
    go_wp2
    go_ret
    exact ⟨rfl, hb1⟩
  · have hsm : Small k st := by
      rcases hr with h | ⟨_, h⟩
      · omega
      · exact h
    have HSm := hide hsm
    have HS := hide hsm.short
    obtain ⟨z1, z2, hSp, hIm⟩ := HC0.out hsm
    have HSp := hide hSp
    have HIm := hide hIm
    have hn1 : (z1 != z1) = false := by simp
    have hn2 : (z2 != z2) = false := by simp
    clear hr hsm hSp hIm HC0
    obtain ⟨d0, d1, -, -⟩ := HN1.out.pair
    go_wp2_with fail
    refine (to_net p _ k st _ (HV.out.below hb1) HS.out).mono ?_
    rintro e w2 ⟨⟨g2, X2, rfl, hg2, hX2⟩, hb⟩
    have hb2 := hb1.trans (hb.mono hb1.size)
    have HN2 := hide (HN1.out.down hb)
    clear d0 d1 hb hb1 HN1
    go_wp2_with fail
    refine (HSp.out _ _ (hX2.steps (cap := k))).mono ?_
    rintro e w3 ⟨rfl, hb⟩
    have hb3 := hb2.trans (hb.mono hb2.size)
    have HN3 := hide (HN2.out.down hb)
    clear hX2 hb hb2 HN2
    obtain ⟨d0, d1, -, -⟩ := HN3.out.pair
    go_wp2_with fail
    refine (to_net p _ k st _ (HV.out.below hb3) HS.out).mono ?_
    rintro e w4 ⟨⟨g4, X4, rfl, hg4, hX4⟩, hb⟩
    have hb4 := hb3.trans (hb.mono hb3.size)
    have HN4 := hide (HN3.out.down hb)
    clear d0 d1 hb hb3 HN3
    go_wp2_with fail
    have hX0 := Blk.fresh w4 _ 2 (p2 (.int .i64 p) (sl g4 k)) 29 rfl
    have hbA := (Below.refl w4.heap.size w4).alloc (Nat.le_refl _) (.cells #[.int .i64 p, sl g4 k] 29)
    have hX4' := hX4.below hbA
    refine (HIm.out _ _ (hX4'.steps (cap := k))).mono ?_
    rintro e w5 ⟨rfl, hb⟩
    have hb5 := (hb4.trans (hbA.mono hb4.size)).trans (hb.mono (by have := hb4.size; simp; omega))
    have HN5 := hide ((HN4.out.down hbA).down hb)
    have HX5 := hide (hX4'.below hb)
    have hc5 := hX0.down hb
    clear hX4 hX4' hX0 hb hbA hb4 HN4
    obtain ⟨d0, d1, -, -⟩ := HN5.out.pair
    obtain ⟨e0, e1, -, -⟩ := hc5.pair
    have HC := hide (show ∀ wx w6 : World, wx.heap = w5.heap → Below wx.heap.size wx w6 → w6.cell? ⟨w4.heap.size, 0, none⟩ = some (.int .i64 p) ∧ w6.cell? ⟨w4.heap.size, 1, none⟩ = some (sl g4 k) from fun wx w6 hh hb => by
      have h : Blk wx w4.heap.size 2 (p2 (.int .i64 p) (sl g4 k)) 29 := by unfold Blk; rw [hh]; exact hc5
      exact ⟨(h.down hb).pair.1, (h.down hb).pair.2.1⟩)
    clear hc5
    go_wp2_with fail
    go_region_with (first | (go_at_call 15; refine (to_net p _ k st _ (HV.out.below (hb5.drew)) HS.out).mono ?_; rintro e w6 ⟨⟨g6, X6, rfl, hg6, hX6⟩, hb6⟩; obtain ⟨m0, m1⟩ := HC.out w5.drew w6 rfl hb6) | (go_at_call 17; refine (eq_net p _ _ k st _ ((HX5.out.below ((Below.refl _ _).drew.trans hb6)).steps (cap := k)) (hX6.steps (cap := k)) HS.out).mono ?_; rintro e w7 ⟨rfl, hb7⟩))
    all_goals
      have hbz : Below w.heap.size w w7 := (hb5.drew.trans (hb6.mono hb5.size)).trans (hb7.mono (Nat.le_trans hb5.size hb6.size))
      clear hb6 hb7 hX6 m0 m1 d0 d1 e0 e1 HC HX5 HN5 HV HS HSm HL
      go_wp2
      go_ret
      exact ⟨rfl, hbz⟩
end Go.Proofs.Ythilapalgakhhaa
