/-
  The law of CanFire, walked: it returns true and turns nothing that was there, at every net, list and number.
-/
import Derived.Test.YthilapalgakhhaaNetAid3
import Derived.Test.YthilapalgakhhaaNetCanS
import Derived.Test.YthilapalgakhhaaNetCan
import Derived.RegionTactic
namespace Go.Proofs.Ythilapalgakhhaa
open Go.RowKit M
set_option maxHeartbeats 800000 in
theorem law_can_run (p : Int) (v : Value) (k : Nat) (st : Nat → Sp) (u : Value) (m : Nat) (g : Nat → Int) (i : Int) (w : World) (hv : StepsOf w v k st) (hl : Lens k st) (hu : IntsOf w u m g) (hm : m ≤ 1048576)
    (hC : Short k st → ∃ b ok : Bool, (∀ (v u : Value) (w : World), StepsOf w v k st → IntsOf w u m g → Calls Try.prog 18 #[netV p v, u, .int .i64 i] w fun e w' => e = .returned (.tuple #[.bool b, .bool ok]) ∧ Below w.heap.size w w') ∧
      (∀ (v u : Value) (w : World), StepsOf w v k st → IntsOf w u m g → Calls Try.prog 20 #[netV p v, u, .int .i64 i] w fun e w' => e = .returned (.tuple #[.bool b, .bool ok]) ∧ Below w.heap.size w w')) :
    Calls Try.prog 4 #[netV p v, u, .int .i64 i] w fun e w' => e = .returned (.bool true) ∧ Below w.heap.size w w' := by
  have HV := hide hv
  have HU := hide hu
  obtain ⟨a, cap, rfl⟩ := hv.form
  obtain ⟨a2, cap2, rfl⟩ := hu.form
  have HL := hide hl
  have HC := hide hC
  have hgm : ¬ ((m : Int) > 1048576) := by omega
  clear hv hl hu hC
  go_enter Try.func4, Try.ntmps4
  go_wp2_with fail
  have hb0 := (Below.refl w.heap.size w).alloc (Nat.le_refl _) (.cells #[.int .i64 p, .slice a k cap] 24)
  have hN0 := Blk.fresh w _ 2 (p2 (.int .i64 p) (.slice a k cap)) 24 rfl
  refine (sz_net p _ k st _ (HV.out.below hb0) HL.out).mono ?_
  rintro e w1 ⟨⟨r, rfl, hr⟩, hb⟩
  have hb1 := hb0.trans (hb.mono hb0.size)
  have HN1 := hide (hN0.down hb)
  clear hb hb0 hN0
  by_cases hrn : r < 0
  · clear HN1 hr
    go_wp2
    go_ret
    exact ⟨rfl, hb1⟩
  · have hsm : Small k st := by
      rcases hr with h | ⟨_, h⟩
      · omega
      · exact h
    have HS := hide hsm.short
    obtain ⟨b, ok, hS, hI⟩ := HC.out hsm.short
    have CS := hide hS
    have CI := hide hI
    have hbb : (b != b) = false := by simp
    have hoo : (ok != ok) = false := by simp
    clear hr hsm HC hS hI HL
    obtain ⟨d0, d1, -, -⟩ := HN1.out.pair
    go_wp2_with fail
    refine (to_net p _ k st _ (HV.out.below hb1) HS.out).mono ?_
    rintro e w2 ⟨⟨g2, X2, rfl, hg2, hX2⟩, hb⟩
    have hb2 := hb1.trans (hb.mono hb1.size)
    have HN2 := hide (HN1.out.down hb)
    clear d0 d1 hb hb1 HN1
    go_wp2_with fail
    refine (to_ints _ m g _ (HU.out.below hb2) hm).mono ?_
    rintro e w3 ⟨⟨rfl, hB3⟩, hb⟩
    have hb3 := hb2.trans (hb.mono hb2.size)
    have HN3 := hide (HN2.out.down hb)
    have hX3 := hX2.below hb
    clear hb hb2 HN2 hX2
    go_wp2_with fail
    refine (CS.out _ _ _ (hX3.steps (cap := k)) (hB3.ints (cap := m))).mono ?_
    rintro e w4 ⟨rfl, hb⟩
    have hb4 := hb3.trans (hb.mono hb3.size)
    have HN4 := hide (HN3.out.down hb)
    clear hX3 hB3 hb hb3 HN3
    obtain ⟨d0, d1, -, -⟩ := HN4.out.pair
    go_wp2_with fail
    refine (to_net p _ k st _ (HV.out.below hb4) HS.out).mono ?_
    rintro e w5 ⟨⟨g5, X5, rfl, hg5, hX5⟩, hb⟩
    have hb5 := hb4.trans (hb.mono hb4.size)
    have hbA := (Below.refl w5.heap.size w5).alloc (Nat.le_refl _) (.cells #[.int .i64 p, sl g5 k] 29)
    have hc5 := Blk.fresh w5 _ 2 (p2 (.int .i64 p) (sl g5 k)) 29 rfl
    have HN5 := hide ((HN4.out.down hb).down hbA)
    have hb6 := hb5.trans (hbA.mono hb5.size)
    have hX6 := hX5.below hbA
    clear d0 d1 hb hb4 HN4 hX5 hbA
    go_wp2_with fail
    refine (to_ints _ m g _ (HU.out.below hb6) hm).mono ?_
    rintro e w7 ⟨⟨rfl, hB7⟩, hb⟩
    rw [World.size_alloc] at hB7
    have hb7 := hb6.trans (hb.mono hb6.size)
    have HN7 := hide (HN5.out.down hb)
    have hX7 := hX6.below hb
    have hc7 := hc5.down hb
    clear hb hb6 HN5 hX6 hc5 hb5
    obtain ⟨e0, e1, -, -⟩ := hc7.pair
    go_wp2_with fail
    refine (CI.out _ _ _ (hX7.steps (cap := k)) (hB7.ints (cap := m))).mono ?_
    rintro e w8 ⟨rfl, hb⟩
    have hb8 := hb7.trans (hb.mono hb7.size)
    have HN8 := hide (HN7.out.down hb)
    have HX8 := hide (hX7.below hb)
    have HB8 := hide (hB7.down hb)
    have hc8 := hc7.down hb
    clear hb hb7 HN7 hX7 hB7 hc7 e0 e1
    obtain ⟨d0, d1, -, -⟩ := HN8.out.pair
    obtain ⟨e0, e1, -, -⟩ := hc8.pair
    have HC := hide (show ∀ wx wy : World, wx.heap = w8.heap → Below wx.heap.size wx wy → wy.cell? ⟨w5.heap.size, 0, none⟩ = some (.int .i64 p) ∧ wy.cell? ⟨w5.heap.size, 1, none⟩ = some (sl g5 k) from fun wx wy hh hb => by
      have h : Blk wx w5.heap.size 2 (p2 (.int .i64 p) (sl g5 k)) 29 := by unfold Blk; rw [hh]; exact hc8
      exact ⟨(h.down hb).pair.1, (h.down hb).pair.2.1⟩)
    clear hc8
    go_wp2_with fail
    go_region_with (first | (go_at_call 15; refine (to_net p _ k st _ (HV.out.below (hb8.drew)) HS.out).mono ?_; rintro e wy ⟨⟨gy, Xy, rfl, hgy, hXy⟩, hby⟩; obtain ⟨m0, m1⟩ := HC.out w8.drew wy rfl hby) | (go_at_call 17; refine (eq_net p _ _ k st _ ((HX8.out.below ((Below.refl _ _).drew.trans hby)).steps (cap := k)) (hXy.steps (cap := k)) HS.out).mono ?_; rintro e wz ⟨rfl, hbz⟩))
    all_goals
      have hb8z : Below w8.heap.size w8 wz := ((Below.refl _ _).drew.trans hby).trans (hbz.mono hby.size)
      have hb9 := hb8.trans (hb8z.mono hb8.size)
      have HB9 := hide (HB8.out.down hb8z)
      clear hby hbz hXy m0 m1 d0 d1 e0 e1 HC HX8 HN8 hb8z hb8 HB8
      go_wp2_with fail
      refine (to_ints _ m g _ (HU.out.below hb9) hm).mono ?_
      rintro e wt ⟨⟨rfl, hBt⟩, hb⟩
      have hbt := hb9.trans (hb.mono hb9.size)
      have HBt := hide (HB9.out.down hb)
      clear hb hb9 HB9
      go_wp2_with fail
      refine (eq_ints _ _ m g _ (HBt.out.ints (cap := m)) (hBt.ints (cap := m)) hm).mono ?_
      rintro e wu ⟨rfl, hb⟩
      have hbu := hbt.trans (hb.mono hbt.size)
      clear hb hbt HBt hBt HV HU HS CS CI
      go_wp2
      go_ret
      exact ⟨rfl, hbu⟩
theorem law_can (p : Int) (v : Value) (k : Nat) (st : Nat → Sp) (u : Value) (m : Nat) (g : Nat → Int) (i : Int) (w : World) (_ : (Lit.int .i64 p).wf = true) (hv : StepsOf w v k st) (hl : Lens k st) (hu : IntsOf w u m g) (mm : m ≤ maxLen) (_ : (Lit.int .i64 i).wf = true) :
    Calls Try.prog 4 #[netV p v, u, .int .i64 i] w fun e w' => e = .returned (.bool true) ∧ Below w.heap.size w w' := by
  unfold maxLen at mm
  by_cases hm : m ≤ 1048576
  · refine law_can_run p v k st u m g i w hv hl hu hm (fun hs => ?_)
    by_cases h : NOk p k st m g ∧ 0 ≤ i ∧ i ≤ (k : Int) - 1
    · obtain ⟨h, hi0, hi1⟩ := h
      obtain ⟨j, rfl⟩ := Int.eq_ofNat_of_zero_le hi0
      exact ⟨(fire (st j) (pad m g)).isSome, true, fun v u w h1 h2 => spec_can p v k st u m g j _ w h1 h2 hs h (by omega) rfl, fun v u w h1 h2 => impl_can p v k st u m g j _ w h1 h2 hs h (by omega) rfl⟩
    · exact ⟨false, false, fun v u w h1 h2 => spec_can_no p v k st u m g i w h1 h2 hs hm h, fun v u w h1 h2 => impl_can_no p v k st u m g i w h1 h2 hs hm h⟩
  · obtain ⟨a, cap, rfl⟩ := hv.form
    obtain ⟨a2, cap2, rfl⟩ := hu.form
    have hgm : ((m : Int) > 1048576) := by omega
    clear hv hu hl
    go_enter Try.func4, Try.ntmps4
    go_wp2
    go_ret
    exact ⟨rfl, (Below.refl _ _).alloc (Nat.le_refl _) _⟩
end Go.Proofs.Ythilapalgakhhaa
