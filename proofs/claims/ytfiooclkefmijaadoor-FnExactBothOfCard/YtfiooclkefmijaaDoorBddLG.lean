/-
  The laws of GoodDiagram, Decide and CountYes, walked: they return true and turn nothing that was there, wherever both texts tell the same.
-/
import Derived.Test.YtfiooclkefmijaaDoorBddI
import Derived.Test.YtfiooclkefmijaaDoorBddGJ
import Derived.Deep.RegionWith
namespace Go.Proofs.YtfiooclkefmijaaDoor
open Go.RowKit M
open Clk (upd upd_same upd_other)
namespace M
theorem wrap20 : (1048576 : Int) = ((1048576 : Nat) : Int) := rfl
end M
set_option maxRecDepth 20000 in
set_option maxHeartbeats 4000000 in
theorem law_GoodDiagram_run (v : Value) (l : List Bdd.Ch) (r : Int) (w : World) (ho : OV w) (hv : ChsOf w v l) (hm : l.length ≤ maxLen)
    (hC : l.length ≤ 1048576 → ∃ b : Bool, (∀ u W, ChsOf W u l → Calls Tryd.prog 22 #[dgV u r] W fun e w' => e = .returned (.bool b) ∧ Below W.heap.size W w') ∧
      (∀ u W, OV W → ChsOf W u l → Calls Tryd.prog 24 #[dgV u r] W fun e w' => e = .returned (.bool b) ∧ Below W.heap.size W w')) :
    Calls Tryd.prog 6 #[dgV v r] w fun e w' => e = .returned (.bool true) ∧ Below w.heap.size w w' := by
  have HV := hide hv
  have HC0 := hide hC
  have HO := hide ho
  obtain ⟨a, cap, rfl⟩ := hv.form
  have hd0 := (Below.refl w.heap.size w).alloc (Nat.le_refl _) (.cells #[.slice a l.length cap, .int .i64 r] 34)
  have hx0 := Blk.fresh w #[.slice a l.length cap, .int .i64 r] 2 (q2 (.slice a l.length cap) (.int .i64 r)) 34 rfl
  obtain ⟨w0, hw0⟩ : ∃ w0, w.alloc (.cells #[.slice a l.length cap, .int .i64 r] 34) = w0 := ⟨_, rfl⟩
  have Hw0 := hide hw0
  rw [hw0] at hd0 hx0
  have HB0 := hide hd0
  have HN0 := hide hx0
  obtain ⟨d0, d1, -, -⟩ := hx0.two
  simp [q2] at d0 d1
  rw [← hw0] at d0 d1
  have HS0 := hide (sz_diagram a l.length cap r 1048576 w0 hm (Nat.le_refl _))
  clear hd0 hx0 hw0 hv hC ho hm
  go_enter Tryd.func6, Tryd.ntmps6
  go_wp2_with fail
  rw [Hw0.out] at d0 d1 ⊢
  refine HS0.out.mono ?_
  rintro e w1 ⟨rfl, hb⟩
  have HB1 := hide (HB0.out.trans (hb.mono HB0.out.size))
  have HN1 := hide (HN0.out.down hb)
  clear hb HB0 HN0 d0 d1 HS0 Hw0
  by_cases hs : l.length ≤ 1048576
  · rw [if_pos hs]
    obtain ⟨q, hq⟩ : ∃ q : Nat, 1048576 - l.length = q := ⟨_, rfl⟩
    rw [hq]
    have hq0 : ¬ ((q : Int) < 0) := by omega
    have HS := hide hs
    obtain ⟨b, hSp, hIm⟩ := HC0.out hs
    have hbb : (b != b) = false := by simp
    have HSp := hide hSp
    have HIm := hide hIm
    clear hq hs hSp hIm HC0
    obtain ⟨d0, d1, -, -⟩ := HN1.out.two
    simp [q2] at d0 d1
    go_wp2_with fail
    refine (to_diagram _ r l _ (HV.out.below HB1.out) HS.out).mono ?_
    rintro e w2 ⟨⟨u2, rfl, hA2⟩, hb⟩
    have HB2 := hide (HB1.out.trans (hb.mono HB1.out.size))
    have HN2 := hide (HN1.out.down hb)
    clear d0 d1 hb HB1 HN1
    go_wp2_with fail
    refine (HSp.out u2 w2 hA2.chs).mono ?_
    rintro e w3 ⟨rfl, hb⟩
    have HB3 := hide (HB2.out.trans (hb.mono HB2.out.size))
    have HN3 := hide (HN2.out.down hb)
    clear hb HB2 HN2 hA2
    obtain ⟨d0, d1, -, -⟩ := HN3.out.two
    simp [q2] at d0 d1
    go_wp2_with fail
    refine (to_diagram _ r l _ (HV.out.below HB3.out) HS.out).mono ?_
    rintro e w4 ⟨⟨u4, rfl, hA4⟩, hb⟩
    obtain ⟨a4, c4, rfl⟩ := hA4.form
    have hd5 := (Below.refl w4.heap.size w4).alloc (Nat.le_refl _) (.cells #[.slice a4 l.length c4, .int .i64 r] 27)
    have hx5 := Blk.fresh w4 #[.slice a4 l.length c4, .int .i64 r] 2 (q2 (.slice a4 l.length c4) (.int .i64 r)) 27 rfl
    obtain ⟨w5, hw5⟩ : ∃ w5, w4.alloc (.cells #[.slice a4 l.length c4, .int .i64 r] 27) = w5 := ⟨_, rfl⟩
    have Hw5 := hide hw5
    rw [hw5] at hd5 hx5
    have hb4 := HB3.out.trans (hb.mono HB3.out.size)
    have HB5 := hide (hb4.trans (hd5.mono hb4.size))
    have HN5 := hide ((HN3.out.down hb).down hd5)
    have HM5 := hide hx5
    have HA5 := hide (hA4.down hd5)
    obtain ⟨d0, d1, -, -⟩ := hx5.two
    simp [q2] at d0 d1
    rw [← hw5] at d0 d1
    clear hb hb4 hd5 hx5 hw5 hA4 HB3 HN3
    go_wp2_with fail
    rw [Hw5.out] at d0 d1 ⊢
    refine (HIm.out _ w5 (HO.out.below HB5.out) HA5.out.chs).mono ?_
    rintro e w6 ⟨rfl, hb⟩
    have HB6 := hide (HB5.out.trans (hb.mono HB5.out.size))
    have HN6 := hide (HN5.out.down hb)
    have HM6 := hide (HM5.out.down hb)
    have HA6 := hide (HA5.out.down hb)
    clear d0 d1 hb HB5 HN5 HM5 HA5 Hw5
    obtain ⟨d0, d1, -, -⟩ := HN6.out.two
    obtain ⟨e0, e1, -, -⟩ := HM6.out.two
    simp [q2] at d0 d1 e0 e1
    have HC := hide (show ∀ wx wy : World, wx.heap = w6.heap → Below wx.heap.size wx wy → wy.cell? ⟨w4.heap.size, 0, none⟩ = some (.slice a4 l.length c4) ∧ wy.cell? ⟨w4.heap.size, 1, none⟩ = some (.int .i64 r) from fun wx wy hh hb => by
      have h : Blk wx w4.heap.size 2 (q2 (.slice a4 l.length c4) (.int .i64 r)) 27 := HM6.out.same hh
      exact ⟨(h.down hb).two.1, (h.down hb).two.2.1⟩)
    clear HM6
    have hb6 := HB6.out
    go_wp2_with fail
    go_region_with (first | (go_at_call 23; refine (to_diagram _ r l _ (HV.out.below (hb6.drew)) HS.out).mono ?_; rintro e w7 ⟨⟨u7, rfl, hA7⟩, hb7⟩; have HA7 := hide hA7; obtain ⟨a7, c7, rfl⟩ := hA7.form; clear hA7; obtain ⟨m0, m1⟩ := HC.out w6.drew w7 rfl hb7) | (go_at_call 18; refine (eq_diagram _ _ r l _ (HA6.out.down ((Below.refl _ _).drew.trans hb7)).chs HA7.out.chs HS.out).mono ?_; rintro e w8 ⟨rfl, hb8⟩))
    all_goals
      have hbz : Below w.heap.size w w8 := (hb6.drew.trans (hb7.mono hb6.size)).trans (hb8.mono (Nat.le_trans hb6.size hb7.size))
      have HZ := hide hbz
      clear hb7 hb8 HA7 m0 m1 d0 d1 e0 e1 HC HA6 HN6 HV HS hb6 HB6 hbz
      go_wp2
      go_ret
      exact ⟨rfl, HZ.out⟩
  · rw [if_neg hs]
    clear hs HC0 HN1
    go_wp2
    go_ret
    exact ⟨rfl, HB1.out⟩
set_option maxRecDepth 20000 in
set_option maxHeartbeats 4000000 in
theorem law_Decide_run (v : Value) (l : List Bdd.Ch) (r : Int) (x : Int) (w : World) (ho : OV w) (hv : ChsOf w v l) (hm : l.length ≤ maxLen)
    (hC : l.length ≤ 1048576 → ∃ b c : Bool, (∀ u W, ChsOf W u l → Calls Tryd.prog 25 #[dgV u r, .int .i64 x] W fun e w' => e = .returned (.tuple #[.bool b, .bool c]) ∧ Below W.heap.size W w') ∧
      (∀ u W, OV W → ChsOf W u l → Calls Tryd.prog 26 #[dgV u r, .int .i64 x] W fun e w' => e = .returned (.tuple #[.bool b, .bool c]) ∧ Below W.heap.size W w')) :
    Calls Tryd.prog 7 #[dgV v r, .int .i64 x] w fun e w' => e = .returned (.bool true) ∧ Below w.heap.size w w' := by
  have HV := hide hv
  have HC0 := hide hC
  have HO := hide ho
  obtain ⟨a, cap, rfl⟩ := hv.form
  have hd0 := (Below.refl w.heap.size w).alloc (Nat.le_refl _) (.cells #[.slice a l.length cap, .int .i64 r] 34)
  have hx0 := Blk.fresh w #[.slice a l.length cap, .int .i64 r] 2 (q2 (.slice a l.length cap) (.int .i64 r)) 34 rfl
  obtain ⟨w0, hw0⟩ : ∃ w0, w.alloc (.cells #[.slice a l.length cap, .int .i64 r] 34) = w0 := ⟨_, rfl⟩
  have Hw0 := hide hw0
  rw [hw0] at hd0 hx0
  have HB0 := hide hd0
  have HN0 := hide hx0
  obtain ⟨d0, d1, -, -⟩ := hx0.two
  simp [q2] at d0 d1
  rw [← hw0] at d0 d1
  have HS0 := hide (sz_diagram a l.length cap r 1048576 w0 hm (Nat.le_refl _))
  clear hd0 hx0 hw0 hv hC ho hm
  go_enter Tryd.func7, Tryd.ntmps7
  go_wp2_with fail
  rw [Hw0.out] at d0 d1 ⊢
  refine HS0.out.mono ?_
  rintro e w1 ⟨rfl, hb⟩
  have HB1 := hide (HB0.out.trans (hb.mono HB0.out.size))
  have HN1 := hide (HN0.out.down hb)
  clear hb HB0 HN0 d0 d1 HS0 Hw0
  by_cases hs : l.length ≤ 1048576
  · rw [if_pos hs]
    obtain ⟨q, hq⟩ : ∃ q : Nat, 1048576 - l.length = q := ⟨_, rfl⟩
    rw [hq]
    have hq0 : ¬ ((q : Int) < 0) := by omega
    have HS := hide hs
    obtain ⟨b, c, hSp, hIm⟩ := HC0.out hs
    have hbb : (b != b) = false := by simp
    have hcc : (c != c) = false := by simp
    have HSp := hide hSp
    have HIm := hide hIm
    clear hq hs hSp hIm HC0
    obtain ⟨d0, d1, -, -⟩ := HN1.out.two
    simp [q2] at d0 d1
    go_wp2_with fail
    refine (to_diagram _ r l _ (HV.out.below HB1.out) HS.out).mono ?_
    rintro e w2 ⟨⟨u2, rfl, hA2⟩, hb⟩
    have HB2 := hide (HB1.out.trans (hb.mono HB1.out.size))
    have HN2 := hide (HN1.out.down hb)
    clear d0 d1 hb HB1 HN1
    go_wp2_with fail
    refine (HSp.out u2 w2 hA2.chs).mono ?_
    rintro e w3 ⟨rfl, hb⟩
    have HB3 := hide (HB2.out.trans (hb.mono HB2.out.size))
    have HN3 := hide (HN2.out.down hb)
    clear hb HB2 HN2 hA2
    obtain ⟨d0, d1, -, -⟩ := HN3.out.two
    simp [q2] at d0 d1
    go_wp2_with fail
    refine (to_diagram _ r l _ (HV.out.below HB3.out) HS.out).mono ?_
    rintro e w4 ⟨⟨u4, rfl, hA4⟩, hb⟩
    obtain ⟨a4, c4, rfl⟩ := hA4.form
    have hd5 := (Below.refl w4.heap.size w4).alloc (Nat.le_refl _) (.cells #[.slice a4 l.length c4, .int .i64 r] 27)
    have hx5 := Blk.fresh w4 #[.slice a4 l.length c4, .int .i64 r] 2 (q2 (.slice a4 l.length c4) (.int .i64 r)) 27 rfl
    obtain ⟨w5, hw5⟩ : ∃ w5, w4.alloc (.cells #[.slice a4 l.length c4, .int .i64 r] 27) = w5 := ⟨_, rfl⟩
    have Hw5 := hide hw5
    rw [hw5] at hd5 hx5
    have hb4 := HB3.out.trans (hb.mono HB3.out.size)
    have HB5 := hide (hb4.trans (hd5.mono hb4.size))
    have HN5 := hide ((HN3.out.down hb).down hd5)
    have HM5 := hide hx5
    have HA5 := hide (hA4.down hd5)
    obtain ⟨d0, d1, -, -⟩ := hx5.two
    simp [q2] at d0 d1
    rw [← hw5] at d0 d1
    clear hb hb4 hd5 hx5 hw5 hA4 HB3 HN3
    go_wp2_with fail
    rw [Hw5.out] at d0 d1 ⊢
    refine (HIm.out _ w5 (HO.out.below HB5.out) HA5.out.chs).mono ?_
    rintro e w6 ⟨rfl, hb⟩
    have HB6 := hide (HB5.out.trans (hb.mono HB5.out.size))
    have HN6 := hide (HN5.out.down hb)
    have HM6 := hide (HM5.out.down hb)
    have HA6 := hide (HA5.out.down hb)
    clear d0 d1 hb HB5 HN5 HM5 HA5 Hw5
    obtain ⟨d0, d1, -, -⟩ := HN6.out.two
    obtain ⟨e0, e1, -, -⟩ := HM6.out.two
    simp [q2] at d0 d1 e0 e1
    have HC := hide (show ∀ wx wy : World, wx.heap = w6.heap → Below wx.heap.size wx wy → wy.cell? ⟨w4.heap.size, 0, none⟩ = some (.slice a4 l.length c4) ∧ wy.cell? ⟨w4.heap.size, 1, none⟩ = some (.int .i64 r) from fun wx wy hh hb => by
      have h : Blk wx w4.heap.size 2 (q2 (.slice a4 l.length c4) (.int .i64 r)) 27 := HM6.out.same hh
      exact ⟨(h.down hb).two.1, (h.down hb).two.2.1⟩)
    clear HM6
    have hb6 := HB6.out
    go_wp2_with fail
    go_region_with (first | (go_at_call 23; refine (to_diagram _ r l _ (HV.out.below (hb6.drew)) HS.out).mono ?_; rintro e w7 ⟨⟨u7, rfl, hA7⟩, hb7⟩; have HA7 := hide hA7; obtain ⟨a7, c7, rfl⟩ := hA7.form; clear hA7; obtain ⟨m0, m1⟩ := HC.out w6.drew w7 rfl hb7) | (go_at_call 18; refine (eq_diagram _ _ r l _ (HA6.out.down ((Below.refl _ _).drew.trans hb7)).chs HA7.out.chs HS.out).mono ?_; rintro e w8 ⟨rfl, hb8⟩))
    all_goals
      have hbz : Below w.heap.size w w8 := (hb6.drew.trans (hb7.mono hb6.size)).trans (hb8.mono (Nat.le_trans hb6.size hb7.size))
      have HZ := hide hbz
      clear hb7 hb8 HA7 m0 m1 d0 d1 e0 e1 HC HA6 HN6 HV HS hb6 HB6 hbz
      go_wp2
      go_ret
      exact ⟨rfl, HZ.out⟩
  · rw [if_neg hs]
    clear hs HC0 HN1
    go_wp2
    go_ret
    exact ⟨rfl, HB1.out⟩
set_option maxRecDepth 20000 in
set_option maxHeartbeats 4000000 in
theorem law_CountYes_run (v : Value) (l : List Bdd.Ch) (r : Int) (w : World) (ho : OV w) (hv : ChsOf w v l) (hm : l.length ≤ maxLen)
    (hC : l.length ≤ 1048576 → ∃ (b : Int) (c : Bool), (∀ u W, ChsOf W u l → Calls Tryd.prog 27 #[dgV u r] W fun e w' => e = .returned (.tuple #[.int .i64 b, .bool c]) ∧ Below W.heap.size W w') ∧
      (∀ u W, OV W → ChsOf W u l → Calls Tryd.prog 28 #[dgV u r] W fun e w' => e = .returned (.tuple #[.int .i64 b, .bool c]) ∧ Below W.heap.size W w')) :
    Calls Tryd.prog 8 #[dgV v r] w fun e w' => e = .returned (.bool true) ∧ Below w.heap.size w w' := by
  have HV := hide hv
  have HC0 := hide hC
  have HO := hide ho
  obtain ⟨a, cap, rfl⟩ := hv.form
  have hd0 := (Below.refl w.heap.size w).alloc (Nat.le_refl _) (.cells #[.slice a l.length cap, .int .i64 r] 34)
  have hx0 := Blk.fresh w #[.slice a l.length cap, .int .i64 r] 2 (q2 (.slice a l.length cap) (.int .i64 r)) 34 rfl
  obtain ⟨w0, hw0⟩ : ∃ w0, w.alloc (.cells #[.slice a l.length cap, .int .i64 r] 34) = w0 := ⟨_, rfl⟩
  have Hw0 := hide hw0
  rw [hw0] at hd0 hx0
  have HB0 := hide hd0
  have HN0 := hide hx0
  obtain ⟨d0, d1, -, -⟩ := hx0.two
  simp [q2] at d0 d1
  rw [← hw0] at d0 d1
  have HS0 := hide (sz_diagram a l.length cap r 1048576 w0 hm (Nat.le_refl _))
  clear hd0 hx0 hw0 hv hC ho hm
  go_enter Tryd.func8, Tryd.ntmps8
  go_wp2_with fail
  rw [Hw0.out] at d0 d1 ⊢
  refine HS0.out.mono ?_
  rintro e w1 ⟨rfl, hb⟩
  have HB1 := hide (HB0.out.trans (hb.mono HB0.out.size))
  have HN1 := hide (HN0.out.down hb)
  clear hb HB0 HN0 d0 d1 HS0 Hw0
  by_cases hs : l.length ≤ 1048576
  · rw [if_pos hs]
    obtain ⟨q, hq⟩ : ∃ q : Nat, 1048576 - l.length = q := ⟨_, rfl⟩
    rw [hq]
    have hq0 : ¬ ((q : Int) < 0) := by omega
    have HS := hide hs
    obtain ⟨b, c, hSp, hIm⟩ := HC0.out hs
    have hbb : (b != b) = false := by simp
    have hcc : (c != c) = false := by simp
    have HSp := hide hSp
    have HIm := hide hIm
    clear hq hs hSp hIm HC0
    obtain ⟨d0, d1, -, -⟩ := HN1.out.two
    simp [q2] at d0 d1
    go_wp2_with fail
    refine (to_diagram _ r l _ (HV.out.below HB1.out) HS.out).mono ?_
    rintro e w2 ⟨⟨u2, rfl, hA2⟩, hb⟩
    have HB2 := hide (HB1.out.trans (hb.mono HB1.out.size))
    have HN2 := hide (HN1.out.down hb)
    clear d0 d1 hb HB1 HN1
    go_wp2_with fail
    refine (HSp.out u2 w2 hA2.chs).mono ?_
    rintro e w3 ⟨rfl, hb⟩
    have HB3 := hide (HB2.out.trans (hb.mono HB2.out.size))
    have HN3 := hide (HN2.out.down hb)
    clear hb HB2 HN2 hA2
    obtain ⟨d0, d1, -, -⟩ := HN3.out.two
    simp [q2] at d0 d1
    go_wp2_with fail
    refine (to_diagram _ r l _ (HV.out.below HB3.out) HS.out).mono ?_
    rintro e w4 ⟨⟨u4, rfl, hA4⟩, hb⟩
    obtain ⟨a4, c4, rfl⟩ := hA4.form
    have hd5 := (Below.refl w4.heap.size w4).alloc (Nat.le_refl _) (.cells #[.slice a4 l.length c4, .int .i64 r] 27)
    have hx5 := Blk.fresh w4 #[.slice a4 l.length c4, .int .i64 r] 2 (q2 (.slice a4 l.length c4) (.int .i64 r)) 27 rfl
    obtain ⟨w5, hw5⟩ : ∃ w5, w4.alloc (.cells #[.slice a4 l.length c4, .int .i64 r] 27) = w5 := ⟨_, rfl⟩
    have Hw5 := hide hw5
    rw [hw5] at hd5 hx5
    have hb4 := HB3.out.trans (hb.mono HB3.out.size)
    have HB5 := hide (hb4.trans (hd5.mono hb4.size))
    have HN5 := hide ((HN3.out.down hb).down hd5)
    have HM5 := hide hx5
    have HA5 := hide (hA4.down hd5)
    obtain ⟨d0, d1, -, -⟩ := hx5.two
    simp [q2] at d0 d1
    rw [← hw5] at d0 d1
    clear hb hb4 hd5 hx5 hw5 hA4 HB3 HN3
    go_wp2_with fail
    rw [Hw5.out] at d0 d1 ⊢
    refine (HIm.out _ w5 (HO.out.below HB5.out) HA5.out.chs).mono ?_
    rintro e w6 ⟨rfl, hb⟩
    have HB6 := hide (HB5.out.trans (hb.mono HB5.out.size))
    have HN6 := hide (HN5.out.down hb)
    have HM6 := hide (HM5.out.down hb)
    have HA6 := hide (HA5.out.down hb)
    clear d0 d1 hb HB5 HN5 HM5 HA5 Hw5
    obtain ⟨d0, d1, -, -⟩ := HN6.out.two
    obtain ⟨e0, e1, -, -⟩ := HM6.out.two
    simp [q2] at d0 d1 e0 e1
    have HC := hide (show ∀ wx wy : World, wx.heap = w6.heap → Below wx.heap.size wx wy → wy.cell? ⟨w4.heap.size, 0, none⟩ = some (.slice a4 l.length c4) ∧ wy.cell? ⟨w4.heap.size, 1, none⟩ = some (.int .i64 r) from fun wx wy hh hb => by
      have h : Blk wx w4.heap.size 2 (q2 (.slice a4 l.length c4) (.int .i64 r)) 27 := HM6.out.same hh
      exact ⟨(h.down hb).two.1, (h.down hb).two.2.1⟩)
    clear HM6
    have hb6 := HB6.out
    go_wp2_with fail
    go_region_with (first | (go_at_call 23; refine (to_diagram _ r l _ (HV.out.below (hb6.drew)) HS.out).mono ?_; rintro e w7 ⟨⟨u7, rfl, hA7⟩, hb7⟩; have HA7 := hide hA7; obtain ⟨a7, c7, rfl⟩ := hA7.form; clear hA7; obtain ⟨m0, m1⟩ := HC.out w6.drew w7 rfl hb7) | (go_at_call 18; refine (eq_diagram _ _ r l _ (HA6.out.down ((Below.refl _ _).drew.trans hb7)).chs HA7.out.chs HS.out).mono ?_; rintro e w8 ⟨rfl, hb8⟩))
    all_goals
      have hbz : Below w.heap.size w w8 := (hb6.drew.trans (hb7.mono hb6.size)).trans (hb8.mono (Nat.le_trans hb6.size hb7.size))
      have HZ := hide hbz
      clear hb7 hb8 HA7 m0 m1 d0 d1 e0 e1 HC HA6 HN6 HV HS hb6 HB6 hbz
      go_wp2
      go_ret
      exact ⟨rfl, HZ.out⟩
  · rw [if_neg hs]
    clear hs HC0 HN1
    go_wp2
    go_ret
    exact ⟨rfl, HB1.out⟩
end Go.Proofs.YtfiooclkefmijaaDoor
