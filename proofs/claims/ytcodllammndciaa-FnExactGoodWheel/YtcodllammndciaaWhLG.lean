/-
  The law of GoodWheel, walked: it returns true and turns nothing that was there.
-/
import Derived.Test.YtcodllammndciaaWhGI
import Derived.Test.YtcodllammndciaaWhGS
namespace Go.Proofs.Ytcodllammndciaa
open Go.RowKit M
set_option maxHeartbeats 4000000 in
theorem law_good {P : Prop} (x : Int) (v : Value) (k : Nat) (rs : Nat → Rw) (w : World) (_ : P) (hv : RowsOf w v k rs) (hl : Lens k rs) :
    Calls Try.prog 4 #[.agg #[.int .i64 x, v]] w fun e w' => e = .returned (.bool true) ∧ Below w.heap.size w w' := by
  have HV := hide hv
  obtain ⟨a, cap, rfl⟩ := hv.form
  have HL := hide hl
  have hb0 := (Below.refl w.heap.size w).alloc (Nat.le_refl _) (.cells #[.int .i64 x, .slice a k cap] 31)
  have HN0 := hide (Blk.fresh w #[.int .i64 x, .slice a k cap] 2 (p2 (.int .i64 x) (.slice a k cap)) 31 rfl)
  clear hv hl
  go_enter Try.func4, Try.ntmps4
  go_wp2_with fail
  refine (sz_wheel x _ k rs _ (HV.out.below hb0) HL.out).mono ?_
  rintro e w1 ⟨⟨r, rfl, hr⟩, hb⟩
  have hb1 := hb0.trans (hb.mono hb0.size)
  have HN1 := hide (HN0.out.down hb)
  clear hb hb0 HN0
  by_cases hrn : r < 0
  · clear HN1 hr
    go_wp2
    go_ret
    exact ⟨rfl, hb1⟩
  · have hsm : Small k rs := by
      rcases hr with h | ⟨_, h⟩
      · omega
      · exact h
    have HSm := hide hsm
    have HS := hide hsm.short
    obtain ⟨b, hgb⟩ : ∃ b, decide (GoodW x k rs) = b := ⟨_, rfl⟩
    have HGb := hide hgb
    have hbb : (b != b) = false := by cases b <;> rfl
    clear hr hsm HL hgb
    obtain ⟨d0, d1, -, -⟩ := HN1.out.pair
    go_wp2_with fail
    refine (to_wheel x _ k rs _ (HV.out.below hb1) HS.out).mono ?_
    rintro e w2 ⟨⟨_, rfl, g2, β2, X2, rfl, hg2, hX2⟩, hb⟩
    have hb2 := hb1.trans (hb.mono hb1.size)
    have HN2 := hide (HN1.out.down hb)
    clear d0 d1 hb hb1 HN1
    go_wp2_with fail
    refine (spec_good x _ k rs b _ (hX2.rows (cap' := k)) HSm.out HGb.out).mono ?_
    rintro e w3 ⟨rfl, hb⟩
    have hb3 := hb2.trans (hb.mono hb2.size)
    have HN3 := hide (HN2.out.down hb)
    clear hb hb2 HN2 hX2
    obtain ⟨d0, d1, -, -⟩ := HN3.out.pair
    go_wp2_with fail
    refine (to_wheel x _ k rs _ (HV.out.below hb3) HS.out).mono ?_
    rintro e w4 ⟨⟨_, rfl, g4, β4, X4, rfl, hg4, hX4⟩, hb⟩
    have hb4 := hb3.trans (hb.mono hb3.size)
    have hbC := (Below.refl w4.heap.size w4).alloc (Nat.le_refl _) (.cells #[.int .i64 x, sl g4 k] 24)
    have HM5 := hide (Blk.fresh w4 #[.int .i64 x, sl g4 k] 2 (p2 (.int .i64 x) (sl g4 k)) 24 rfl)
    have HN5 := hide ((HN3.out.down hb).down hbC)
    have HX5 := hide (hX4.down hbC)
    have hb5 := hb4.trans (hbC.mono hb4.size)
    clear d0 d1 hb hb3 hb4 HN3 hX4 hbC
    obtain ⟨d0, d1, -, -⟩ := HM5.out.pair
    go_wp2_with fail
    refine (impl_good x _ k rs b _ (HX5.out.rows (cap' := k)) HSm.out HGb.out).mono ?_
    rintro e w6 ⟨rfl, hb⟩
    have hb6 := hb5.trans (hb.mono hb5.size)
    have HN6 := hide (HN5.out.down hb)
    have HM6 := hide (HM5.out.down hb)
    have HX6 := hide (HX5.out.down hb)
    clear d0 d1 hb hb5 HN5 HM5 HX5
    obtain ⟨d0, d1, -, -⟩ := HN6.out.pair
    obtain ⟨e0, e1, -, -⟩ := HM6.out.pair
    have HC := hide (show ∀ wx wy : World, wx.heap = w6.heap → Below wx.heap.size wx wy → wy.cell? ⟨w4.heap.size, 0, none⟩ = some (.int .i64 x) ∧ wy.cell? ⟨w4.heap.size, 1, none⟩ = some (sl g4 k) from fun wx wy hh hb => by
      have h : Blk wx w4.heap.size 2 (p2 (.int .i64 x) (sl g4 k)) 24 := by unfold Blk; rw [hh]; exact HM6.out
      exact ⟨(h.down hb).pair.1, (h.down hb).pair.2.1⟩)
    clear HM6
    go_wp2_with fail
    go_region_with (first | (go_at_call 18; refine (to_wheel x _ k rs _ (HV.out.below (hb6.drew)) HS.out).mono ?_; rintro e w7 ⟨⟨_, rfl, g7, β7, X7, rfl, hg7, hX7⟩, hb7⟩; obtain ⟨m0, m1⟩ := HC.out w6.drew w7 rfl hb7) | (go_at_call 13; refine (eq_wheel x _ _ k rs _ ((HX6.out.down ((Below.refl _ _).drew.trans hb7)).rows (cap' := k)) (hX7.rows (cap' := k)) HS.out).mono ?_; rintro e w8 ⟨rfl, hb8⟩))
    all_goals
      have hbz : Below w.heap.size w w8 := (hb6.drew.trans (hb7.mono hb6.size)).trans (hb8.mono (Nat.le_trans hb6.size hb7.size))
      clear hb7 hb8 hX7 m0 m1 d0 d1 e0 e1 HC HX6 HN6 HV HS HSm
      go_wp2
      go_ret
      exact ⟨rfl, hbz⟩
end Go.Proofs.Ytcodllammndciaa
