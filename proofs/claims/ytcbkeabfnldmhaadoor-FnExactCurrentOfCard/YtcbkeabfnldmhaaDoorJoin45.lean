/-
  The law of CurrentOf, walked: it returns true and turns nothing that was there. Condition: the table knownKinds reads as the program's text lays it.
-/
import Derived.Test.YtcbkeabfnldmhaaDoorJoin44
import Derived.Deep.RegionWith
namespace Go.Proofs.YtcbkeabfnldmhaaDoor
open Go.RowKit M
open Go.Sort (grow)
set_option maxRecDepth 20000 in
set_option maxHeartbeats 8000000 in
theorem law_currentOf (v : Value) (bs : Brs) (w : World) (hv : BrsOf w v bs) (hf : Fine bs) (hkk : KK w) :
    Calls Tryd.prog 4 #[.agg #[v]] w fun e w' => e = .returned (.bool true) ∧ Below w.heap.size w w' := by
  obtain ⟨a, c, rfl⟩ := hv.form
  have hb0 := (Below.refl w.heap.size w).alloc (Nat.le_refl _) (.cells #[.slice a bs.length c] 24)
  have HN0 := hide (show M.One (w.alloc (.cells #[.slice a bs.length c] 24)) w.heap.size (.slice a bs.length c) 24 from heap_alloc_new w _)
  have HV := hide hv
  have HF := hide hf
  have HK := hide hkk
  clear hv hf hkk
  by_cases hfit : bs.length + wb bs ≤ 1048576
  case neg =>
    have hz := szr_no (left := 1048576) (n := bs.length + wb bs) (by omega)
    have hge : szr 1048576 (bs.length + wb bs) < 0 := by rw [hz]; omega
    clear hz HN0
    go_enter Tryd.func4, Tryd.ntmps4
    go_wp2_with fail
    refine (sz_tell _ bs 1048576 _ (HV.out.below hb0) HF.out (by decide) (by decide)).mono ?_
    rintro e w1 ⟨rfl, hb⟩
    have hb1 := hb0.trans (hb.mono hb0.size)
    clear hb
    go_wp2
    go_ret
    exact ⟨rfl, hb1⟩
  have hz := szr_yes (left := 1048576) (n := bs.length + wb bs) (by omega)
  have hge : ¬ (szr 1048576 (bs.length + wb bs) < 0) := by rw [hz]; omega
  have HS := hide (fine_small HF.out hfit)
  obtain ⟨b, hb⟩ := bp_ex (GdT bs ∧ bs ≠ [])
  have HB := hide hb
  obtain ⟨l, hl⟩ : ∃ l, (b = true → l = curB bs) ∧ (b = false → l = []) := by
    cases b
    · exact ⟨[], by simp⟩
    · exact ⟨curB bs, by simp⟩
  have HL := hide hl
  have hll : l.length ≤ 60 := by
    cases b
    · rw [hl.2 rfl]; simp
    · have h1 := hb.1 rfl
      rw [hl.1 rfl]
      have hp : 0 < bs.length := List.length_pos_iff.2 h1.2
      exact (h1.1.2.1 (curB bs) (List.mem_of_getElem? (cur_b hp))).short
  have hbb : (b != b) = false := by simp
  obtain ⟨mm, hmm⟩ : ∃ mm, 1 + 4 * l.length = mm := ⟨_, rfl⟩
  have hm0 : ¬ ((mm : Int) < 0) := by omega
  have hm1 : ((mm : Int) != (mm : Int)) = false := by simp
  have HMM := hide hmm
  have hwl : wb bs ≤ 1048576 := by omega
  have HWL := hide hwl
  clear hz hfit hb hl hmm hwl
  go_enter Tryd.func4, Tryd.ntmps4
  go_wp2_with fail
  refine (sz_tell _ bs 1048576 _ (HV.out.below hb0) HF.out (by decide) (by decide)).mono ?_
  rintro e w1 ⟨rfl, hb⟩
  have hb1 := hb0.trans (hb.mono hb0.size)
  have HN1 := hide (HN0.out.down hb)
  clear hb hb0 HN0
  have d0 := HN1.out.cell
  go_wp2_with fail
  refine (to_tell _ bs _ (HV.out.below hb1) HS.out).mono ?_
  rintro e w2 ⟨⟨g2, ps2, rfl, hO, hps⟩, hb⟩
  have hx := hO.brs
  rw [hps] at hx
  have HX2 := hide hx
  have hb2 := hb1.trans (hb.mono hb1.size)
  have HN2 := hide (HN1.out.down hb)
  clear hb hb1 hO hps hx HN1 d0
  go_wp2_with fail
  refine (spec_cur _ bs b l _ HX2.out HS.out (Nat.le_refl _) HB.out HL.out).mono ?_
  rintro e A ⟨⟨a3, n3, c3, rfl, hO⟩, hb⟩
  have hW := hO.slice
  have HW := hide hW
  have hbA := hb2.trans (hb.mono hb2.size)
  have HNA := hide (HN2.out.down hb)
  have HVA := hide (HV.out.below hbA)
  clear hb hb2 HN2 HX2 hO hW
  have d0 := HNA.out.cell
  go_wp2_with fail
  refine (to_tell _ bs _ HVA.out HS.out).mono ?_
  rintro e w4 ⟨⟨g4, ps4, rfl, hO, hps⟩, hb4⟩
  obtain ⟨gY, hgY⟩ : ∃ gY, w4.heap.size = gY := ⟨_, rfl⟩
  have hdn := (Below.refl w4.heap.size w4).alloc (Nat.le_refl _) (.cells #[.slice (some ⟨g4, 0, none⟩) bs.length bs.length] 29)
  have hY := (show M.One (w4.alloc (.cells #[.slice (some ⟨g4, 0, none⟩) bs.length bs.length] 29)) w4.heap.size (.slice (some ⟨g4, 0, none⟩) bs.length bs.length) 29 from heap_alloc_new _ _)
  have hin : Within A.heap.size gY (.slice (some ⟨g4, 0, none⟩) bs.length bs.length) ps4 := by rw [← hgY]; exact hO.within
  have HIN := hide hin
  have HPS := hide hps
  obtain ⟨w5, hw5⟩ : ∃ w5, w4.alloc (.cells #[.slice (some ⟨g4, 0, none⟩) bs.length bs.length] 29) = w5 := ⟨_, rfl⟩
  rw [hw5] at hdn hY
  rw [hgY] at hY
  have HP5 := hide (hO.down hdn)
  have HY5 := hide hY
  have hs5 := hb4.trans (hdn.mono hb4.size)
  have hgs : A.heap.size ≤ gY := by rw [← hgY]; exact hb4.size
  have Hw5 := hide hw5
  have HgY := hide hgY
  clear hb4 hO hps hdn hY hin hw5 hgY d0
  go_wp2_with fail
  rw [Hw5.out, HgY.out]
  have hx5 : BrsOf w5 (.slice (some ⟨g4, 0, none⟩) bs.length bs.length) bs := by have := HP5.out.brs; rwa [HPS.out] at this
  have HX5 := hide hx5
  clear hx5
  have e0 := HY5.out.cell
  go_wp2_with fail
  refine (impl_cur _ bs b l _ HX5.out HS.out (HK.out.below (hbA.trans (hs5.mono hbA.size))) HB.out HL.out).mono ?_
  rintro e w6 ⟨⟨a6, n6, c6, rfl, hO6⟩, hb⟩
  have hs6 := hs5.trans (hb.mono hs5.size)
  have HG6 := hide hO6
  have HP6 := hide (HP5.out.down hb)
  have HY6 := hide (HY5.out.down hb)
  have hgw5 : gY < w5.heap.size := HY5.out.lt
  clear hb hs5 hO6 HP5 HY5 HX5 Hw5 HgY e0
  go_wp2_with fail
  refine (eq_all _ _ l _ HG6.out.slice (HW.out.below hs6) (by omega) eq_ev).mono ?_
  rintro e w7 ⟨rfl, hb⟩
  have hs7 := hs6.trans (hb.mono hs6.size)
  have HG7 := hide (HG6.out.down hb)
  have HP7 := hide (HP6.out.down hb)
  have HY7 := hide (HY6.out.down hb)
  clear hb hs6 HG6 HP6 HY6
  have d0 := (HNA.out.down hs7).cell
  have e0 := HY7.out.cell
  have HMX := hide (show ∀ wx wy : World, wx.heap = w7.heap → Below wx.heap.size wx wy → wy.cell? ⟨gY, 0, none⟩ = some (.slice (some ⟨g4, 0, none⟩) bs.length bs.length) from fun wx wy hh hb => by
    have h : M.One wx gY (.slice (some ⟨g4, 0, none⟩) bs.length bs.length) 29 := by unfold M.One; rw [hh]; exact HY7.out
    exact (h.down hb).cell)
  have hx7 : BrsOf w7 (.slice (some ⟨g4, 0, none⟩) bs.length bs.length) bs := by have := HP7.out.brs; rwa [HPS.out] at this
  have HX7 := hide hx7
  clear hx7
  go_wp2_with fail
  go_cut [45] from 41 (fun bb wx => bb = .bool false ∧ Hid (Below w7.heap.size w7 wx))
  case first =>
    go_region_with (first | (go_at_call 10; refine (to_tell _ bs _ (HVA.out.below hs7.drew) HS.out).mono ?_; rintro e w8 ⟨⟨g8, ps8, rfl, hO8, hps8⟩, hb8⟩; have hx8 := hO8.brs; rw [hps8] at hx8; have HX8 := hide hx8; clear hx8 hO8 hps8; have m0 := HMX.out w7.drew w8 rfl hb8) | (go_at_call 12; refine (eq_tell _ _ bs _ ((HX7.out.below ((Below.refl w7.heap.size w7).drew)).below hb8) HX8.out HS.out).mono ?_; rintro e w9 ⟨rfl, hb9⟩))
    all_goals
      go_wp2_with fail
      go_meet
      exact ⟨rfl, hide (((Below.refl w7.heap.size w7).drew.trans hb8).trans (hb9.mono hb8.size))⟩
  case rest =>
  rename World => wC
  obtain ⟨rfl, HCC⟩ := hcut
  have hs8 := hs7.trans (HCC.out.mono hs7.size)
  have HG8 := hide (HG7.out.down HCC.out)
  have HP8 := hide (HP7.out.down HCC.out)
  have HY8 := hide (HY7.out.down HCC.out)
  clear hs7 HG7 HP7 HY7 HCC HMX HX7 d0 e0
  have e0 := HY8.out.cell
  have HEV := hide (show evn ps4 ≤ 1048576 from by
    have := evn_wb ps4
    rw [HPS.out] at this
    have := HWL.out
    omega)
  go_wp2_with fail
  refine (mark_tell A.heap.size 1 A.heap.size gY _ ps4 _ HP8.out HIN.out (by have := congrArg List.length HPS.out; rw [bsP_len] at this; rw [this]; exact HS.out.1) (fun p hp => (HS.out.2 p.2 (by rw [← HPS.out]; exact List.mem_map_of_mem hp)).1) (Nat.le_refl _) (by have := HEV.out; omega)).mono ?_
  rintro e w9 ⟨rfl, -, hk⟩
  have hs9 := hs8.trans (hk.below (Nat.le_refl _) hs8.size)
  have HG9 := hide (HG8.out.kept hk (by omega))
  have hkn : ¬ (((1 + 4 * evn ps4 : Nat) : Int) < 0) := by omega
  obtain ⟨kk, hkk2⟩ : ∃ kk, 1 + 4 * evn ps4 = kk := ⟨_, rfl⟩
  rw [hkk2] at hkn ⊢
  clear hs8 HG8 HP8 HY8 hk e0 HIN HEV hkk2
  go_wp2_with fail
  refine (eq_all _ _ l _ HG9.out.slice (HW.out.below hs9) (by omega) eq_ev).mono ?_
  rintro e w10 ⟨rfl, hb⟩
  have hs10 := hs9.trans (hb.mono hs9.size)
  have HG10 := hide (HG9.out.down hb)
  clear hb hs9 HG9
  go_wp2_with fail
  refine (mark_own w5.heap.size 1 _ l _ HG10.out (by omega) (Nat.le_refl _) (by omega)).mono ?_
  rw [HMM.out]
  rintro e w11 ⟨rfl, hm, hg⟩
  have hs11 : Below A.heap.size A w11 := hs10.grown hg hs10.size (fun j hj => by have := (HG10.out.lt hj).1; omega)
  have HG11 := hide hm
  clear hm hg hs10 HG10
  go_wp2_with fail
  refine (held_evs _ 1 l.length _ HG11.out.slice (by omega) (Nat.le_refl _) (by omega)).mono ?_
  rw [HMM.out]
  rintro e w12 ⟨rfl, hb⟩
  have hs12 := hs11.trans (hb.mono hs11.size)
  have HG12 := hide (HG11.out.down hb)
  clear hb hs11 HG11
  have d0 := (HNA.out.down hs12).cell
  go_wp2_with fail
  refine (to_tell _ bs _ (HVA.out.below hs12) HS.out).mono ?_
  rintro e w13 ⟨⟨g13, ps13, rfl, hO, hps⟩, hb⟩
  have hx := hO.brs
  rw [hps] at hx
  have HX13 := hide hx
  have hs13 := hs12.trans (hb.mono hs12.size)
  have HG13 := hide (HG12.out.down hb)
  clear hb hs12 HG12 hO hps hx d0
  go_wp2_with fail
  refine (impl_cur _ bs b l _ HX13.out HS.out (HK.out.below (hbA.trans (hs13.mono hbA.size))) HB.out HL.out).mono ?_
  rintro e w14 ⟨⟨a14, n14, c14, rfl, hO⟩, hb⟩
  have hs14 := hs13.trans (hb.mono hs13.size)
  have HG14 := hide (HG13.out.down hb)
  have HH14 := hide hO.slice
  clear hb hs13 HG13 hO HX13
  go_wp2_with fail
  refine (eq_all _ _ l _ HH14.out (HW.out.below hs14) (by omega) eq_ev).mono ?_
  rintro e w15 ⟨rfl, hb⟩
  have hs15 := hs14.trans (hb.mono hs14.size)
  have HG15 := hide (HG14.out.down hb)
  clear hb hs14 HG14 HH14
  go_wp2_with fail
  refine (held_evs _ 1 l.length _ HG15.out.slice (by omega) (Nat.le_refl _) (by omega)).mono ?_
  rw [HMM.out]
  rintro e w16 ⟨rfl, hb⟩
  have hs16 := hs15.trans (hb.mono hs15.size)
  have hbz := hbA.trans (hs16.mono hbA.size)
  clear hb hs15 HG15 HV HF HK HS HB HL HW HNA HVA HPS HWL HMM hs16
  go_wp2
  go_ret
  exact ⟨rfl, hbz⟩
end Go.Proofs.YtcbkeabfnldmhaaDoor
