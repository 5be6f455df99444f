/-
  Texts that follow one another, joined: RgL6, RgQ, BrJ.
-/
import Derived.Test.YtfkeokglifpkoaaGreatDoorJoin10
import Derived.Test.YtfkeokglifpkoaaGreatDoorJoin21
import Derived.Deep.RegionWith
import Derived.Test.YtfkeokglifpkoaaGreatDoorJoin31
import Derived.Laws.LoneSync
import Derived.Test.YtfkeokglifpkoaaGreatDoorJoin4
import Derived.Test.YtfkeokglifpkoaaGreatDoorJoin6
import Derived.Test.YtfkeokglifpkoaaGreatDoorJoin11
import Derived.Sort.OwnSorted
/-
  The law of Reapply, walked, wherever both texts tell the same. Condition: the table knownKinds reads as the program's text lays it.
-/
namespace Go.Proofs.YtfkeokglifpkoaaGreatDoor
open Go.RowKit M
open Go.Sort (grow)
set_option maxRecDepth 20000 in
set_option maxHeartbeats 16000000 in
theorem law_Reapply_run (id ver : Int) (v : Value) (bs : Brs) (w : World) (hv : BrsOf w v bs) (hf : Fine bs) (hkk : KK w)
    (hC : FineS bs → ∃ (i1 x1 : Int) (l : Brs) (r0 : Int) (r1 : Bool), (l.length ≤ 12 ∧ ∀ b ∈ l, b.length ≤ 60 ∧ ∀ e ∈ b, e.name.size ≤ 12) ∧ (∀ (v : Value) (w : World), BrsOf w v bs → CapOk v → Calls Tryz.prog 32 #[rv id ver v] w fun e w' => (∃ v ps, e = .returned (.tuple #[rv i1 x1 v, .int .i64 r0, .bool r1]) ∧ OwnP w' w.heap.size v ps ∧ bsP ps = l) ∧ Below w.heap.size w w') ∧
      (∀ (v : Value) (w : World), BrsOf w v bs → KK w → Calls Tryz.prog 33 #[rv id ver v] w fun e w' => (∃ v ps, e = .returned (.tuple #[rv i1 x1 v, .int .i64 r0, .bool r1]) ∧ OwnP w' w.heap.size v ps ∧ bsP ps = l) ∧ Below w.heap.size w w')) :
    Calls Tryz.prog 8 #[rv id ver v] w fun e w' => e = .returned (.bool true) ∧ Below w.heap.size w w' := by
  obtain ⟨a, c, rfl⟩ := hv.form
  have hb0 := low1 w (.cells #[.int .i64 id, .int .i64 ver, .slice a bs.length c] 26)
  have HN0 := hide (new3 w (.int .i64 id) (.int .i64 ver) (.slice a bs.length c) 26)
  have HV := hide hv
  have HF := hide hf
  have HK := hide hkk
  have HC := hide hC
  clear hv hf hkk hC
  by_cases hfit : bs.length + wb bs ≤ 1048576
  case neg =>
    have hz := szr_no (left := 1048576) (n := bs.length + wb bs) (by omega)
    have hge : szr 1048576 (bs.length + wb bs) < 0 := by rw [hz]; omega
    clear hz HC HN0
    go_enter Tryz.func8, Tryz.ntmps8
    go_wp2_with fail
    refine (sz_region id ver _ bs 1048576 _ (HV.out.below hb0) HF.out (by decide) (by decide)).mono ?_
    rintro e w1 ⟨rfl, hb⟩
    have hb1 := hb0.trans (hb.mono hb0.size)
    clear hb
    go_wp2
    go_ret
    exact ⟨rfl, hb1⟩
  have hz := szr_yes (left := 1048576) (n := bs.length + wb bs) (by omega)
  have hge : ¬ (szr 1048576 (bs.length + wb bs) < 0) := by rw [hz]; omega
  have HS := hide (fine_small HF.out hfit)
  obtain ⟨i1, x1, l, r0, r1, hgl, hS, hI⟩ := HC.out HS.out
  have CS := hide hS
  have CI := hide hI
  have HGL := hide hgl
  have HFL := hide (show FineS l from ⟨by omega, fun b hb => ⟨by have := (hgl.2 b hb).1; omega, fun e he => by have := (hgl.2 b hb).2 e he; unfold maxLen; omega⟩⟩)
  have HWL := hide (show wb bs ≤ 1048576 by omega)
  have er0 : (r0 != r0) = false := by simp
  have er1 : (r1 != r1) = false := by simp
  clear hz HC hS hI hfit hgl
  go_enter Tryz.func8, Tryz.ntmps8
  go_wp2_with fail
  refine (sz_region id ver _ bs 1048576 _ (HV.out.below hb0) HF.out (by decide) (by decide)).mono ?_
  rintro e w1 ⟨rfl, hb⟩
  have hb1 := hb0.trans (hb.mono hb0.size)
  have HN1 := hide (HN0.out.down hb)
  clear hb hb0 HN0
  obtain ⟨⟨d0, d1, d2⟩, -⟩ := HN1.out.tri
  go_wp2_with fail
  refine (to_region id ver _ bs _ (HV.out.below hb1) HS.out).mono ?_
  rintro e w3 ⟨⟨g3, ps3, rfl, hO, hps⟩, hb⟩
  have hx := hO.brs
  rw [hps] at hx
  have HX3 := hide hx
  have hb3 := hb1.trans (hb.mono hb1.size)
  have HN3 := hide (HN1.out.down hb)
  clear hb hb1 hO hps hx HN1 d0 d1 d2
  go_wp2_with fail
  refine (CS.out _ _ HX3.out (Nat.le_refl _)).mono ?_
  rintro e w5 ⟨⟨v5, ps5, rfl, hO5, hps5⟩, hb⟩
  obtain ⟨a5, c5, rfl⟩ := hO5.form
  have hpl5 : ps5.length = l.length := by rw [← hps5, bsP_len]
  rw [hpl5] at hO5 ⊢
  obtain ⟨gW, hgW⟩ : ∃ gW, w5.heap.size = gW := ⟨_, rfl⟩
  obtain ⟨A, hA⟩ : ∃ A, w5.alloc (.cells #[.int .i64 i1, .int .i64 x1, .slice a5 l.length c5] 34) = A := ⟨_, rfl⟩
  have h5A : Below w5.heap.size w5 A := by rw [← hA]; exact low1 _ _
  have hWA : Blk A gW 3 (q3 (.int .i64 i1) (.int .i64 x1) (.slice a5 l.length c5)) 34 := by rw [← hA, ← hgW]; exact new3 _ _ _ _ _
  have h4A := hb.trans (h5A.mono hb.size)
  have hbA := hb3.trans (h4A.mono hb3.size)
  have hxA : BrsOf A (.slice a5 l.length c5) l := by have := (hO5.down h5A).brs; rwa [hps5] at this
  have HXA := hide hxA
  have HWA := hide hWA
  have HNA := hide (HN3.out.down h4A)
  have HVA := hide (HV.out.below hbA)
  have HA := hide hA
  have HgW := hide hgW
  have hdA : Blk (w5.alloc (.cells #[.int .i64 i1, .int .i64 x1, .slice a5 l.length c5] 34)) w.heap.size 3 (q3 (.int .i64 id) (.int .i64 ver) (.slice a bs.length c)) 26 := by rw [hA]; exact HNA.out
  obtain ⟨⟨d0, d1, d2⟩, -⟩ := hdA.tri
  clear hb hb3 HX3 hO5 hps5 hxA hWA h5A h4A hA hgW HN3 hpl5 hdA
  go_wp2_with fail
  rw [HA.out, HgW.out]
  clear HA HgW d0 d1 d2
  refine (to_region id ver _ bs _ HVA.out HS.out).mono ?_
  rintro e w6 ⟨⟨g6, ps6, rfl, hO6, hps6⟩, hb6⟩
  obtain ⟨gY, hgY⟩ : ∃ gY, w6.heap.size = gY := ⟨_, rfl⟩
  obtain ⟨w7, hw7⟩ : ∃ w7, w6.alloc (.cells #[.int .i64 id, .int .i64 ver, .slice (some ⟨g6, 0, none⟩) bs.length bs.length] 34) = w7 := ⟨_, rfl⟩
  have h67 : Below w6.heap.size w6 w7 := by rw [← hw7]; exact low1 _ _
  have hY7 : Blk w7 gY 3 (q3 (.int .i64 id) (.int .i64 ver) (.slice (some ⟨g6, 0, none⟩) bs.length bs.length)) 34 := by rw [← hw7, ← hgY]; exact new3 _ _ _ _ _
  have HIN := hide (show Within A.heap.size gY (.slice (some ⟨g6, 0, none⟩) bs.length bs.length) ps6 by rw [← hgY]; exact hO6.within)
  have HPS := hide hps6
  have hAY : A.heap.size ≤ gY := by rw [← hgY]; exact hb6.size
  have hY7s : gY < w7.heap.size := hY7.lt
  have hs7 := hb6.trans (h67.mono hb6.size)
  have HP7 := hide (hO6.down h67)
  have HY7 := hide hY7
  have Hw7 := hide hw7
  have HgY := hide hgY
  obtain ⟨⟨e0, e1, e2⟩, -⟩ := hY7.tri
  rw [← hw7, ← hgY] at e0 e1 e2
  clear hb6 hO6 hps6 h67 hY7 hgY hw7
  go_wp2_with fail
  rw [Hw7.out, HgY.out]
  clear Hw7 HgY e0 e1 e2
  have HXP := hide (show BrsOf w7 (.slice (some ⟨g6, 0, none⟩) bs.length bs.length) bs by have := HP7.out.brs; rwa [HPS.out] at this)
  have hb7 := hbA.trans (hs7.mono hbA.size)
  refine (CI.out _ _ HXP.out (HK.out.below hb7)).mono ?_
  rintro e w10 ⟨⟨v10, ps10, rfl, hO10, hps10⟩, hb⟩
  obtain ⟨a10, c10, rfl⟩ := hO10.form
  have hpl10 : ps10.length = l.length := by rw [← hps10, bsP_len]
  rw [hpl10] at hO10 ⊢
  obtain ⟨gG, hgG⟩ : ∃ gG, w10.heap.size = gG := ⟨_, rfl⟩
  obtain ⟨w11, hw11⟩ : ∃ w11, w10.alloc (.cells #[.int .i64 i1, .int .i64 x1, .slice a10 l.length c10] 34) = w11 := ⟨_, rfl⟩
  have h1011 : Below w10.heap.size w10 w11 := by rw [← hw11]; exact low1 _ _
  have hG11 : Blk w11 gG 3 (q3 (.int .i64 i1) (.int .i64 x1) (.slice a10 l.length c10)) 34 := by rw [← hw11, ← hgG]; exact new3 _ _ _ _ _
  have h711 := hb.trans (h1011.mono hb.size)
  have hs11 := hs7.trans (h711.mono hs7.size)
  have HO11 := hide (hO10.down h1011)
  have HIG := hide (show Within w7.heap.size gG (.slice a10 l.length c10) ps10 by rw [← hgG]; exact hO10.within)
  have h7G : w7.heap.size ≤ gG := by rw [← hgG]; exact hb.size
  have HPG := hide hps10
  have HPL := hide hpl10
  have HG11 := hide hG11
  have HP11 := hide (HP7.out.down h711)
  have HY11 := hide (HY7.out.down h711)
  have hxg : BrsOf w11 (.slice a10 l.length c10) l := by have := HO11.out.brs; rwa [hps10] at this
  have HXG := hide hxg
  obtain ⟨⟨p0, p1, p2⟩, -⟩ := (HWA.out.down hs11).tri
  obtain ⟨⟨q0, q1, q2⟩, -⟩ := HG11.out.tri
  rw [← hw11] at p0 p1 p2 q0 q1 q2
  have Hw11 := hide hw11
  have HgG := hide hgG
  clear hb hO10 hps10 hpl10 hgG hw11 h1011 hG11 h711 hs7 hb7 HXP hxg HP7 HY7
  go_wp2_with fail
  rw [HgG.out]
  go_wp2_with fail
  rw [Hw11.out]
  clear Hw11 HgG p0 p1 p2 q0 q1 q2
  refine (eq_region i1 x1 _ _ l _ HXG.out (HXA.out.below hs11) HFL.out).mono ?_
  rintro e w12 ⟨rfl, hb⟩
  have hs12 := hs11.trans (hb.mono hs11.size)
  have HO12 := hide (HO11.out.down hb)
  have HG12 := hide (HG11.out.down hb)
  have HP12 := hide (HP11.out.down hb)
  have HY12 := hide (HY11.out.down hb)
  clear hb hs11 HO11 HG11 HP11 HY11 HXG
  obtain ⟨⟨d0, d1, d2⟩, -⟩ := (HNA.out.down hs12).tri
  obtain ⟨⟨e0, e1, e2⟩, -⟩ := HY12.out.tri
  have HMX := hide (show ∀ wx wy : World, wx.heap = w12.heap → Below wx.heap.size wx wy → wy.cell? ⟨gY, 0, none⟩ = some (.int .i64 id) ∧ wy.cell? ⟨gY, 1, none⟩ = some (.int .i64 ver) ∧ wy.cell? ⟨gY, 2, none⟩ = some (.slice (some ⟨g6, 0, none⟩) bs.length bs.length) from fun wx wy hh hb => by
    have h : Blk wx gY 3 (q3 (.int .i64 id) (.int .i64 ver) (.slice (some ⟨g6, 0, none⟩) bs.length bs.length)) 34 := by unfold Blk; rw [hh]; exact HY12.out
    exact (h.down hb).tri.1)
  have HXX := hide (show BrsOf w12 (.slice (some ⟨g6, 0, none⟩) bs.length bs.length) bs by have := HP12.out.brs; rwa [HPS.out] at this)
  go_wp2_with fail
  go_cut [55] from 51 (fun bb wx => bb = .bool false ∧ Hid (Below w12.heap.size w12 wx))
  case first =>
    go_region_with (first | (go_at_call 14; refine (to_region id ver _ bs _ (HVA.out.below hs12.drew) HS.out).mono ?_; rintro e wx ⟨⟨gx, psx, rfl, hOx, hpsx⟩, hbx⟩; have hxx := hOx.brs; rw [hpsx] at hxx; have HXN := hide hxx; clear hxx hOx hpsx; obtain ⟨m0, m1, m2⟩ := HMX.out w12.drew wx rfl hbx) | (go_at_call 16; refine (eq_region id ver _ _ bs _ ((HXX.out.below ((Below.refl w12.heap.size w12).drew)).below hbx) HXN.out HS.out).mono ?_; rintro e wy ⟨rfl, hby⟩))
    all_goals
      go_wp2_with fail
      go_meet
      exact ⟨rfl, hide (((Below.refl w12.heap.size w12).drew.trans hbx).trans (hby.mono hbx.size))⟩
  case rest =>
  rename World => w14
  obtain ⟨rfl, HCC⟩ := hcut
  have hs14 := hs12.trans (HCC.out.mono hs12.size)
  have HO14 := hide (HO12.out.down HCC.out)
  have HG14 := hide (HG12.out.down HCC.out)
  have HP14 := hide (HP12.out.down HCC.out)
  have HY14 := hide (HY12.out.down HCC.out)
  clear hs12 HO12 HG12 HP12 HY12 HCC HMX HXX d0 d1 d2 e0 e1 e2
  have HEV := hide (show evn ps6 ≤ 1048576 from by
    have := evn_wb ps6
    rw [HPS.out] at this
    have := HWL.out
    omega)
  obtain ⟨⟨e0, e1, e2⟩, -⟩ := HY14.out.tri
  go_wp2_with fail
  refine (mark_region id ver A.heap.size 1 A.heap.size gY _ ps6 _ HP14.out HIN.out (by have := congrArg List.length HPS.out; rw [bsP_len] at this; rw [this]; exact HS.out.1) (fun q hq => (HS.out.2 q.2 (by rw [← HPS.out]; exact List.mem_map_of_mem hq)).1) (Nat.le_refl _) (by have := HEV.out; omega)).mono ?_
  rintro e w16 ⟨rfl, -, hk⟩
  have hs16 := hs14.trans (hk.below (Nat.le_refl _) hs14.size)
  have HO16 := hide (HO14.out.kept hk (by omega))
  have HG16 := hide (hk.blk HG14.out (.inr (by omega)))
  obtain ⟨k1, hk1⟩ : ∃ k1, 1 + 4 * evn ps6 = k1 := ⟨_, rfl⟩
  rw [hk1]
  have hk20 : ¬ ((k1 : Int) < 0) := by omega
  clear hs14 HO14 HG14 HP14 HY14 hk e0 e1 e2 HIN HEV hk1
  obtain ⟨⟨p0, p1, p2⟩, -⟩ := HG16.out.tri
  obtain ⟨⟨q0, q1, q2⟩, -⟩ := (HWA.out.down hs16).tri
  have HXG := hide (show BrsOf w16 (.slice a10 l.length c10) l by have := HO16.out.brs; rwa [HPG.out] at this)
  go_wp2_with fail
  refine (eq_region i1 x1 _ _ l _ HXG.out (HXA.out.below hs16) HFL.out).mono ?_
  rintro e w17 ⟨rfl, hb⟩
  have hs17 := hs16.trans (hb.mono hs16.size)
  have HO17 := hide (HO16.out.down hb)
  have HG17 := hide (HG16.out.down hb)
  clear hb hs16 HO16 HG16 HXG p0 p1 p2 q0 q1 q2
  have HLE := hide (show ∀ q ∈ ps10, q.2.length ≤ 60 from fun q hq => (HGL.out.2 q.2 (by rw [← HPG.out]; exact List.mem_map_of_mem hq)).1)
  have HEG := hide (show evn ps10 ≤ 720 from by
    have h1 := evn_le HLE.out
    have h2 := HGL.out.1
    rw [HPL.out] at h1
    omega)
  obtain ⟨mm, hmm⟩ : ∃ mm, 1 + 4 * evn ps10 = mm := ⟨_, rfl⟩
  have hm0 : ¬ ((mm : Int) < 0) := by omega
  have hm1 : ((mm : Int) != (mm : Int)) = false := by simp
  have HMM := hide hmm
  clear hmm
  obtain ⟨⟨p0, p1, p2⟩, -⟩ := HG17.out.tri
  go_wp2_with fail
  refine (mark_region i1 x1 w7.heap.size 1 w7.heap.size gG _ ps10 _ HO17.out HIG.out (by have := HPL.out; have := HGL.out.1; omega) (fun q hq => by have := HLE.out q hq; omega) (Nat.le_refl _) (by have := HEG.out; omega)).mono ?_
  rw [HMM.out]
  rintro e w18 ⟨rfl, hOm, hk⟩
  have hs18 := hs17.trans (hk.below (by have := hs17.size; omega) hs17.size)
  have HO18 := hide hOm
  have HG18 := hide (hk.blk HG17.out (.inr (Nat.le_refl _)))
  clear hs17 HO17 HG17 hOm hk p0 p1 p2 HIG
  obtain ⟨⟨p0, p1, p2⟩, -⟩ := HG18.out.tri
  go_wp2_with fail
  refine (held_region i1 x1 w7.heap.size 1 _ ps10 _ HO18.out (by have := HPL.out; have := HGL.out.1; omega) (fun q hq => by have := HLE.out q hq; omega) (Nat.le_refl _) (by have := HEG.out; omega)).mono ?_
  rw [HMM.out]
  rintro e w19 ⟨rfl, hb⟩
  have hs19 := hs18.trans (hb.mono hs18.size)
  have HO19 := hide (HO18.out.down hb)
  have HG19 := hide (HG18.out.down hb)
  clear hb hs18 HO18 HG18 p0 p1 p2
  obtain ⟨⟨d0, d1, d2⟩, -⟩ := (HNA.out.down hs19).tri
  go_wp2_with fail
  refine (to_region id ver _ bs _ (HVA.out.below hs19) HS.out).mono ?_
  rintro e w20 ⟨⟨g20, ps20, rfl, hO, hps⟩, hb⟩
  have hx := hO.brs
  rw [hps] at hx
  have HX20 := hide hx
  have hs20 := hs19.trans (hb.mono hs19.size)
  have HO20 := hide (HO19.out.down hb)
  have HG20 := hide (HG19.out.down hb)
  have hb20 := hbA.trans (hs20.mono hbA.size)
  clear hb hs19 HO19 HG19 hO hps hx d0 d1 d2
  go_wp2_with fail
  refine (CI.out _ _ HX20.out (HK.out.below hb20)).mono ?_
  rintro e w22 ⟨⟨v22, ps22, rfl, hO22, hps22⟩, hb⟩
  obtain ⟨a22, c22, rfl⟩ := hO22.form
  have hpl22 : ps22.length = l.length := by rw [← hps22, bsP_len]
  rw [hpl22] at hO22 ⊢
  obtain ⟨gH, hgH⟩ : ∃ gH, w22.heap.size = gH := ⟨_, rfl⟩
  obtain ⟨w23, hw23⟩ : ∃ w23, w22.alloc (.cells #[.int .i64 i1, .int .i64 x1, .slice a22 l.length c22] 34) = w23 := ⟨_, rfl⟩
  have h2223 : Below w22.heap.size w22 w23 := by rw [← hw23]; exact low1 _ _
  have hH23 : Blk w23 gH 3 (q3 (.int .i64 i1) (.int .i64 x1) (.slice a22 l.length c22)) 34 := by rw [← hw23, ← hgH]; exact new3 _ _ _ _ _
  have h2023 := hb.trans (h2223.mono hb.size)
  have hs23 := hs20.trans (h2023.mono hs20.size)
  have HO23 := hide (HO20.out.down h2023)
  have HG23 := hide (HG20.out.down h2023)
  have HXH := hide (show BrsOf w23 (.slice a22 l.length c22) l by have := (hO22.down h2223).brs; rwa [hps22] at this)
  obtain ⟨⟨p0, p1, p2⟩, -⟩ := (HWA.out.down hs23).tri
  obtain ⟨⟨q0, q1, q2⟩, -⟩ := hH23.tri
  rw [← hw23] at p0 p1 p2 q0 q1 q2
  have Hw23 := hide hw23
  have HgH := hide hgH
  clear hb hO22 hps22 hpl22 hw23 hgH h2223 hH23 h2023 hs20 hb20 HO20 HG20 HX20
  go_wp2_with fail
  rw [HgH.out]
  go_wp2_with fail
  rw [Hw23.out]
  clear Hw23 HgH p0 p1 p2 q0 q1 q2
  refine (eq_region i1 x1 _ _ l _ HXH.out (HXA.out.below hs23) HFL.out).mono ?_
  rintro e w24 ⟨rfl, hb⟩
  have hs24 := hs23.trans (hb.mono hs23.size)
  have HO24 := hide (HO23.out.down hb)
  have HG24 := hide (HG23.out.down hb)
  clear hb hs23 HO23 HG23 HXH
  obtain ⟨⟨p0, p1, p2⟩, -⟩ := HG24.out.tri
  go_wp2_with fail
  refine (held_region i1 x1 w7.heap.size 1 _ ps10 _ HO24.out (by have := HPL.out; have := HGL.out.1; omega) (fun q hq => by have := HLE.out q hq; omega) (Nat.le_refl _) (by have := HEG.out; omega)).mono ?_
  rw [HMM.out]
  rintro e w25 ⟨rfl, hb⟩
  have hs25 := hs24.trans (hb.mono hs24.size)
  have hbz := hbA.trans (hs25.mono hbA.size)
  clear hb hs24 HO24 HG24 HV HF HK HS CS CI HGL HFL HXA HWA HNA HVA HPS HPG HPL HLE HEG HMM HWL p0 p1 p2
  go_wp2
  go_ret
  exact ⟨rfl, hbz⟩
end Go.Proofs.YtfkeokglifpkoaaGreatDoor

/-
  A tally of calls: an atomic number, counted by one goroutine.
-/
namespace Go.Proofs.YtfkeokglifpkoaaGreatDoor
open Go.RowKit M
theorem add_one (b : Nat) (n : Int) (w : World) (hc : w.cell? ⟨b, 0, none⟩ = some (.int .i64 n)) (hz : w.frozen? ⟨b, 0, none⟩ = false) (h0 : 0 ≤ n) (h1 : n ≤ 1000000) :
    Calls Tryz.prog 121 #[.pointer (some ⟨b, 0, none⟩), .int .i64 1] w fun e w' => e = .returned (.int .i64 (n + 1)) ∧ w' = w.setCell ⟨b, 0, none⟩ (.int .i64 (n + 1)) := by
  have hw : IntKind.i64.wrap (n + 1) = n + 1 := by rw [IntKind.wrap_i64]; omega
  have hadd := run_call_add (P := Tryz.prog) Tryz.func162 (by kernel_rfl) (by kernel_rfl) (by kernel_rfl) .i64 (by kernel_rfl) (y := 1) (s := n + 1) hc hz (by simp [go_sem, hw] <;> rfl)
  go_enter Tryz.func121, Tryz.ntmps121
  go_wp2
  go_ret
  exact ⟨rfl, rfl⟩
theorem load_one (b : Nat) (n : Int) (w : World) (hc : w.cell? ⟨b, 0, none⟩ = some (.int .i64 n)) :
    Calls Tryz.prog 122 #[.pointer (some ⟨b, 0, none⟩)] w fun e w' => e = .returned (.int .i64 n) ∧ w' = w := by
  have hl := run_call_load (P := Tryz.prog) Tryz.func163 (by kernel_rfl) (by kernel_rfl) (by kernel_rfl) .i64 (by kernel_rfl) hc
  go_enter Tryz.func122, Tryz.ntmps122
  go_wp2
  go_ret
  exact ⟨rfl, rfl⟩
theorem count_yes (b : Nat) (n : Int) (w : World) (hc : w.cell? ⟨b, 0, none⟩ = some (.int .i64 n)) (hz : w.frozen? ⟨b, 0, none⟩ = false) (h0 : 0 ≤ n) (h1 : n ≤ 1000000) :
    Calls Tryz.prog 71 #[.pointer (some ⟨b, 0, none⟩), .int .i64 0] w fun e w' => e = .returned (.tuple #[]) ∧ w' = w.setCell ⟨b, 0, none⟩ (.int .i64 (n + 1)) := by
  have HA := hide (add_one b n w hc hz h0 h1)
  clear hz h0 h1
  go_enter Tryz.func71, Tryz.ntmps71
  go_wp2_with (refine HA.out.mono ?_; rintro e w1 ⟨rfl, rfl⟩)
  go_end0
  exact ⟨rfl, rfl⟩
theorem count_no (b : Nat) (c : Int) (w : World) (h : c ≠ 0) :
    Calls Tryz.prog 71 #[.pointer (some ⟨b, 0, none⟩), .int .i64 c] w fun e w' => e = .returned (.tuple #[]) ∧ w' = w := by
  have hb : (c == 0) = false := by simp [h]
  go_enter Tryz.func71, Tryz.ntmps71
  go_wp2
  go_end0
  exact ⟨rfl, rfl⟩
theorem how_many (b : Nat) (n : Int) (w : World) (hc : w.cell? ⟨b, 0, none⟩ = some (.int .i64 n)) :
    Calls Tryz.prog 72 #[.pointer (some ⟨b, 0, none⟩)] w fun e w' => e = .returned (.int .i64 n) ∧ w' = w := by
  have HL := hide (load_one b n w hc)
  go_enter Tryz.func72, Tryz.ntmps72
  go_wp2_with (refine HL.out.mono ?_; rintro e w1 ⟨rfl, rfl⟩)
  go_ret
  exact ⟨rfl, rfl⟩
end Go.Proofs.YtfkeokglifpkoaaGreatDoor

/-
  slices.Sort and slices.Compact at texts of the call's own: the same block, what it holds sorted, freed of what is told twice.
-/
namespace Go.Proofs.YtfkeokglifpkoaaGreatDoor
open Go.RowKit M
open Go.Sort (grow)
open Go Go.Sort Go.Proofs
namespace M
theorem enc_to (zs : List Bs) : zs.map encStr = sv (zs.map toB) := by
  simp [sv, toB, List.map_map, Function.comp_def]
theorem enc_un (l : Txs) : (l.map unB).map encStr = sv l := by
  rw [enc_to, List.map_map]
  congr 1
  conv => rhs; rw [← List.map_id l]
  exact List.map_congr_left fun x _ => toB_un x
def srtT (l : Txs) : Txs := (srt l).map toB
theorem srtT_len (l : Txs) : (srtT l).length = l.length := by unfold srtT; rw [List.length_map, srt_len]
theorem srtT_un (l : Txs) : (srtT l).map unB = srt l := by
  unfold srtT
  rw [List.map_map]
  conv => rhs; rw [← List.map_id (srt l)]
  exact List.map_congr_left fun x _ => unB_to x
theorem cpt_len (zs : List Bs) : (Lib.compact zs).length ≤ zs.length := by
  unfold Lib.compact Lib.compactUpTo
  rw [List.length_map]
  exact Nat.le_trans (List.length_filter_le _ _) (by simp)
theorem fnl_len (l : Txs) : (fnl l).length ≤ l.length := by
  unfold fnl
  rw [List.length_map]
  exact Nat.le_trans (cpt_len _) (by rw [srt_len]; exact Nat.le_refl _)
theorem fnl_nil : fnl [] = [] := List.eq_nil_of_length_eq_zero (Nat.le_zero.1 (fnl_len []))
end M
theorem ins_nil (w : World) :
    Calls Tryz.prog 184 #[.slice none 0 0, .int .i64 0, .int .i64 0] w fun e w' => e = .returned (.tuple #[]) ∧ w' = w := by
  go_enter Tryz.func184, Tryz.ntmps184
  go_wp2
  go_loop [6] (fun y => y = .int .i64 1) (fun _ => 0)
  case atStart => rfl
  case round =>
    obtain rfl := hrel
    go_wp2
    first | go_end0 | (simp only [Exit.inBlock, Exit.then]; refine bodyPost_ret (results_none rfl _ _ _) rfl ?_) | refine bodyPost_ret (results_none rfl _ _ _) rfl ?_
    exact ⟨rfl, rfl⟩
theorem pdq_nil (w : World) (k : Int) :
    Calls Tryz.prog 160 #[.slice none 0 0, .int .i64 0, .int .i64 0, .int .i64 k] w fun e w' => e = .returned (.tuple #[]) ∧ w' = w := by
  go_enter Tryz.func160, Tryz.ntmps160
  go_wp2
  go_loop [1, 2] (fun x y => x = .int .i64 0 ∧ y = .int .i64 0) (fun _ _ => 0)
  case atStart => exact ⟨rfl, rfl⟩
  case round =>
    obtain ⟨rfl, rfl⟩ := hrel
    go_wp2_with fail
    refine (ins_nil w).mono ?_
    rintro e w' ⟨rfl, rfl⟩
    go_wp2
    first | go_end0 | (simp only [Exit.inBlock, Exit.then]; refine bodyPost_ret (results_none rfl _ _ _) rfl ?_) | refine bodyPost_ret (results_none rfl _ _ _) rfl ?_
    exact ⟨rfl, rfl⟩
theorem bits_nil (w : World) :
    Calls Tryz.prog 161 #[.int .u64 0] w fun e w' => (∃ k : Int, e = .returned (.int .i64 k)) ∧ w' = w := by
  go_enter Tryz.func161, Tryz.ntmps161
  go_wp2
  go_ret
  exact ⟨⟨_, rfl⟩, rfl⟩
theorem sort_nil (w : World) :
    Calls Tryz.prog 119 #[.slice none 0 0] w fun e w' => e = .returned (.tuple #[]) ∧ w.grownBy w' none := by
  go_enter Tryz.func119, Tryz.ntmps119
  go_wp2_with fail
  refine (bits_nil _).mono ?_
  rintro e w1 ⟨⟨kb, rfl⟩, hw1⟩
  have hw2 := hw1.symm
  subst hw2
  clear hw1
  go_wp2_with (go_at_call 160; refine (pdq_nil _ _).mono ?_; rintro e w' ⟨rfl, rfl⟩) 
  first | go_end0 | (simp only [Exit.inBlock, Exit.then]; refine bodyPost_ret (results_none rfl _ _ _) rfl ?_) | refine bodyPost_ret (results_none rfl _ _ _) rfl ?_
  exact ⟨rfl, gbT_refl _ _⟩
theorem sort_txs (B : Nat) (v : Value) (l : Txs) (w : World) (h : OwnT w B v l) (hn : l.length ≤ 1048576) :
    Calls Tryz.prog 119 #[v] w fun e w' => e = .returned (.tuple #[]) ∧ OwnT w' B v (srtT l) ∧ w.grownBy w' v.ownBlock := by
  rcases h.2 with ⟨rfl, h0⟩ | ⟨g, cap, cur, rfl, hB, hb, h1, h2, h3, h4⟩
  · have h0' := List.eq_nil_of_length_eq_zero h0
    subst h0'
    refine (sort_nil w).mono ?_
    rintro e w' ⟨rfl, hg⟩
    have hs0 : srtT [] = [] := List.eq_nil_of_length_eq_zero (srtT_len [])
    rw [hs0]
    exact ⟨rfl, OwnT.nil _ _, hg⟩
  · have hcur : cur.toList.take (l.map unB).length = (l.map unB).map encStr := by
      rw [enc_un, List.length_map]; simpa using h4
    have hg : g < w.heap.size := (Array.getElem?_eq_some_iff.1 hb).1
    have hc := Tryz.slices_Sort_string g 0 cap (l.map unB) w (holds_of_block hb hcur) hg (by rw [List.length_map]; omega)
    rw [List.length_map] at hc
    refine hc.mono ?_
    rintro e w' ⟨rfl, n, os, rfl⟩
    refine ⟨rfl, ?_, grownBy_sorted _⟩
    have hl : (srt l).length = (l.map unB).length := by rw [srt_len, List.length_map]
    have := ownsRow_sorted (n := n) (os := os) hl hB hb (by rw [List.length_map]; exact h1) h2 h3
    rw [List.length_map, enc_to] at this
    unfold OwnT
    rw [srtT_len]
    exact this
theorem compact_txs (B : Nat) (v : Value) (l : Txs) (w : World) (h : OwnT w B v (srtT l)) (hn : l.length ≤ 1048576) :
    Calls Tryz.prog 120 #[v] w fun e w' => ∃ a n c, e = .returned (.slice a n c) ∧ OwnT w' B (.slice a n c) (fnl l) ∧ w.grownBy w' v.ownBlock := by
  have hk := h
  unfold OwnT at hk
  rw [srtT_len] at hk
  rcases hk.2 with ⟨rfl, h0⟩ | ⟨g, cap, cur, rfl, hB, hb, h1, h2, h3, h4⟩
  · have h0' := List.eq_nil_of_length_eq_zero h0
    subst h0'
    refine (Tryz.slices_Compact_string_empty none 0 w).mono ?_
    rintro e w' ⟨rfl, rfl⟩
    exact ⟨_, _, _, rfl, by rw [fnl_nil]; exact OwnT.nil _ _, gbT_refl _ _⟩
  · have hcur : cur.toList.take (srt l).length = (srt l).map encStr := by
      rw [enc_to, srt_len]; simpa [srtT] using h4
    have hg : g < w.heap.size := (Array.getElem?_eq_some_iff.1 hb).1
    have hc := Tryz.slices_Compact_string g 0 cap (srt l) w (holds_of_block hb hcur) (by rw [srt_len]; omega) (by rw [srt_len]; exact h1)
    rw [srt_len] at hc
    refine hc.mono ?_
    rintro e w' ⟨rfl, q, rfl⟩
    have hcl : (Lib.compact (srt l)).length ≤ l.length := by have := cpt_len (srt l); rw [srt_len] at this; exact this
    obtain ⟨zs, hzs⟩ : ∃ zs, Lib.compact (srt l) ++ List.replicate (l.length - (Lib.compact (srt l)).length) ([] : List UInt8) = zs := ⟨_, rfl⟩
    have hzl : zs.length = l.length := by rw [← hzs, List.length_append, List.length_replicate]; omega
    rw [hzs]
    have hgr : grow (putRow encStr (Sort.ahead w q) g 0 zs.toArray) #[] = putRow encStr (Sort.ahead w q) g 0 zs.toArray := by simp [grow, putRow, mapBlock, Sort.ahead]
    have hhp := heap_sorted (n := q) (os := #[]) zs.toArray hb
    have hgb := grownBy_sorted (w := w) (g := g) (n := q) (os := #[]) zs.toArray
    rw [hgr] at hhp hgb
    refine ⟨some ⟨g, 0, none⟩, _, cap, rfl, ?_, hgb⟩
    have hfl : (fnl l).length = (Lib.compact (srt l)).length := by unfold fnl; rw [List.length_map]
    unfold OwnT
    rw [← hfl]
    refine ⟨by rw [sv_len, Nat.mul_one], .inr ⟨g, cap, _, rfl, hB, hhp, by omega, h2, by simp [putCells, h3], ?_⟩⟩
    rw [Nat.mul_one]
    have ht := take_putCells cur zs (by rw [hzl]; omega)
    have h5 := congrArg (List.take (fnl l).length) ht
    rw [List.take_take, Nat.min_eq_left (by rw [hzl, hfl]; exact hcl)] at h5
    rw [h5, ← List.map_take, ← hzs, hfl, List.take_left, enc_to]
    rfl
end Go.Proofs.YtfkeokglifpkoaaGreatDoor
