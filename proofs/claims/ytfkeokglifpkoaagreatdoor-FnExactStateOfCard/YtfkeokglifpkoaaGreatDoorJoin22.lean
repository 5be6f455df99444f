/-
  Texts that follow one another, joined: RgL5, BrW.
-/
import Derived.Test.YtfkeokglifpkoaaGreatDoorJoin10
import Derived.Test.YtfkeokglifpkoaaGreatDoorJoin21
import Derived.Deep.RegionWith
import Derived.Deep.RegionHeld3
/-
  The law of TakeCall, walked, wherever both texts tell the same. Condition: the table knownKinds reads as the program's text lays it.
-/
namespace Go.Proofs.YtfkeokglifpkoaaGreatDoor
open Go.RowKit M
open Go.Sort (grow)
set_option maxRecDepth 20000 in
set_option maxHeartbeats 16000000 in
theorem law_TakeCall_run (id ver : Int) (v : Value) (bs : Brs) (kd : Int) (xn : ByteArray) (w : World) (hv : BrsOf w v bs) (hf : Fine bs) (hkk : KK w) (hsn : xn.size ≤ 1048576)
    (hC : FineS bs → ∃ (i1 x1 : Int) (l : Brs) (r0 : Int), (l.length ≤ 12 ∧ ∀ b ∈ l, b.length ≤ 60 ∧ ∀ e ∈ b, e.name.size ≤ 12) ∧ (∀ (v : Value) (w : World), BrsOf w v bs → CapOk v → Calls Tryz.prog 17 #[rv id ver v, .int .i64 kd, .string xn] w fun e w' => (∃ v ps, e = .returned (.tuple #[rv i1 x1 v, .int .i64 r0]) ∧ OwnP w' w.heap.size v ps ∧ bsP ps = l) ∧ Below w.heap.size w w') ∧
      (∀ (v : Value) (w : World), BrsOf w v bs → KK w → Calls Tryz.prog 18 #[rv id ver v, .int .i64 kd, .string xn] w fun e w' => (∃ v ps, e = .returned (.tuple #[rv i1 x1 v, .int .i64 r0]) ∧ OwnP w' w.heap.size v ps ∧ bsP ps = l) ∧ Below w.heap.size w w')) :
    Calls Tryz.prog 4 #[rv id ver v, .int .i64 kd, .string xn] w fun e w' => e = .returned (.bool true) ∧ Below w.heap.size w w' := by
  obtain ⟨a, c, rfl⟩ := hv.form
  have hb0 := low1 w (.cells #[.int .i64 id, .int .i64 ver, .slice a bs.length c] 26)
  have HN0 := hide (new3 w (.int .i64 id) (.int .i64 ver) (.slice a bs.length c) 26)
  have HV := hide hv
  have HF := hide hf
  have HK := hide hkk
  have HC := hide hC
  clear hv hf hkk hC
  have hsn0 : ¬ ((xn.size : Int) > 1048576) := by omega
  by_cases hfit : bs.length + wb bs ≤ 1048576
  case neg =>
    have hz := szr_no (left := 1048576) (n := bs.length + wb bs) (by omega)
    have hge : szr 1048576 (bs.length + wb bs) < 0 := by rw [hz]; omega
    clear hz HC HN0
    go_enter Tryz.func4, Tryz.ntmps4
    go_wp2_with fail
    refine (sz_region id ver _ bs 1048576 _ (HV.out.below hb0) HF.out (by decide) (by decide)).mono ?_
    rintro e w1 ⟨rfl, hb⟩
    have hb1 := hb0.trans (hb.mono hb0.size)
    clear hb
    go_wp2
    go_ret
    exact ⟨rfl, hb1⟩
  have hz := szr_yes (left := 1048576) (n := bs.length + wb bs) (by omega)
  have hge : ¬ (szr 1048576 (bs.length + wb bs) < 0) := by rw [hz]; omega
  have HS := hide (fine_small HF.out hfit)
  obtain ⟨i1, x1, l, r0, hgl, hS, hI⟩ := HC.out HS.out
  have CS := hide hS
  have CI := hide hI
  have HGL := hide hgl
  have HFL := hide (show FineS l from ⟨by omega, fun b hb => ⟨by have := (hgl.2 b hb).1; omega, fun e he => by have := (hgl.2 b hb).2 e he; unfold maxLen; omega⟩⟩)
  have HWL := hide (show wb bs ≤ 1048576 by omega)
  have er0 : (r0 != r0) = false := by simp
  clear hz HC hS hI hfit hgl
  go_enter Tryz.func4, Tryz.ntmps4
  go_wp2_with fail
  refine (sz_region id ver _ bs 1048576 _ (HV.out.below hb0) HF.out (by decide) (by decide)).mono ?_
  rintro e w1 ⟨rfl, hb⟩
  have hb1 := hb0.trans (hb.mono hb0.size)
  have HN1 := hide (HN0.out.down hb)
  clear hb hb0 HN0
  obtain ⟨⟨d0, d1, d2⟩, -⟩ := HN1.out.tri
  go_wp2_with fail
  refine (to_region id ver _ bs _ (HV.out.below hb1) HS.out).mono ?_
  rintro e w3 ⟨⟨g3, ps3, rfl, hO, hps⟩, hb⟩
  have hx := hO.brs
  rw [hps] at hx
  have HX3 := hide hx
  have hb3 := hb1.trans (hb.mono hb1.size)
  have HN3 := hide (HN1.out.down hb)
  clear hb hb1 hO hps hx HN1 d0 d1 d2
  go_wp2_with fail
  refine (CS.out _ _ HX3.out (Nat.le_refl _)).mono ?_
  rintro e w5 ⟨⟨v5, ps5, rfl, hO5, hps5⟩, hb⟩
  obtain ⟨a5, c5, rfl⟩ := hO5.form
  have hpl5 : ps5.length = l.length := by rw [← hps5, bsP_len]
  rw [hpl5] at hO5 ⊢
  obtain ⟨gW, hgW⟩ : ∃ gW, w5.heap.size = gW := ⟨_, rfl⟩
  obtain ⟨A, hA⟩ : ∃ A, w5.alloc (.cells #[.int .i64 i1, .int .i64 x1, .slice a5 l.length c5] 34) = A := ⟨_, rfl⟩
  have h5A : Below w5.heap.size w5 A := by rw [← hA]; exact low1 _ _
  have hWA : Blk A gW 3 (q3 (.int .i64 i1) (.int .i64 x1) (.slice a5 l.length c5)) 34 := by rw [← hA, ← hgW]; exact new3 _ _ _ _ _
  have h4A := hb.trans (h5A.mono hb.size)
  have hbA := hb3.trans (h4A.mono hb3.size)
  have hxA : BrsOf A (.slice a5 l.length c5) l := by have := (hO5.down h5A).brs; rwa [hps5] at this
  have HXA := hide hxA
  have HWA := hide hWA
  have HNA := hide (HN3.out.down h4A)
  have HVA := hide (HV.out.below hbA)
  have HA := hide hA
  have HgW := hide hgW
  have hdA : Blk (w5.alloc (.cells #[.int .i64 i1, .int .i64 x1, .slice a5 l.length c5] 34)) w.heap.size 3 (q3 (.int .i64 id) (.int .i64 ver) (.slice a bs.length c)) 26 := by rw [hA]; exact HNA.out
  obtain ⟨⟨d0, d1, d2⟩, -⟩ := hdA.tri
  clear hb hb3 HX3 hO5 hps5 hxA hWA h5A h4A hA hgW HN3 hpl5 hdA
  go_wp2_with fail
  rw [HA.out, HgW.out]
  clear HA HgW d0 d1 d2
  refine (to_region id ver _ bs _ HVA.out HS.out).mono ?_
  rintro e w6 ⟨⟨g6, ps6, rfl, hO6, hps6⟩, hb6⟩
  obtain ⟨gY, hgY⟩ : ∃ gY, w6.heap.size = gY := ⟨_, rfl⟩
  obtain ⟨w7, hw7⟩ : ∃ w7, w6.alloc (.cells #[.int .i64 id, .int .i64 ver, .slice (some ⟨g6, 0, none⟩) bs.length bs.length] 34) = w7 := ⟨_, rfl⟩
  have h67 : Below w6.heap.size w6 w7 := by rw [← hw7]; exact low1 _ _
  have hY7 : Blk w7 gY 3 (q3 (.int .i64 id) (.int .i64 ver) (.slice (some ⟨g6, 0, none⟩) bs.length bs.length)) 34 := by rw [← hw7, ← hgY]; exact new3 _ _ _ _ _
  have HIN := hide (show Within A.heap.size gY (.slice (some ⟨g6, 0, none⟩) bs.length bs.length) ps6 by rw [← hgY]; exact hO6.within)
  have HPS := hide hps6
  have hAY : A.heap.size ≤ gY := by rw [← hgY]; exact hb6.size
  have hY7s : gY < w7.heap.size := hY7.lt
  have hs7 := hb6.trans (h67.mono hb6.size)
  have HP7 := hide (hO6.down h67)
  have HY7 := hide hY7
  have Hw7 := hide hw7
  have HgY := hide hgY
  obtain ⟨⟨e0, e1, e2⟩, -⟩ := hY7.tri
  rw [← hw7, ← hgY] at e0 e1 e2
  clear hb6 hO6 hps6 h67 hY7 hgY hw7
  go_wp2_with fail
  rw [Hw7.out, HgY.out]
  clear Hw7 HgY e0 e1 e2
  have HXP := hide (show BrsOf w7 (.slice (some ⟨g6, 0, none⟩) bs.length bs.length) bs by have := HP7.out.brs; rwa [HPS.out] at this)
  have hb7 := hbA.trans (hs7.mono hbA.size)
  refine (CI.out _ _ HXP.out (HK.out.below hb7)).mono ?_
  rintro e w10 ⟨⟨v10, ps10, rfl, hO10, hps10⟩, hb⟩
  obtain ⟨a10, c10, rfl⟩ := hO10.form
  have hpl10 : ps10.length = l.length := by rw [← hps10, bsP_len]
  rw [hpl10] at hO10 ⊢
  obtain ⟨gG, hgG⟩ : ∃ gG, w10.heap.size = gG := ⟨_, rfl⟩
  obtain ⟨w11, hw11⟩ : ∃ w11, w10.alloc (.cells #[.int .i64 i1, .int .i64 x1, .slice a10 l.length c10] 34) = w11 := ⟨_, rfl⟩
  have h1011 : Below w10.heap.size w10 w11 := by rw [← hw11]; exact low1 _ _
  have hG11 : Blk w11 gG 3 (q3 (.int .i64 i1) (.int .i64 x1) (.slice a10 l.length c10)) 34 := by rw [← hw11, ← hgG]; exact new3 _ _ _ _ _
  have h711 := hb.trans (h1011.mono hb.size)
  have hs11 := hs7.trans (h711.mono hs7.size)
  have HO11 := hide (hO10.down h1011)
  have HIG := hide (show Within w7.heap.size gG (.slice a10 l.length c10) ps10 by rw [← hgG]; exact hO10.within)
  have h7G : w7.heap.size ≤ gG := by rw [← hgG]; exact hb.size
  have HPG := hide hps10
  have HPL := hide hpl10
  have HG11 := hide hG11
  have HP11 := hide (HP7.out.down h711)
  have HY11 := hide (HY7.out.down h711)
  have hxg : BrsOf w11 (.slice a10 l.length c10) l := by have := HO11.out.brs; rwa [hps10] at this
  have HXG := hide hxg
  obtain ⟨⟨p0, p1, p2⟩, -⟩ := (HWA.out.down hs11).tri
  obtain ⟨⟨q0, q1, q2⟩, -⟩ := HG11.out.tri
  rw [← hw11] at p0 p1 p2 q0 q1 q2
  have Hw11 := hide hw11
  have HgG := hide hgG
  clear hb hO10 hps10 hpl10 hgG hw11 h1011 hG11 h711 hs7 hb7 HXP hxg HP7 HY7
  go_wp2_with fail
  rw [HgG.out]
  go_wp2_with fail
  rw [Hw11.out]
  clear Hw11 HgG p0 p1 p2 q0 q1 q2
  refine (eq_region i1 x1 _ _ l _ HXG.out (HXA.out.below hs11) HFL.out).mono ?_
  rintro e w12 ⟨rfl, hb⟩
  have hs12 := hs11.trans (hb.mono hs11.size)
  have HO12 := hide (HO11.out.down hb)
  have HG12 := hide (HG11.out.down hb)
  have HP12 := hide (HP11.out.down hb)
  have HY12 := hide (HY11.out.down hb)
  clear hb hs11 HO11 HG11 HP11 HY11 HXG
  obtain ⟨⟨d0, d1, d2⟩, -⟩ := (HNA.out.down hs12).tri
  obtain ⟨⟨e0, e1, e2⟩, -⟩ := HY12.out.tri
  have HMX := hide (show ∀ wx wy : World, wx.heap = w12.heap → Below wx.heap.size wx wy → wy.cell? ⟨gY, 0, none⟩ = some (.int .i64 id) ∧ wy.cell? ⟨gY, 1, none⟩ = some (.int .i64 ver) ∧ wy.cell? ⟨gY, 2, none⟩ = some (.slice (some ⟨g6, 0, none⟩) bs.length bs.length) from fun wx wy hh hb => by
    have h : Blk wx gY 3 (q3 (.int .i64 id) (.int .i64 ver) (.slice (some ⟨g6, 0, none⟩) bs.length bs.length)) 34 := by unfold Blk; rw [hh]; exact HY12.out
    exact (h.down hb).tri.1)
  have HXX := hide (show BrsOf w12 (.slice (some ⟨g6, 0, none⟩) bs.length bs.length) bs by have := HP12.out.brs; rwa [HPS.out] at this)
  go_wp2_with fail
  go_cut [56] from 52 (fun bb wx => bb = .bool false ∧ Hid (Below w12.heap.size w12 wx))
  case first =>
    go_region_with (first | (go_at_call 14; refine (to_region id ver _ bs _ (HVA.out.below hs12.drew) HS.out).mono ?_; rintro e wx ⟨⟨gx, psx, rfl, hOx, hpsx⟩, hbx⟩; have hxx := hOx.brs; rw [hpsx] at hxx; have HXN := hide hxx; clear hxx hOx hpsx; obtain ⟨m0, m1, m2⟩ := HMX.out w12.drew wx rfl hbx) | (go_at_call 16; refine (eq_region id ver _ _ bs _ ((HXX.out.below ((Below.refl w12.heap.size w12).drew)).below hbx) HXN.out HS.out).mono ?_; rintro e wy ⟨rfl, hby⟩))
    all_goals
      go_wp2_with fail
      go_meet
      exact ⟨rfl, hide (((Below.refl w12.heap.size w12).drew.trans hbx).trans (hby.mono hbx.size))⟩
  case rest =>
  rename World => w14
  obtain ⟨rfl, HCC⟩ := hcut
  have hs14 := hs12.trans (HCC.out.mono hs12.size)
  have HO14 := hide (HO12.out.down HCC.out)
  have HG14 := hide (HG12.out.down HCC.out)
  have HP14 := hide (HP12.out.down HCC.out)
  have HY14 := hide (HY12.out.down HCC.out)
  clear hs12 HO12 HG12 HP12 HY12 HCC HMX HXX d0 d1 d2 e0 e1 e2
  have HEV := hide (show evn ps6 ≤ 1048576 from by
    have := evn_wb ps6
    rw [HPS.out] at this
    have := HWL.out
    omega)
  obtain ⟨⟨e0, e1, e2⟩, -⟩ := HY14.out.tri
  go_wp2_with fail
  refine (mark_region id ver A.heap.size 1 A.heap.size gY _ ps6 _ HP14.out HIN.out (by have := congrArg List.length HPS.out; rw [bsP_len] at this; rw [this]; exact HS.out.1) (fun q hq => (HS.out.2 q.2 (by rw [← HPS.out]; exact List.mem_map_of_mem hq)).1) (Nat.le_refl _) (by have := HEV.out; omega)).mono ?_
  rintro e w16 ⟨rfl, -, hk⟩
  have hs16 := hs14.trans (hk.below (Nat.le_refl _) hs14.size)
  have HO16 := hide (HO14.out.kept hk (by omega))
  have HG16 := hide (hk.blk HG14.out (.inr (by omega)))
  obtain ⟨k1, hk1⟩ : ∃ k1, 1 + 4 * evn ps6 = k1 := ⟨_, rfl⟩
  rw [hk1]
  have hk20 : ¬ ((k1 : Int) < 0) := by omega
  clear hs14 HO14 HG14 HP14 HY14 hk e0 e1 e2 HIN HEV hk1
  obtain ⟨⟨p0, p1, p2⟩, -⟩ := HG16.out.tri
  obtain ⟨⟨q0, q1, q2⟩, -⟩ := (HWA.out.down hs16).tri
  have HXG := hide (show BrsOf w16 (.slice a10 l.length c10) l by have := HO16.out.brs; rwa [HPG.out] at this)
  go_wp2_with fail
  refine (eq_region i1 x1 _ _ l _ HXG.out (HXA.out.below hs16) HFL.out).mono ?_
  rintro e w17 ⟨rfl, hb⟩
  have hs17 := hs16.trans (hb.mono hs16.size)
  have HO17 := hide (HO16.out.down hb)
  have HG17 := hide (HG16.out.down hb)
  clear hb hs16 HO16 HG16 HXG p0 p1 p2 q0 q1 q2
  have HLE := hide (show ∀ q ∈ ps10, q.2.length ≤ 60 from fun q hq => (HGL.out.2 q.2 (by rw [← HPG.out]; exact List.mem_map_of_mem hq)).1)
  have HEG := hide (show evn ps10 ≤ 720 from by
    have h1 := evn_le HLE.out
    have h2 := HGL.out.1
    rw [HPL.out] at h1
    omega)
  obtain ⟨mm, hmm⟩ : ∃ mm, 1 + 4 * evn ps10 = mm := ⟨_, rfl⟩
  have hm0 : ¬ ((mm : Int) < 0) := by omega
  have hm1 : ((mm : Int) != (mm : Int)) = false := by simp
  have HMM := hide hmm
  clear hmm
  obtain ⟨⟨p0, p1, p2⟩, -⟩ := HG17.out.tri
  go_wp2_with fail
  refine (mark_region i1 x1 w7.heap.size 1 w7.heap.size gG _ ps10 _ HO17.out HIG.out (by have := HPL.out; have := HGL.out.1; omega) (fun q hq => by have := HLE.out q hq; omega) (Nat.le_refl _) (by have := HEG.out; omega)).mono ?_
  rw [HMM.out]
  rintro e w18 ⟨rfl, hOm, hk⟩
  have hs18 := hs17.trans (hk.below (by have := hs17.size; omega) hs17.size)
  have HO18 := hide hOm
  have HG18 := hide (hk.blk HG17.out (.inr (Nat.le_refl _)))
  clear hs17 HO17 HG17 hOm hk p0 p1 p2 HIG
  obtain ⟨⟨p0, p1, p2⟩, -⟩ := HG18.out.tri
  go_wp2_with fail
  refine (held_region i1 x1 w7.heap.size 1 _ ps10 _ HO18.out (by have := HPL.out; have := HGL.out.1; omega) (fun q hq => by have := HLE.out q hq; omega) (Nat.le_refl _) (by have := HEG.out; omega)).mono ?_
  rw [HMM.out]
  rintro e w19 ⟨rfl, hb⟩
  have hs19 := hs18.trans (hb.mono hs18.size)
  have HO19 := hide (HO18.out.down hb)
  have HG19 := hide (HG18.out.down hb)
  clear hb hs18 HO18 HG18 p0 p1 p2
  obtain ⟨⟨d0, d1, d2⟩, -⟩ := (HNA.out.down hs19).tri
  go_wp2_with fail
  refine (to_region id ver _ bs _ (HVA.out.below hs19) HS.out).mono ?_
  rintro e w20 ⟨⟨g20, ps20, rfl, hO, hps⟩, hb⟩
  have hx := hO.brs
  rw [hps] at hx
  have HX20 := hide hx
  have hs20 := hs19.trans (hb.mono hs19.size)
  have HO20 := hide (HO19.out.down hb)
  have HG20 := hide (HG19.out.down hb)
  have hb20 := hbA.trans (hs20.mono hbA.size)
  clear hb hs19 HO19 HG19 hO hps hx d0 d1 d2
  go_wp2_with fail
  refine (CI.out _ _ HX20.out (HK.out.below hb20)).mono ?_
  rintro e w22 ⟨⟨v22, ps22, rfl, hO22, hps22⟩, hb⟩
  obtain ⟨a22, c22, rfl⟩ := hO22.form
  have hpl22 : ps22.length = l.length := by rw [← hps22, bsP_len]
  rw [hpl22] at hO22 ⊢
  obtain ⟨gH, hgH⟩ : ∃ gH, w22.heap.size = gH := ⟨_, rfl⟩
  obtain ⟨w23, hw23⟩ : ∃ w23, w22.alloc (.cells #[.int .i64 i1, .int .i64 x1, .slice a22 l.length c22] 34) = w23 := ⟨_, rfl⟩
  have h2223 : Below w22.heap.size w22 w23 := by rw [← hw23]; exact low1 _ _
  have hH23 : Blk w23 gH 3 (q3 (.int .i64 i1) (.int .i64 x1) (.slice a22 l.length c22)) 34 := by rw [← hw23, ← hgH]; exact new3 _ _ _ _ _
  have h2023 := hb.trans (h2223.mono hb.size)
  have hs23 := hs20.trans (h2023.mono hs20.size)
  have HO23 := hide (HO20.out.down h2023)
  have HG23 := hide (HG20.out.down h2023)
  have HXH := hide (show BrsOf w23 (.slice a22 l.length c22) l by have := (hO22.down h2223).brs; rwa [hps22] at this)
  obtain ⟨⟨p0, p1, p2⟩, -⟩ := (HWA.out.down hs23).tri
  obtain ⟨⟨q0, q1, q2⟩, -⟩ := hH23.tri
  rw [← hw23] at p0 p1 p2 q0 q1 q2
  have Hw23 := hide hw23
  have HgH := hide hgH
  clear hb hO22 hps22 hpl22 hw23 hgH h2223 hH23 h2023 hs20 hb20 HO20 HG20 HX20
  go_wp2_with fail
  rw [HgH.out]
  go_wp2_with fail
  rw [Hw23.out]
  clear Hw23 HgH p0 p1 p2 q0 q1 q2
  refine (eq_region i1 x1 _ _ l _ HXH.out (HXA.out.below hs23) HFL.out).mono ?_
  rintro e w24 ⟨rfl, hb⟩
  have hs24 := hs23.trans (hb.mono hs23.size)
  have HO24 := hide (HO23.out.down hb)
  have HG24 := hide (HG23.out.down hb)
  clear hb hs23 HO23 HG23 HXH
  obtain ⟨⟨p0, p1, p2⟩, -⟩ := HG24.out.tri
  go_wp2_with fail
  refine (held_region i1 x1 w7.heap.size 1 _ ps10 _ HO24.out (by have := HPL.out; have := HGL.out.1; omega) (fun q hq => by have := HLE.out q hq; omega) (Nat.le_refl _) (by have := HEG.out; omega)).mono ?_
  rw [HMM.out]
  rintro e w25 ⟨rfl, hb⟩
  have hs25 := hs24.trans (hb.mono hs24.size)
  have hbz := hbA.trans (hs25.mono hbA.size)
  clear hb hs24 HO24 HG24 HV HF HK HS CS CI HGL HFL HXA HWA HNA HVA HPS HPG HPL HLE HEG HMM HWL p0 p1 p2
  go_wp2
  go_ret
  exact ⟨rfl, hbz⟩
end Go.Proofs.YtfkeokglifpkoaaGreatDoor

/-
  Which history counts: the order of weights behind the interface, the last of a row in it, and the specification's way.
-/
namespace Go.Proofs.YtfkeokglifpkoaaGreatDoor
open Go.RowKit M
open Go.Sort (grow)
namespace M
theorem orI_wgt (a b : Evs) : decide (orI (cmpI (lv a) (lv b)) (cmpI (a.length : Int) (b.length : Int)) (cL a b) < 0) = wgt a b := by
  unfold orI wgt cmpI
  rcases (show lv a < lv b ∨ lv a = lv b ∨ lv b < lv a by omega) with h | h | h
  · simp [h]
  · have h1 : ¬ lv a < lv b := by omega
    have h2 : ¬ lv b < lv a := by omega
    rcases (show a.length < b.length ∨ a.length = b.length ∨ b.length < a.length by omega) with k | k | k
    · have k1 : (a.length : Int) < (b.length : Int) := by omega
      simp [h, k, k1]
    · have k1 : ¬ (a.length : Int) < (b.length : Int) := by omega
      have k2 : ¬ (b.length : Int) < (a.length : Int) := by omega
      simp [h, k]
    · have k1 : ¬ (a.length : Int) < (b.length : Int) := by omega
      have k2 : (b.length : Int) < (a.length : Int) := by omega
      have k3 : ¬ a.length < b.length := by omega
      have k4 : ¬ a.length = b.length := by omega
      simp [h, k1, k2, k3, k4]
  · have h1 : ¬ lv a < lv b := by omega
    have h2 : ¬ lv a = lv b := by omega
    simp [h1, h, h2]
def B4 (w : World) (g : Nat) (e : Ev) : Prop := w.cell? ⟨g, 0, none⟩ = some (.int .i64 e.id) ∧ w.cell? ⟨g, 1, none⟩ = some (.int .i64 e.ver) ∧ w.cell? ⟨g, 2, none⟩ = some (.int .i64 e.kind) ∧ w.cell? ⟨g, 3, none⟩ = some (.string e.name)
theorem B4.lt {w : World} {g : Nat} {e : Ev} (h : B4 w g e) : g < w.heap.size := World.block_lt_of_cell? w _ h.1
theorem B4.down {w w' : World} {g : Nat} {e : Ev} (h : B4 w g e) (hb : Below w.heap.size w w') : B4 w' g e :=
  ⟨(hb.cell (p := ⟨g, 0, none⟩) h.lt).trans h.1, (hb.cell (p := ⟨g, 1, none⟩) h.lt).trans h.2.1, (hb.cell (p := ⟨g, 2, none⟩) h.lt).trans h.2.2.1, (hb.cell (p := ⟨g, 3, none⟩) h.lt).trans h.2.2.2⟩
/-- What is held while two are weighed: their boxes, the two last events' boxes. -/
structure WtS (w W : World) (p7 p8 : Nat) (u v : Value) (x y : Ev) : Prop where
  low : Below w.heap.size w W
  a : W.cell? ⟨w.heap.size, 0, none⟩ = some u
  b : W.cell? ⟨w.heap.size + 1, 0, none⟩ = some v
  x : B4 W p7 x
  y : B4 W p8 y
theorem WtS.down {w W W' : World} {p7 p8 : Nat} {u v : Value} {x y : Ev} (h : WtS w W p7 p8 u v x y) (hb : Below W.heap.size W W') : WtS w W' p7 p8 u v x y :=
  ⟨h.low.trans (hb.mono h.low.size), (hb.cell (p := ⟨w.heap.size, 0, none⟩) (World.block_lt_of_cell? W _ h.a)).trans h.a, (hb.cell (p := ⟨w.heap.size + 1, 0, none⟩) (World.block_lt_of_cell? W _ h.b)).trans h.b, h.x.down hb, h.y.down hb⟩
theorem wts_a {w W2 : World} {u v : Value} {s t : TypeId} {x y : Ev} (hal : Below w.heap.size w W2) (n0 : M.One W2 w.heap.size u s) (n1 : M.One W2 (w.heap.size + 1) v t) : WtS w ((W2.alloc (.cells (evarr x) 74)).alloc (.cells (evarr y) 74)).drew W2.heap.size (W2.heap.size + 1) u v x y := by
  have k1 := (Below.refl W2.heap.size W2).alloc (Nat.le_refl _) (.cells (evarr x) 74)
  have k2 := ((Below.refl (W2.alloc (.cells (evarr x) 74)).heap.size (W2.alloc (.cells (evarr x) 74))).alloc (Nat.le_refl _) (.cells (evarr y) 74)).drew
  have k3 := k1.trans (k2.mono k1.size)
  have x1 : B4 (W2.alloc (.cells (evarr x) 74)) W2.heap.size x := four_new W2 _ _ _ _ _
  have y1 : B4 ((W2.alloc (.cells (evarr x) 74)).alloc (.cells (evarr y) 74)) (W2.heap.size + 1) y := by
    have := four_new (W2.alloc (.cells (evarr x) 74)) (.int .i64 y.id) (.int .i64 y.ver) (.int .i64 y.kind) (.string y.name) 74
    rw [World.size_alloc] at this; exact this
  exact ⟨hal.trans (k3.mono hal.size), (n0.down k3).cell, (n1.down k3).cell, x1.down k2, y1⟩
theorem wts_b {w W2 : World} {u v : Value} {s t : TypeId} {x y : Ev} (hal : Below w.heap.size w W2) (n0 : M.One W2 w.heap.size u s) (n1 : M.One W2 (w.heap.size + 1) v t) : WtS w ((W2.alloc (.cells (evarr y) 74)).alloc (.cells (evarr x) 74)).drew (W2.heap.size + 1) W2.heap.size u v x y := by
  obtain ⟨h1, h2, h3, h4, h5⟩ := wts_a (x := y) (y := x) hal n0 n1
  exact ⟨h1, h2, h3, h5, h4⟩
end M
theorem as_wt (v : Value) (w : World) : (Instr.typeAssert (.iface 199 v) 197 199 true).run Tryz.prog w = .ok (.tuple #[v, .bool true]) w := by kernel_rfl
theorem cm_wt (v : Value) (w : World) : (method 369 199 (.agg #[v]) "loop.example/g00269/impl.isAhead").run Tryz.prog w = .ok (241, .agg #[v]) w := by kernel_rfl
theorem by_verB (a b : Ev) (w : World) : Calls Tryz.prog 171 #[.agg #[.int .i64 a.id, .int .i64 a.ver, .int .i64 a.kind, .string a.name], .agg #[.int .i64 b.id, .int .i64 b.ver, .int .i64 b.kind, .string b.name]] w fun e w' => e = .returned (.int .i64 (cmpI a.ver b.ver)) ∧ Below w.heap.size w w' := by_ver a b w
set_option maxRecDepth 20000 in
set_option maxHeartbeats 8000000 in
theorem ahead_wt (v u : Value) (a b : Evs) (w : World) (hv : SliceOf w v a) (hu : SliceOf w u b) (ha : a.length ≤ 1048576) (hb_ : b.length ≤ 1048576) (ha0 : 0 < a.length) (hb0 : 0 < b.length) :
    Calls Tryz.prog 241 #[.agg #[v], .iface 199 (.agg #[u])] w fun e w' => e = .returned (.bool (wgt a b)) ∧ Below w.heap.size w w' := by
  have hal := ((Below.refl w.heap.size w).alloc (Nat.le_refl _) (.cells #[v] 199)).alloc (by simp) (.cells #[u] 199)
  have HV := hide hv
  have HU := hide hu
  have has := fun x W => as_wt x W
  obtain ⟨aa1, cap1, rfl⟩ := hv.form
  obtain ⟨aa2, cap2, rfl⟩ := hu.form
  obtain ⟨a1', k1', hv1, hr1⟩ := hv
  obtain ⟨a2', k2', hv2, hr2⟩ := hu
  simp only [Value.slice.injEq, true_and] at hv1 hv2
  obtain ⟨rfl, rfl⟩ := hv1
  obtain ⟨rfl, rfl⟩ := hv2
  obtain ⟨g1, o1, rfl, hl1, hrow1⟩ := hr1 (by intro h; subst h; simp at ha0)
  obtain ⟨g2, o2, rfl, hl2, hrow2⟩ := hr2 (by intro h; subst h; simp at hb0)
  obtain ⟨ja, hja⟩ : ∃ ja, a.length - 1 = ja := ⟨_, rfl⟩
  obtain ⟨jb, hjb⟩ : ∃ jb, b.length - 1 = jb := ⟨_, rfl⟩
  obtain ⟨x, hx⟩ : ∃ x, a[ja]? = some x := ⟨a[ja]'(by omega), List.getElem?_eq_getElem _⟩
  obtain ⟨y, hy⟩ : ∃ y, b[jb]? = some y := ⟨b[jb]'(by omega), List.getElem?_eq_getElem _⟩
  obtain ⟨W2, hW2⟩ : ∃ W2, (w.alloc (.cells #[.slice (some ⟨g1, o1, none⟩) a.length cap1] 199)).alloc (.cells #[.slice (some ⟨g2, o2, none⟩) b.length cap2] 199) = W2 := ⟨_, rfl⟩
  rw [hW2] at hal
  obtain ⟨m0, m1, -, hsz2⟩ := two1 w _ _ _ _ W2 hW2.symm
  obtain ⟨c0, c1, c2, c3⟩ := (hrow1 ja x hx).below hal hl1
  obtain ⟨d0, d1, d2, d3⟩ := (hrow2 jb y hy).below hal hl2
  have HLA := hide (show lv a = x.ver from lv_at (by rw [hja]; exact hx))
  have HLB := hide (show lv b = y.ver from lv_at (by rw [hjb]; exact hy))
  have HWG := hide (show decide (orI (cmpI x.ver y.ver) (cmpI (a.length : Int) (b.length : Int)) (cL a b) < 0) = wgt a b by rw [← HLA.out, ← HLB.out]; exact orI_wgt a b)
  have q1 := m0.cell
  have q2 := m1.cell
  have hj1 : (a.length : Int) - 1 = (ja : Int) := by omega
  have hj2 : (b.length : Int) - 1 = (jb : Int) := by omega
  have hw1 : IntKind.i64.wrap (ja : Int) = (ja : Int) := by rw [IntKind.wrap_i64]; omega
  have hw2 : IntKind.i64.wrap (jb : Int) = (jb : Int) := by rw [IntKind.wrap_i64]; omega
  have hi0 : (0 : Int) ≤ (ja : Int) := by omega
  have hi1 : (ja : Int) < (a.length : Int) := by omega
  have hi2 : (0 : Int) ≤ (jb : Int) := by omega
  have hi3 : (jb : Int) < (b.length : Int) := by omega
  have hi4 : ja < a.length := by omega
  have hi5 : jb < b.length := by omega
  have hA1 := fun o : Obj => (Below.refl W2.heap.size W2).alloc (Nat.le_refl _) o
  have hA2 := fun o o' : Obj => (hA1 o).alloc (by simp) o'
  have lq1 := World.block_lt_of_cell? W2 _ q1
  have lq2 := World.block_lt_of_cell? W2 _ q2
  have lc := World.block_lt_of_cell? W2 _ c0
  have ld := World.block_lt_of_cell? W2 _ d0
  have q1A := fun o => ((hA1 o).cell (p := ⟨w.heap.size, 0, none⟩) lq1).trans q1
  have q1B := fun o o' => ((hA2 o o').cell (p := ⟨w.heap.size, 0, none⟩) lq1).trans q1
  have q2A := fun o => ((hA1 o).cell (p := ⟨w.heap.size + 1, 0, none⟩) lq2).trans q2
  have q2B := fun o o' => ((hA2 o o').cell (p := ⟨w.heap.size + 1, 0, none⟩) lq2).trans q2
  have c0A := fun o => ((hA1 o).cell (p := ⟨g1, o1 + ja * 4, none⟩) lc).trans c0
  have c0B := fun o o' => ((hA2 o o').cell (p := ⟨g1, o1 + ja * 4, none⟩) lc).trans c0
  have c1A := fun o => ((hA1 o).cell (p := ⟨g1, o1 + ja * 4 + 1, none⟩) lc).trans c1
  have c1B := fun o o' => ((hA2 o o').cell (p := ⟨g1, o1 + ja * 4 + 1, none⟩) lc).trans c1
  have c2A := fun o => ((hA1 o).cell (p := ⟨g1, o1 + ja * 4 + 2, none⟩) lc).trans c2
  have c2B := fun o o' => ((hA2 o o').cell (p := ⟨g1, o1 + ja * 4 + 2, none⟩) lc).trans c2
  have c3A := fun o => ((hA1 o).cell (p := ⟨g1, o1 + ja * 4 + 3, none⟩) lc).trans c3
  have c3B := fun o o' => ((hA2 o o').cell (p := ⟨g1, o1 + ja * 4 + 3, none⟩) lc).trans c3
  have d0A := fun o => ((hA1 o).cell (p := ⟨g2, o2 + jb * 4, none⟩) ld).trans d0
  have d0B := fun o o' => ((hA2 o o').cell (p := ⟨g2, o2 + jb * 4, none⟩) ld).trans d0
  have d1A := fun o => ((hA1 o).cell (p := ⟨g2, o2 + jb * 4 + 1, none⟩) ld).trans d1
  have d1B := fun o o' => ((hA2 o o').cell (p := ⟨g2, o2 + jb * 4 + 1, none⟩) ld).trans d1
  have d2A := fun o => ((hA1 o).cell (p := ⟨g2, o2 + jb * 4 + 2, none⟩) ld).trans d2
  have d2B := fun o o' => ((hA2 o o').cell (p := ⟨g2, o2 + jb * 4 + 2, none⟩) ld).trans d2
  have d3A := fun o => ((hA1 o).cell (p := ⟨g2, o2 + jb * 4 + 3, none⟩) ld).trans d3
  have d3B := fun o o' => ((hA2 o o').cell (p := ⟨g2, o2 + jb * 4 + 3, none⟩) ld).trans d3
  have HWW := hide hW2
  have HAL := hide hal
  have HM := hide (And.intro m0 m1)
  have HSZ := hide hsz2
  clear hrow1 hrow2 hr1 hr2 hx hy hja hjb hal hW2 m0 m1 hsz2 HLA HLB hA1 hA2 lq1 lq2 lc ld
  go_enter Tryz.func241, Tryz.ntmps241
  go_upto_region 4 with fail
  rw [HWW.out]
  go_cut [7, 8] from 17 (fun z7 z8 wx => ∃ p7 p8, z7 = .pointer (some ⟨p7, 0, none⟩) ∧ z8 = .pointer (some ⟨p8, 0, none⟩) ∧ Hid (WtS w wx p7 p8 (.slice (some ⟨g1, o1, none⟩) a.length cap1) (.slice (some ⟨g2, o2, none⟩) b.length cap2) x y))
  case first =>
    go_region
    all_goals
      go_wp2_with fail
      go_meet
      first
        | exact ⟨W2.heap.size, W2.heap.size + 1, rfl, rfl, hide (wts_a HAL.out HM.out.1 HM.out.2)⟩
        | exact ⟨W2.heap.size + 1, W2.heap.size, rfl, rfl, hide (wts_b HAL.out HM.out.1 HM.out.2)⟩
  case rest =>
    rename World => wx
    obtain ⟨p7, p8, rfl, rfl, HS⟩ := hcut
    clear c0 c1 c2 c3 d0 d1 d2 d3 q1 q2 q1A q1B q2A q2B c0A c0B c1A c1B c2A c2B c3A c3B d0A d0B d1A d1B d2A d2B d3A d3B HWW HAL HM HSZ
    have HSS := hide (fun W (hb : Below wx.heap.size wx W) => (show (W.cell? ⟨p7, 0, none⟩ = some (.int .i64 x.id) ∧ W.cell? ⟨p7, 1, none⟩ = some (.int .i64 x.ver) ∧ W.cell? ⟨p7, 2, none⟩ = some (.int .i64 x.kind) ∧ W.cell? ⟨p7, 3, none⟩ = some (.string x.name)) ∧ (W.cell? ⟨p8, 0, none⟩ = some (.int .i64 y.id) ∧ W.cell? ⟨p8, 1, none⟩ = some (.int .i64 y.ver) ∧ W.cell? ⟨p8, 2, none⟩ = some (.int .i64 y.kind) ∧ W.cell? ⟨p8, 3, none⟩ = some (.string y.name)) ∧ W.cell? ⟨w.heap.size, 0, none⟩ = some (.slice (some ⟨g1, o1, none⟩) a.length cap1) ∧ W.cell? ⟨w.heap.size + 1, 0, none⟩ = some (.slice (some ⟨g2, o2, none⟩) b.length cap2) from ⟨(HS.out.down hb).x, (HS.out.down hb).y, (HS.out.down hb).a, (HS.out.down hb).b⟩))
    have HSA := hide (fun W o (hb : Below wx.heap.size wx W) => HSS.out (W.alloc o) (hb.alloc hb.size o))
    have HBd := hide ((Below.refl wx.heap.size wx).drew)
    obtain ⟨r1, hr1⟩ : ∃ r1, cmpI x.ver y.ver = r1 := ⟨_, rfl⟩
    obtain ⟨r2, hr2⟩ : ∃ r2, cmpI (a.length : Int) (b.length : Int) = r2 := ⟨_, rfl⟩
    obtain ⟨r3, hr3⟩ : ∃ r3, cL a b = r3 := ⟨_, rfl⟩
    obtain ⟨r4, hr4⟩ : ∃ r4, orI r1 r2 r3 = r4 := ⟨_, rfl⟩
    have hwg := HWG.out
    rw [hr1, hr2, hr3, hr4] at hwg
    have HWG := hide hwg
    have HVV := hide (show ∀ W, Below wx.heap.size wx W → Calls Tryz.prog 171 #[.agg #[.int .i64 x.id, .int .i64 x.ver, .int .i64 x.kind, .string x.name], .agg #[.int .i64 y.id, .int .i64 y.ver, .int .i64 y.kind, .string y.name]] W fun e w' => e = .returned (.int .i64 r1) ∧ Below wx.heap.size wx w' from fun W hb => by
      rw [← hr1]
      exact (by_verB x y W).mono fun e w' ⟨he, hb'⟩ => ⟨he, hb.trans (hb'.mono hb.size)⟩)
    have HCC := hide (show ∀ W, Calls Tryz.prog 197 #[.int .i64 (a.length : Int), .int .i64 (b.length : Int)] W fun e w' => e = .returned (.int .i64 r2) ∧ w' = W from fun W => by rw [← hr2]; exact cmp_int _ _ W)
    have HFF := hide (show ∀ W, Below wx.heap.size wx W → Calls Tryz.prog 235 #[.slice (some ⟨g1, o1, none⟩) a.length cap1, .slice (some ⟨g2, o2, none⟩) b.length cap2, .func (.func 236) #[] #[]] W fun e w' => e = .returned (.int .i64 r3) ∧ Below wx.heap.size wx w' from fun W hb => by
      rw [← hr3]
      have hlow := HS.out.low.trans (hb.mono HS.out.low.size)
      exact (cmp_func _ _ a b W (HV.out.below hlow) (HU.out.below hlow) ha hb_).mono fun e w' ⟨he, hb'⟩ => ⟨he, hb.trans (hb'.mono hb.size)⟩)
    have HOO := hide (show ∀ X : World, Calls Tryz.prog 237 #[.slice (some ⟨X.heap.size, 0, none⟩) 3 3] (X.alloc (.cells #[.int .i64 r1, .int .i64 r2, .int .i64 r3] 3)) fun e w' => e = .returned (.int .i64 r4) ∧ w' = X.alloc (.cells #[.int .i64 r1, .int .i64 r2, .int .i64 r3] 3) from fun X => by
      rw [← hr4]
      exact cmp_or3 X.heap.size r1 r2 r3 _ (three_new X (.int .i64 r1) (.int .i64 r2) (.int .i64 r3) 3).1 (three_new X (.int .i64 r1) (.int .i64 r2) (.int .i64 r3) 3).2.1 (three_new X (.int .i64 r1) (.int .i64 r2) (.int .i64 r3) 3).2.2)
    have HLOW := hide (fun W o (hb : Below wx.heap.size wx W) => HS.out.low.trans ((hb.alloc hb.size o).mono HS.out.low.size))
    clear hr1 hr2 hr3 hr4 hwg HV HU HS has
    go_wp2_with fail
    go_region_held3 (fun W => (W.cell? ⟨p7, 0, none⟩ = some (.int .i64 x.id) ∧ W.cell? ⟨p7, 1, none⟩ = some (.int .i64 x.ver) ∧ W.cell? ⟨p7, 2, none⟩ = some (.int .i64 x.kind) ∧ W.cell? ⟨p7, 3, none⟩ = some (.string x.name)) ∧ (W.cell? ⟨p8, 0, none⟩ = some (.int .i64 y.id) ∧ W.cell? ⟨p8, 1, none⟩ = some (.int .i64 y.ver) ∧ W.cell? ⟨p8, 2, none⟩ = some (.int .i64 y.kind) ∧ W.cell? ⟨p8, 3, none⟩ = some (.string y.name)) ∧ W.cell? ⟨w.heap.size, 0, none⟩ = some (.slice (some ⟨g1, o1, none⟩) a.length cap1) ∧ W.cell? ⟨w.heap.size + 1, 0, none⟩ = some (.slice (some ⟨g2, o2, none⟩) b.length cap2)) (first
      | with_reducible exact HSS.out _ hbv
      | with_reducible exact HSS.out _ hbf
      | with_reducible exact HSS.out _ HBd.out
      | with_reducible exact HSA.out _ _ hbv
      | with_reducible exact HSA.out _ _ hbf) (first
      | (go_at_call 171; refine (HVV.out _ (by first | with_reducible exact HBd.out | with_reducible exact hbf)).mono ?_; rintro e wv ⟨rfl, hbv⟩)
      | (go_at_call 197; refine (HCC.out _).mono ?_; rintro e wc ⟨rfl, rfl⟩)
      | (go_at_call 235; refine (HFF.out _ (by first | with_reducible exact HBd.out | with_reducible exact hbv)).mono ?_; rintro e wf ⟨rfl, hbf⟩)
      | (go_at_call 237; refine (HOO.out _).mono ?_; rintro e wo ⟨rfl, rfl⟩))
    all_goals
      go_wp2
      go_ret
      exact ⟨ret_bool HWG.out, by first | exact HLOW.out _ _ hbf | exact HLOW.out _ _ hbv⟩
end Go.Proofs.YtfkeokglifpkoaaGreatDoor
