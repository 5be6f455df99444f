/-
  Texts that follow one another, joined: RgL4, RgE, RgC4.
-/
import Derived.Test.YtfkeokglifpkoaaGreatDoorJoin10
import Derived.Test.YtfkeokglifpkoaaGreatDoorJoin21
import Derived.Test.YtfkeokglifpkoaaGreatDoorJoin37
import Derived.Deep.RegionWith
import Derived.Test.YtfkeokglifpkoaaGreatDoorJoin30
import Derived.Test.YtfkeokglifpkoaaGreatDoorJoin34
/-
  The law of WordOf, walked, wherever both texts tell the same. Condition: the table knownKinds reads as the program's text lays it.
-/
namespace Go.Proofs.YtfkeokglifpkoaaGreatDoor
open Go.RowKit M
open Go.Sort (grow)
set_option maxRecDepth 20000 in
set_option maxHeartbeats 16000000 in
theorem law_WordOf_run (id ver : Int) (v : Value) (bs : Brs) (w : World) (hv : BrsOf w v bs) (hf : Fine bs) (hkk : KK w)
    (hC : FineS bs → ∃ (x1 : Int) (l : Brs) (r0 : Bool), (l.length ≤ 12 ∧ ∀ b ∈ l, b.length ≤ 60 ∧ ∀ e ∈ b, e.name.size ≤ 12) ∧ (∀ (v : Value) (w : World), BrsOf w v bs → CapOk v → Calls Tryz.prog 23 #[rv id ver v] w fun e w' => (∃ v ps, e = .returned (.tuple #[wv x1 v, .bool r0]) ∧ OwnP w' w.heap.size v ps ∧ bsP ps = l) ∧ Below w.heap.size w w') ∧
      (∀ (v : Value) (w : World), BrsOf w v bs → KK w → Calls Tryz.prog 24 #[rv id ver v] w fun e w' => (∃ v ps, e = .returned (.tuple #[wv x1 v, .bool r0]) ∧ OwnP w' w.heap.size v ps ∧ bsP ps = l) ∧ Below w.heap.size w w')) :
    Calls Tryz.prog 6 #[rv id ver v] w fun e w' => e = .returned (.bool true) ∧ Below w.heap.size w w' := by
  obtain ⟨a, c, rfl⟩ := hv.form
  have hb0 := low1 w (.cells #[.int .i64 id, .int .i64 ver, .slice a bs.length c] 26)
  have HN0 := hide (new3 w (.int .i64 id) (.int .i64 ver) (.slice a bs.length c) 26)
  have HV := hide hv
  have HF := hide hf
  have HK := hide hkk
  have HC := hide hC
  clear hv hf hkk hC
  by_cases hfit : bs.length + wb bs ≤ 1048576
  case neg =>
    have hz := szr_no (left := 1048576) (n := bs.length + wb bs) (by omega)
    have hge : szr 1048576 (bs.length + wb bs) < 0 := by rw [hz]; omega
    clear hz HC HN0
    go_enter Tryz.func6, Tryz.ntmps6
    go_wp2_with fail
    refine (sz_region id ver _ bs 1048576 _ (HV.out.below hb0) HF.out (by decide) (by decide)).mono ?_
    rintro e w1 ⟨rfl, hb⟩
    have hb1 := hb0.trans (hb.mono hb0.size)
    clear hb
    go_wp2
    go_ret
    exact ⟨rfl, hb1⟩
  have hz := szr_yes (left := 1048576) (n := bs.length + wb bs) (by omega)
  have hge : ¬ (szr 1048576 (bs.length + wb bs) < 0) := by rw [hz]; omega
  have HS := hide (fine_small HF.out hfit)
  obtain ⟨x1, l, r0, hgl, hS, hI⟩ := HC.out HS.out
  have CS := hide hS
  have CI := hide hI
  have HGL := hide hgl
  have HFL := hide (show FineS l from ⟨by omega, fun b hb => ⟨by have := (hgl.2 b hb).1; omega, fun e he => by have := (hgl.2 b hb).2 e he; unfold maxLen; omega⟩⟩)
  have HWL := hide (show wb bs ≤ 1048576 by omega)
  have er0 : (r0 != r0) = false := by simp
  clear hz HC hS hI hfit hgl
  go_enter Tryz.func6, Tryz.ntmps6
  go_wp2_with fail
  refine (sz_region id ver _ bs 1048576 _ (HV.out.below hb0) HF.out (by decide) (by decide)).mono ?_
  rintro e w1 ⟨rfl, hb⟩
  have hb1 := hb0.trans (hb.mono hb0.size)
  have HN1 := hide (HN0.out.down hb)
  clear hb hb0 HN0
  obtain ⟨⟨d0, d1, d2⟩, -⟩ := HN1.out.tri
  go_wp2_with fail
  refine (to_region id ver _ bs _ (HV.out.below hb1) HS.out).mono ?_
  rintro e w3 ⟨⟨g3, ps3, rfl, hO, hps⟩, hb⟩
  have hx := hO.brs
  rw [hps] at hx
  have HX3 := hide hx
  have hb3 := hb1.trans (hb.mono hb1.size)
  have HN3 := hide (HN1.out.down hb)
  clear hb hb1 hO hps hx HN1 d0 d1 d2
  go_wp2_with fail
  refine (CS.out _ _ HX3.out (Nat.le_refl _)).mono ?_
  rintro e w5 ⟨⟨v5, ps5, rfl, hO5, hps5⟩, hb⟩
  obtain ⟨a5, c5, rfl⟩ := hO5.form
  have hpl5 : ps5.length = l.length := by rw [← hps5, bsP_len]
  rw [hpl5] at hO5 ⊢
  obtain ⟨gW, hgW⟩ : ∃ gW, w5.heap.size = gW := ⟨_, rfl⟩
  obtain ⟨A, hA⟩ : ∃ A, w5.alloc (.cells #[.int .i64 x1, .slice a5 l.length c5] 45) = A := ⟨_, rfl⟩
  have h5A : Below w5.heap.size w5 A := by rw [← hA]; exact low1 _ _
  have hWA : Blk A gW 2 (q2 (.int .i64 x1) (.slice a5 l.length c5)) 45 := by rw [← hA, ← hgW]; exact new2 _ _ _ _
  have h4A := hb.trans (h5A.mono hb.size)
  have hbA := hb3.trans (h4A.mono hb3.size)
  have hxA : BrsOf A (.slice a5 l.length c5) l := by have := (hO5.down h5A).brs; rwa [hps5] at this
  have HXA := hide hxA
  have HWA := hide hWA
  have HNA := hide (HN3.out.down h4A)
  have HVA := hide (HV.out.below hbA)
  have HA := hide hA
  have HgW := hide hgW
  have hdA : Blk (w5.alloc (.cells #[.int .i64 x1, .slice a5 l.length c5] 45)) w.heap.size 3 (q3 (.int .i64 id) (.int .i64 ver) (.slice a bs.length c)) 26 := by rw [hA]; exact HNA.out
  obtain ⟨⟨d0, d1, d2⟩, -⟩ := hdA.tri
  clear hb hb3 HX3 hO5 hps5 hxA hWA h5A h4A hA hgW HN3 hpl5 hdA
  go_wp2_with fail
  rw [HA.out, HgW.out]
  clear HA HgW d0 d1 d2
  refine (to_region id ver _ bs _ HVA.out HS.out).mono ?_
  rintro e w6 ⟨⟨g6, ps6, rfl, hO6, hps6⟩, hb6⟩
  obtain ⟨gY, hgY⟩ : ∃ gY, w6.heap.size = gY := ⟨_, rfl⟩
  obtain ⟨w7, hw7⟩ : ∃ w7, w6.alloc (.cells #[.int .i64 id, .int .i64 ver, .slice (some ⟨g6, 0, none⟩) bs.length bs.length] 34) = w7 := ⟨_, rfl⟩
  have h67 : Below w6.heap.size w6 w7 := by rw [← hw7]; exact low1 _ _
  have hY7 : Blk w7 gY 3 (q3 (.int .i64 id) (.int .i64 ver) (.slice (some ⟨g6, 0, none⟩) bs.length bs.length)) 34 := by rw [← hw7, ← hgY]; exact new3 _ _ _ _ _
  have HIN := hide (show Within A.heap.size gY (.slice (some ⟨g6, 0, none⟩) bs.length bs.length) ps6 by rw [← hgY]; exact hO6.within)
  have HPS := hide hps6
  have hAY : A.heap.size ≤ gY := by rw [← hgY]; exact hb6.size
  have hY7s : gY < w7.heap.size := hY7.lt
  have hs7 := hb6.trans (h67.mono hb6.size)
  have HP7 := hide (hO6.down h67)
  have HY7 := hide hY7
  have Hw7 := hide hw7
  have HgY := hide hgY
  obtain ⟨⟨e0, e1, e2⟩, -⟩ := hY7.tri
  rw [← hw7, ← hgY] at e0 e1 e2
  clear hb6 hO6 hps6 h67 hY7 hgY hw7
  go_wp2_with fail
  rw [Hw7.out, HgY.out]
  clear Hw7 HgY e0 e1 e2
  have HXP := hide (show BrsOf w7 (.slice (some ⟨g6, 0, none⟩) bs.length bs.length) bs by have := HP7.out.brs; rwa [HPS.out] at this)
  have hb7 := hbA.trans (hs7.mono hbA.size)
  refine (CI.out _ _ HXP.out (HK.out.below hb7)).mono ?_
  rintro e w10 ⟨⟨v10, ps10, rfl, hO10, hps10⟩, hb⟩
  obtain ⟨a10, c10, rfl⟩ := hO10.form
  have hpl10 : ps10.length = l.length := by rw [← hps10, bsP_len]
  rw [hpl10] at hO10 ⊢
  obtain ⟨gG, hgG⟩ : ∃ gG, w10.heap.size = gG := ⟨_, rfl⟩
  obtain ⟨w11, hw11⟩ : ∃ w11, w10.alloc (.cells #[.int .i64 x1, .slice a10 l.length c10] 45) = w11 := ⟨_, rfl⟩
  have h1011 : Below w10.heap.size w10 w11 := by rw [← hw11]; exact low1 _ _
  have hG11 : Blk w11 gG 2 (q2 (.int .i64 x1) (.slice a10 l.length c10)) 45 := by rw [← hw11, ← hgG]; exact new2 _ _ _ _
  have h711 := hb.trans (h1011.mono hb.size)
  have hs11 := hs7.trans (h711.mono hs7.size)
  have HO11 := hide (hO10.down h1011)
  have HIG := hide (show Within w7.heap.size gG (.slice a10 l.length c10) ps10 by rw [← hgG]; exact hO10.within)
  have h7G : w7.heap.size ≤ gG := by rw [← hgG]; exact hb.size
  have HPG := hide hps10
  have HPL := hide hpl10
  have HG11 := hide hG11
  have HP11 := hide (HP7.out.down h711)
  have HY11 := hide (HY7.out.down h711)
  have hxg : BrsOf w11 (.slice a10 l.length c10) l := by have := HO11.out.brs; rwa [hps10] at this
  have HXG := hide hxg
  obtain ⟨⟨p0, p1⟩, -⟩ := (HWA.out.down hs11).duo
  obtain ⟨⟨q0, q1⟩, -⟩ := HG11.out.duo
  rw [← hw11] at p0 p1 q0 q1
  have Hw11 := hide hw11
  have HgG := hide hgG
  clear hb hO10 hps10 hpl10 hgG hw11 h1011 hG11 h711 hs7 hb7 HXP hxg HP7 HY7
  go_wp2_with fail
  rw [HgG.out]
  go_wp2_with fail
  rw [Hw11.out]
  clear Hw11 HgG p0 p1 q0 q1
  refine (eq_word x1 _ _ l _ HXG.out (HXA.out.below hs11) HFL.out).mono ?_
  rintro e w12 ⟨rfl, hb⟩
  have hs12 := hs11.trans (hb.mono hs11.size)
  have HO12 := hide (HO11.out.down hb)
  have HG12 := hide (HG11.out.down hb)
  have HP12 := hide (HP11.out.down hb)
  have HY12 := hide (HY11.out.down hb)
  clear hb hs11 HO11 HG11 HP11 HY11 HXG
  obtain ⟨⟨d0, d1, d2⟩, -⟩ := (HNA.out.down hs12).tri
  obtain ⟨⟨e0, e1, e2⟩, -⟩ := HY12.out.tri
  have HMX := hide (show ∀ wx wy : World, wx.heap = w12.heap → Below wx.heap.size wx wy → wy.cell? ⟨gY, 0, none⟩ = some (.int .i64 id) ∧ wy.cell? ⟨gY, 1, none⟩ = some (.int .i64 ver) ∧ wy.cell? ⟨gY, 2, none⟩ = some (.slice (some ⟨g6, 0, none⟩) bs.length bs.length) from fun wx wy hh hb => by
    have h : Blk wx gY 3 (q3 (.int .i64 id) (.int .i64 ver) (.slice (some ⟨g6, 0, none⟩) bs.length bs.length)) 34 := by unfold Blk; rw [hh]; exact HY12.out
    exact (h.down hb).tri.1)
  have HXX := hide (show BrsOf w12 (.slice (some ⟨g6, 0, none⟩) bs.length bs.length) bs by have := HP12.out.brs; rwa [HPS.out] at this)
  go_wp2_with fail
  go_cut [45] from 41 (fun bb wx => bb = .bool false ∧ Hid (Below w12.heap.size w12 wx))
  case first =>
    go_region_with (first | (go_at_call 14; refine (to_region id ver _ bs _ (HVA.out.below hs12.drew) HS.out).mono ?_; rintro e wx ⟨⟨gx, psx, rfl, hOx, hpsx⟩, hbx⟩; have hxx := hOx.brs; rw [hpsx] at hxx; have HXN := hide hxx; clear hxx hOx hpsx; obtain ⟨m0, m1, m2⟩ := HMX.out w12.drew wx rfl hbx) | (go_at_call 16; refine (eq_region id ver _ _ bs _ ((HXX.out.below ((Below.refl w12.heap.size w12).drew)).below hbx) HXN.out HS.out).mono ?_; rintro e wy ⟨rfl, hby⟩))
    all_goals
      go_wp2_with fail
      go_meet
      exact ⟨rfl, hide (((Below.refl w12.heap.size w12).drew.trans hbx).trans (hby.mono hbx.size))⟩
  case rest =>
  rename World => w14
  obtain ⟨rfl, HCC⟩ := hcut
  have hs14 := hs12.trans (HCC.out.mono hs12.size)
  have HO14 := hide (HO12.out.down HCC.out)
  have HG14 := hide (HG12.out.down HCC.out)
  have HP14 := hide (HP12.out.down HCC.out)
  have HY14 := hide (HY12.out.down HCC.out)
  clear hs12 HO12 HG12 HP12 HY12 HCC HMX HXX d0 d1 d2 e0 e1 e2
  have HEV := hide (show evn ps6 ≤ 1048576 from by
    have := evn_wb ps6
    rw [HPS.out] at this
    have := HWL.out
    omega)
  obtain ⟨⟨e0, e1, e2⟩, -⟩ := HY14.out.tri
  go_wp2_with fail
  refine (mark_region id ver A.heap.size 1 A.heap.size gY _ ps6 _ HP14.out HIN.out (by have := congrArg List.length HPS.out; rw [bsP_len] at this; rw [this]; exact HS.out.1) (fun q hq => (HS.out.2 q.2 (by rw [← HPS.out]; exact List.mem_map_of_mem hq)).1) (Nat.le_refl _) (by have := HEV.out; omega)).mono ?_
  rintro e w16 ⟨rfl, -, hk⟩
  have hs16 := hs14.trans (hk.below (Nat.le_refl _) hs14.size)
  have HO16 := hide (HO14.out.kept hk (by omega))
  have HG16 := hide (hk.blk HG14.out (.inr (by omega)))
  obtain ⟨k1, hk1⟩ : ∃ k1, 1 + 4 * evn ps6 = k1 := ⟨_, rfl⟩
  rw [hk1]
  have hk20 : ¬ ((k1 : Int) < 0) := by omega
  clear hs14 HO14 HG14 HP14 HY14 hk e0 e1 e2 HIN HEV hk1
  obtain ⟨⟨p0, p1⟩, -⟩ := HG16.out.duo
  obtain ⟨⟨q0, q1⟩, -⟩ := (HWA.out.down hs16).duo
  have HXG := hide (show BrsOf w16 (.slice a10 l.length c10) l by have := HO16.out.brs; rwa [HPG.out] at this)
  go_wp2_with fail
  refine (eq_word x1 _ _ l _ HXG.out (HXA.out.below hs16) HFL.out).mono ?_
  rintro e w17 ⟨rfl, hb⟩
  have hs17 := hs16.trans (hb.mono hs16.size)
  have HO17 := hide (HO16.out.down hb)
  have HG17 := hide (HG16.out.down hb)
  clear hb hs16 HO16 HG16 HXG p0 p1 q0 q1
  have HLE := hide (show ∀ q ∈ ps10, q.2.length ≤ 60 from fun q hq => (HGL.out.2 q.2 (by rw [← HPG.out]; exact List.mem_map_of_mem hq)).1)
  have HEG := hide (show evn ps10 ≤ 720 from by
    have h1 := evn_le HLE.out
    have h2 := HGL.out.1
    rw [HPL.out] at h1
    omega)
  obtain ⟨mm, hmm⟩ : ∃ mm, 1 + 4 * evn ps10 = mm := ⟨_, rfl⟩
  have hm0 : ¬ ((mm : Int) < 0) := by omega
  have hm1 : ((mm : Int) != (mm : Int)) = false := by simp
  have HMM := hide hmm
  clear hmm
  obtain ⟨⟨p0, p1⟩, -⟩ := HG17.out.duo
  go_wp2_with fail
  refine (mark_word x1 w7.heap.size 1 w7.heap.size gG _ ps10 _ HO17.out HIG.out (by have := HPL.out; have := HGL.out.1; omega) (fun q hq => by have := HLE.out q hq; omega) (Nat.le_refl _) (by have := HEG.out; omega)).mono ?_
  rw [HMM.out]
  rintro e w18 ⟨rfl, hOm, hk⟩
  have hs18 := hs17.trans (hk.below (by have := hs17.size; omega) hs17.size)
  have HO18 := hide hOm
  have HG18 := hide (hk.blk HG17.out (.inr (Nat.le_refl _)))
  clear hs17 HO17 HG17 hOm hk p0 p1 HIG
  obtain ⟨⟨p0, p1⟩, -⟩ := HG18.out.duo
  go_wp2_with fail
  refine (held_word x1 w7.heap.size 1 _ ps10 _ HO18.out (by have := HPL.out; have := HGL.out.1; omega) (fun q hq => by have := HLE.out q hq; omega) (Nat.le_refl _) (by have := HEG.out; omega)).mono ?_
  rw [HMM.out]
  rintro e w19 ⟨rfl, hb⟩
  have hs19 := hs18.trans (hb.mono hs18.size)
  have HO19 := hide (HO18.out.down hb)
  have HG19 := hide (HG18.out.down hb)
  clear hb hs18 HO18 HG18 p0 p1
  obtain ⟨⟨d0, d1, d2⟩, -⟩ := (HNA.out.down hs19).tri
  go_wp2_with fail
  refine (to_region id ver _ bs _ (HVA.out.below hs19) HS.out).mono ?_
  rintro e w20 ⟨⟨g20, ps20, rfl, hO, hps⟩, hb⟩
  have hx := hO.brs
  rw [hps] at hx
  have HX20 := hide hx
  have hs20 := hs19.trans (hb.mono hs19.size)
  have HO20 := hide (HO19.out.down hb)
  have HG20 := hide (HG19.out.down hb)
  have hb20 := hbA.trans (hs20.mono hbA.size)
  clear hb hs19 HO19 HG19 hO hps hx d0 d1 d2
  go_wp2_with fail
  refine (CI.out _ _ HX20.out (HK.out.below hb20)).mono ?_
  rintro e w22 ⟨⟨v22, ps22, rfl, hO22, hps22⟩, hb⟩
  obtain ⟨a22, c22, rfl⟩ := hO22.form
  have hpl22 : ps22.length = l.length := by rw [← hps22, bsP_len]
  rw [hpl22] at hO22 ⊢
  obtain ⟨gH, hgH⟩ : ∃ gH, w22.heap.size = gH := ⟨_, rfl⟩
  obtain ⟨w23, hw23⟩ : ∃ w23, w22.alloc (.cells #[.int .i64 x1, .slice a22 l.length c22] 45) = w23 := ⟨_, rfl⟩
  have h2223 : Below w22.heap.size w22 w23 := by rw [← hw23]; exact low1 _ _
  have hH23 : Blk w23 gH 2 (q2 (.int .i64 x1) (.slice a22 l.length c22)) 45 := by rw [← hw23, ← hgH]; exact new2 _ _ _ _
  have h2023 := hb.trans (h2223.mono hb.size)
  have hs23 := hs20.trans (h2023.mono hs20.size)
  have HO23 := hide (HO20.out.down h2023)
  have HG23 := hide (HG20.out.down h2023)
  have HXH := hide (show BrsOf w23 (.slice a22 l.length c22) l by have := (hO22.down h2223).brs; rwa [hps22] at this)
  obtain ⟨⟨p0, p1⟩, -⟩ := (HWA.out.down hs23).duo
  obtain ⟨⟨q0, q1⟩, -⟩ := hH23.duo
  rw [← hw23] at p0 p1 q0 q1
  have Hw23 := hide hw23
  have HgH := hide hgH
  clear hb hO22 hps22 hpl22 hw23 hgH h2223 hH23 h2023 hs20 hb20 HO20 HG20 HX20
  go_wp2_with fail
  rw [HgH.out]
  go_wp2_with fail
  rw [Hw23.out]
  clear Hw23 HgH p0 p1 q0 q1
  refine (eq_word x1 _ _ l _ HXH.out (HXA.out.below hs23) HFL.out).mono ?_
  rintro e w24 ⟨rfl, hb⟩
  have hs24 := hs23.trans (hb.mono hs23.size)
  have HO24 := hide (HO23.out.down hb)
  have HG24 := hide (HG23.out.down hb)
  clear hb hs23 HO23 HG23 HXH
  obtain ⟨⟨p0, p1⟩, -⟩ := HG24.out.duo
  go_wp2_with fail
  refine (held_word x1 w7.heap.size 1 _ ps10 _ HO24.out (by have := HPL.out; have := HGL.out.1; omega) (fun q hq => by have := HLE.out q hq; omega) (Nat.le_refl _) (by have := HEG.out; omega)).mono ?_
  rw [HMM.out]
  rintro e w25 ⟨rfl, hb⟩
  have hs25 := hs24.trans (hb.mono hs24.size)
  have hbz := hbA.trans (hs25.mono hbA.size)
  clear hb hs24 HO24 HG24 HV HF HK HS CS CI HGL HFL HXA HWA HNA HVA HPS HPG HPL HLE HEG HMM HWL p0 p1
  go_wp2
  go_ret
  exact ⟨rfl, hbz⟩
end Go.Proofs.YtfkeokglifpkoaaGreatDoor

/-
  WordOf in both texts. Condition of the program's: the table knownKinds reads as its text lays it.
-/
namespace Go.Proofs.YtfkeokglifpkoaaGreatDoor
open Go.RowKit M
open Go.Sort (grow)
set_option maxRecDepth 20000 in
set_option maxHeartbeats 4000000 in
theorem spec_word_no (id ver : Int) (v : Value) (bs : Brs) (w : World) (hv : BrsOf w v bs) (hf : FineS bs) (hco : CapOk v) (hb : BP false (GdR ⟨id, ver, bs⟩)) :
    Calls Tryz.prog 23 #[rv id ver v] w fun e w' => (∃ v ps, e = .returned (.tuple #[wv 0 v, .bool false]) ∧ OwnP w' w.heap.size v ps ∧ bsP ps = []) ∧ Below w.heap.size w w' := by
  have HF := hide hf
  have HB := hide hb
  have HCO := hide hco
  obtain ⟨a1, c1, rfl⟩ := hv.form
  obtain ⟨W, hW⟩ : ∃ W, (w.alloc (.cells #[.int .i64 id, .int .i64 ver, .slice a1 bs.length c1] 34)).alloc (.cells #[.int .i64 0, .slice none 0 0] 45) = W := ⟨_, rfl⟩
  have HR := hide (show R2W w W id ver (.slice a1 bs.length c1) from by rw [← hW]; exact R2W.new w _ _ _)
  have HV := hide (hv.below HR.out.low)
  have HW := hide hW
  obtain ⟨⟨d0, d1, d2⟩, -⟩ := HR.out.arg.tri
  rw [← hW] at d0 d1 d2
  clear hv hf hb hco hW
  have HBX := hide HB.out
  go_enter Tryz.func23, Tryz.ntmps23
  go_wp2_with fail
  rw [HW.out]
  clear HW d0 d1 d2
  refine (spec_goodR id ver _ bs false _ HV.out HF.out HCO.out HBX.out).mono ?_
  rintro e w1 ⟨rfl, hb1⟩
  have HR1 := hide (HR.out.down hb1)
  obtain ⟨WZ, hWZ⟩ : ∃ WZ, (w1.setCell ⟨w.heap.size + 1, 0, none⟩ (.int .i64 0)).setCell ⟨w.heap.size + 1, 1, none⟩ (.slice none 0 0) = WZ := ⟨_, rfl⟩
  obtain ⟨hz, hzb, -⟩ := HR1.out.fin (.int .i64 0) (.slice none 0 0) WZ hWZ
  obtain ⟨⟨e0, e1⟩, f0, f1⟩ := HR1.out.res.duo
  have HWZ := hide hWZ
  have HZ := hide hz
  clear hz hWZ
  go_wp2
  rw [HWZ.out]
  clear e0 e1 f0 f1
  obtain ⟨⟨e0, e1⟩, -⟩ := HZ.out.duo
  exact bodyPost_ret (v := .tuple #[wv 0 (.slice none 0 0), .bool false]) (by simp [results, Tryz.results23, go_sem, e0, e1]) rfl ⟨⟨_, [], rfl, OwnP.nil _ _, rfl⟩, hzb⟩
set_option maxRecDepth 20000 in
set_option maxHeartbeats 4000000 in
theorem impl_word_no (id ver : Int) (v : Value) (bs : Brs) (w : World) (hv : BrsOf w v bs) (hf : FineS bs) (hkk : KK w) (hb : BP false (GdR ⟨id, ver, bs⟩)) :
    Calls Tryz.prog 24 #[rv id ver v] w fun e w' => (∃ v ps, e = .returned (.tuple #[wv 0 v, .bool false]) ∧ OwnP w' w.heap.size v ps ∧ bsP ps = []) ∧ Below w.heap.size w w' := by
  have HF := hide hf
  have HB := hide hb
  have HK := hide hkk
  obtain ⟨a1, c1, rfl⟩ := hv.form
  obtain ⟨W, hW⟩ : ∃ W, (w.alloc (.cells #[.int .i64 id, .int .i64 ver, .slice a1 bs.length c1] 34)).alloc (.cells #[.int .i64 0, .slice none 0 0] 45) = W := ⟨_, rfl⟩
  have HR := hide (show R2W w W id ver (.slice a1 bs.length c1) from by rw [← hW]; exact R2W.new w _ _ _)
  have HV := hide (hv.below HR.out.low)
  have HW := hide hW
  obtain ⟨⟨d0, d1, d2⟩, -⟩ := HR.out.arg.tri
  rw [← hW] at d0 d1 d2
  clear hv hf hb hkk hW
  have HBX := hide HB.out
  go_enter Tryz.func24, Tryz.ntmps24
  go_wp2_with fail
  rw [HW.out]
  clear HW d0 d1 d2
  refine (impl_goodR id ver _ bs false _ HV.out HF.out (HK.out.below HR.out.low) HBX.out).mono ?_
  rintro e w1 ⟨rfl, hb1⟩
  have HR1 := hide (HR.out.down hb1)
  obtain ⟨WZ, hWZ⟩ : ∃ WZ, (w1.setCell ⟨w.heap.size + 1, 0, none⟩ (.int .i64 0)).setCell ⟨w.heap.size + 1, 1, none⟩ (.slice none 0 0) = WZ := ⟨_, rfl⟩
  obtain ⟨hz, hzb, -⟩ := HR1.out.fin (.int .i64 0) (.slice none 0 0) WZ hWZ
  obtain ⟨⟨e0, e1⟩, f0, f1⟩ := HR1.out.res.duo
  have HWZ := hide hWZ
  have HZ := hide hz
  clear hz hWZ
  go_wp2
  rw [HWZ.out]
  clear e0 e1 f0 f1
  obtain ⟨⟨e0, e1⟩, -⟩ := HZ.out.duo
  exact bodyPost_ret (v := .tuple #[wv 0 (.slice none 0 0), .bool false]) (by simp [results, Tryz.results24, go_sem, e0, e1]) rfl ⟨⟨_, [], rfl, OwnP.nil _ _, rfl⟩, hzb⟩
set_option maxRecDepth 20000 in
set_option maxHeartbeats 4000000 in
theorem spec_word_ok (id ver : Int) (v : Value) (bs : Brs) (w : World) (hv : BrsOf w v bs) (hf : FineS bs) (hco : CapOk v) (hb : GdR ⟨id, ver, bs⟩) :
    Calls Tryz.prog 23 #[rv id ver v] w fun e w' => (∃ v ps, e = .returned (.tuple #[wv ver v, .bool true]) ∧ OwnP w' w.heap.size v ps ∧ bsP ps = bs) ∧ Below w.heap.size w w' := by
  have HF := hide hf
  have HB := hide hb
  have HCO := hide hco
  obtain ⟨a1, c1, rfl⟩ := hv.form
  obtain ⟨W, hW⟩ : ∃ W, (w.alloc (.cells #[.int .i64 id, .int .i64 ver, .slice a1 bs.length c1] 34)).alloc (.cells #[.int .i64 0, .slice none 0 0] 45) = W := ⟨_, rfl⟩
  have HR := hide (show R2W w W id ver (.slice a1 bs.length c1) from by rw [← hW]; exact R2W.new w _ _ _)
  have HV := hide (hv.below HR.out.low)
  have HW := hide hW
  obtain ⟨⟨d0, d1, d2⟩, -⟩ := HR.out.arg.tri
  rw [← hW] at d0 d1 d2
  clear hv hf hb hco hW
  have HBX := hide (show BP true (GdR ⟨id, ver, bs⟩) from ⟨fun _ => HB.out, fun _ => rfl⟩)
  go_enter Tryz.func23, Tryz.ntmps23
  go_wp2_with fail
  rw [HW.out]
  clear HW d0 d1 d2
  refine (spec_goodR id ver _ bs true _ HV.out HF.out HCO.out HBX.out).mono ?_
  rintro e w1 ⟨rfl, hb1⟩
  have HR1 := hide (HR.out.down hb1)
  have HV1 := hide (HV.out.below hb1)
  obtain ⟨⟨d0, d1, d2⟩, -⟩ := HR1.out.arg.tri
  obtain ⟨⟨e0, e1⟩, f0, f1⟩ := HR1.out.res.duo
  have HG1 := hide HB.out.2.2.1.2
  have h1001 : bs.length ≤ 1001 := by have h12 : bs.length ≤ 12 := HB.out.2.2.1.1; omega
  have HB1 := hide HR1.out.big
  have HRD := hide (HR1.out.down (Below.refl w1.heap.size w1).drew)
  have HVD := hide (HV1.out.below (Below.refl w1.heap.size w1).drew)
  clear hb1 HR HV HR1 HV1
  go_upto_region 3 with fail
  go_region_with (go_at_call 65; refine (spec_own _ bs _ HVD.out h1001 HG1.out).mono ?_; rintro e w4 ⟨⟨r, ps, rfl, hO, hps⟩, hb4⟩; have HR4 := hide (HRD.out.down hb4); obtain ⟨⟨m0, m1, m2⟩, -⟩ := HR4.out.arg.tri; obtain ⟨⟨n0, n1⟩, n2, n3⟩ := HR4.out.res.duo; have HO4 := hide hO; have HPS := hide hps; obtain ⟨ar, cr, rfl⟩ := hO.form; clear hO hps)
  all_goals
    obtain ⟨WZ, hWZ⟩ : ∃ WZ, (w4.setCell ⟨w.heap.size + 1, 0, none⟩ (.int .i64 ver)).setCell ⟨w.heap.size + 1, 1, none⟩ (.slice ar ps.length cr) = WZ := ⟨_, rfl⟩
    obtain ⟨hz, hzb, hzo⟩ := HR4.out.fin (.int .i64 ver) (.slice ar ps.length cr) WZ hWZ
    have HZO := hide (hzo _ _ _ HO4.out HB1.out)
    have HWZ := hide hWZ
    have HZ := hide hz
    clear hz hWZ hzo
    go_wp2
    try rw [HWZ.out]
    obtain ⟨⟨s0, s1⟩, -⟩ := HZ.out.duo
    exact bodyPost_ret (v := .tuple #[wv ver (.slice ar ps.length cr), .bool true]) (by simp [results, Tryz.results23, go_sem, s0, s1]) rfl ⟨⟨_, ps, rfl, HZO.out, HPS.out⟩, hzb⟩
set_option maxRecDepth 20000 in
set_option maxHeartbeats 4000000 in
theorem impl_word_ok (id ver : Int) (v : Value) (bs : Brs) (w : World) (hv : BrsOf w v bs) (hf : FineS bs) (hkk : KK w) (hb : GdR ⟨id, ver, bs⟩) :
    Calls Tryz.prog 24 #[rv id ver v] w fun e w' => (∃ v ps, e = .returned (.tuple #[wv ver v, .bool true]) ∧ OwnP w' w.heap.size v ps ∧ bsP ps = bs) ∧ Below w.heap.size w w' := by
  have HF := hide hf
  have HB := hide hb
  have HK := hide hkk
  obtain ⟨a1, c1, rfl⟩ := hv.form
  obtain ⟨W, hW⟩ : ∃ W, (w.alloc (.cells #[.int .i64 id, .int .i64 ver, .slice a1 bs.length c1] 34)).alloc (.cells #[.int .i64 0, .slice none 0 0] 45) = W := ⟨_, rfl⟩
  have HR := hide (show R2W w W id ver (.slice a1 bs.length c1) from by rw [← hW]; exact R2W.new w _ _ _)
  have HV := hide (hv.below HR.out.low)
  have HW := hide hW
  obtain ⟨⟨d0, d1, d2⟩, -⟩ := HR.out.arg.tri
  rw [← hW] at d0 d1 d2
  clear hv hf hb hkk hW
  have HBX := hide (show BP true (GdR ⟨id, ver, bs⟩) from ⟨fun _ => HB.out, fun _ => rfl⟩)
  go_enter Tryz.func24, Tryz.ntmps24
  go_wp2_with fail
  rw [HW.out]
  clear HW d0 d1 d2
  refine (impl_goodR id ver _ bs true _ HV.out HF.out (HK.out.below HR.out.low) HBX.out).mono ?_
  rintro e w1 ⟨rfl, hb1⟩
  have HR1 := hide (HR.out.down hb1)
  have HV1 := hide (HV.out.below hb1)
  obtain ⟨⟨d0, d1, d2⟩, -⟩ := HR1.out.arg.tri
  clear hb1 HR HV
  go_wp2_with fail
  refine (keeper_of id ver _ bs _ HV1.out HF.out HB.out.2.2.1.2.1).mono ?_
  rintro e w3 ⟨⟨g, u, ps, rfl, hKP, hps⟩, hb3⟩
  have HRF := hide (HR1.out.down hb3)
  have HPS := hide hps
  have HOF := hide hKP.own
  have HB1 := hide HR1.out.big
  have HKB := hide hKP.box
  obtain ⟨ar, cr, rfl⟩ := hKP.own.form
  obtain ⟨⟨y0, y1, y2⟩, -⟩ := hKP.box.tri
  obtain ⟨⟨e0, e1⟩, f0, f1⟩ := HRF.out.res.duo
  clear hb3 hKP hps d0 d1 d2 HR1 HV1
  go_upto_region 4 with fail
  go_region
  all_goals
    obtain ⟨WZ, hWZ⟩ : ∃ WZ, (w3.setCell ⟨w.heap.size + 1, 0, none⟩ (.int .i64 ver)).setCell ⟨w.heap.size + 1, 1, none⟩ (.slice ar ps.length cr) = WZ := ⟨_, rfl⟩
    obtain ⟨hz, hzb, hzo⟩ := HRF.out.fin (.int .i64 ver) (.slice ar ps.length cr) WZ hWZ
    have hdr : Below WZ.heap.size WZ WZ.drew := (Below.refl _ _).drew
    have HZO := hide ((hzo _ _ _ HOF.out HB1.out).down hdr)
    have hz := hz.down hdr
    have hzb := hzb.trans (hdr.mono hzb.size)
    have HWZ := hide hWZ
    have HZ := hide hz
    clear hz hWZ hzo
    go_wp2
    try rw [HWZ.out]
    obtain ⟨⟨s0, s1⟩, -⟩ := HZ.out.duo
    exact bodyPost_ret (v := .tuple #[wv ver (.slice ar ps.length cr), .bool true]) (by simp [results, Tryz.results24, go_sem, s0, s1]) rfl ⟨⟨_, ps, rfl, HZO.out, HPS.out⟩, hzb⟩
end Go.Proofs.YtfkeokglifpkoaaGreatDoor

/-
  The law of WordOf: both texts tell the same. Condition: the table knownKinds reads as the program's text lays it.
-/
namespace Go.Proofs.YtfkeokglifpkoaaGreatDoor
open Go.RowKit M
theorem law_wordOf (id ver : Int) (v : Value) (bs : Brs) (w : World) (hv : BrsOf w v bs) (hf : Fine bs) (hkk : KK w) :
    Calls Tryz.prog 6 #[rv id ver v] w fun e w' => e = .returned (.bool true) ∧ Below w.heap.size w w' :=
  law_WordOf_run id ver v bs w hv hf hkk (fun hs => by
    obtain ⟨b, hb⟩ := bp_ex (GdR ⟨id, ver, bs⟩)
    cases b
    · exact ⟨0, [], false, by simp, fun v w h hco => spec_word_no id ver v bs w h hs hco hb, fun v w h hk => impl_word_no id ver v bs w h hs hk hb⟩
    · have hg : GdR ⟨id, ver, bs⟩ := hb.1 rfl
      exact ⟨ver, bs, true, ⟨hg.2.2.1.1, fun b hb' => ⟨(hg.2.2.1.2.1 b hb').short, (hg.2.2.1.2.1 b hb').names⟩⟩, fun v w h hco => spec_word_ok id ver v bs w h hs hco hg, fun v w h hk => impl_word_ok id ver v bs w h hs hk hg⟩)
end Go.Proofs.YtfkeokglifpkoaaGreatDoor
