/-
  Texts that follow one another, joined: BrLA, OpenEvs.
-/
import Derived.Test.YtcbkeabfnldmhaaGreatDoorJoin37
import Derived.Deep.RegionWith
import Derived.Test.YtcbkeabfnldmhaaGreatDoorJoin2
import Derived.Deep.Slices
import Derived.Lib.SmallJoins
import Derived.ProofKit
/-
  The law of AddBranch, walked: it returns true and turns nothing that was there. Condition: the table knownKinds reads as the program's text lays it.
-/
namespace Go.Proofs.YtcbkeabfnldmhaaGreatDoor
open Go.RowKit M
open Go.Sort (grow)
set_option maxRecDepth 20000 in
set_option maxHeartbeats 16000000 in
theorem law_addBranch (v : Value) (bs : Brs) (u : Value) (ys : Evs) (w : World) (hv : BrsOf w v bs) (hf : Fine bs) (hu : SliceOf w u ys) (hlu : ys.length ≤ maxLen) (hnu : ∀ e ∈ ys, e.name.size ≤ maxLen) (hkk : KK w) :
    Calls Tryz.prog 3 #[.agg #[v], u] w fun e w' => e = .returned (.bool true) ∧ Below w.heap.size w w' := by
  obtain ⟨a, c, rfl⟩ := hv.form
  obtain ⟨a2, c2, rfl⟩ := hu.form
  obtain ⟨W0, hW0⟩ : ∃ W0, w.alloc (.cells #[.slice a bs.length c] 24) = W0 := ⟨_, rfl⟩
  have hb0 : Below w.heap.size w W0 := by rw [← hW0]; exact (Below.refl w.heap.size w).alloc (Nat.le_refl _) _
  have HN0 := hide (show M.One W0 w.heap.size (.slice a bs.length c) 24 by rw [← hW0]; exact heap_alloc_new w _)
  have HW0 := hide hW0
  have hd0 : (w.alloc (.cells #[.slice a bs.length c] 24)).cell? ⟨w.heap.size, 0, none⟩ = some (.slice a bs.length c) := by rw [hW0]; exact HN0.out.cell
  clear hW0
  have HV := hide hv
  have HF := hide hf
  have HU := hide hu
  have HM := hide hnu
  have HK := hide hkk
  clear hv hf hu hnu hkk
  by_cases hfit : bs.length + wb bs ≤ 1048576
  case neg =>
    have hz := szr_no (left := 1048576) (n := bs.length + wb bs) (by omega)
    have hge : szr 1048576 (bs.length + wb bs) < 0 := by rw [hz]; omega
    clear hz HN0
    go_enter Tryz.func3, Tryz.ntmps3
    go_wp2_with fail
    rw [HW0.out]
    refine (sz_tell _ bs 1048576 _ (HV.out.below hb0) HF.out (by decide) (by decide)).mono ?_
    rintro e w1 ⟨rfl, hb⟩
    have hb1 := hb0.trans (hb.mono hb0.size)
    clear hb hd0
    go_wp2
    go_ret
    exact ⟨rfl, hb1⟩
  obtain ⟨nn, hnn⟩ : ∃ nn, bs.length + wb bs = nn := ⟨_, rfl⟩
  have hz := szr_yes (left := 1048576) (n := nn) (by omega)
  have hge : ¬ ((1048576 : Int) - (nn : Int) < 0) := by omega
  have HZ := hide hz
  have HNN := hide hnn
  have HS := hide (fine_small HF.out hfit)
  have hwl : wb bs ≤ 1048576 := by omega
  have HWL := hide hwl
  have hnl : nn ≤ 1048576 := by omega
  clear hz hnn hfit hwl
  obtain ⟨n2, hn2⟩ : ∃ n2, wt ys = n2 := ⟨_, rfl⟩
  have HN2E := hide hn2
  by_cases hfit2 : nn + n2 ≤ 1048576
  case neg =>
    have hz := szr_no (left := (1048576 : Int) - (nn : Int)) (n := n2) (by omega)
    have hge2 : szr ((1048576 : Int) - (nn : Int)) n2 < 0 := by rw [hz]; omega
    clear hz hn2
    go_enter Tryz.func3, Tryz.ntmps3
    go_wp2_with fail
    rw [HW0.out]
    refine (sz_tell _ bs 1048576 _ (HV.out.below hb0) HF.out (by decide) (by decide)).mono ?_
    rw [HNN.out, HZ.out]
    rintro e w1 ⟨rfl, hb⟩
    have hb1 := hb0.trans (hb.mono hb0.size)
    clear hd0
    clear hb
    go_wp2_with fail
    refine (sz_evs _ ys _ _ (HU.out.below hb1) hlu HM.out (by omega) (by omega)).mono ?_
    rw [HN2E.out]
    rintro e w2 ⟨rfl, hb⟩
    have hb2 := hb1.trans (hb.mono hb1.size)
    clear hb
    go_wp2
    go_ret
    exact ⟨rfl, hb2⟩
  have hz := szr_yes (left := (1048576 : Int) - (nn : Int)) (n := n2) (by omega)
  have hge2 : ¬ ((1048576 : Int) - (nn : Int) - (n2 : Int) < 0) := by omega
  have HZ2 := hide hz
  have HS2 := hide (sm_e HM.out (show wt ys ≤ 1048576 by omega))
  clear hz hn2
  obtain ⟨ok, hok⟩ := bp_ex (GdT bs ∧ Tl ys ∧ (add bs ys).length ≤ 12)
  have HB := hide hok
  obtain ⟨l, hl⟩ : ∃ l, (ok = true → l = add bs ys) ∧ (ok = false → l = []) := by
    cases ok
    · exact ⟨[], by simp⟩
    · exact ⟨add bs ys, by simp⟩
  have HL := hide hl
  have hgl : l.length ≤ 12 ∧ ∀ b ∈ l, b.length ≤ 60 ∧ ∀ e ∈ b, e.name.size ≤ 12 := by
    cases ok
    · rw [hl.2 rfl]; simp
    · have h1 := hok.1 rfl
      rw [hl.1 rfl]
      have h2 : GdU (add bs ys) := add_good h1.1.2 h1.2.1
      exact ⟨h1.2.2, fun b hb => ⟨(h2.1 b hb).short, (h2.1 b hb).names⟩⟩
  have HGL := hide hgl
  have HFL := hide (show FineS l from ⟨by omega, fun b hb => ⟨by have := (hgl.2 b hb).1; omega, fun e he => by have := (hgl.2 b hb).2 e he; unfold maxLen; omega⟩⟩)
  have hkk2 : (ok != ok) = false := by simp
  clear hok hl hgl
  go_enter Tryz.func3, Tryz.ntmps3
  go_wp2_with fail
  rw [HW0.out]
  refine (sz_tell _ bs 1048576 _ (HV.out.below hb0) HF.out (by decide) (by decide)).mono ?_
  rw [HNN.out, HZ.out]
  rintro e w1 ⟨rfl, hb⟩
  have hb1 := hb0.trans (hb.mono hb0.size)
  have HN1 := hide (HN0.out.down hb)
  clear hb hb0 HN0 hd0 HW0
  go_wp2_with fail
  refine (sz_evs _ ys _ _ (HU.out.below hb1) hlu HM.out (by omega) (by omega)).mono ?_
  rw [HN2E.out, HZ2.out]
  rintro e w2 ⟨rfl, hb⟩
  have hb2 := hb1.trans (hb.mono hb1.size)
  have HN2 := hide (HN1.out.down hb)
  clear hb hb1 HN1 HZ HZ2 HNN HN2E hfit2 hnl
  have d0 := HN2.out.cell
  go_wp2_with fail
  refine (to_tell _ bs _ (HV.out.below hb2) HS.out).mono ?_
  rintro e w3 ⟨⟨g3, ps3, rfl, hO, hps⟩, hb⟩
  have hx := hO.brs
  rw [hps] at hx
  have HX3 := hide hx
  have hb3 := hb2.trans (hb.mono hb2.size)
  have HN3 := hide (HN2.out.down hb)
  clear hb hb2 hO hps hx HN2 d0
  go_wp2_with fail
  refine (to_all _ ys _ (HU.out.below hb3) HS2.out.1).mono ?_
  rintro e w4 ⟨⟨x4, rfl, hx⟩, hb⟩
  obtain ⟨q4, k4, rfl⟩ := hx.form
  have HX4 := hide hx
  have hb4 := hb3.trans (hb.mono hb3.size)
  have HX3 := hide (HX3.out.below hb)
  have HN4 := hide (HN3.out.down hb)
  clear hb hb3 hx HN3
  go_wp2_with fail
  refine (spec_add _ _ bs ys ok l _ HX3.out HX4.out HS.out HS2.out (Nat.le_refl _) HB.out HL.out).mono ?_
  rintro e w5 ⟨⟨v5, ps5, rfl, hO5, hps5⟩, hb⟩
  obtain ⟨a5, c5, rfl⟩ := hO5.form
  have hpl5 : ps5.length = l.length := by rw [← hps5, bsP_len]
  rw [hpl5] at hO5 ⊢
  obtain ⟨gW, hgW⟩ : ∃ gW, w5.heap.size = gW := ⟨_, rfl⟩
  obtain ⟨A, hA⟩ : ∃ A, w5.alloc (.cells #[.slice a5 l.length c5] 30) = A := ⟨_, rfl⟩
  have h5A : Below w5.heap.size w5 A := by rw [← hA]; exact (Below.refl _ _).alloc (Nat.le_refl _) _
  have hWA : M.One A gW (.slice a5 l.length c5) 30 := by rw [← hA, ← hgW]; exact heap_alloc_new _ _
  have hbA := hb4.trans ((hb.trans (h5A.mono hb.size)).mono hb4.size)
  have hxA : BrsOf A (.slice a5 l.length c5) l := by have := (hO5.down h5A).brs; rwa [hps5] at this
  have HXA := hide hxA
  have HWA := hide hWA
  have h4A := hb.trans (h5A.mono hb.size)
  have HNA := hide (HN4.out.down h4A)
  have HVA := hide (HV.out.below hbA)
  have HUA := hide (HU.out.below hbA)
  have HA := hide hA
  have HgW := hide hgW
  have hdA : (w5.alloc (.cells #[.slice a5 l.length c5] 30)).cell? ⟨w.heap.size, 0, none⟩ = some (.slice a bs.length c) := by rw [hA]; exact HNA.out.cell
  clear hb hb4 HX3 HX4 hO5 hps5 hxA hWA h5A h4A hA hgW HN4 hpl5
  go_wp2_with fail
  rw [HA.out, HgW.out]
  clear HA HgW hdA
  refine (to_tell _ bs _ HVA.out HS.out).mono ?_
  rintro e w6 ⟨⟨g6, ps6, rfl, hO6, hps6⟩, hb6⟩
  obtain ⟨gY, hgY⟩ : ∃ gY, w6.heap.size = gY := ⟨_, rfl⟩
  obtain ⟨w7, hw7⟩ : ∃ w7, w6.alloc (.cells #[.slice (some ⟨g6, 0, none⟩) bs.length bs.length] 30) = w7 := ⟨_, rfl⟩
  have h67 : Below w6.heap.size w6 w7 := by rw [← hw7]; exact (Below.refl _ _).alloc (Nat.le_refl _) _
  have hY7 : M.One w7 gY (.slice (some ⟨g6, 0, none⟩) bs.length bs.length) 30 := by rw [← hw7, ← hgY]; exact heap_alloc_new _ _
  have HIN := hide (show Within A.heap.size gY (.slice (some ⟨g6, 0, none⟩) bs.length bs.length) ps6 by rw [← hgY]; exact hO6.within)
  have HPS := hide hps6
  have hAY : A.heap.size ≤ gY := by rw [← hgY]; exact hb6.size
  have hY7s : gY < w7.heap.size := hY7.lt
  have hs7 := hb6.trans (h67.mono hb6.size)
  have HP7 := hide (hO6.down h67)
  have HY7 := hide hY7
  have Hw7 := hide hw7
  have HgY := hide hgY
  clear hb6 hO6 hps6 h67 hY7 hgY
  have hb8x := hs7
  clear hw7
  go_wp2_with fail
  rw [Hw7.out, HgY.out]
  clear Hw7 HgY
  refine (to_evs _ ys _ (HUA.out.below hs7) HS2.out.1).mono ?_
  rintro e w9 ⟨⟨rfl, hE⟩, hb8⟩
  have hs9 := hs7.trans (hb8.mono hs7.size)
  have HQ9 := hide (OwnE.made HS2.out.1 hE)
  have HP9 := hide (HP7.out.down hb8)
  have HY9 := hide (HY7.out.down hb8)
  have HG9 := hide (show w7.heap.size < w9.heap.size from blk_lt hE)
  have h79 := HG9.out
  have hd9 := HY9.out.cell
  have HXP := hide (show BrsOf w9 (.slice (some ⟨g6, 0, none⟩) bs.length bs.length) bs by have := HP9.out.brs; rwa [HPS.out] at this)
  have HXQ := hide HQ9.out.slice
  clear hb8 hE hs7 HP7 HY7 hb8x
  have hb9 := hbA.trans (hs9.mono hbA.size)
  go_wp2_with fail
  refine (impl_add _ _ bs ys ok l _ HXP.out HXQ.out HS.out HS2.out (HK.out.below hb9) HB.out HL.out).mono ?_
  rintro e w10 ⟨⟨v10, ps10, rfl, hO10, hps10⟩, hb⟩
  obtain ⟨a10, c10, rfl⟩ := hO10.form
  have hpl10 : ps10.length = l.length := by rw [← hps10, bsP_len]
  rw [hpl10] at hO10 ⊢
  obtain ⟨gG, hgG⟩ : ∃ gG, w10.heap.size = gG := ⟨_, rfl⟩
  obtain ⟨w11, hw11⟩ : ∃ w11, w10.alloc (.cells #[.slice a10 l.length c10] 30) = w11 := ⟨_, rfl⟩
  have h1011 : Below w10.heap.size w10 w11 := by rw [← hw11]; exact (Below.refl _ _).alloc (Nat.le_refl _) _
  have hG11 : M.One w11 gG (.slice a10 l.length c10) 30 := by rw [← hw11, ← hgG]; exact heap_alloc_new _ _
  have h911 := hb.trans (h1011.mono hb.size)
  have hs11 := hs9.trans (h911.mono hs9.size)
  have HO11 := hide (hO10.down h1011)
  have HIG := hide (show Within w9.heap.size gG (.slice a10 l.length c10) ps10 by rw [← hgG]; exact hO10.within)
  have h9G : w9.heap.size ≤ gG := by rw [← hgG]; exact hb.size
  have HPG := hide hps10
  have HPL := hide hpl10
  have HG11 := hide hG11
  have HP11 := hide (HP9.out.down h911)
  have HQ11 := hide (HQ9.out.down h911)
  have HY11 := hide (HY9.out.down h911)
  have hxg : BrsOf w11 (.slice a10 l.length c10) l := by have := HO11.out.brs; rwa [hps10] at this
  have HXG := hide hxg
  have hdW : (w10.alloc (.cells #[.slice a10 l.length c10] 30)).cell? ⟨gW, 0, none⟩ = some (.slice a5 l.length c5) := by rw [hw11]; exact (HWA.out.down hs11).cell
  have hdG : (w10.alloc (.cells #[.slice a10 l.length c10] 30)).cell? ⟨gG, 0, none⟩ = some (.slice a10 l.length c10) := by rw [hw11]; exact HG11.out.cell
  have Hw11 := hide hw11
  have HgG := hide hgG
  clear hb hO10 hps10 hpl10 hgG hw11 h1011 hG11 h911 hs9 hb9 HXP HXQ hxg HP9 HQ9 HY9 hd9
  go_wp2_with fail
  rw [Hw11.out, HgG.out]
  clear Hw11 HgG hdW hdG
  refine (eq_tell _ _ l _ HXG.out (HXA.out.below hs11) HFL.out).mono ?_
  rintro e w12 ⟨rfl, hb⟩
  have hs12 := hs11.trans (hb.mono hs11.size)
  have HO12 := hide (HO11.out.down hb)
  have HG12 := hide (HG11.out.down hb)
  have HP12 := hide (HP11.out.down hb)
  have HQ12 := hide (HQ11.out.down hb)
  have HY12 := hide (HY11.out.down hb)
  clear hb hs11 HO11 HG11 HP11 HQ11 HY11 HXG
  have d0 := (HNA.out.down hs12).cell
  have e0 := HY12.out.cell
  have HMX := hide (show ∀ wx wy : World, wx.heap = w12.heap → Below wx.heap.size wx wy → wy.cell? ⟨gY, 0, none⟩ = some (.slice (some ⟨g6, 0, none⟩) bs.length bs.length) from fun wx wy hh hb => by
    have h : M.One wx gY (.slice (some ⟨g6, 0, none⟩) bs.length bs.length) 30 := by unfold M.One; rw [hh]; exact HY12.out
    exact (h.down hb).cell)
  have HXX := hide (show BrsOf w12 (.slice (some ⟨g6, 0, none⟩) bs.length bs.length) bs by have := HP12.out.brs; rwa [HPS.out] at this)
  go_wp2_with fail
  go_cut [58] from 54 (fun bb wx => bb = .bool false ∧ Hid (Below w12.heap.size w12 wx))
  case first =>
    go_region_with (first | (go_at_call 11; refine (to_tell _ bs _ (HVA.out.below hs12.drew) HS.out).mono ?_; rintro e wx ⟨⟨gx, psx, rfl, hOx, hpsx⟩, hbx⟩; have hxx := hOx.brs; rw [hpsx] at hxx; have HXN := hide hxx; clear hxx hOx hpsx; have m0 := HMX.out w12.drew wx rfl hbx) | (go_at_call 14; refine (eq_tell _ _ bs _ ((HXX.out.below ((Below.refl w12.heap.size w12).drew)).below hbx) HXN.out HS.out).mono ?_; rintro e wy ⟨rfl, hby⟩))
    all_goals
      go_wp2_with fail
      go_meet
      exact ⟨rfl, hide (((Below.refl w12.heap.size w12).drew.trans hbx).trans (hby.mono hbx.size))⟩
  case rest =>
  rename World => w13
  obtain ⟨rfl, HCC⟩ := hcut
  have hs13 := hs12.trans (HCC.out.mono hs12.size)
  have HO13 := hide (HO12.out.down HCC.out)
  have HG13 := hide (HG12.out.down HCC.out)
  have HP13 := hide (HP12.out.down HCC.out)
  have HQ13 := hide (HQ12.out.down HCC.out)
  have HY13 := hide (HY12.out.down HCC.out)
  clear hs12 HO12 HG12 HP12 HQ12 HY12 HCC HMX HXX d0 e0
  go_wp2_with fail
  refine (to_all _ ys _ (HUA.out.below hs13) HS2.out.1).mono ?_
  rintro e wx ⟨⟨xx, rfl, hx⟩, hb⟩
  obtain ⟨qx, kx, rfl⟩ := hx.form
  have HXN := hide hx
  have hsx := hs13.trans (hb.mono hs13.size)
  have HOx := hide (HO13.out.down hb)
  have HGx := hide (HG13.out.down hb)
  have HPx := hide (HP13.out.down hb)
  have HQx := hide (HQ13.out.down hb)
  have HYx := hide (HY13.out.down hb)
  clear hb hs13 hx HO13 HG13 HP13 HQ13 HY13
  go_wp2_with fail
  refine (eq_all _ _ ys _ HQx.out.slice HXN.out HS2.out.1 eq_ev).mono ?_
  rintro e w14 ⟨rfl, hb⟩
  have hs14 := hsx.trans (hb.mono hsx.size)
  have HO14 := hide (HOx.out.down hb)
  have HG14 := hide (HGx.out.down hb)
  have HP14 := hide (HPx.out.down hb)
  have HQ14 := hide (HQx.out.down hb)
  have HY14 := hide (HYx.out.down hb)
  clear hb hsx HOx HGx HPx HQx HYx HXN
  have HEV := hide (show evn ps6 ≤ 1048576 from by
    have := evn_wb ps6
    rw [HPS.out] at this
    have := HWL.out
    omega)
  have e0 := HY14.out.cell
  go_wp2_with fail
  refine (mark_tell A.heap.size 1 A.heap.size gY _ ps6 _ HP14.out HIN.out (by have := congrArg List.length HPS.out; rw [bsP_len] at this; rw [this]; exact HS.out.1) (fun q hq => (HS.out.2 q.2 (by rw [← HPS.out]; exact List.mem_map_of_mem hq)).1) (Nat.le_refl _) (by have := HEV.out; omega)).mono ?_
  rintro e w15 ⟨rfl, -, hk⟩
  have hs15 := hs14.trans (hk.below (Nat.le_refl _) hs14.size)
  have HO15 := hide (HO14.out.kept hk (by omega))
  have HG15 := hide (show M.One w15 gG (.slice a10 l.length c10) 30 by unfold M.One; rw [hk.block gG HG14.out.lt (.inr (by omega))]; exact HG14.out)
  have HQ15 := hide (HQ14.out.kept hk (by omega))
  obtain ⟨k1, hk1⟩ : ∃ k1, 1 + 4 * evn ps6 = k1 := ⟨_, rfl⟩
  have HK1 := hide (show 1 ≤ k1 ∧ k1 ≤ 4194305 by have := HEV.out; omega)
  rw [hk1]
  clear hs14 HO14 HG14 HP14 HQ14 HY14 hk e0 HIN HEV hk1
  go_wp2_with fail
  refine (mark_own w7.heap.size k1 _ ys _ HQ15.out HS2.out.1 HK1.out.1 (by have := HK1.out; omega)).mono ?_
  rintro e w16 ⟨rfl, -, hg⟩
  have hk := KeptB.of (lo := w7.heap.size) (hi := w9.heap.size) hg (fun q hq => by
    simp only [Value.ownBlock, Option.some.injEq] at hq
    subst hq; exact ⟨Nat.le_refl _, HG9.out⟩)
  have hs16 := hs15.trans (hk.below (by omega) hs15.size)
  have HO16 := hide (HO15.out.kept hk (Nat.le_refl _))
  have HG16 := hide (show M.One w16 gG (.slice a10 l.length c10) 30 by unfold M.One; rw [hk.block gG HG15.out.lt (.inr (by omega))]; exact HG15.out)
  obtain ⟨k2, hk2⟩ : ∃ k2, k1 + 4 * ys.length = k2 := ⟨_, rfl⟩
  rw [hk2]
  clear hs15 HO15 HG15 HQ15 hk hg hk2 HG9
  have hk20 : ¬ ((k2 : Int) < 0) := by omega
  have dG := HG16.out.cell
  have dW := (HWA.out.down hs16).cell
  have HXG := hide (show BrsOf w16 (.slice a10 l.length c10) l by have := HO16.out.brs; rwa [HPG.out] at this)
  go_wp2_with fail
  refine (eq_tell _ _ l _ HXG.out (HXA.out.below hs16) HFL.out).mono ?_
  rintro e w17 ⟨rfl, hb⟩
  have hs17 := hs16.trans (hb.mono hs16.size)
  have HO17 := hide (HO16.out.down hb)
  have HG17 := hide (HG16.out.down hb)
  clear hb hs16 HO16 HG16 HXG dG dW
  have HLE := hide (show ∀ q ∈ ps10, q.2.length ≤ 60 from fun q hq => (HGL.out.2 q.2 (by rw [← HPG.out]; exact List.mem_map_of_mem hq)).1)
  have HEG := hide (show evn ps10 ≤ 720 from by
    have h1 := evn_le HLE.out
    have h2 := HGL.out.1
    rw [HPL.out] at h1
    omega)
  obtain ⟨mm, hmm⟩ : ∃ mm, 1 + 4 * evn ps10 = mm := ⟨_, rfl⟩
  have hm0 : ¬ ((mm : Int) < 0) := by omega
  have hm1 : ((mm : Int) != (mm : Int)) = false := by simp
  have HMM := hide hmm
  clear hmm
  have dG := HG17.out.cell
  go_wp2_with fail
  refine (mark_tell w9.heap.size 1 w9.heap.size gG _ ps10 _ HO17.out HIG.out (by have := HPL.out; have := HGL.out.1; omega) (fun q hq => by have := HLE.out q hq; omega) (Nat.le_refl _) (by have := HEG.out; omega)).mono ?_
  rw [HMM.out]
  rintro e w18 ⟨rfl, hOm, hk⟩
  have hs18 := hs17.trans (hk.below (by have := hs17.size; omega) hs17.size)
  have HO18 := hide hOm
  have HG18 := hide (show M.One w18 gG (.slice a10 l.length c10) 30 by unfold M.One; rw [hk.block gG HG17.out.lt (.inr (Nat.le_refl _))]; exact HG17.out)
  clear hs17 HO17 HG17 hOm hk dG HIG
  have dG := HG18.out.cell
  go_wp2_with fail
  refine (held_tell w9.heap.size 1 _ ps10 _ HO18.out (by have := HPL.out; have := HGL.out.1; omega) (fun q hq => by have := HLE.out q hq; omega) (Nat.le_refl _) (by have := HEG.out; omega)).mono ?_
  rw [HMM.out]
  rintro e w19 ⟨rfl, hb⟩
  have hs19 := hs18.trans (hb.mono hs18.size)
  have HO19 := hide (HO18.out.down hb)
  have HG19 := hide (HG18.out.down hb)
  clear hb hs18 HO18 HG18 dG
  have d0 := (HNA.out.down hs19).cell
  go_wp2_with fail
  refine (to_tell _ bs _ (HVA.out.below hs19) HS.out).mono ?_
  rintro e w20 ⟨⟨g20, ps20, rfl, hO, hps⟩, hb⟩
  have hx := hO.brs
  rw [hps] at hx
  have HX20 := hide hx
  have hs20 := hs19.trans (hb.mono hs19.size)
  have HO20 := hide (HO19.out.down hb)
  have HG20 := hide (HG19.out.down hb)
  clear hb hs19 HO19 HG19 hO hps hx d0
  go_wp2_with fail
  refine (to_all _ ys _ (HUA.out.below hs20) HS2.out.1).mono ?_
  rintro e w21 ⟨⟨x21, rfl, hx⟩, hb⟩
  obtain ⟨q21, k21, rfl⟩ := hx.form
  have HX21 := hide hx
  have hs21 := hs20.trans (hb.mono hs20.size)
  have HO21 := hide (HO20.out.down hb)
  have HG21 := hide (HG20.out.down hb)
  have HX22 := hide (HX20.out.below hb)
  clear hb hs20 HO20 HG20 hx HX20
  have hb21 := hbA.trans (hs21.mono hbA.size)
  go_wp2_with fail
  refine (impl_add _ _ bs ys ok l _ HX22.out HX21.out HS.out HS2.out (HK.out.below hb21) HB.out HL.out).mono ?_
  rintro e w22 ⟨⟨v22, ps22, rfl, hO22, hps22⟩, hb⟩
  obtain ⟨a22, c22, rfl⟩ := hO22.form
  have hpl22 : ps22.length = l.length := by rw [← hps22, bsP_len]
  rw [hpl22] at hO22 ⊢
  obtain ⟨gH, hgH⟩ : ∃ gH, w22.heap.size = gH := ⟨_, rfl⟩
  obtain ⟨w23, hw23⟩ : ∃ w23, w22.alloc (.cells #[.slice a22 l.length c22] 30) = w23 := ⟨_, rfl⟩
  have h2223 : Below w22.heap.size w22 w23 := by rw [← hw23]; exact (Below.refl _ _).alloc (Nat.le_refl _) _
  have hH23 : M.One w23 gH (.slice a22 l.length c22) 30 := by rw [← hw23, ← hgH]; exact heap_alloc_new _ _
  have h2123 := hb.trans (h2223.mono hb.size)
  have hs23 := hs21.trans (h2123.mono hs21.size)
  have HO23 := hide (HO21.out.down h2123)
  have HG23 := hide (HG21.out.down h2123)
  have HXH := hide (show BrsOf w23 (.slice a22 l.length c22) l by have := (hO22.down h2223).brs; rwa [hps22] at this)
  have hdW : (w22.alloc (.cells #[.slice a22 l.length c22] 30)).cell? ⟨gW, 0, none⟩ = some (.slice a5 l.length c5) := by rw [hw23]; exact (HWA.out.down hs23).cell
  have hdH : (w22.alloc (.cells #[.slice a22 l.length c22] 30)).cell? ⟨gH, 0, none⟩ = some (.slice a22 l.length c22) := by rw [hw23]; exact hH23.cell
  have Hw23 := hide hw23
  have HgH := hide hgH
  clear hb hO22 hps22 hpl22 hw23 hgH h2223 hH23 h2123 hs21 hb21 HO21 HG21 HX21 HX22
  go_wp2_with fail
  rw [Hw23.out, HgH.out]
  clear Hw23 HgH hdW hdH
  refine (eq_tell _ _ l _ HXH.out (HXA.out.below hs23) HFL.out).mono ?_
  rintro e w24 ⟨rfl, hb⟩
  have hs24 := hs23.trans (hb.mono hs23.size)
  have HO24 := hide (HO23.out.down hb)
  have HG24 := hide (HG23.out.down hb)
  clear hb hs23 HO23 HG23 HXH
  have dG := HG24.out.cell
  go_wp2_with fail
  refine (held_tell w9.heap.size 1 _ ps10 _ HO24.out (by have := HPL.out; have := HGL.out.1; omega) (fun q hq => by have := HLE.out q hq; omega) (Nat.le_refl _) (by have := HEG.out; omega)).mono ?_
  rw [HMM.out]
  rintro e w25 ⟨rfl, hb⟩
  have hs25 := hs24.trans (hb.mono hs24.size)
  have hbz := hbA.trans (hs25.mono hbA.size)
  clear hb hs24 HO24 HG24 HV HF HU HK HS HS2 HB HL HGL HFL HXA HWA HNA HVA HUA HPS HPG HPL HLE HEG HMM HWL dG
  go_wp2
  go_ret
  exact ⟨rfl, hbz⟩
end Go.Proofs.YtcbkeabfnldmhaaGreatDoor

/-
  A slice of the law's events that came in, read as data, is a slice of events in memory.
-/
namespace Go.Proofs.YtcbkeabfnldmhaaGreatDoor
open Go.ChangeShapes Go.WideShapes Go.ChangeAt Go.RowKit Go.Joins Go.Deep
open M

theorem cellsLawEv : Tryz.prog.cellsOf 75 = 4 := by kernel_rfl
theorem cellsInt : Tryz.prog.cellsOf 3 = 1 := by kernel_rfl
theorem cellsStr : Tryz.prog.cellsOf 9 = 1 := by kernel_rfl

theorem rows_of {W : World} {b off : Nat} {Pn : Ev → Prop} : ∀ n : Nat, (∀ i, i < n → ∃ e : Ev, EvAt W b (off + i * 4) e ∧ Pn e) → ∃ es : List Ev, es.length = n ∧ Row W b off es ∧ ∀ e ∈ es, Pn e
  | 0, _ => ⟨[], rfl, fun i e h => by simp at h, fun e h => by simp at h⟩
  | n + 1, h => by
    obtain ⟨es, hl, hr, hp⟩ := rows_of n (fun i hi => h i (by omega))
    obtain ⟨e, he, hpe⟩ := h n (by omega)
    refine ⟨es ++ [e], by simp [hl], ?_, ?_⟩
    · intro i x hi
      by_cases hin : i < n
      · exact hr i x (by rw [List.getElem?_append_left (by omega)] at hi; exact hi)
      · rw [List.getElem?_append_right (by omega)] at hi
        have : i = n := by
          rcases Nat.eq_zero_or_pos (i - es.length) with h0 | h0
          · omega
          · rw [List.getElem?_eq_none (by simp; omega)] at hi; cases hi
        subst this
        rw [hl, Nat.sub_self] at hi
        simp at hi
        subst hi
        exact he
    · intro x hx
      rcases List.mem_append.1 hx with hx | hx
      · exact hp x hx
      · simp at hx; subst hx; exact hpe

set_option maxRecDepth 100000 in
theorem open_evs {H : Type} {enc : TypeId × Value → H} {W : World} {b0 : Nat} {v : Value} {d : DataW H} {p : List MemPlace}
    (hv : Value.okWide Tryz.prog W .any b0 25 v) (h : DataW.Trod enc Tryz.prog W 0 (fun _ => true) true 25 v d p) :
    ∃ es : List Ev, SliceOf W v es ∧ es.length ≤ maxLen ∧ ∀ e ∈ es, e.name.size ≤ maxLen := by
  obtain ⟨a0, len0, cap0, rfl⟩ := okWide_slice Tryz.underlying25 hv
  obtain ⟨fuel, hf⟩ := h
  rcases open_slice Tryz.underlying25 hf with ⟨hcs, _⟩ | ⟨a, len, cap, m, n, D, Pl, hcs, _, hl, hm, hmm, _, hx⟩
  · simp [Value.cells] at hcs
    obtain ⟨rfl, rfl, rfl⟩ := hcs
    exact ⟨[], ⟨none, 0, rfl, fun h => absurd rfl h⟩, Nat.zero_le _, fun e h => by simp at h⟩
  · simp [Value.cells] at hcs
    obtain ⟨rfl, rfl, rfl⟩ := hcs
    simp only [if_true] at hmm
    subst hmm
    by_cases h0 : len0 = 0
    · subst h0
      exact ⟨[], ⟨some a, _, rfl, fun h => absurd rfl h⟩, Nat.zero_le _, fun e h => by simp at h⟩
    · obtain ⟨b, off, spot⟩ := a
      have hspot : spot = none := by
        obtain ⟨cs', h1, _⟩ := hx 0 (by omega)
        rw [cellsLawEv] at h1
        obtain ⟨_, hlen, hcell⟩ := World.cells?_some h1
        have q := hcell 0 (by omega)
        have hs : ∃ c, W.cell? (((⟨b, off, spot⟩ : Addr).add (0 * 4)).add 0) = some c := by
          rw [q]
          match cs', hlen with
          | [c0, c1, c2, c3], _ => exact ⟨c0, rfl⟩
        obtain ⟨c, hc⟩ := hs
        have := World.cell?_spot hc
        simpa [Addr.add] using this
      subst hspot
      have ha : ∀ n, (⟨b, off, none⟩ : Addr).add n = ⟨b, off + n, none⟩ := fun n => by unfold Addr.add; split <;> simp_all
      have ha2 : ∀ k n, (⟨b, k, none⟩ : Addr).add n = ⟨b, k + n, none⟩ := fun k n => by unfold Addr.add; split <;> simp_all
      have key : ∀ i, i < len0 → ∃ e : Ev, EvAt W b (off + i * 4) e ∧ e.name.size ≤ maxLen := by
        intro i hi
        obtain ⟨cs', h1, h2⟩ := hx i (by omega)
        rw [cellsLawEv] at h1
        obtain ⟨_, hlen, hcell⟩ := World.cells?_some h1
        match cs', hlen with
        | [c0, c1, c2, c3], _ =>
          obtain ⟨y0, y1, y2, y3, k, _, _, t0, t1, t2, t3⟩ := trod_struct4 Tryz.underlying75 h2
          simp only [cellsInt, cellsStr] at t0 t1 t2 t3
          obtain ⟨id, e0, -, -⟩ := DataW.trod_int Tryz.underlying3 t0
          obtain ⟨ver, e1, -, -⟩ := DataW.trod_int Tryz.underlying3 t1
          obtain ⟨kind, e2, -, -⟩ := DataW.trod_int Tryz.underlying3 t2
          obtain ⟨name, e3, -, hn⟩ := DataW.trod_string Tryz.underlying9 t3
          simp at e0 e1 e2 e3
          have q0 := hcell 0 (by omega)
          have q1 := hcell 1 (by omega)
          have q2 := hcell 2 (by omega)
          have q3 := hcell 3 (by omega)
          simp only [List.getElem?_cons_zero, List.getElem?_cons_succ] at q0 q1 q2 q3
          rw [ha, ha2] at q0 q1 q2 q3
          subst e0 e1 e2 e3
          exact ⟨⟨id, ver, kind, name⟩, ⟨q0, q1, q2, q3⟩, hn⟩
      obtain ⟨es, hel, hrow, hp⟩ := rows_of len0 key
      subst hel
      have hlt : b < W.heap.size := by
        obtain ⟨e, he, _⟩ := key 0 (by omega)
        exact World.block_lt_of_cell? W _ he.1
      exact ⟨es, ⟨_, _, rfl, fun _ => ⟨b, off, rfl, hlt, hrow⟩⟩, by omega, hp⟩
end Go.Proofs.YtcbkeabfnldmhaaGreatDoor
