/-
  The law of LeadersIn, walked. Condition: the table knownKinds reads as the program's text lays it.
-/
import Derived.Test.YtjgopjnkkhkcnaaGreatDoorWoD
import Derived.Test.YtjgopjnkkhkcnaaGreatDoorBrL
import Derived.Deep.RegionWith
namespace Go.Proofs.YtjgopjnkkhkcnaaGreatDoor
open Go.RowKit M
open Go.Sort (grow)
namespace M
theorem ev_fit {ts ss : List Tp} {W : Wd} (h : wd ts ss = W) (hl : szW W ≤ 1048576) : evT ts + evT ss ≤ 6291456 := by
  have h1 := evT_wgR ts
  have h2 := evT_wgR ss
  have e1 : rgs ts = W.rs := congrArg Wd.rs h
  have e2 : rgs ss = W.ln := congrArg Wd.ln h
  have e3 : ts.length = W.rs.length := by rw [← e1, rgs_len]
  have e4 : ss.length = W.ln.length := by rw [← e2, rgs_len]
  rw [e1, e3] at h1
  rw [e2, e4] at h2
  unfold szW at hl
  omega
theorem lenT_two {ts ss : List Tp} {W : Wd} (h : wd ts ss = W) (hf : FinWS W) : LenT ts ∧ LenT ss := by
  subst h
  exact ⟨lenT_of hf.1, lenT_of hf.2⟩
theorem OL.below_row {B : Nat} {w w' : World} {v : Value} {l : List Int} (h : OL w B v l) (hg : w.grownBy w' v.ownBlock) (hB : B ≤ w.heap.size) : Below B w w' :=
  ⟨hg.os, hg.tape, hg.output, hg.size, fun k hk => hg.block k (by omega) (fun e => by have := (h.lt e.symm).1; omega)⟩
end M
set_option maxRecDepth 20000 in
set_option maxHeartbeats 8000000 in
theorem law_LeadersIn_run (x y : Value) (W : Wd) (w : World) (hv : WdOf false w x y W) (hf : FinW W) (hkk : KK w)
    (hC : FinWS W → ∃ (L : List Int) (r0 : Bool), L.length ≤ 1048576 ∧ (∀ (x y : Value) (w : World), WdOf true w x y W → Calls Tryz.prog 53 #[wdv x y] w fun e w' => (∃ v, e = .returned (.tuple #[v, .bool r0]) ∧ OL w' w.heap.size v L) ∧ Below w.heap.size w w') ∧
      (∀ (x y : Value) (w : World), WdOf false w x y W → KK w → Calls Tryz.prog 54 #[wdv x y] w fun e w' => (∃ v, e = .returned (.tuple #[v, .bool r0]) ∧ OL w' w.heap.size v L) ∧ Below w.heap.size w w')) :
    Calls Tryz.prog 12 #[wdv x y] w fun e w' => e = .returned (.bool true) ∧ Below w.heap.size w w' := by
  obtain ⟨a, m, c, n, rfl, rfl⟩ := hv.form
  have hb0 := low1 w (.cells #[.slice a W.rs.length m, .slice c W.ln.length n] 53)
  have HN0 := hide (new2 w (.slice a W.rs.length m) (.slice c W.ln.length n) 53)
  have HV := hide hv
  have HF := hide hf
  have HK := hide hkk
  have HC := hide hC
  clear hv hf hkk hC
  by_cases hfit : szW W ≤ 1048576
  case neg =>
    have hz := szr_no (left := 1048576) (n := szW W) (by omega)
    have hge : szr 1048576 (szW W) < 0 := by rw [hz]; omega
    clear hz HC HN0 hfit
    go_enter Tryz.func12, Tryz.ntmps12
    go_wp2_with fail
    refine (sz_world _ _ W 1048576 _ (HV.out.below hb0) HF.out (by decide) (by decide)).mono ?_
    rintro e w1 ⟨rfl, hb⟩
    have hb1 := hb0.trans (hb.mono hb0.size)
    clear hb
    go_wp2
    go_ret
    exact ⟨rfl, hb1⟩
  have hz := szr_yes (left := 1048576) (n := szW W) (by omega)
  have hge : ¬ (szr 1048576 (szW W) < 0) := by rw [hz]; omega
  have HS := hide (finWS_of HF.out hfit)
  have HFIT := hide hfit
  obtain ⟨L, r0, hL, hS, hI⟩ := HC.out HS.out
  have CS := hide hS
  have CI := hide hI
  have er0 : (r0 != r0) = false := by simp
  clear hz HC hS hI hfit
  go_enter Tryz.func12, Tryz.ntmps12
  go_wp2_with fail
  refine (sz_world _ _ W 1048576 _ (HV.out.below hb0) HF.out (by decide) (by decide)).mono ?_
  rintro e w1 ⟨rfl, hb⟩
  have hb1 := hb0.trans (hb.mono hb0.size)
  have HN1 := hide (HN0.out.down hb)
  clear hb hb0 HN0
  obtain ⟨⟨d0, d1⟩, -⟩ := HN1.out.duo
  go_wp2_with fail
  refine (to_world _ _ W _ (HV.out.below hb1) HS.out).mono ?_
  rintro e w2 ⟨⟨x2, y2, ts2, ss2, rfl, hO, hps⟩, hb⟩
  have hx := hO.wd
  rw [hps] at hx
  have HX2 := hide hx
  have hb2 := hb1.trans (hb.mono hb1.size)
  have HN2 := hide (HN1.out.down hb)
  clear hb hb1 hO hps hx HN1 d0 d1
  go_wp2_with fail
  refine (CS.out _ _ _ HX2.out).mono ?_
  rintro e w5 ⟨⟨v5, rfl, hO5⟩, hb⟩
  have hbA := hb2.trans (hb.mono hb2.size)
  have HNA := hide (HN2.out.down hb)
  have HXA := hide hO5.ints
  have HVA := hide (HV.out.below hbA)
  obtain ⟨a5, c5, rfl⟩ := hO5.form
  clear hb hb2 HN2 HX2 hO5
  obtain ⟨⟨d0, d1⟩, -⟩ := HNA.out.duo
  go_wp2_with fail
  refine (to_world _ _ W _ HVA.out HS.out).mono ?_
  rintro e w6 ⟨⟨x6, y6, ts6, ss6, rfl, hO6, hps6⟩, hb6⟩
  obtain ⟨a6, m6, c6, n6, rfl, rfl⟩ := hO6.form
  have hal := low1 w6 (.cells #[.slice a6 ts6.length m6, .slice c6 ss6.length n6] 59)
  have hs7 := hb6.trans (hal.mono hb6.size)
  have HP7 := hide (hO6.down hal)
  have HIN := hide (show ∀ k, BlkW (.slice a6 ts6.length m6) (.slice c6 ss6.length n6) ts6 ss6 k → k < w6.heap.size from fun k hk => (hO6.blks hk).2)
  have HY7 := hide (new2 w6 (.slice a6 ts6.length m6) (.slice c6 ss6.length n6) 59)
  have HPS := hide hps6
  have hX7 := (hO6.down hal).wd.weak
  rw [hps6] at hX7
  have HX7 := hide hX7
  have h56 : w5.heap.size ≤ w6.heap.size := hb6.size
  have hb7 := hbA.trans (hs7.mono hbA.size)
  clear hb6 hO6 hps6 hal hX7 d0 d1
  obtain ⟨⟨e0, e1⟩, -⟩ := HY7.out.duo
  go_wp2_with fail
  refine (CI.out _ _ _ HX7.out (HK.out.below hb7)).mono ?_
  rintro e w10 ⟨⟨v10, rfl, hO10⟩, hb⟩
  have hs10 := hs7.trans (hb.mono hs7.size)
  have HO10 := hide (hO10.mono (show w6.heap.size + 1 ≤ _ by rw [World.size_alloc]; exact Nat.le_refl _))
  have HP10 := hide (HP7.out.down hb)
  have HY10 := hide (HY7.out.down hb)
  have h6s : w6.heap.size + 1 ≤ w10.heap.size := by have := hb.size; rw [World.size_alloc] at this; exact this
  obtain ⟨a10, c10, rfl⟩ := hO10.form
  clear hb hO10 hs7 hb7 HP7 HY7 HX7 e0 e1
  go_wp2_with fail
  refine (eq_il _ _ L _ HO10.out.ints (HXA.out.below hs10) hL).mono ?_
  rintro e w12 ⟨rfl, hb⟩
  have hs12 := hs10.trans (hb.mono hs10.size)
  have HO12 := hide (HO10.out.down hb)
  have HP12 := hide (HP10.out.down hb)
  have HY12 := hide (HY10.out.down hb)
  have h6t : w6.heap.size + 1 ≤ w12.heap.size := Nat.le_trans h6s hb.size
  clear hb hs10 HO10 HP10 HY10 h6s
  obtain ⟨⟨d0, d1⟩, -⟩ := (HNA.out.down hs12).duo
  obtain ⟨⟨e0, e1⟩, -⟩ := HY12.out.duo
  have HMX := hide (show ∀ wx wy : World, wx.heap = w12.heap → Below wx.heap.size wx wy → wy.cell? ⟨w6.heap.size, 0, none⟩ = some (.slice a6 ts6.length m6) ∧ wy.cell? ⟨w6.heap.size, 1, none⟩ = some (.slice c6 ss6.length n6) from fun wx wy hh hb => by
    have h : Blk wx w6.heap.size 2 (q2 (.slice a6 ts6.length m6) (.slice c6 ss6.length n6)) 59 := by unfold Blk; rw [hh]; exact HY12.out
    exact (h.down hb).duo.1)
  have HXX := hide (show WdOf false w12 (.slice a6 ts6.length m6) (.slice c6 ss6.length n6) W from by have := HP12.out.wd.weak; rwa [HPS.out] at this)
  go_wp2_with fail
  go_cut [45] from 41 (fun bb wx => bb = .bool false ∧ Hid (Below w12.heap.size w12 wx))
  case first =>
    go_region_with (first | (go_at_call 31; refine (to_world _ _ W _ (HVA.out.below hs12.drew) HS.out).mono ?_; rintro e wx ⟨⟨xx, yx, tsx, ssx, rfl, hOx, hpsx⟩, hbx⟩; have hxx := hOx.wd.weak; rw [hpsx] at hxx; have HXN := hide hxx; clear hxx hOx hpsx; obtain ⟨m0, m1⟩ := HMX.out w12.drew wx rfl hbx) | (go_at_call 33; refine (eq_world _ _ _ _ W _ ((HXX.out.below ((Below.refl w12.heap.size w12).drew)).below hbx) HXN.out HS.out).mono ?_; rintro e wy ⟨rfl, hby⟩))
    all_goals
      go_wp2_with fail
      go_meet
      exact ⟨rfl, hide (((Below.refl w12.heap.size w12).drew.trans hbx).trans (hby.mono hbx.size))⟩
  case rest =>
  rename World => w14
  obtain ⟨rfl, HCC⟩ := hcut
  have hs14 := hs12.trans (HCC.out.mono hs12.size)
  have HO14 := hide (HO12.out.down HCC.out)
  have HP14 := hide (HP12.out.down HCC.out)
  have HY14 := hide (HY12.out.down HCC.out)
  have h6u : w6.heap.size + 1 ≤ w14.heap.size := Nat.le_trans h6t HCC.out.size
  clear hs12 HO12 HP12 HY12 HCC HMX HXX d0 d1 e0 e1 h6t
  have HEV := hide (ev_fit HPS.out HFIT.out)
  have HLT := hide (lenT_two HPS.out HS.out)
  obtain ⟨⟨e0, e1⟩, -⟩ := HY14.out.duo
  go_wp2_with fail
  refine (mark_world w5.heap.size 1 w5.heap.size w6.heap.size _ _ ts6 ss6 _ HP14.out (Nat.le_refl _) HIN.out HLT.out.1 HLT.out.2 (Nat.le_refl _) (by have := HEV.out; omega)).mono ?_
  rintro e w16 ⟨rfl, -, hk⟩
  have hs16 := hs14.trans (hk.below (Nat.le_refl _) hs14.size)
  have HO16 := hide (HO14.out.kept hk (by omega))
  have h6v : w6.heap.size + 1 ≤ w16.heap.size := Nat.le_trans h6u hk.size
  obtain ⟨k1, hk1⟩ : ∃ k1, 1 + evT ts6 + evT ss6 = k1 := ⟨_, rfl⟩
  rw [hk1]
  have hk20 : ¬ ((k1 : Int) < 0) := by omega
  clear hs14 HO14 HP14 HY14 hk e0 e1 HIN HEV hk1 HLT h6u
  go_wp2_with fail
  refine (eq_il _ _ L _ HO16.out.ints (HXA.out.below hs16) hL).mono ?_
  rintro e w17 ⟨rfl, hb⟩
  have hs17 := hs16.trans (hb.mono hs16.size)
  have HO17 := hide (HO16.out.down hb)
  have h6w : w6.heap.size + 1 ≤ w17.heap.size := Nat.le_trans h6v hb.size
  clear hb hs16 HO16 h6v
  go_wp2_with fail
  refine (mark_il (w6.heap.size + 1) 1 _ L _ HO17.out hL (by omega)).mono ?_
  rintro e w18 ⟨rfl, hOm, hg⟩
  have hr := HO17.out.below_row hg h6w
  have hs18 := hs17.trans (hr.mono (show w5.heap.size ≤ w6.heap.size + 1 by omega))
  have HO18 := hide hOm
  obtain ⟨mm, hmm⟩ : ∃ mm, 1 + L.length = mm := ⟨_, rfl⟩
  have hm0 : ¬ ((mm : Int) < 0) := by omega
  have hm1 : ((mm : Int) != (mm : Int)) = false := by simp
  have HMM := hide hmm
  rw [hmm]
  clear hmm hOm hg hr hs17 HO17 h6w
  go_wp2_with fail
  refine (held_il _ L.length 1 _ HO18.out.ints hL (by omega)).mono ?_
  rw [HMM.out]
  rintro e w19 ⟨rfl, hw19⟩
  subst hw19
  obtain ⟨⟨d0, d1⟩, -⟩ := (HNA.out.down hs18).duo
  go_wp2_with fail
  refine (to_world _ _ W _ (HVA.out.below hs18) HS.out).mono ?_
  rintro e w20 ⟨⟨x20, y20, ts20, ss20, rfl, hO, hps⟩, hb⟩
  have hx := hO.wd.weak
  rw [hps] at hx
  have HX20 := hide hx
  have hs20 := hs18.trans (hb.mono hs18.size)
  have HO20 := hide (HO18.out.down hb)
  have hb20 := hbA.trans (hs20.mono hbA.size)
  clear hb hs18 HO18 hO hps hx d0 d1
  go_wp2_with fail
  refine (CI.out _ _ _ HX20.out (HK.out.below hb20)).mono ?_
  rintro e w22 ⟨⟨v22, rfl, hO22⟩, hb⟩
  have hs22 := hs20.trans (hb.mono hs20.size)
  have HO22 := hide (HO20.out.down hb)
  have HH22 := hide hO22.ints
  obtain ⟨a22, c22, rfl⟩ := hO22.form
  clear hb hO22 hs20 hb20 HO20 HX20
  go_wp2_with fail
  refine (eq_il _ _ L _ HH22.out (HXA.out.below hs22) hL).mono ?_
  rintro e w24 ⟨rfl, hb⟩
  have hs24 := hs22.trans (hb.mono hs22.size)
  have HO24 := hide (HO22.out.down hb)
  clear hb hs22 HO22 HH22
  go_wp2_with fail
  refine (held_il _ L.length 1 _ HO24.out.ints hL (by omega)).mono ?_
  rw [HMM.out]
  rintro e w25 ⟨rfl, hw25⟩
  subst hw25
  have hbz := hbA.trans (hs24.mono hbA.size)
  clear HO24 HV HF HK HS CS CI HXA HNA HVA HPS HMM
  go_wp2
  go_ret
  exact ⟨rfl, hbz⟩
theorem law_leadersIn (x y : Value) (W : Wd) (w : World) (hv : WdOf false w x y W) (hf : FinW W) (hkk : KK w) :
    Calls Tryz.prog 12 #[wdv x y] w fun e w' => e = .returned (.bool true) ∧ Below w.heap.size w w' :=
  law_LeadersIn_run x y W w hv hf hkk (fun hs => by
    obtain ⟨b, hb⟩ := bp_ex (GdWd W)
    refine ⟨ldr W b, b, ?_, fun x y w h => spec_leaders x y W b w h hs hb, fun x y w h hk => impl_leaders x y W b w h hs hk hb⟩
    unfold ldr
    split
    · exact Nat.le_trans (ldK_len W _) hs.1.1
    · exact Nat.zero_le _)
end Go.Proofs.YtjgopjnkkhkcnaaGreatDoor
