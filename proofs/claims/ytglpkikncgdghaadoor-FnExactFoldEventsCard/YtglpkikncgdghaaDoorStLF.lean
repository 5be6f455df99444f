/-
  The law of FoldEvents, walked: it returns true and turns nothing that was there. Condition: the table knownKinds reads as the program's text lays it.
-/
import Derived.Test.YtglpkikncgdghaaDoorStY
import Derived.Test.YtglpkikncgdghaaDoorEvM
import Derived.Test.YtglpkikncgdghaaDoorStLH
namespace Go.Proofs.YtglpkikncgdghaaDoor
open Go.RowKit M
open Clk (upd upd_same upd_other)
namespace M
/-- What is held while the law goes on: the specification's answer in its box, the program's in its own, and its lists. -/
structure LF (w A W : World) (gw gg B : Nat) (r0 r1 y0 y1 : Value) (r : St) (l0 l1 : Txs) : Prop where
  low : Below w.heap.size w W
  sp : Below A.heap.size A W
  wb : Blk W gw 6 (sq r0 r1 r) 29
  gb : Blk W gg 6 (sq y0 y1 r) 29
  out : AnsL W B gg y0 y1 l0 l1
  lw : gw < A.heap.size
  lo : w.heap.size ≤ A.heap.size
  hi : A.heap.size ≤ B
theorem LF.down {w A W W' : World} {gw gg B : Nat} {r0 r1 y0 y1 : Value} {r : St} {l0 l1 : Txs} (h : LF w A W gw gg B r0 r1 y0 y1 r l0 l1) (hb : Below W.heap.size W W') : LF w A W' gw gg B r0 r1 y0 y1 r l0 l1 :=
  ⟨h.low.trans (hb.mono h.low.size), h.sp.trans (hb.mono h.sp.size), h.wb.down hb, h.gb.down hb, h.out.down hb, h.lw, h.lo, h.hi⟩
theorem LF.kept {w A W W' : World} {gw gg B lo hi : Nat} {r0 r1 y0 y1 : Value} {r : St} {l0 l1 : Txs} (h : LF w A W gw gg B r0 r1 y0 y1 r l0 l1) (hk : KeptB lo hi W W') (h1 : A.heap.size ≤ lo) (h2 : hi ≤ B) (h3 : B ≤ gg) : LF w A W' gw gg B r0 r1 y0 y1 r l0 l1 := by
  have h4 := h.lo
  have h5 := h.lw
  exact ⟨h.low.trans (hk.below (by omega) h.low.size), h.sp.trans (hk.below h1 h.sp.size), hk.blk h.wb (.inl (by omega)), hk.blk h.gb (.inr (by omega)), h.out.kept hk h2, h.lw, h.lo, h.hi⟩
theorem LF.marks {w A W W' : World} {gw gg B : Nat} {r0 r1 y0 y1 : Value} {r : St} {l0 l1 m0 m1 : Txs} (h : LF w A W gw gg B r0 r1 y0 y1 r l0 l1) (hk : KeptB B gg W W') (ho : AnsL W' B gg y0 y1 m0 m1) : LF w A W' gw gg B r0 r1 y0 y1 r m0 m1 := by
  have h4 := h.lo
  have h5 := h.lw
  have h6 := h.hi
  exact ⟨h.low.trans (hk.below (by omega) h.low.size), h.sp.trans (hk.below h6 h.sp.size), hk.blk h.wb (.inl (by omega)), hk.blk h.gb (.inr (Nat.le_refl _)), ho, h.lw, h.lo, h.hi⟩
end M
set_option maxRecDepth 20000 in
set_option maxHeartbeats 4000000 in
theorem law_FoldEvents (v : Value) (es : List Ev) (w : World) (hv : SliceOf w v es) (hml : es.length ≤ maxLen) (hnm : ∀ e ∈ es, e.name.size ≤ maxLen) (hkk : KK w) :
    Calls Tryd.prog 4 #[v] w fun e w' => e = .returned (.bool true) ∧ Below w.heap.size w w' := by
  have HV := hide hv
  have HK := hide hkk
  have HNM := hide hnm
  clear hkk hnm
  by_cases hl : es.length + tot es ≤ 1048576
  case neg =>
    obtain ⟨a, cap, rfl, -⟩ := hv
    have hge : ((-1 : Int) < 0) := by omega
    go_enter Tryd.func4, Tryd.ntmps4
    go_wp2_with fail
    refine (sz_all_no _ es _ HV.out hml HNM.out (by omega)).mono ?_
    rintro e w1 ⟨rfl, hb1⟩
    go_wp2
    go_ret
    exact ⟨rfl, hb1⟩
  have hlen : es.length ≤ 1048576 := by omega
  have hge : ¬ (1048576 - (es.length : Int) - ((tot es : Nat) : Int) < 0) := by omega
  have HLN := hide hlen
  obtain ⟨kf, hkf⟩ := M.End.ex es
  have HKF := hide hkf
  have hgd := hkf.2.1.good hkf.1
  obtain ⟨r, hr⟩ : ∃ r, sk es kf = r := ⟨_, rfl⟩
  have HSR := hide hr
  rw [hr] at hgd
  have HSH := hide (good_short hgd).1
  have hbb : ((kf : Int) != (kf : Int)) = false := by simp
  clear hkf hgd hr
  obtain ⟨mm, hmm⟩ : ∃ mm, 1 + r.sg.length + r.tm.length = mm := ⟨_, rfl⟩
  have HM := hide hmm
  have hm0 : ¬ ((mm : Int) < 0) := by omega
  have hm1 : ((mm : Int) != (mm : Int)) = false := by simp
  clear hmm
  obtain ⟨a, cap, rfl, -⟩ := hv
  go_enter Tryd.func4, Tryd.ntmps4
  go_wp2_with fail
  refine (sz_all_yes _ es _ HV.out hl).mono ?_
  rintro e w1 ⟨rfl, hb1⟩
  go_wp2_with fail
  refine (to_evs _ es _ (HV.out.below hb1) HLN.out).mono ?_
  rintro e w2 ⟨⟨rfl, hO⟩, hb⟩
  have hb2 := hb1.trans (hb.mono hb1.size)
  have HO := hide (evs_sl hO rfl)
  clear hb hO hb1 hge hl
  go_wp2_with fail
  refine (spec_foldE _ es kf _ HO.out HLN.out HNM.out HKF.out).mono ?_
  rintro e w4 ⟨⟨r0, r1, rfl, hR⟩, hb⟩
  rw [HSR.out] at hR ⊢
  obtain ⟨a3, c3, rfl⟩ := hR.o0.form
  obtain ⟨a4, c4, rfl⟩ := hR.o1.form
  have hb4 := hb2.trans (hb.mono hb2.size)
  obtain ⟨wA, hwA⟩ : ∃ wA, w4.alloc (.cells (sarr (.slice a3 r.sg.length c3) (.slice a4 r.tm.length c4) r) 29) = wA := ⟨_, rfl⟩
  have hdn : Below w4.heap.size w4 wA := by rw [← hwA]; exact (Below.refl _ _).alloc (Nat.le_refl _) _
  have hB4 := hb4.trans (hdn.mono hb4.size)
  have HWB := hide (show Blk wA w4.heap.size 6 (sq (.slice a3 r.sg.length c3) (.slice a4 r.tm.length c4) r) 29 from by rw [← hwA]; exact new6 w4 _ _ _ _ _ _ 29)
  have HR := hide (show StQ wA (.slice a3 r.sg.length c3) (.slice a4 r.tm.length c4) r from (hR.q).below hdn)
  have HwA := hide hwA
  clear hb hb2 hb4 hR HO hwA hdn
  go_wp2_with fail
  rw [HwA.out]
  refine (to_evs _ es _ (HV.out.below hB4) HLN.out).mono ?_
  rintro e w5 ⟨⟨rfl, hO⟩, hb5⟩
  have HO := hide hO
  have HB5 := hide hb5
  have hB5 := hB4.trans (hb5.mono hB4.size)
  have HLT := hide (blk_lt hO)
  clear hO hb5
  go_wp2_with fail
  refine (impl_fold _ es kf _ (evs_sl HO.out rfl) HLN.out HNM.out (HK.out.below hB5) HKF.out).mono ?_
  rintro e w6 ⟨⟨y0, y1, rfl, hA⟩, hb⟩
  rw [HSR.out] at hA ⊢
  obtain ⟨a6, c6, rfl⟩ := hA.o0.form
  obtain ⟨a7, c7, rfl⟩ := hA.o1.form
  obtain ⟨w7, hw7⟩ : ∃ w7, w6.alloc (.cells (sarr (.slice a6 r.sg.length c6) (.slice a7 r.tm.length c7) r) 29) = w7 := ⟨_, rfl⟩
  have hdn : Below w6.heap.size w6 w7 := by rw [← hw7]; exact (Below.refl _ _).alloc (Nat.le_refl _) _
  have HL7 := hide (show LF w wA w7 w4.heap.size w6.heap.size w5.heap.size (.slice a3 r.sg.length c3) (.slice a4 r.tm.length c4) (.slice a6 r.sg.length c6) (.slice a7 r.tm.length c7) r r.sg r.tm from
    ⟨(hB5.trans (hb.mono hB5.size)).trans (hdn.mono (Nat.le_trans hB5.size hb.size)), (HB5.out.trans (hb.mono HB5.out.size)).trans (hdn.mono (Nat.le_trans HB5.out.size hb.size)), ((HWB.out.down HB5.out).down hb).down hdn, by rw [← hw7]; exact new6 w6 _ _ _ _ _ _ 29, hA.down hdn, HWB.out.lt, hB4.size, HB5.out.size⟩)
  have HO7 := hide (blk_below (blk_below HO.out hb) hdn)
  have h65 := hb.size
  have Hw7 := hide hw7
  clear hb hA HO hB4 hB5 hw7 hdn HwA
  obtain ⟨⟨d0, d1, d2, d3, d4, d5⟩, -⟩ := HL7.out.gb.hex
  obtain ⟨⟨e0, e1, e2, e3, e4, e5⟩, -⟩ := HL7.out.wb.hex
  rw [← Hw7.out] at d0 d1 d2 d3 d4 d5 e0 e1 e2 e3 e4 e5
  go_wp2_with fail
  rw [Hw7.out]
  refine (eq_state _ _ _ _ r _ HL7.out.out.q (HR.out.below HL7.out.sp) HSH.out).mono ?_
  rintro e w8 ⟨rfl, hb⟩
  have HL8 := hide (HL7.out.down hb)
  have HO8 := hide (blk_below HO7.out hb)
  clear hb HL7 HO7 d0 d1 d2 d3 d4 d5 e0 e1 e2 e3 e4 e5 Hw7 HWB HB5
  go_wp2_with fail
  refine (to_evs _ es _ (HV.out.below HL8.out.low) HLN.out).mono ?_
  rintro e w9 ⟨⟨rfl, hO⟩, hb⟩
  have HO := hide hO
  have HL9 := hide (HL8.out.down hb)
  have HO9 := hide (blk_below HO8.out hb)
  clear hb hO HL8 HO8
  go_wp2_with fail
  refine (eq_all _ _ es _ (evs_sl HO9.out rfl) (evs_sl HO.out rfl) HLN.out eq_ev).mono ?_
  rintro e w10 ⟨rfl, hb⟩
  have HL10 := hide (HL9.out.down hb)
  have HO10 := hide (evs_bk (blk_below HO9.out hb))
  clear hb HL9 HO HO9
  obtain ⟨fb, hfb⟩ := HO10.out
  have HFB := hide hfb
  clear hfb HO10
  go_wp2_with fail
  refine (mark_evs wA.heap.size es.length es.length fb _ HFB.out HLN.out).mono ?_
  rintro e w11 ⟨⟨kk, rfl⟩, hg⟩
  have HL11 := hide (HL10.out.kept (KeptB.of (lo := wA.heap.size) (hi := w5.heap.size) hg (fun q hq => by simp only [Option.some.injEq] at hq; subst hq; exact ⟨Nat.le_refl _, HLT.out⟩)) (Nat.le_refl _) (Nat.le_refl _) h65)
  have hkn : ¬ ((kk : Int) < 0) := by omega
  clear hg HL10 HFB
  obtain ⟨⟨d0, d1, d2, d3, d4, d5⟩, -⟩ := HL11.out.gb.hex
  obtain ⟨⟨e0, e1, e2, e3, e4, e5⟩, -⟩ := HL11.out.wb.hex
  go_wp2_with fail
  refine (eq_state _ _ _ _ r _ HL11.out.out.q (HR.out.below HL11.out.sp) HSH.out).mono ?_
  rintro e w12 ⟨rfl, hb⟩
  have HL12 := hide (HL11.out.down hb)
  clear hb HL11 hkn d0 d1 d2 d3 d4 d5 e0 e1 e2 e3 e4 e5
  obtain ⟨⟨d0, d1, d2, d3, d4, d5⟩, -⟩ := HL12.out.gb.hex
  go_wp2_with fail
  refine (mark_state w5.heap.size w6.heap.size _ _ r _ HL12.out.out HSH.out (Nat.le_of_lt HL12.out.gb.lt)).mono ?_
  rintro e w13 ⟨rfl, hC, hk⟩
  have HL13 := hide (HL12.out.marks hk hC)
  clear hk hC HL12 d0 d1 d2 d3 d4 d5
  rw [HM.out]
  obtain ⟨⟨d0, d1, d2, d3, d4, d5⟩, -⟩ := HL13.out.gb.hex
  go_wp2_with fail
  refine (held_state w5.heap.size w6.heap.size _ _ r _ HL13.out.out HSH.out).mono ?_
  rintro e w14 ⟨rfl, hb⟩
  have HL14 := hide (HL13.out.down hb)
  clear hb HL13 d0 d1 d2 d3 d4 d5
  rw [HM.out]
  go_wp2_with fail
  refine (to_evs _ es _ (HV.out.below HL14.out.low) HLN.out).mono ?_
  rintro e w15 ⟨⟨rfl, hO⟩, hb⟩
  have HO := hide hO
  have HL15 := hide (HL14.out.down hb)
  clear hb hO HL14
  go_wp2_with fail
  refine (impl_fold _ es kf _ (evs_sl HO.out rfl) HLN.out HNM.out (HK.out.below HL15.out.low) HKF.out).mono ?_
  rintro e w16 ⟨⟨z0, z1, rfl, hA⟩, hb⟩
  rw [HSR.out] at hA ⊢
  obtain ⟨a8, c8, rfl⟩ := hA.o0.form
  obtain ⟨a9, c9, rfl⟩ := hA.o1.form
  have hdn := (Below.refl w16.heap.size w16).alloc (Nat.le_refl _) (.cells (sarr (.slice a8 r.sg.length c8) (.slice a9 r.tm.length c9) r) 29)
  have HL17 := hide ((HL15.out.down hb).down hdn)
  have HA := hide (hA.q.below hdn)
  have hx1 : w4.heap.size < w16.heap.size := (HL15.out.down hb).wb.lt
  clear hb hA HO HL15 hdn
  obtain ⟨⟨e0, e1, e2, e3, e4, e5⟩, -⟩ := HL17.out.wb.hex
  go_wp2_with fail
  refine (eq_state _ _ _ _ r _ HA.out (HR.out.below HL17.out.sp) HSH.out).mono ?_
  rintro e w18 ⟨rfl, hb⟩
  have HL18 := hide (HL17.out.down hb)
  clear hb HL17 HA e0 e1 e2 e3 e4 e5
  obtain ⟨⟨d0, d1, d2, d3, d4, d5⟩, -⟩ := HL18.out.gb.hex
  go_wp2_with fail
  refine (held_state w5.heap.size w6.heap.size _ _ r _ HL18.out.out HSH.out).mono ?_
  rintro e w19 ⟨rfl, hb⟩
  have hbz := (HL18.out.down hb).low
  rw [HM.out]
  clear HL18 HR HV HM HSH HKF HK HNM hb d0 d1 d2 d3 d4 d5
  go_wp2
  go_ret
  exact ⟨rfl, hbz⟩
end Go.Proofs.YtglpkikncgdghaaDoor
