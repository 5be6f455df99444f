/-
  AddBranch and MergeTellings of the program. Condition: the table knownKinds reads as its text lays it.
-/
import Derived.Test.YtcbkeabfnldmhaaGreatDoorJoin34
namespace Go.Proofs.YtcbkeabfnldmhaaGreatDoor
open Go.RowKit M
open Go.Sort (grow)
namespace M
theorem OwnP.ans {w : World} {B : Nat} {v : Value} {ps : Prs} {ok : Bool} {l bs : Brs} (h : OwnP w B v ps) (hb : bsP ps = bs) (hl : (ok = true → l = bs) ∧ (ok = false → l = [])) : ∃ ps', OwnP w B (if ok = true then v else .slice none 0 0) ps' ∧ bsP ps' = l := by
  cases ok
  · exact ⟨[], OwnP.nil _ _, by rw [hl.2 rfl]; rfl⟩
  · exact ⟨ps, h, by rw [hl.1 rfl]; exact hb⟩
end M
set_option maxRecDepth 20000 in
set_option maxHeartbeats 4000000 in
theorem impl_add (v u : Value) (bs : Brs) (h : Evs) (ok : Bool) (l : Brs) (w : World) (hv : BrsOf w v bs) (hu : SliceOf w u h) (hf : FineS bs) (s2 : SmE h) (hkk : KK w) (hb : BP ok (GdT bs ∧ Tl h ∧ (add bs h).length ≤ 12)) (hl : (ok = true → l = add bs h) ∧ (ok = false → l = [])) :
    Calls Tryz.prog 13 #[.agg #[v], u] w fun e w' => TlA w' w.heap.size e ok l ∧ Below w.heap.size w w' := by
  obtain ⟨a1, c1, rfl⟩ := hv.form
  obtain ⟨a2, c2, rfl⟩ := hu.form
  obtain ⟨W, hW⟩ : ∃ W, (w.alloc (.cells #[.slice a1 bs.length c1] 30)).alloc (.cells #[.slice none 0 0] 30) = W := ⟨_, rfl⟩
  obtain ⟨m0, m1, hal, hsz⟩ := two1 w _ _ _ _ W hW.symm
  have HV := hide (hv.below hal)
  have HU := hide (hu.below hal)
  have HF := hide hf
  have HS2 := hide s2
  have HB := hide hb
  have HL := hide hl
  have HK := hide (hkk.below hal)
  have HAL := hide hal
  have HM0 := hide m0
  have HM1 := hide m1
  have HW := hide hW
  have HSZ := hide hsz
  have d0 : ((w.alloc (.cells #[.slice a1 bs.length c1] 30)).alloc (.cells #[.slice none 0 0] 30)).cell? ⟨w.heap.size, 0, none⟩ = some (.slice a1 bs.length c1) := by rw [hW]; exact m0.cell
  obtain ⟨gb, hgb⟩ := bp_ex (GdT bs)
  have HGB := hide hgb
  obtain ⟨tb, htb⟩ := bp_ex (Tl h)
  have HTB := hide htb
  clear hv hu hf s2 hkk hb hl hgb htb hW hal m0 m1 hsz
  cases gb
  · have HN := hide (show ok = false from HB.out.no (fun h => by have := HGB.out.yes h.1; cases this))
    have HN2 := hide (HL.out.2 HN.out)
    go_enter Tryz.func13, Tryz.ntmps13
    go_wp2_with fail
    rw [HW.out]
    refine (impl_gt _ bs false _ HV.out HF.out HK.out HGB.out).mono ?_
    rintro e w2 ⟨rfl, hb2⟩
    have r1 := (HM1.out.down hb2).cell
    have r2 := (HM1.out.down hb2).thaw
    have hbw := HAL.out.trans (hb2.mono HAL.out.size)
    clear hb2 d0
    go_wp2
    exact bodyPost_ret (v := .tuple #[.agg #[.slice none 0 0], .bool false]) (by simp [results, Tryz.results13, go_sem, r1]) rfl ⟨⟨_, [], by rw [HN.out], OwnP.nil _ _, HN2.out.symm⟩, hbw.setCell (by simp) _⟩
  · have HG := hide (HGB.out.1 rfl)
    cases tb
    · have HN := hide (show ok = false from HB.out.no (fun h => by have := HTB.out.yes h.2.1; cases this))
      have HN2 := hide (HL.out.2 HN.out)
      go_enter Tryz.func13, Tryz.ntmps13
      go_wp2_with fail
      rw [HW.out]
      refine (impl_gt _ bs true _ HV.out HF.out HK.out HGB.out).mono ?_
      rintro e w2 ⟨rfl, hb2⟩
      go_wp2_with fail
      refine (impl_tl _ h false _ (HU.out.below hb2) HS2.out.1 HS2.out.2 (HK.out.below hb2) HTB.out).mono ?_
      rintro e w3 ⟨rfl, hb3⟩
      have hba := hb2.trans (hb3.mono hb2.size)
      have r1 := (HM1.out.down hba).cell
      have r2 := (HM1.out.down hba).thaw
      have hbw := HAL.out.trans (hba.mono HAL.out.size)
      clear hb2 hb3 hba d0
      go_wp2
      exact bodyPost_ret (v := .tuple #[.agg #[.slice none 0 0], .bool false]) (by simp [results, Tryz.results13, go_sem, r1]) rfl ⟨⟨_, [], by rw [HN.out], OwnP.nil _ _, HN2.out.symm⟩, hbw.setCell (by simp) _⟩
    · have HT := hide (HTB.out.1 rfl)
      have HLN := hide (show ok = decide ((add bs h).length ≤ 12) from by
        rw [Bool.eq_iff_iff, decide_eq_true_eq]
        exact ⟨fun h => (HB.out.1 h).2.2, fun h => HB.out.2 ⟨HG.out, HT.out, h⟩⟩)
      go_enter Tryz.func13, Tryz.ntmps13
      go_wp2_with fail
      rw [HW.out]
      refine (impl_gt _ bs true _ HV.out HF.out HK.out HGB.out).mono ?_
      rintro e w2 ⟨rfl, hb2⟩
      go_wp2_with fail
      refine (impl_tl _ h true _ (HU.out.below hb2) HS2.out.1 HS2.out.2 (HK.out.below hb2) HTB.out).mono ?_
      rintro e w3 ⟨rfl, hb3⟩
      have hba := hb2.trans (hb3.mono hb2.size)
      have hW3 := hba.size
      clear hb2 hb3 d0
      have d0 := (HM0.out.down hba).cell
      go_wp2_with fail
      refine (copy_brs _ bs _ (HV.out.below hba) HF.out HG.out.2.1).mono ?_
      rintro e w4 ⟨⟨r4, ps, rfl, hO4, hps⟩, hb4⟩
      have hW4 := hba.trans (hb4.mono hba.size)
      have HO4 := hide (hO4.mono hW3)
      have HPS := hide hps
      have hpl : ps.length ≤ 12 := by
        have := congrArg List.length hps
        rw [bsP_len] at this
        rw [this]; exact HG.out.1
      obtain ⟨a4, c4, rfl⟩ := hO4.form
      clear hba hb4 hO4 hps d0
      go_wp2_with fail
      refine (put_branch W W.heap.size _ _ ps h _ HO4.out hW4 (Nat.le_refl _) hW4.size HU.out (by omega) (by rw [HPS.out]; exact HG.out.2) HT.out).mono ?_
      rintro e w5 ⟨⟨r5, ps5, rfl, hO5, hps5⟩, hb5, -⟩
      rw [HPS.out] at hps5
      have HO5 := hide hO5
      have HPS5 := hide hps5
      have HF5 := hide hO5.form
      have hk5 : ok = decide (ps5.length ≤ 12) := by
        have := congrArg List.length hps5
        rw [bsP_len] at this
        rw [HLN.out, this]
      have HK5 := hide hk5
      obtain ⟨a5, c5, rfl⟩ := hO5.form
      clear hO5 hps5 hk5 hW4 HO4 hW3
      go_wp2_with fail
      refine (tellings_of _ ps5 ok _ HF5.out HK5.out).mono ?_
      rintro e w6 ⟨rfl, hb6⟩
      have hb7 := hb5.trans (hb6.mono hb5.size)
      have r1 := (HM1.out.down hb7).cell
      have r2 := (HM1.out.down hb7).thaw
      have HANS := hide (OwnP.ans (HO5.out.down hb6) HPS5.out HL.out)
      obtain ⟨q, hq⟩ : ∃ q, (if ok = true then Value.slice a5 ps5.length c5 else .slice none 0 0) = q := ⟨_, rfl⟩
      rw [hq] at HANS ⊢
      have hbw := HAL.out.trans (hb7.mono HAL.out.size)
      have HSZ2 := HSZ.out
      have hone : q.oneCell' = true := by rw [← hq]; cases ok <;> rfl
      have hqs : ∃ a n c, q = .slice a n c := by rw [← hq]; cases ok <;> exact ⟨_, _, _, rfl⟩
      obtain ⟨qa, qn, qc, rfl⟩ := hqs
      clear hb5 hb6 hb7 hq hone HO5 HF5
      go_wp2
      refine bodyPost_ret (v := .tuple #[.agg #[.slice qa qn qc], .bool ok]) (by simp [results, Tryz.results13, go_sem, r1]) rfl ⟨?_, hbw.setCell (by simp) _⟩
      obtain ⟨ps', h1, h2⟩ := HANS.out
      exact ⟨_, ps', rfl, (h1.set_low (by omega) _).mono (by omega), h2⟩
set_option maxRecDepth 20000 in
set_option maxHeartbeats 4000000 in
theorem impl_mge (v u : Value) (ls bs : Brs) (ok : Bool) (l : Brs) (w : World) (hv : BrsOf w v ls) (hu : BrsOf w u bs) (hf : FineS ls) (hf2 : FineS bs) (hkk : KK w) (hb : BP ok (GdT ls ∧ GdT bs ∧ (mge ls bs).length ≤ 12)) (hl : (ok = true → l = mge ls bs) ∧ (ok = false → l = [])) :
    Calls Tryz.prog 20 #[.agg #[v], .agg #[u]] w fun e w' => TlA w' w.heap.size e ok l ∧ Below w.heap.size w w' := by
  obtain ⟨a1, c1, rfl⟩ := hv.form
  obtain ⟨a2, c2, rfl⟩ := hu.form
  obtain ⟨W, hW⟩ : ∃ W, ((w.alloc (.cells #[.slice a1 ls.length c1] 30)).alloc (.cells #[.slice a2 bs.length c2] 30)).alloc (.cells #[.slice none 0 0] 30) = W := ⟨_, rfl⟩
  obtain ⟨m0, m1, m2, hal, hsz⟩ := three1 w _ _ _ _ _ _ W hW.symm
  have HV := hide (hv.below hal)
  have HU := hide (hu.below hal)
  have HF := hide hf
  have HF2 := hide hf2
  have HB := hide hb
  have HL := hide hl
  have HK := hide (hkk.below hal)
  have HAL := hide hal
  have HM0 := hide m0
  have HM1 := hide m1
  have HM2 := hide m2
  have HW := hide hW
  have HSZ := hide hsz
  have d0 : (((w.alloc (.cells #[.slice a1 ls.length c1] 30)).alloc (.cells #[.slice a2 bs.length c2] 30)).alloc (.cells #[.slice none 0 0] 30)).cell? ⟨w.heap.size, 0, none⟩ = some (.slice a1 ls.length c1) := by rw [hW]; exact m0.cell
  obtain ⟨gb, hgb⟩ := bp_ex (GdT ls)
  have HGB := hide hgb
  obtain ⟨tb, htb⟩ := bp_ex (GdT bs)
  have HTB := hide htb
  clear hv hu hf hf2 hkk hb hl hgb htb hW hal m0 m1 m2 hsz
  cases gb
  · have HN := hide (show ok = false from HB.out.no (fun h => by have := HGB.out.yes h.1; cases this))
    have HN2 := hide (HL.out.2 HN.out)
    go_enter Tryz.func20, Tryz.ntmps20
    go_wp2_with fail
    rw [HW.out]
    refine (impl_gt _ ls false _ HV.out HF.out HK.out HGB.out).mono ?_
    rintro e w2 ⟨rfl, hb2⟩
    have r1 := (HM2.out.down hb2).cell
    have r2 := (HM2.out.down hb2).thaw
    have hbw := HAL.out.trans (hb2.mono HAL.out.size)
    clear hb2 d0
    go_wp2
    exact bodyPost_ret (v := .tuple #[.agg #[.slice none 0 0], .bool false]) (by simp [results, Tryz.results20, go_sem, r1]) rfl ⟨⟨_, [], by rw [HN.out], OwnP.nil _ _, HN2.out.symm⟩, hbw.setCell (by simp; omega) _⟩
  · have HG := hide (HGB.out.1 rfl)
    cases tb
    · have HN := hide (show ok = false from HB.out.no (fun h => by have := HTB.out.yes h.2.1; cases this))
      have HN2 := hide (HL.out.2 HN.out)
      go_enter Tryz.func20, Tryz.ntmps20
      go_wp2_with fail
      rw [HW.out]
      refine (impl_gt _ ls true _ HV.out HF.out HK.out HGB.out).mono ?_
      rintro e w2 ⟨rfl, hb2⟩
      clear d0
      have d1 := (HM1.out.down hb2).cell
      go_wp2_with fail
      refine (impl_gt _ bs false _ (HU.out.below hb2) HF2.out (HK.out.below hb2) HTB.out).mono ?_
      rintro e w3 ⟨rfl, hb3⟩
      have hba := hb2.trans (hb3.mono hb2.size)
      have r1 := (HM2.out.down hba).cell
      have r2 := (HM2.out.down hba).thaw
      have hbw := HAL.out.trans (hba.mono HAL.out.size)
      clear hb2 hb3 hba d1
      go_wp2
      exact bodyPost_ret (v := .tuple #[.agg #[.slice none 0 0], .bool false]) (by simp [results, Tryz.results20, go_sem, r1]) rfl ⟨⟨_, [], by rw [HN.out], OwnP.nil _ _, HN2.out.symm⟩, hbw.setCell (by simp; omega) _⟩
    · have HT := hide (HTB.out.1 rfl)
      have h12 := HT.out.1
      have h13 := HG.out.1
      have HLN := hide (show ok = decide ((mge ls bs).length ≤ 12) from by
        rw [Bool.eq_iff_iff, decide_eq_true_eq]
        exact ⟨fun h => (HB.out.1 h).2.2, fun h => HB.out.2 ⟨HG.out, HT.out, h⟩⟩)
      go_enter Tryz.func20, Tryz.ntmps20
      go_wp2_with fail
      rw [HW.out]
      refine (impl_gt _ ls true _ HV.out HF.out HK.out HGB.out).mono ?_
      rintro e w2 ⟨rfl, hb2⟩
      clear d0
      have d1 := (HM1.out.down hb2).cell
      go_wp2_with fail
      refine (impl_gt _ bs true _ (HU.out.below hb2) HF2.out (HK.out.below hb2) HTB.out).mono ?_
      rintro e w3 ⟨rfl, hb3⟩
      have hba := hb2.trans (hb3.mono hb2.size)
      have hW3 := hba.size
      clear hb2 hb3 d1
      have d0 := (HM0.out.down hba).cell
      go_wp2_with fail
      refine (copy_brs _ ls _ (HV.out.below hba) HF.out HG.out.2.1).mono ?_
      rintro e w4 ⟨⟨r4, ps, rfl, hO4, hps⟩, hb4⟩
      have hW4 := hba.trans (hb4.mono hba.size)
      have HO4 := hide (hO4.mono hW3)
      have HPS := hide hps
      have HFM := hide hO4.form
      obtain ⟨a4, c4, rfl⟩ := hO4.form
      clear hba hb4 hO4 hps d0 hW3
      have d1 := (HM1.out.down hW4).cell
      go_wp2
      go_loopw [6, 24] (fun x i wr => ∃ (k : Nat) (qs : Prs) (aa : Option Addr) (ca : Nat), k ≤ bs.length ∧ i = .int .i64 k ∧ x = .slice aa qs.length ca ∧ Hid (OwnP wr W.heap.size (.slice aa qs.length ca) qs) ∧ Hid (bsP qs = mge ls (bs.take k)) ∧ Hid (Below W.heap.size W wr)) (fun _ i _ => bs.length - (intOf i).toNat)
      case atStart => exact ⟨0, ps, a4, c4, Nat.zero_le _, rfl, rfl, HO4, hide (by rw [HPS.out]; rfl), hide hW4⟩
      case round =>
        obtain ⟨k, qs, aa, ca, hk, rfl, rfl, HO, HQ, HWr⟩ := hrel
        clear HO4 hW4 HFM d1
        by_cases hlt : k < bs.length
        · obtain ⟨es, he⟩ : ∃ e, bs[k]? = some e := ⟨bs[k], List.getElem?_eq_getElem hlt⟩
          obtain ⟨g, off, rfl, hlg, a3, c3, hc, hs⟩ := HU.out.at he
          have hcw := (HWr.out.cell (p := ⟨g, off + k, none⟩) hlg).trans hc
          have hax := (Below.refl wr.heap.size wr).alloc (Nat.le_refl _) (.cells #[.slice a3 es.length c3] 55)
          have hWx := HWr.out.trans (hax.mono HWr.out.size)
          have hGU : GdU (bsP qs) := by rw [HQ.out]; exact mge_good HG.out.2 (fun x hx => HT.out.2.1 x (List.mem_of_mem_take hx))
          have hql : qs.length ≤ 24 := by
            have h1 := congrArg List.length HQ.out
            rw [bsP_len] at h1
            have h2 := mge_len (a := ls) (b := bs) k hk
            omega
          have HPB := hide (put_branch W W.heap.size _ (.slice a3 es.length c3) qs es _ (HO.out.down hax) hWx (Nat.le_refl _) hWx.size hs (by omega) hGU (HT.out.2.1 es (List.mem_of_getElem? he)))
          have HE := hide he
          clear hc hs he hax hWx hGU hql HO HWr
          go_wp2_with fail
          refine HPB.out.mono ?_
          rintro e w6 ⟨⟨r6, qs6, rfl, hO6, hq6⟩, hW6, -⟩
          have HQ6 := hide (show bsP qs6 = mge ls (bs.take (k + 1)) by rw [hq6, HQ.out, mge_snoc HE.out])
          have HO6 := hide hO6
          have HW6 := hide hW6
          obtain ⟨a6, c6, rfl⟩ := hO6.form
          clear hO6 hq6 hW6 HPB
          go_wp2
          exact ⟨⟨k + 1, qs6, a6, c6, by omega, by go_num, rfl, HO6, HQ6, HW6⟩, by simp [intOf]; omega⟩
        · obtain rfl : k = bs.length := by omega
          have hq := HQ.out
          rw [List.take_length] at hq
          have HPS5 := hide hq
          have hk5 : ok = decide (qs.length ≤ 12) := by
            have := congrArg List.length hq
            rw [bsP_len] at this
            rw [HLN.out, this]
          have HK5 := hide hk5
          have HF5 := hide HO.out.form
          clear hq hk5
          go_wp2_with fail
          refine (tellings_of _ qs ok _ HF5.out HK5.out).mono ?_
          rintro e w6 ⟨rfl, hb6⟩
          have hb7 := HWr.out.trans (hb6.mono HWr.out.size)
          have r1 := (HM2.out.down hb7).cell
          have r2 := (HM2.out.down hb7).thaw
          have HANS := hide (OwnP.ans (HO.out.down hb6) HPS5.out HL.out)
          obtain ⟨q, hq⟩ : ∃ q, (if ok = true then Value.slice aa qs.length ca else .slice none 0 0) = q := ⟨_, rfl⟩
          rw [hq] at HANS ⊢
          have hbw := HAL.out.trans (hb7.mono HAL.out.size)
          have HSZ2 := HSZ.out
          have hqs : ∃ a n c, q = .slice a n c := by rw [← hq]; cases ok <;> exact ⟨_, _, _, rfl⟩
          obtain ⟨qa, qn, qc, rfl⟩ := hqs
          clear hb6 hb7 hq HO HF5 HQ
          go_wp2
          refine bodyPost_ret (v := .tuple #[.agg #[.slice qa qn qc], .bool ok]) (by simp [results, Tryz.results20, go_sem, r1]) rfl ⟨?_, hbw.setCell (by simp; omega) _⟩
          obtain ⟨ps', h1, h2⟩ := HANS.out
          exact ⟨_, ps', rfl, (h1.set_low (by omega) _).mono (by omega), h2⟩
end Go.Proofs.YtcbkeabfnldmhaaGreatDoor
