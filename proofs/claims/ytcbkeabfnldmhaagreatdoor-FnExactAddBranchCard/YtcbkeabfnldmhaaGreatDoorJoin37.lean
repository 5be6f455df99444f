/-
  Texts that follow one another, joined: BrZb, BrHd.
-/
import Derived.Test.YtcbkeabfnldmhaaGreatDoorJoin36
import Derived.Test.YtcbkeabfnldmhaaGreatDoorJoin28
/-
  AddBranch and MergeTellings of the specification: the copy, the merge, and whether what comes of it is good.
-/
namespace Go.Proofs.YtcbkeabfnldmhaaGreatDoor
open Go.RowKit M
open Go.Sort (grow)
set_option maxRecDepth 20000 in
set_option maxHeartbeats 4000000 in
theorem spec_own (v : Value) (bs : Brs) (w : World) (hv : BrsOf w v bs) (hn : bs.length ≤ 1001) (hg : GdU bs) :
    Calls Tryz.prog 46 #[.agg #[v]] w fun e w' => (∃ r ps, e = .returned (.agg #[r]) ∧ OwnP w' w.heap.size r ps ∧ bsP ps = bs) ∧ Below w.heap.size w w' := by
  obtain ⟨a1, c1, rfl⟩ := hv.form
  obtain ⟨W, hW⟩ : ∃ W, (w.alloc (.cells #[.slice a1 bs.length c1] 30)).alloc (.cells #[.slice none 0 0] 30) = W := ⟨_, rfl⟩
  obtain ⟨m0, m1, hal, hsz⟩ := two1 w _ _ _ _ W hW.symm
  have HV := hide (hv.below hal)
  have HG := hide hg
  have HAL := hide hal
  have HM1 := hide m1
  have HW := hide hW
  have HSZ := hide hsz
  have d0 : ((w.alloc (.cells #[.slice a1 bs.length c1] 30)).alloc (.cells #[.slice none 0 0] 30)).cell? ⟨w.heap.size, 0, none⟩ = some (.slice a1 bs.length c1) := by rw [hW]; exact m0.cell
  clear hv hg hW hal m0 m1 hsz
  go_enter Tryz.func46, Tryz.ntmps46
  go_wp2
  rw [HW.out]
  clear HW d0
  go_loopw [3, 9] (fun x i wr => ∃ (k : Nat) (ps : Prs) (a' : Option Addr) (c' : Nat), k ≤ bs.length ∧ i = .int .i64 k ∧ x = .slice a' k c' ∧ Hid (OwnP wr W.heap.size (.slice a' k c') ps) ∧ Hid (bsP ps = bs.take k) ∧ Hid (Below W.heap.size W wr)) (fun _ i _ => bs.length - (intOf i).toNat)
  case atStart => exact ⟨0, [], none, 0, Nat.zero_le _, rfl, rfl, hide (OwnP.nil _ _), hide rfl, hide (Below.refl _ _)⟩
  case round =>
    obtain ⟨k, ps, a', c', hk, rfl, rfl, HO, HB, HWr⟩ := hrel
    have hbw := HWr.out
    by_cases hlt : k < bs.length
    · obtain ⟨es, he⟩ : ∃ e, bs[k]? = some e := ⟨bs[k], List.getElem?_eq_getElem hlt⟩
      obtain ⟨b, off, rfl, hlb, a2, c2, hc, hs⟩ := HV.out.at he
      have hcw := (hbw.cell (p := ⟨b, off + k, none⟩) hlb).trans hc
      have hal := (Below.refl wr.heap.size wr).alloc (Nat.le_refl _) (.cells #[.slice a2 es.length c2] 55)
      have hbq := hbw.trans (hal.mono hbw.size)
      have HOQ := hide (HO.out.down hal)
      have HSQ := hide (hs.below hbq)
      have htl := HG.out.1 es (List.mem_of_getElem? he)
      have hsh := htl.short
      have HTL := hide htl.1
      have HE := hide he
      have hpl : ps.length = k := by
        have := congrArg List.length HB.out
        rw [bsP_len, List.length_take] at this; omega
      have HPL := hide hpl
      have hgs := hbq.size
      clear hs he hal hc HO htl hpl HWr hbw
      go_wp2_with fail
      refine (own_evs _ es _ HSQ.out (by omega) HTL.out).mono ?_
      rintro e w2 ⟨⟨a3, n3, c3, rfl, hO⟩, hb2⟩
      have hal2 := (Below.refl w2.heap.size w2).alloc (Nat.le_refl _) (.cells #[.slice a3 n3 c3] 55)
      have h23 := hb2.trans (hal2.mono hb2.size)
      have hb3 := hbq.trans (h23.mono hbq.size)
      have HP3 := hide (HOQ.out.down h23)
      have HE3 := hide ((hO.mono hgs).down hal2)
      have HAP := hide (HOQ.out.far_new (Nat.le_refl _) hO)
      have HC := hide (one_new w2 (.slice a3 n3 c3) 55)
      have hgs3 := hb3.size
      clear hO hal2 hb2 h23 hbq
      go_wp2_with (at_builtin; refine wpList_put1 _ rfl _ _ 28 55 _ 24 Tryz.underlying28 info_br rfl (by decide) rfl W.heap.size k (vsP ps) _ _ rfl (by have := HP3.out.row; rw [HPL.out] at this; exact this) _ _ _ rfl HC.out rfl (by omega) hgs3 ?_)
      intro a5 c5 w5 hO5 hg5 _
      have hb5 : Below W.heap.size W w5 := hb3.grown hg5 hgs3 (fun j hj => (own_lt HP3.out.row hj).1)
      have HP5 := hide (HP3.out.snoc HE3.out HAP.out HPL.out hO5 hg5)
      have HB5 := hide (show bsP (ps ++ [(Value.slice a3 n3 c3, es)]) = bs.take (k + 1) by rw [bsP_snoc, HB.out, take_snocB HE.out])
      have HW5 := hide hb5
      clear hO5 hg5 HP3 HE3 HAP HC hb3 hgs3 hb5
      go_wp2
      exact ⟨⟨k + 1, _, a5, c5, by omega, by go_num, by go_num, HP5, HB5, HW5⟩, by simp [intOf]; omega⟩
    · obtain rfl : k = bs.length := by omega
      have HB2 := hide (show bsP ps = bs by rw [HB.out, List.take_length])
      have r1 := (HM1.out.down hbw).cell
      have r2 := (HM1.out.down hbw).thaw
      have hbz := HAL.out.trans (hbw.mono HAL.out.size)
      have HSZ2 := HSZ.out
      clear HV HB HWr
      go_wp2
      refine bodyPost_ret (v := .agg #[.slice a' bs.length c']) (by simp [results, Tryz.results46, go_sem, r1]) rfl ⟨⟨_, ps, rfl, (HO.out.set_low (by omega) _).mono (by omega), HB2.out⟩, hbz.setCell (by simp) _⟩
set_option maxRecDepth 20000 in
set_option maxHeartbeats 4000000 in
theorem spec_add (v u : Value) (bs : Brs) (h : Evs) (ok : Bool) (l : Brs) (w : World) (hv : BrsOf w v bs) (hu : SliceOf w u h) (hf : FineS bs) (s2 : SmE h) (hco : CapOk v) (hb : BP ok (GdT bs ∧ Tl h ∧ (add bs h).length ≤ 12)) (hl : (ok = true → l = add bs h) ∧ (ok = false → l = [])) :
    Calls Tryz.prog 10 #[.agg #[v], u] w fun e w' => TlA w' w.heap.size e ok l ∧ Below w.heap.size w w' := by
  have HCO := hide hco
  obtain ⟨a1, c1, rfl⟩ := hv.form
  obtain ⟨a2, c2, rfl⟩ := hu.form
  obtain ⟨W, hW⟩ : ∃ W, (w.alloc (.cells #[.slice a1 bs.length c1] 30)).alloc (.cells #[.slice none 0 0] 30) = W := ⟨_, rfl⟩
  obtain ⟨m0, m1, hal, hsz⟩ := two1 w _ _ _ _ W hW.symm
  have HV := hide (hv.below hal)
  have HU := hide (hu.below hal)
  have HF := hide hf
  have HS2 := hide s2
  have HB := hide hb
  have HL := hide hl
  have HAL := hide hal
  have HM0 := hide m0
  have HM1 := hide m1
  have HW := hide hW
  have HSZ := hide hsz
  have d0 : ((w.alloc (.cells #[.slice a1 bs.length c1] 30)).alloc (.cells #[.slice none 0 0] 30)).cell? ⟨w.heap.size, 0, none⟩ = some (.slice a1 bs.length c1) := by rw [hW]; exact m0.cell
  obtain ⟨gb, hgb⟩ := bp_ex (GdT bs)
  have HGB := hide hgb
  obtain ⟨tb, htb⟩ := bp_ex (Tl h)
  have HTB := hide htb
  clear hv hu hf s2 hco hb hl hgb htb hW hal m0 m1 hsz
  cases gb
  · have HN := hide (show ok = false from HB.out.no (fun h => by have := HGB.out.yes h.1; cases this))
    have HN2 := hide (HL.out.2 HN.out)
    go_enter Tryz.func10, Tryz.ntmps10
    go_wp2_with fail
    rw [HW.out]
    refine (spec_gt _ bs false _ HV.out HF.out HCO.out HGB.out).mono ?_
    rintro e w2 ⟨rfl, hb2⟩
    have r1 := (HM1.out.down hb2).cell
    have r2 := (HM1.out.down hb2).thaw
    have hbw := HAL.out.trans (hb2.mono HAL.out.size)
    clear hb2 d0
    go_wp2
    exact bodyPost_ret (v := .tuple #[.agg #[.slice none 0 0], .bool false]) (by simp [results, Tryz.results10, go_sem, r1]) rfl ⟨⟨_, [], by rw [HN.out], OwnP.nil _ _, HN2.out.symm⟩, hbw.setCell (by simp) _⟩
  · have HG := hide (HGB.out.1 rfl)
    cases tb
    · have HN := hide (show ok = false from HB.out.no (fun h => by have := HTB.out.yes h.2.1; cases this))
      have HN2 := hide (HL.out.2 HN.out)
      go_enter Tryz.func10, Tryz.ntmps10
      go_wp2_with fail
      rw [HW.out]
      refine (spec_gt _ bs true _ HV.out HF.out HCO.out HGB.out).mono ?_
      rintro e w2 ⟨rfl, hb2⟩
      go_wp2_with fail
      refine (spec_tl _ h false _ (HU.out.below hb2) HS2.out.1 HS2.out.2 HTB.out).mono ?_
      rintro e w3 ⟨rfl, hb3⟩
      have hba := hb2.trans (hb3.mono hb2.size)
      have r1 := (HM1.out.down hba).cell
      have r2 := (HM1.out.down hba).thaw
      have hbw := HAL.out.trans (hba.mono HAL.out.size)
      clear hb2 hb3 hba d0
      go_wp2
      exact bodyPost_ret (v := .tuple #[.agg #[.slice none 0 0], .bool false]) (by simp [results, Tryz.results10, go_sem, r1]) rfl ⟨⟨_, [], by rw [HN.out], OwnP.nil _ _, HN2.out.symm⟩, hbw.setCell (by simp) _⟩
    · have HT := hide (HTB.out.1 rfl)
      have h13 := HG.out.1
      have hal := add_len bs h
      have HGA := hide (add_good HG.out.2 HT.out)
      have HBO := hide (show BP ok (GdT (add bs h)) from ⟨fun hk => ⟨(HB.out.1 hk).2.2, HGA.out⟩, fun hk => HB.out.2 ⟨HG.out, HT.out, hk.1⟩⟩)
      go_enter Tryz.func10, Tryz.ntmps10
      go_wp2_with fail
      rw [HW.out]
      refine (spec_gt _ bs true _ HV.out HF.out HCO.out HGB.out).mono ?_
      rintro e w2 ⟨rfl, hb2⟩
      go_wp2_with fail
      refine (spec_tl _ h true _ (HU.out.below hb2) HS2.out.1 HS2.out.2 HTB.out).mono ?_
      rintro e w3 ⟨rfl, hb3⟩
      have hba := hb2.trans (hb3.mono hb2.size)
      clear hb2 hb3 d0
      have d0 := (HM0.out.down hba).cell
      go_wp2_with fail
      refine (spec_put _ _ bs h _ (HV.out.below hba) (HU.out.below hba) (by omega) HG.out.2 HT.out HCO.out).mono ?_
      rintro e w4 ⟨⟨r4, rfl, hr4, -⟩, hb4⟩
      have hW4 := hba.trans (hb4.mono hba.size)
      have HR4 := hide hr4
      obtain ⟨a4, c4, rfl⟩ := hr4.form
      clear hba hb4 hr4 d0
      go_wp2_with fail
      refine (spec_own _ (add bs h) _ HR4.out (by omega) HGA.out).mono ?_
      rintro e w5 ⟨⟨r5, ps5, rfl, hO5, hps5⟩, hb5⟩
      have hdn : ∀ o, Below w5.heap.size w5 (w5.alloc o) := fun o => (Below.refl _ _).alloc (Nat.le_refl _) o
      obtain ⟨a5, c5, rfl⟩ := hO5.form
      obtain ⟨w6, hw6⟩ : ∃ w6, w5.alloc (.cells #[.slice a5 ps5.length c5] 30) = w6 := ⟨_, rfl⟩
      have h6 : M.One w6 w5.heap.size (.slice a5 ps5.length c5) 30 := by rw [← hw6]; exact heap_alloc_new _ _
      have h56 : Below w5.heap.size w5 w6 := by rw [← hw6]; exact hdn _
      have hW6 := hW4.trans ((hb5.trans (h56.mono hb5.size)).mono hW4.size)
      have HO6 := hide ((hO5.mono hW4.size).down h56)
      have HPS := hide hps5
      have HB6 := hide h6
      have hx6 : BrsOf w6 (.slice a5 ps5.length c5) (add bs h) := by have := HO6.out.brs; rwa [hps5] at this
      have HX6 := hide hx6
      have d6 := h6.cell
      rw [← hw6] at d6
      have HW6 := hide hw6
      have HCP := hide HO6.out.capOk
      have HFA := hide (HGA.out.fine (by omega))
      clear hO5 hps5 h6 h56 hx6 hw6 hdn hb5 hW4 HR4
      go_wp2_with fail
      rw [HW6.out]
      refine (spec_gt _ (add bs h) ok _ HX6.out HFA.out HCP.out HBO.out).mono ?_
      rintro e w7 ⟨rfl, hb7⟩
      have hW7 := hW6.trans (hb7.mono hW6.size)
      have r1 := (HM1.out.down hW7).cell
      have r2 := (HM1.out.down hW7).thaw
      have d7 := (HB6.out.down hb7).cell
      have hbw := HAL.out.trans (hW7.mono HAL.out.size)
      have HSZ2 := HSZ.out
      have HO7 := hide (HO6.out.down hb7)
      clear d6 hb7 HX6 HB6 hW6 HO6 HW6
      cases ok
      · have HN2 := hide (HL.out.2 rfl)
        go_wp2
        exact bodyPost_ret (v := .tuple #[.agg #[.slice none 0 0], .bool false]) (by simp [results, Tryz.results10, go_sem, r1]) rfl ⟨⟨_, [], rfl, OwnP.nil _ _, HN2.out.symm⟩, hbw.setCell (by simp) _⟩
      · have HN2 := hide (HL.out.1 rfl)
        go_wp2
        exact bodyPost_ret (v := .tuple #[.agg #[.slice a5 ps5.length c5], .bool true]) (by simp [results, Tryz.results10, go_sem, r1]) rfl ⟨⟨_, ps5, rfl, (HO7.out.set_low (by omega) _).mono (by omega), by rw [HPS.out, HN2.out]⟩, hbw.setCell (by simp) _⟩
set_option maxRecDepth 20000 in
set_option maxHeartbeats 4000000 in
theorem spec_merge (v u : Value) (ls bs : Brs) (w : World) (hv : BrsOf w v ls) (hu : BrsOf w u bs) (hco : CapOk v) (hg : GdT ls) (ht : GdT bs) :
    Calls Tryz.prog 59 #[.agg #[v], .agg #[u]] w fun e w' => (∃ r ps, e = .returned (.agg #[r]) ∧ OwnP w' w.heap.size r ps ∧ bsP ps = mge ls bs) ∧ Below w.heap.size w w' := by
  have HCO := hide hco
  obtain ⟨a1, c1, rfl⟩ := hv.form
  obtain ⟨a2, c2, rfl⟩ := hu.form
  obtain ⟨W, hW⟩ : ∃ W, ((w.alloc (.cells #[.slice a1 ls.length c1] 30)).alloc (.cells #[.slice a2 bs.length c2] 30)).alloc (.cells #[.slice none 0 0] 30) = W := ⟨_, rfl⟩
  obtain ⟨m0, m1, m2, hal, hsz⟩ := three1 w _ _ _ _ _ _ W hW.symm
  have HV := hide (hv.below hal)
  have HU := hide (hu.below hal)
  have HG := hide hg
  have HT := hide ht
  have h12 := ht.1
  have h13 := hg.1
  have HAL := hide hal
  have HM2 := hide m2
  have HW := hide hW
  have HSZ := hide hsz
  have d0 : (((w.alloc (.cells #[.slice a1 ls.length c1] 30)).alloc (.cells #[.slice a2 bs.length c2] 30)).alloc (.cells #[.slice none 0 0] 30)).cell? ⟨w.heap.size, 0, none⟩ = some (.slice a1 ls.length c1) := by rw [hW]; exact m0.cell
  have d1 : (((w.alloc (.cells #[.slice a1 ls.length c1] 30)).alloc (.cells #[.slice a2 bs.length c2] 30)).alloc (.cells #[.slice none 0 0] 30)).cell? ⟨w.heap.size + 1, 0, none⟩ = some (.slice a2 bs.length c2) := by rw [hW]; exact m1.cell
  clear hv hu hg ht hco hW hal m0 m1 m2 hsz
  go_enter Tryz.func59, Tryz.ntmps59
  go_wp2
  rw [HW.out]
  clear HW d0 d1
  go_loopw [5, 13] (fun x i wr => ∃ (k n : Nat) (aa : Option Addr) (ca : Nat), k ≤ bs.length ∧ i = .int .i64 k ∧ x = .slice aa n ca ∧ Hid (BrsOf wr (.slice aa n ca) (mge ls (bs.take k))) ∧ Hid (CapOk (.slice aa n ca)) ∧ Hid (Below W.heap.size W wr)) (fun _ i _ => bs.length - (intOf i).toNat)
  case atStart => exact ⟨0, _, _, _, Nat.zero_le _, rfl, rfl, HV, HCO, hide (Below.refl _ _)⟩
  case round =>
    obtain ⟨k, n, aa, ca, hk, rfl, rfl, HX, HC, HWr⟩ := hrel
    by_cases hlt : k < bs.length
    · obtain ⟨es, he⟩ : ∃ e, bs[k]? = some e := ⟨bs[k], List.getElem?_eq_getElem hlt⟩
      obtain ⟨g, off, rfl, hlg, a3, c3, hc, hs⟩ := HU.out.at he
      have hcw := (HWr.out.cell (p := ⟨g, off + k, none⟩) hlg).trans hc
      have hax := (Below.refl wr.heap.size wr).alloc (Nat.le_refl _) (.cells #[.slice a3 es.length c3] 55)
      have hWx := HWr.out.trans (hax.mono HWr.out.size)
      have hGU := mge_good HG.out.2 (b := bs.take k) (fun x hx => HT.out.2.1 x (List.mem_of_mem_take hx))
      have hml := mge_len (a := ls) (b := bs) k hk
      have HPB := hide (spec_put _ (.slice a3 es.length c3) (mge ls (bs.take k)) es _ (HX.out.below hax) (hs.below hWx) (by omega) hGU (HT.out.2.1 es (List.mem_of_getElem? he)) HC.out)
      have HE := hide he
      have HWX := hide hWx
      clear hc hs he hax hWx hGU HX HWr
      go_wp2_with fail
      refine HPB.out.mono ?_
      rintro e w6 ⟨⟨r6, rfl, hr6, hc6⟩, hb6⟩
      rw [← mge_snoc HE.out] at hr6
      have HX6 := hide hr6
      have HC6 := hide hc6
      have HW6 := hide (HWX.out.trans (hb6.mono HWX.out.size))
      obtain ⟨a6, c6, rfl⟩ := hr6.form
      clear hr6 hc6 hb6 HPB HWX
      go_wp2
      exact ⟨⟨k + 1, _, a6, c6, by omega, by go_num, rfl, HX6, HC6, HW6⟩, by simp [intOf]; omega⟩
    · obtain rfl : k = bs.length := by omega
      have hx := HX.out
      rw [List.take_length] at hx
      have HX2 := hide hx
      have hml := mge_len (a := ls) (b := bs) bs.length (Nat.le_refl _)
      rw [List.take_length] at hml
      have hGU := mge_good HG.out.2 (b := bs) HT.out.2.1
      have HGU := hide hGU
      clear hx hGU HX
      go_wp2_with fail
      refine (spec_own _ (mge ls bs) _ HX2.out (by omega) HGU.out).mono ?_
      rintro e w5 ⟨⟨r5, ps5, rfl, hO5, hps5⟩, hb5⟩
      have hW5 := HWr.out.trans (hb5.mono HWr.out.size)
      have r1 := (HM2.out.down hW5).cell
      have r2 := (HM2.out.down hW5).thaw
      have hbw := HAL.out.trans (hW5.mono HAL.out.size)
      have HSZ2 := HSZ.out
      have HO5 := hide (hO5.mono HWr.out.size)
      have HPS := hide hps5
      obtain ⟨a5, c5, rfl⟩ := hO5.form
      clear hO5 hps5 hb5 hW5 HX2 HC HV HU
      go_wp2
      exact bodyPost_ret (v := .agg #[.slice a5 ps5.length c5]) (by simp [results, Tryz.results59, go_sem, r1]) rfl ⟨⟨_, ps5, rfl, (HO5.out.set_low (by omega) _).mono (by omega), HPS.out⟩, hbw.setCell (by simp; omega) _⟩
set_option maxRecDepth 20000 in
set_option maxHeartbeats 4000000 in
theorem spec_mge (v u : Value) (ls bs : Brs) (ok : Bool) (l : Brs) (w : World) (hv : BrsOf w v ls) (hu : BrsOf w u bs) (hf : FineS ls) (hf2 : FineS bs) (hco : CapOk v) (hco2 : CapOk u) (hb : BP ok (GdT ls ∧ GdT bs ∧ (mge ls bs).length ≤ 12)) (hl : (ok = true → l = mge ls bs) ∧ (ok = false → l = [])) :
    Calls Tryz.prog 19 #[.agg #[v], .agg #[u]] w fun e w' => TlA w' w.heap.size e ok l ∧ Below w.heap.size w w' := by
  have HCO := hide hco
  have HCO2 := hide hco2
  obtain ⟨a1, c1, rfl⟩ := hv.form
  obtain ⟨a2, c2, rfl⟩ := hu.form
  obtain ⟨W, hW⟩ : ∃ W, ((w.alloc (.cells #[.slice a1 ls.length c1] 30)).alloc (.cells #[.slice a2 bs.length c2] 30)).alloc (.cells #[.slice none 0 0] 30) = W := ⟨_, rfl⟩
  obtain ⟨m0, m1, m2, hal, hsz⟩ := three1 w _ _ _ _ _ _ W hW.symm
  have HV := hide (hv.below hal)
  have HU := hide (hu.below hal)
  have HF := hide hf
  have HF2 := hide hf2
  have HB := hide hb
  have HL := hide hl
  have HAL := hide hal
  have HM0 := hide m0
  have HM1 := hide m1
  have HM2 := hide m2
  have HW := hide hW
  have HSZ := hide hsz
  have d0 : (((w.alloc (.cells #[.slice a1 ls.length c1] 30)).alloc (.cells #[.slice a2 bs.length c2] 30)).alloc (.cells #[.slice none 0 0] 30)).cell? ⟨w.heap.size, 0, none⟩ = some (.slice a1 ls.length c1) := by rw [hW]; exact m0.cell
  obtain ⟨gb, hgb⟩ := bp_ex (GdT ls)
  have HGB := hide hgb
  obtain ⟨tb, htb⟩ := bp_ex (GdT bs)
  have HTB := hide htb
  clear hv hu hf hf2 hco hco2 hb hl hgb htb hW hal m0 m1 m2 hsz
  cases gb
  · have HN := hide (show ok = false from HB.out.no (fun h => by have := HGB.out.yes h.1; cases this))
    have HN2 := hide (HL.out.2 HN.out)
    go_enter Tryz.func19, Tryz.ntmps19
    go_wp2_with fail
    rw [HW.out]
    refine (spec_gt _ ls false _ HV.out HF.out HCO.out HGB.out).mono ?_
    rintro e w2 ⟨rfl, hb2⟩
    have r1 := (HM2.out.down hb2).cell
    have r2 := (HM2.out.down hb2).thaw
    have hbw := HAL.out.trans (hb2.mono HAL.out.size)
    clear hb2 d0
    go_wp2
    exact bodyPost_ret (v := .tuple #[.agg #[.slice none 0 0], .bool false]) (by simp [results, Tryz.results19, go_sem, r1]) rfl ⟨⟨_, [], by rw [HN.out], OwnP.nil _ _, HN2.out.symm⟩, hbw.setCell (by simp; omega) _⟩
  · have HG := hide (HGB.out.1 rfl)
    cases tb
    · have HN := hide (show ok = false from HB.out.no (fun h => by have := HTB.out.yes h.2.1; cases this))
      have HN2 := hide (HL.out.2 HN.out)
      go_enter Tryz.func19, Tryz.ntmps19
      go_wp2_with fail
      rw [HW.out]
      refine (spec_gt _ ls true _ HV.out HF.out HCO.out HGB.out).mono ?_
      rintro e w2 ⟨rfl, hb2⟩
      clear d0
      have d1 := (HM1.out.down hb2).cell
      go_wp2_with fail
      refine (spec_gt _ bs false _ (HU.out.below hb2) HF2.out HCO2.out HTB.out).mono ?_
      rintro e w3 ⟨rfl, hb3⟩
      have hba := hb2.trans (hb3.mono hb2.size)
      have r1 := (HM2.out.down hba).cell
      have r2 := (HM2.out.down hba).thaw
      have hbw := HAL.out.trans (hba.mono HAL.out.size)
      clear hb2 hb3 hba d1
      go_wp2
      exact bodyPost_ret (v := .tuple #[.agg #[.slice none 0 0], .bool false]) (by simp [results, Tryz.results19, go_sem, r1]) rfl ⟨⟨_, [], by rw [HN.out], OwnP.nil _ _, HN2.out.symm⟩, hbw.setCell (by simp; omega) _⟩
    · have HT := hide (HTB.out.1 rfl)
      have h12 := HT.out.1
      have h13 := HG.out.1
      have hml := mge_len (a := ls) (b := bs) bs.length (Nat.le_refl _)
      rw [List.take_length] at hml
      have HGA := hide (mge_good HG.out.2 (b := bs) HT.out.2.1)
      have HBO := hide (show BP ok (GdT (mge ls bs)) from ⟨fun hk => ⟨(HB.out.1 hk).2.2, HGA.out⟩, fun hk => HB.out.2 ⟨HG.out, HT.out, hk.1⟩⟩)
      go_enter Tryz.func19, Tryz.ntmps19
      go_wp2_with fail
      rw [HW.out]
      refine (spec_gt _ ls true _ HV.out HF.out HCO.out HGB.out).mono ?_
      rintro e w2 ⟨rfl, hb2⟩
      clear d0
      have d1 := (HM1.out.down hb2).cell
      go_wp2_with fail
      refine (spec_gt _ bs true _ (HU.out.below hb2) HF2.out HCO2.out HTB.out).mono ?_
      rintro e w3 ⟨rfl, hb3⟩
      have hba := hb2.trans (hb3.mono hb2.size)
      clear hb2 hb3 d1
      have d0 := (HM0.out.down hba).cell
      have d1 := (HM1.out.down hba).cell
      go_wp2_with fail
      refine (spec_merge _ _ ls bs _ (HV.out.below hba) (HU.out.below hba) HCO.out HG.out HT.out).mono ?_
      rintro e w5 ⟨⟨r5, ps5, rfl, hO5, hps5⟩, hb5⟩
      have hdn : ∀ o, Below w5.heap.size w5 (w5.alloc o) := fun o => (Below.refl _ _).alloc (Nat.le_refl _) o
      obtain ⟨a5, c5, rfl⟩ := hO5.form
      obtain ⟨w6, hw6⟩ : ∃ w6, w5.alloc (.cells #[.slice a5 ps5.length c5] 30) = w6 := ⟨_, rfl⟩
      have h6 : M.One w6 w5.heap.size (.slice a5 ps5.length c5) 30 := by rw [← hw6]; exact heap_alloc_new _ _
      have h56 : Below w5.heap.size w5 w6 := by rw [← hw6]; exact hdn _
      have hW6 := hba.trans ((hb5.trans (h56.mono hb5.size)).mono hba.size)
      have HO6 := hide ((hO5.mono hba.size).down h56)
      have HPS := hide hps5
      have HB6 := hide h6
      have hx6 : BrsOf w6 (.slice a5 ps5.length c5) (mge ls bs) := by have := HO6.out.brs; rwa [hps5] at this
      have HX6 := hide hx6
      have d6 := h6.cell
      rw [← hw6] at d6
      have HW6 := hide hw6
      have HCP := hide HO6.out.capOk
      have HFA := hide (HGA.out.fine (by omega))
      clear hO5 hps5 h6 h56 hx6 hw6 hdn hb5 hba d0 d1
      go_wp2_with fail
      rw [HW6.out]
      refine (spec_gt _ (mge ls bs) ok _ HX6.out HFA.out HCP.out HBO.out).mono ?_
      rintro e w7 ⟨rfl, hb7⟩
      have hW7 := hW6.trans (hb7.mono hW6.size)
      have r1 := (HM2.out.down hW7).cell
      have r2 := (HM2.out.down hW7).thaw
      have d7 := (HB6.out.down hb7).cell
      have hbw := HAL.out.trans (hW7.mono HAL.out.size)
      have HSZ2 := HSZ.out
      have HO7 := hide (HO6.out.down hb7)
      clear d6 hb7 HX6 HB6 hW6 HO6 HW6
      cases ok
      · have HN2 := hide (HL.out.2 rfl)
        go_wp2
        exact bodyPost_ret (v := .tuple #[.agg #[.slice none 0 0], .bool false]) (by simp [results, Tryz.results19, go_sem, r1]) rfl ⟨⟨_, [], rfl, OwnP.nil _ _, HN2.out.symm⟩, hbw.setCell (by simp; omega) _⟩
      · have HN2 := hide (HL.out.1 rfl)
        go_wp2
        exact bodyPost_ret (v := .tuple #[.agg #[.slice a5 ps5.length c5], .bool true]) (by simp [results, Tryz.results19, go_sem, r1]) rfl ⟨⟨_, ps5, rfl, (HO7.out.set_low (by omega) _).mono (by omega), by rw [HPS.out, HN2.out]⟩, hbw.setCell (by simp; omega) _⟩
end Go.Proofs.YtcbkeabfnldmhaaGreatDoor

/-
  The law's look whether marks are still there, on branches and tellings.
-/
namespace Go.Proofs.YtcbkeabfnldmhaaGreatDoor
open Go.RowKit M
open Go.Sort (grow)
namespace M
theorem mkP_at : ∀ (k0 : Nat) (ps : Prs) (k : Nat) (p : Value × Evs), ps[k]? = some p → (mkP k0 ps)[k]? = some (p.1, mkE (k0 + 4 * evn (ps.take k)) p.2.length)
  | k0, [], k, p, h => by simp at h
  | k0, q :: r, 0, p, h => by simp at h; subst h; simp [mkP, evn]
  | k0, q :: r, k + 1, p, h => by
    have := mkP_at (k0 + 4 * q.2.length) r k p (by simpa using h)
    simp only [mkP, List.getElem?_cons_succ, List.take_succ_cons, evn]
    rw [this]
    congr 3; omega
theorem evn_le {n : Nat} : ∀ {ps : Prs}, (∀ p ∈ ps, p.2.length ≤ n) → evn ps ≤ n * ps.length
  | [], _ => by simp [evn]
  | p :: r, h => by
    have h1 := h p (by simp)
    have h2 := evn_le (ps := r) (fun q hq => h q (by simp [hq]))
    simp only [evn, List.length_cons, Nat.mul_succ]
    omega
theorem vsP_len2 (k : Nat) (ps : Prs) : (mkP k ps).length = ps.length := mkP_len k ps
end M
set_option maxHeartbeats 2000000 in
theorem held_brs (B k0 : Nat) (v : Value) (ps : Prs) (w : World) (h : OwnP w B v (mkP k0 ps)) (hn : ps.length ≤ 1048576) (hl : ∀ p ∈ ps, p.2.length ≤ 1048576) (h1 : 1 ≤ k0) (hk0 : k0 + 4 * evn ps ≤ 20000000) :
    Calls Tryz.prog 58 #[v, .int .i64 (k0 : Int)] w fun e w' => e = .returned (.int .i64 ((k0 + 4 * evn ps : Nat) : Int)) ∧ Below w.heap.size w w' := by
  have HP := hide h
  have HL := hide hl
  obtain ⟨a, cap, hv⟩ := h.form
  rw [mkP_len] at hv
  subst hv
  clear h hl
  go_enter Tryz.func58, Tryz.ntmps58
  go_wp2
  go_loopw [1, 5] (fun x i wr => ∃ k q : Nat, k ≤ ps.length ∧ i = .int .i64 k ∧ x = .int .i64 q ∧ Hid (q = k0 + 4 * evn (ps.take k)) ∧ q ≤ 20000000 ∧ Below w.heap.size w wr) (fun _ i _ => ps.length - (intOf i).toNat)
  case atStart => exact ⟨0, k0, Nat.zero_le _, rfl, rfl, hide (by simp [evn]), by omega, Below.refl _ _⟩
  case round =>
    obtain ⟨k, q, hk, rfl, rfl, HQ, hq, hbw⟩ := hrel
    by_cases hlt : k < ps.length
    · obtain ⟨u, es, he⟩ : ∃ u es, ps[k]? = some (u, es) := ⟨ps[k].1, ps[k].2, List.getElem?_eq_getElem hlt⟩
      have hat := mkP_at k0 ps k (u, es) he
      rw [← HQ.out] at hat
      have hO := HP.out.down hbw
      rcases hO.split with ⟨h0, h0'⟩ | ⟨g, cap', hva, hB, hgl, -⟩
      · have := congrArg List.length h0'
        rw [mkP_len, List.length_nil] at this
        omega
      · simp only [Value.slice.injEq] at hva
        obtain ⟨rfl, -, -⟩ := hva
        have hcc := own1_cellm hO.row (j := k) (x := u) (vsP_at hat)
        have hev := hO.evs _ (List.mem_of_getElem? hat)
        have hsl : SliceOf wr u (mkE q es.length) := hev.slice
        obtain ⟨au, cu, hu⟩ := hsl.form
        rw [mkE_len] at hu
        subst hu
        have hle := HL.out _ (List.mem_of_getElem? he)
        have htk : evn (ps.take (k + 1)) = evn (ps.take k) + es.length := by
          rw [take_snocB he, evn_app]; simp [evn]
        have hq3 : q + 4 * es.length ≤ 20000000 := by
          have := HQ.out
          have := evn_take_le ps (k + 1)
          omega
        have hq1 : 1 ≤ q := by have := HQ.out; omega
        have HQ2 := hide (show q + 4 * es.length = k0 + 4 * evn (ps.take (k + 1)) by rw [htk, HQ.out]; omega)
        have HSL := hide hsl
        have hle2 : es.length ≤ 1048576 := hle
        have hkn : ¬ (((q + 4 * es.length : Nat) : Int) < 0) := by omega
        clear hat hO hev hsl hle htk he HQ
        go_wp2_with fail
        refine (held_evs _ q es.length _ HSL.out hle2 hq1 (by omega)).mono ?_
        rintro e w1 ⟨rfl, hb⟩
        have hb2 := hbw.trans (hb.mono hbw.size)
        clear hb hcc HSL
        go_wp2
        go_roundw
        case rel => exact ⟨k + 1, q + 4 * es.length, by omega, by go_num, rfl, HQ2, hq3, hb2⟩
        case measure => simp [intOf]; omega
    · obtain rfl : k = ps.length := by omega
      have hQ := HQ.out
      rw [List.take_length] at hQ
      have HQ2 := hide hQ
      clear hQ HQ HL HP
      go_wp2
      go_ret
      exact ⟨ret_int (by rw [HQ2.out]), hbw⟩
set_option maxHeartbeats 1000000 in
theorem held_tell (B k0 : Nat) (v : Value) (ps : Prs) (w : World) (h : OwnP w B v (mkP k0 ps)) (hn : ps.length ≤ 1048576) (hl : ∀ p ∈ ps, p.2.length ≤ 1048576) (h1 : 1 ≤ k0) (hk0 : k0 + 4 * evn ps ≤ 20000000) :
    Calls Tryz.prog 18 #[.agg #[v], .int .i64 (k0 : Int)] w fun e w' => e = .returned (.int .i64 ((k0 + 4 * evn ps : Nat) : Int)) ∧ Below w.heap.size w w' := by
  have HL := hide hl
  have hal := (Below.refl w.heap.size w).alloc (Nat.le_refl _) (.cells #[v] 30)
  have HP := hide (h.down hal)
  obtain ⟨a, cap, hv⟩ := h.form
  rw [mkP_len] at hv
  subst hv
  have hkn : ¬ (((k0 + 4 * evn ps : Nat) : Int) < 0) := by omega
  obtain ⟨mm, hmm⟩ : ∃ mm, k0 + 4 * evn ps = mm := ⟨_, rfl⟩
  have HMM := hide hmm
  rw [hmm] at hkn ⊢
  clear h hl hmm
  go_enter Tryz.func18, Tryz.ntmps18
  go_wp2_with fail
  refine (held_brs B k0 _ ps _ HP.out hn HL.out h1 hk0).mono ?_
  rw [HMM.out]
  rintro e w1 ⟨rfl, hb⟩
  have hbw := hal.trans (hb.mono hal.size)
  clear hb hal HP
  go_wp2
  go_ret
  exact ⟨rfl, hbw⟩
end Go.Proofs.YtcbkeabfnldmhaaGreatDoor
