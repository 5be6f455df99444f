/-
  Texts that follow one another, joined: BrLs, BrLL.
-/
import Derived.Test.YtcbkeabfnldmhaaGreatDoorJoin43
import Derived.Test.YtcbkeabfnldmhaaGreatDoorJoin44
import Derived.Test.YtcbkeabfnldmhaaGreatDoorJoin23
import Derived.Deep.RegionWith
/-
  The signals that are lost, in the specification's text.
-/
namespace Go.Proofs.YtcbkeabfnldmhaaGreatDoor
open Go.RowKit M
open Clk (upd upd_same upd_other)
open Go.Sort (grow)
namespace M
theorem sgB_short {b : Evs} (h : Tl b) : (sgB b).length ≤ 30 := (h.2.2.1.2.1.good (Nat.le_refl _)).2.2.1.1
theorem allS_short : ∀ {bs : Brs}, (∀ b ∈ bs, Tl b) → (allS bs).length ≤ 30 * bs.length
  | [], _ => by simp [allS]
  | b :: r, h => by
    have h1 := sgB_short (h b (by simp))
    have h2 := allS_short (bs := r) (fun c hc => h c (by simp [hc]))
    rw [allS, List.length_append, List.length_cons]; omega
theorem lsl_short {bs : Brs} (hg : GdT bs) : (lsl bs).length ≤ 780 := by
  have h1 := lst_len (keptOf bs) (allS bs) []
  have h2 := allS_short hg.2.1
  have h3 := hg.1
  unfold lsl
  simp at h1
  omega
theorem lin_kept {kept out : Txs} {n : ByteArray} (h : n ∈ kept) : lin kept out n = out := by unfold lin; rw [if_pos (has_iff.2 h)]
theorem lin_old {kept out : Txs} {n : ByteArray} (h1 : ¬ n ∈ kept) (h : n ∈ out) : lin kept out n = out := by
  unfold lin; rw [if_neg (fun e => h1 (has_iff.1 e)), if_pos (has_iff.2 h)]
theorem lin_new {kept out : Txs} {n : ByteArray} (h1 : ¬ n ∈ kept) (h : ¬ n ∈ out) : lin kept out n = tog out n := by
  unfold lin; rw [if_neg (fun e => h1 (has_iff.1 e)), if_neg (fun e => h (has_iff.1 e))]
theorem lst_step {kp ns L : Txs} {j : Nat} {y : ByteArray} (h : ns[j]? = some y) : lst kp (ns.take (j + 1)) L = lin kp (lst kp (ns.take j) L) y := by
  obtain ⟨hk, rfl⟩ := List.getElem?_eq_some_iff.1 h
  rw [List.take_succ_eq_append_getElem hk, lst_snoc]
end M
set_option maxRecDepth 20000 in
set_option maxHeartbeats 8000000 in
theorem spec_lost (v : Value) (bs : Brs) (w : World) (hv : BrsOf w v bs) (hf : FineS bs) (hg : GdT bs) :
    Calls Tryz.prog 60 #[v] w fun e w' => (∃ a n c, e = .returned (.slice a n c) ∧ OwnT w' w.heap.size (.slice a n c) (lsl bs)) ∧ Below w.heap.size w w' := by
  have HV := hide hv
  have HF := hide hf
  have HG := hide hg
  have hn := hf.1
  have h12 := hg.1
  obtain ⟨a1, c1, rfl⟩ := hv.form
  by_cases h0 : bs.length = 0
  · have HL := hide (show lsl bs = [] by
      have : bs = [] := List.eq_nil_of_length_eq_zero h0
      subst this; rfl)
    have HCI := hide (show curI bs bs.length = -1 by unfold curI; rw [if_pos h0])
    have hneg : (-1 : Int) < 0 := by decide
    clear h0 hv hf hg
    go_enter Tryz.func60, Tryz.ntmps60
    go_wp2_with fail
    refine (spec_current _ bs _ HV.out HF.out HG.out).mono ?_
    rw [HCI.out]
    rintro e w3 ⟨rfl, hb3⟩
    go_wp2
    go_ret
    exact ⟨⟨_, _, _, rfl, by rw [HL.out]; exact OwnT.nil _ _⟩, hb3⟩
  have hp : 0 < bs.length := by omega
  obtain ⟨q, hq⟩ : ∃ q, cur bs bs.length = q := ⟨_, rfl⟩
  have HCI := hide (show curI bs bs.length = (q : Int) by unfold curI; rw [if_neg h0, hq])
  have hcb := cur_b hp
  rw [hq] at hcb
  have HCU := hide (show cB bs = curB bs from if_neg (fun h => by subst h; simp at h0))
  obtain ⟨g0, off0, rfl, hlg0, a2, c2, hc, hs⟩ := hv.at hcb
  have hql := (List.getElem?_eq_some_iff.1 hcb).1
  have hzl : ¬ ((q : Int) < 0) := by omega
  have hi0 : (0 : Int) ≤ (q : Int) := by omega
  have hi1 : (q : Int) < (bs.length : Int) := by omega
  have HT := hide (hg.2.1 (curB bs) (List.mem_of_getElem? (cur_b hp)))
  have HS := hide hs
  have HCE := hide hc
  have HCF := hide (hf.2 (curB bs) (List.mem_of_getElem? (cur_b hp)))
  clear h0 hq hcb hc hs hv hf hg
  go_enter Tryz.func60, Tryz.ntmps60
  go_wp2_with fail
  refine (spec_current _ bs _ HV.out HF.out HG.out).mono ?_
  rw [HCI.out]
  rintro e w3 ⟨rfl, hb3⟩
  have d1 := (hb3.cell (p := ⟨g0, off0 + q, none⟩) hlg0).trans HCE.out
  go_wp2_with fail
  refine (spec_fold _ (curB bs) (curB bs).length _ (HS.out.below hb3) HCF.out.1 HCF.out.2 HT.out.2.2.1).mono ?_
  rintro e w4 ⟨⟨u0, u1, rfl, hA4⟩, hb4⟩
  obtain ⟨kp, hkp⟩ : ∃ kp, keptOf bs = kp := ⟨_, rfl⟩
  obtain ⟨s, hs⟩ : ∃ s, sk (curB bs) (curB bs).length = s := ⟨_, rfl⟩
  have hsk : s.sg = kp := by rw [← hs, ← hkp]; unfold keptOf sgB; rw [HCU.out]
  have hkl : kp.length ≤ 1048576 := by
    have := sgB_short HT.out
    rw [← hkp]; unfold keptOf; rw [HCU.out]; omega
  rw [hs] at hA4 ⊢
  obtain ⟨x0, n0, rfl⟩ := hA4.q.1.form
  obtain ⟨x1, n1, rfl⟩ := hA4.q.2.form
  have hb14 := hb3.trans (hb4.mono hb3.size)
  have hal := (Below.refl w4.heap.size w4).alloc (Nat.le_refl _) (.cells (sarr (.slice x0 s.sg.length n0) (.slice x1 s.tm.length n1) s) 106)
  have HBX := hide (show Blk (w4.alloc (.cells (sarr (.slice x0 s.sg.length n0) (.slice x1 s.tm.length n1) s) 106)) w4.heap.size 6 (sq (.slice x0 s.sg.length n0) (.slice x1 s.tm.length n1) s) 106 from new6 w4 _ _ _ _ _ _ 106)
  have HKT := hide (show TxsOf (w4.alloc (.cells (sarr (.slice x0 s.sg.length n0) (.slice x1 s.tm.length n1) s) 106)) (.slice x0 s.sg.length n0) kp from by
    have := hA4.q.1.below hal
    rw [hsk] at this
    rw [hsk]; exact this)
  have hb5 := hb14.trans (hal.mono hb14.size)
  obtain ⟨w5, hw5⟩ : ∃ w5, w4.alloc (.cells (sarr (.slice x0 s.sg.length n0) (.slice x1 s.tm.length n1) s) 106) = w5 := ⟨_, rfl⟩
  rw [hw5] at HBX HKT hb5
  have hg5 : w.heap.size ≤ w5.heap.size := hb5.size
  have HW5 := hide hw5
  have HKP := hide hkp
  have HSG := hide hsk
  clear hs hsk hkp hw5 hal hb14 hb4 hb3 hA4 d1 HT HS HCE HCF
  go_wp2_with fail
  rw [HW5.out]
  clear HW5
  go_loopw [6, 28] (fun x i wr => ∃ (k n c : Nat) (ao : Option Addr), k ≤ bs.length ∧ i = .int .i64 k ∧ x = .slice ao n c ∧ Hid (OwnT wr w.heap.size (.slice ao n c) (lst kp (allS (bs.take k)) [])) ∧ Hid ((lst kp (allS (bs.take k)) []).length ≤ 60 * k) ∧ Below w5.heap.size w5 wr) (fun _ i _ => bs.length - (intOf i).toNat)
  case atStart => exact ⟨0, 0, 0, none, Nat.zero_le _, rfl, rfl, hide (OwnT.nil _ _), hide (by simp [allS, lst]), Below.refl _ _⟩
  case round =>
    obtain ⟨k, n, c, ao, hk, rfl, rfl, HO, HN, hbr⟩ := hrel
    by_cases hlt : k < bs.length
    · obtain ⟨es, he⟩ : ∃ e, bs[k]? = some e := ⟨bs[k], List.getElem?_eq_getElem hlt⟩
      have hW1 := hb5.trans (hbr.mono hb5.size)
      obtain ⟨g, off, hgg, hlg, a2', c2', hc, hs⟩ := HV.out.at he
      simp only [Option.some.injEq, Addr.mk.injEq, and_true] at hgg
      obtain ⟨rfl, rfl⟩ := hgg
      have hcw := (hW1.cell (p := ⟨g0, off0 + k, none⟩) hlg).trans hc
      have hal2 := (Below.refl wr.heap.size wr).alloc (Nat.le_refl _) (.cells #[.slice a2' es.length c2'] 55)
      have q0 : (wr.alloc (.cells #[.slice a2' es.length c2'] 55)).cell? ⟨wr.heap.size, 0, none⟩ = some (.slice a2' es.length c2') := one_new wr _ _
      have htl := HG.out.2.1 es (List.mem_of_getElem? he)
      have hfe := HF.out.2 es (List.mem_of_getElem? he)
      have HES := hide he
      have HSE := hide (hs.below (hW1.trans (hal2.mono hW1.size)))
      have HTL := hide htl
      have HFE := hide hfe
      clear hc hs htl hfe he hW1
      go_wp2_with fail
      refine (spec_fold _ es es.length _ HSE.out HFE.out.1 HFE.out.2 HTL.out.2.2.1).mono ?_
      rintro e w6 ⟨⟨y0, y1, rfl, hA6⟩, hb6⟩
      obtain ⟨ns, hns⟩ : ∃ ns, sgB es = ns := ⟨_, rfl⟩
      have hnl : ns.length ≤ 30 := by rw [← hns]; exact sgB_short HTL.out
      obtain ⟨t, ht⟩ : ∃ t, sk es es.length = t := ⟨_, rfl⟩
      have hts : t.sg = ns := by rw [← ht, ← hns]; rfl
      rw [ht] at hA6 ⊢
      obtain ⟨z0, m0, rfl⟩ := hA6.q.1.form
      obtain ⟨z1, m1, rfl⟩ := hA6.q.2.form
      have hr6 := hal2.trans (hb6.mono hal2.size)
      have hal7 := (Below.refl w6.heap.size w6).alloc (Nat.le_refl _) (.cells (sarr (.slice z0 t.sg.length m0) (.slice z1 t.tm.length m1) t) 106)
      have HBX7 := hide (show Blk (w6.alloc (.cells (sarr (.slice z0 t.sg.length m0) (.slice z1 t.tm.length m1) t) 106)) w6.heap.size 6 (sq (.slice z0 t.sg.length m0) (.slice z1 t.tm.length m1) t) 106 from new6 w6 _ _ _ _ _ _ 106)
      have HNT := hide (show TxsOf (w6.alloc (.cells (sarr (.slice z0 t.sg.length m0) (.slice z1 t.tm.length m1) t) 106)) (.slice z0 t.sg.length m0) ns from by
        have := hA6.q.1.below hal7
        rw [hts] at this
        rw [hts]; exact this)
      have hr7 := hr6.trans (hal7.mono hr6.size)
      have hbr7 := hbr.trans (hr7.mono hbr.size)
      have HO7 := hide (HO.out.down hr7)
      obtain ⟨w7, hw7⟩ : ∃ w7, w6.alloc (.cells (sarr (.slice z0 t.sg.length m0) (.slice z1 t.tm.length m1) t) 106) = w7 := ⟨_, rfl⟩
      rw [hw7] at HBX7 HNT hr7 hbr7 HO7
      have HTS := hide hts
      have HNS := hide hns
      have htl2 : t.sg.length = ns.length := by rw [hts]
      rw [htl2] at hw7
      have HW7 := hide hw7
      obtain ⟨L, hL⟩ : ∃ L, lst kp (allS (bs.take k)) [] = L := ⟨_, rfl⟩
      have hLr : Rise L := by rw [← hL]; exact (lst_rise kp _ [] rise_nil).1
      have HLR := hide hLr
      have HLE := hide hL
      rw [hL] at HO7 HN
      obtain ⟨⟨-, -, -, -, b4, -⟩, -⟩ := HBX7.out.hex
      rw [htl2] at HNT b4 ⊢
      clear hL hLr ht hts hns hw7 hal7 hr6 hal2 hb6 hA6 q0 hcw HO HSE HTL HFE htl2 hr7
      go_wp2_with fail
      rw [HW7.out]
      clear HW7
      go_wp2_with fail
      go_loopw [6, 41] (fun x i wi => ∃ (j n c : Nat) (ao : Option Addr), j ≤ ns.length ∧ i = .int .i64 j ∧ x = .slice ao n c ∧ Hid (OwnT wi w.heap.size (.slice ao n c) (lst kp (ns.take j) L)) ∧ Hid ((lst kp (ns.take j) L).length ≤ 60 * k + j) ∧ Below w7.heap.size w7 wi) (fun _ i _ => ns.length - (intOf i).toNat)
      case atStart => exact ⟨0, n, c, ao, Nat.zero_le _, rfl, rfl, hide (by have := HO7.out; simpa [lst] using this), hide (by have := HN.out; simpa [lst] using this), Below.refl _ _⟩
      case round =>
        obtain ⟨j, m, cm, am, hj, rfl, rfl, HM, HML, hbi⟩ := hrel
        clear HO7
        by_cases hjl : j < ns.length
        · obtain ⟨y, hy⟩ : ∃ y, ns[j]? = some y := ⟨ns[j], List.getElem?_eq_getElem hjl⟩
          obtain ⟨za, zc, hzv, hzr⟩ := HNT.out
          simp only [Value.slice.injEq, true_and] at hzv
          obtain ⟨rfl, rfl⟩ := hzv
          obtain ⟨zb, zo, rfl, hzl, hzc⟩ := hzr (by omega)
          have c0 := (hbi.cell (p := ⟨zb, zo + j, none⟩) hzl).trans (hzc j y hy)
          have hwi := hbr7.trans (hbi.mono hbr7.size)
          have HKW := hide (HKT.out.below hwi)
          obtain ⟨⟨-, -, -, -, s4, -⟩, -⟩ := (HBX.out.down hwi).hex
          have HST := hide (lst_step (kp := kp) (L := L) hy)
          obtain ⟨M, hM⟩ : ∃ M, lst kp (ns.take j) L = M := ⟨_, rfl⟩
          have hMr : Rise M := by rw [← hM]; exact (lst_rise kp _ L HLR.out).1
          have HMR := hide hMr
          rw [hM] at HM HML HST
          have hml : M.length ≤ 1048576 := by have := HML.out; omega
          have HMT := hide HM.out.txs
          clear hM hMr hzr hzc hy hwi
          rcases Classical.em (y ∈ kp) with hk1 | hk1
          · have HNX := hide (show OwnT wr w.heap.size (.slice am m cm) (lst kp (ns.take (j + 1)) L) ∧ (lst kp (ns.take (j + 1)) L).length ≤ 60 * k + (j + 1) from by
              rw [HST.out, lin_kept hk1]; exact ⟨HM.out, by have := HML.out; omega⟩)
            go_wp2_with fail
            refine (at_txs _ kp y _ HKW.out hkl).mono ?_
            rintro e wv ⟨⟨r, rfl, hr⟩, hwv⟩
            rw [hwv]
            have hr0 : ¬ r < 0 := by have := hr.2 hk1; omega
            clear hwv wv hr hk1 c0 HM HKW HST HML HMT
            go_wp2
            go_roundw
            case rel => exact ⟨j + 1, m, cm, am, by omega, by go_num, rfl, hide HNX.out.1, hide HNX.out.2, hbi⟩
            case measure => simp [intOf]; omega
          · rcases Classical.em (y ∈ M) with hk2 | hk2
            · have HNX := hide (show OwnT wr w.heap.size (.slice am m cm) (lst kp (ns.take (j + 1)) L) ∧ (lst kp (ns.take (j + 1)) L).length ≤ 60 * k + (j + 1) from by
                rw [HST.out, lin_old hk1 hk2]; exact ⟨HM.out, by have := HML.out; omega⟩)
              go_wp2_with fail
              refine (at_txs _ kp y _ HKW.out hkl).mono ?_
              rintro e wv ⟨⟨r, rfl, hr⟩, hwv⟩
              rw [hwv]
              have hr0 : r < 0 := by
                rcases Int.lt_or_le r 0 with h | h
                · exact h
                · exact absurd (hr.1 h) hk1
              clear hwv wv hr hk1
              go_wp2_with fail
              refine (at_txs _ M y _ HMT.out hml).mono ?_
              rintro e wv ⟨⟨r2, rfl, hr2⟩, hwv⟩
              rw [hwv]
              have hr20 : ¬ r2 < 0 := by have := hr2.2 hk2; omega
              clear hwv wv hr2 hk2 c0 HM HKW HST HML HMT
              go_wp2
              go_roundw
              case rel => exact ⟨j + 1, m, cm, am, by omega, by go_num, rfl, hide HNX.out.1, hide HNX.out.2, hbi⟩
              case measure => simp [intOf]; omega
            · have HNW := hide (show lst kp (ns.take (j + 1)) L = tog M y from by rw [HST.out, lin_new hk1 hk2])
              go_wp2_with fail
              refine (at_txs _ kp y _ HKW.out hkl).mono ?_
              rintro e wv ⟨⟨r, rfl, hr⟩, hwv⟩
              rw [hwv]
              have hr0 : r < 0 := by
                rcases Int.lt_or_le r 0 with h | h
                · exact h
                · exact absurd (hr.1 h) hk1
              clear hwv wv hr hk1
              go_wp2_with fail
              refine (at_txs _ M y _ HMT.out hml).mono ?_
              rintro e wv ⟨⟨r2, rfl, hr2⟩, hwv⟩
              rw [hwv]
              have hr20 : r2 < 0 := by
                rcases Int.lt_or_le r2 0 with h | h
                · exact h
                · exact absurd (hr2.1 h) hk2
              clear hwv wv hr2 hk2
              go_wp2_with fail
              refine (turn_txs _ M y _ HMT.out hml HMR.out).mono ?_
              rintro e w9 ⟨⟨a9, n9, c9, rfl, hO9⟩, hb9⟩
              have hgw : w.heap.size ≤ wr.heap.size := by have := hbr7.size; have := hbi.size; omega
              have HO9 := hide (show OwnT w9 w.heap.size (.slice a9 n9 c9) (lst kp (ns.take (j + 1)) L) from by rw [HNW.out]; exact hO9.mono hgw)
              have HL9 := hide (show (lst kp (ns.take (j + 1)) L).length ≤ 60 * k + (j + 1) from by rw [HNW.out]; have := tog_len M y; have := HML.out; omega)
              have hb92 := hbi.trans (hb9.mono hbi.size)
              clear hO9 hb9 c0 HM HKW HST HML HMT HNW s4
              go_wp2
              go_roundw
              case rel => exact ⟨j + 1, n9, c9, a9, by omega, by go_num, rfl, HO9, HL9, hb92⟩
              case measure => simp [intOf]; omega
        · obtain rfl : j = ns.length := by omega
          have HS1 := hide (show lst kp (allS (bs.take (k + 1))) [] = lst kp ns L by rw [take_snocB HES.out, allS_app, lst_app, HLE.out]; simp [allS, HNS.out])
          have HM2 := hide (show OwnT wr w.heap.size (.slice am m cm) (lst kp (allS (bs.take (k + 1))) []) from by
            have := HM.out
            rw [List.take_length] at this
            rw [HS1.out]; exact this)
          have HN3 := hide (show (lst kp (allS (bs.take (k + 1))) []).length ≤ 60 * (k + 1) from by
            have := HML.out
            rw [List.take_length] at this
            rw [HS1.out]; omega)
          have hbx := hbr7.trans (hbi.mono hbr7.size)
          clear HM HS1 HN HML
          go_wp2
          go_roundw
          case rel => exact ⟨k + 1, m, cm, am, by omega, by go_num, rfl, HM2, HN3, hbx⟩
          case measure => simp [intOf]; omega
    · obtain rfl : k = bs.length := by omega
      have HZ := hide (show OwnT wr w.heap.size (.slice ao n c) (lsl bs) from by
        have := HO.out; rw [List.take_length] at this; unfold lsl; rw [HKP.out]; exact this)
      clear HO HN
      go_wp2
      go_ret
      exact ⟨⟨_, _, _, rfl, HZ.out⟩, hb5.trans (hbr.mono hb5.size)⟩
set_option maxHeartbeats 2000000 in
theorem spec_lostO (v : Value) (bs : Brs) (b : Bool) (l : Txs) (w : World) (hv : BrsOf w v bs) (hf : FineS bs) (hco : CapOk v) (hb : BP b (GdT bs)) (hl : (b = true → l = lsl bs) ∧ (b = false → l = [])) :
    Calls Tryz.prog 21 #[.agg #[v]] w fun e w' => SgA w w' e l b ∧ Below w.heap.size w w' := by
  have hal := (Below.refl w.heap.size w).alloc (Nat.le_refl _) (.cells #[v] 30)
  have HV := hide (hv.below hal)
  have HC := hide (show M.One (w.alloc (.cells #[v] 30)) w.heap.size v 30 from heap_alloc_new w _)
  have HF := hide hf
  have HB := hide hb
  have HL := hide hl
  have HCO := hide hco
  obtain ⟨a1, c1, rfl⟩ := hv.form
  have d0 := HC.out.cell
  clear hv hf hco hb hl
  cases b
  · have HN2 := hide (HL.out.2 rfl)
    go_enter Tryz.func21, Tryz.ntmps21
    go_wp2_with fail
    refine (spec_gt _ bs false _ HV.out HF.out HCO.out HB.out).mono ?_
    rintro e w2 ⟨rfl, hb2⟩
    have hbw := hal.trans (hb2.mono hal.size)
    go_wp2
    go_ret2
    exact ⟨⟨_, _, _, rfl, by rw [HN2.out]; exact OwnT.nil _ _⟩, hbw⟩
  · have HG := hide (HB.out.1 rfl)
    have HN2 := hide (HL.out.1 rfl)
    go_enter Tryz.func21, Tryz.ntmps21
    go_wp2_with fail
    refine (spec_gt _ bs true _ HV.out HF.out HCO.out HB.out).mono ?_
    rintro e w2 ⟨rfl, hb2⟩
    have hbw := hal.trans (hb2.mono hal.size)
    clear d0
    have d0 := (HC.out.down hb2).cell
    go_wp2_with fail
    refine (spec_lost _ bs _ (HV.out.below hb2) HF.out HG.out).mono ?_
    rintro e w3 ⟨⟨a3, n3, c3, rfl, hO⟩, hb3⟩
    have HO := hide (hO.mono hbw.size)
    have hbx := hbw.trans (hb3.mono hbw.size)
    clear hO hb3 hb2 hbw d0
    go_wp2
    go_ret2
    exact ⟨⟨_, _, _, rfl, by rw [HN2.out]; exact HO.out⟩, hbx⟩
end Go.Proofs.YtcbkeabfnldmhaaGreatDoor

/-
  The law of LostSignals, walked: it returns true and turns nothing that was there. Condition: the table knownKinds reads as the program's text lays it.
-/
namespace Go.Proofs.YtcbkeabfnldmhaaGreatDoor
open Go.RowKit M
open Go.Sort (grow)
set_option maxRecDepth 20000 in
set_option maxHeartbeats 8000000 in
theorem law_lostSignals (v : Value) (bs : Brs) (w : World) (hv : BrsOf w v bs) (hf : Fine bs) (hkk : KK w) :
    Calls Tryz.prog 5 #[.agg #[v]] w fun e w' => e = .returned (.bool true) ∧ Below w.heap.size w w' := by
  obtain ⟨a, c, rfl⟩ := hv.form
  have hb0 := (Below.refl w.heap.size w).alloc (Nat.le_refl _) (.cells #[.slice a bs.length c] 24)
  have HN0 := hide (show M.One (w.alloc (.cells #[.slice a bs.length c] 24)) w.heap.size (.slice a bs.length c) 24 from heap_alloc_new w _)
  have HV := hide hv
  have HF := hide hf
  have HK := hide hkk
  clear hv hf hkk
  by_cases hfit : bs.length + wb bs ≤ 1048576
  case neg =>
    have hz := szr_no (left := 1048576) (n := bs.length + wb bs) (by omega)
    have hge : szr 1048576 (bs.length + wb bs) < 0 := by rw [hz]; omega
    clear hz HN0
    go_enter Tryz.func5, Tryz.ntmps5
    go_wp2_with fail
    refine (sz_tell _ bs 1048576 _ (HV.out.below hb0) HF.out (by decide) (by decide)).mono ?_
    rintro e w1 ⟨rfl, hb⟩
    have hb1 := hb0.trans (hb.mono hb0.size)
    clear hb
    go_wp2
    go_ret
    exact ⟨rfl, hb1⟩
  have hz := szr_yes (left := 1048576) (n := bs.length + wb bs) (by omega)
  have hge : ¬ (szr 1048576 (bs.length + wb bs) < 0) := by rw [hz]; omega
  have HS := hide (fine_small HF.out hfit)
  obtain ⟨b, hb⟩ := bp_ex (GdT bs)
  have HB := hide hb
  obtain ⟨l, hl⟩ : ∃ l, (b = true → l = lsl bs) ∧ (b = false → l = []) := by
    cases b
    · exact ⟨[], by simp⟩
    · exact ⟨lsl bs, by simp⟩
  have HL := hide hl
  have hll : l.length ≤ 780 := by
    cases b
    · rw [hl.2 rfl]; simp
    · have h1 := hb.1 rfl
      rw [hl.1 rfl]
      exact lsl_short h1
  have hbb : (b != b) = false := by simp
  obtain ⟨mm, hmm⟩ : ∃ mm, 1 + l.length = mm := ⟨_, rfl⟩
  have hm0 : ¬ ((mm : Int) < 0) := by omega
  have hm1 : ((mm : Int) != (mm : Int)) = false := by simp
  have HMM := hide hmm
  have hwl : wb bs ≤ 1048576 := by omega
  have HWL := hide hwl
  clear hz hfit hb hl hmm hwl
  go_enter Tryz.func5, Tryz.ntmps5
  go_wp2_with fail
  refine (sz_tell _ bs 1048576 _ (HV.out.below hb0) HF.out (by decide) (by decide)).mono ?_
  rintro e w1 ⟨rfl, hb⟩
  have hb1 := hb0.trans (hb.mono hb0.size)
  have HN1 := hide (HN0.out.down hb)
  clear hb hb0 HN0
  have d0 := HN1.out.cell
  go_wp2_with fail
  refine (to_tell _ bs _ (HV.out.below hb1) HS.out).mono ?_
  rintro e w2 ⟨⟨g2, ps2, rfl, hO, hps⟩, hb⟩
  have hx := hO.brs
  rw [hps] at hx
  have HX2 := hide hx
  have hb2 := hb1.trans (hb.mono hb1.size)
  have HN2 := hide (HN1.out.down hb)
  clear hb hb1 hO hps hx HN1 d0
  go_wp2_with fail
  refine (spec_lostO _ bs b l _ HX2.out HS.out (Nat.le_refl _) HB.out HL.out).mono ?_
  rintro e A ⟨⟨a3, n3, c3, rfl, hO⟩, hb⟩
  have hW := hO.txs
  have HW := hide hW
  have hbA := hb2.trans (hb.mono hb2.size)
  have HNA := hide (HN2.out.down hb)
  have HVA := hide (HV.out.below hbA)
  clear hb hb2 HN2 HX2 hO hW
  have d0 := HNA.out.cell
  go_wp2_with fail
  refine (to_tell _ bs _ HVA.out HS.out).mono ?_
  rintro e w4 ⟨⟨g4, ps4, rfl, hO, hps⟩, hb4⟩
  obtain ⟨gY, hgY⟩ : ∃ gY, w4.heap.size = gY := ⟨_, rfl⟩
  have hdn := (Below.refl w4.heap.size w4).alloc (Nat.le_refl _) (.cells #[.slice (some ⟨g4, 0, none⟩) bs.length bs.length] 30)
  have hY := (show M.One (w4.alloc (.cells #[.slice (some ⟨g4, 0, none⟩) bs.length bs.length] 30)) w4.heap.size (.slice (some ⟨g4, 0, none⟩) bs.length bs.length) 30 from heap_alloc_new _ _)
  have hin : Within A.heap.size gY (.slice (some ⟨g4, 0, none⟩) bs.length bs.length) ps4 := by rw [← hgY]; exact hO.within
  have HIN := hide hin
  have HPS := hide hps
  obtain ⟨w5, hw5⟩ : ∃ w5, w4.alloc (.cells #[.slice (some ⟨g4, 0, none⟩) bs.length bs.length] 30) = w5 := ⟨_, rfl⟩
  rw [hw5] at hdn hY
  rw [hgY] at hY
  have HP5 := hide (hO.down hdn)
  have HY5 := hide hY
  have hs5 := hb4.trans (hdn.mono hb4.size)
  have hgs : A.heap.size ≤ gY := by rw [← hgY]; exact hb4.size
  have Hw5 := hide hw5
  have HgY := hide hgY
  clear hb4 hO hps hdn hY hin hw5 hgY d0
  go_wp2_with fail
  rw [Hw5.out, HgY.out]
  have hx5 : BrsOf w5 (.slice (some ⟨g4, 0, none⟩) bs.length bs.length) bs := by have := HP5.out.brs; rwa [HPS.out] at this
  have HX5 := hide hx5
  clear hx5
  have e0 := HY5.out.cell
  go_wp2_with fail
  refine (impl_lost _ bs b l _ HX5.out HS.out (HK.out.below (hbA.trans (hs5.mono hbA.size))) HB.out HL.out).mono ?_
  rintro e w6 ⟨⟨a6, n6, c6, rfl, hO6⟩, hb⟩
  have hs6 := hs5.trans (hb.mono hs5.size)
  have HG6 := hide hO6
  have HP6 := hide (HP5.out.down hb)
  have HY6 := hide (HY5.out.down hb)
  have hgw5 : gY < w5.heap.size := HY5.out.lt
  clear hb hs5 hO6 HP5 HY5 HX5 Hw5 HgY e0
  go_wp2_with fail
  refine (eq_txs _ _ l _ HG6.out.txs (HW.out.below hs6) (by omega)).mono ?_
  rintro e w7 ⟨rfl, hb⟩
  have hs7 := hs6.trans (hb.mono hs6.size)
  have HG7 := hide (HG6.out.down hb)
  have HP7 := hide (HP6.out.down hb)
  have HY7 := hide (HY6.out.down hb)
  clear hb hs6 HG6 HP6 HY6
  have d0 := (HNA.out.down hs7).cell
  have e0 := HY7.out.cell
  have HMX := hide (show ∀ wx wy : World, wx.heap = w7.heap → Below wx.heap.size wx wy → wy.cell? ⟨gY, 0, none⟩ = some (.slice (some ⟨g4, 0, none⟩) bs.length bs.length) from fun wx wy hh hb => by
    have h : M.One wx gY (.slice (some ⟨g4, 0, none⟩) bs.length bs.length) 30 := by unfold M.One; rw [hh]; exact HY7.out
    exact (h.down hb).cell)
  have hx7 : BrsOf w7 (.slice (some ⟨g4, 0, none⟩) bs.length bs.length) bs := by have := HP7.out.brs; rwa [HPS.out] at this
  have HX7 := hide hx7
  clear hx7
  go_wp2_with fail
  go_cut [45] from 41 (fun bb wx => bb = .bool false ∧ Hid (Below w7.heap.size w7 wx))
  case first =>
    go_region_with (first | (go_at_call 11; refine (to_tell _ bs _ (HVA.out.below hs7.drew) HS.out).mono ?_; rintro e w8 ⟨⟨g8, ps8, rfl, hO8, hps8⟩, hb8⟩; have hx8 := hO8.brs; rw [hps8] at hx8; have HX8 := hide hx8; clear hx8 hO8 hps8; have m0 := HMX.out w7.drew w8 rfl hb8) | (go_at_call 14; refine (eq_tell _ _ bs _ ((HX7.out.below ((Below.refl w7.heap.size w7).drew)).below hb8) HX8.out HS.out).mono ?_; rintro e w9 ⟨rfl, hb9⟩))
    all_goals
      go_wp2_with fail
      go_meet
      exact ⟨rfl, hide (((Below.refl w7.heap.size w7).drew.trans hb8).trans (hb9.mono hb8.size))⟩
  case rest =>
  rename World => wC
  obtain ⟨rfl, HCC⟩ := hcut
  have hs8 := hs7.trans (HCC.out.mono hs7.size)
  have HG8 := hide (HG7.out.down HCC.out)
  have HP8 := hide (HP7.out.down HCC.out)
  have HY8 := hide (HY7.out.down HCC.out)
  clear hs7 HG7 HP7 HY7 HCC HMX HX7 d0 e0
  have e0 := HY8.out.cell
  have HEV := hide (show evn ps4 ≤ 1048576 from by
    have := evn_wb ps4
    rw [HPS.out] at this
    have := HWL.out
    omega)
  go_wp2_with fail
  refine (mark_tell A.heap.size 1 A.heap.size gY _ ps4 _ HP8.out HIN.out (by have := congrArg List.length HPS.out; rw [bsP_len] at this; rw [this]; exact HS.out.1) (fun p hp => (HS.out.2 p.2 (by rw [← HPS.out]; exact List.mem_map_of_mem hp)).1) (Nat.le_refl _) (by have := HEV.out; omega)).mono ?_
  rintro e w9 ⟨rfl, -, hk⟩
  have hs9 := hs8.trans (hk.below (Nat.le_refl _) hs8.size)
  have HG9 := hide (HG8.out.keptB hk (by omega))
  have hkn : ¬ (((1 + 4 * evn ps4 : Nat) : Int) < 0) := by omega
  obtain ⟨kk, hkk2⟩ : ∃ kk, 1 + 4 * evn ps4 = kk := ⟨_, rfl⟩
  rw [hkk2] at hkn ⊢
  clear hs8 HG8 HP8 HY8 hk e0 HIN HEV hkk2
  go_wp2_with fail
  refine (eq_txs _ _ l _ HG9.out.txs (HW.out.below hs9) (by omega)).mono ?_
  rintro e w10 ⟨rfl, hb⟩
  have hs10 := hs9.trans (hb.mono hs9.size)
  have HG10 := hide (HG9.out.down hb)
  clear hb hs9 HG9
  go_wp2_with fail
  refine (mark_txs w5.heap.size 1 _ l _ HG10.out (by omega) (Nat.le_refl _) (by omega)).mono ?_
  rw [HMM.out]
  rintro e w11 ⟨rfl, hm, hg⟩
  have hs11 : Below A.heap.size A w11 := hs10.grown hg hs10.size (fun j hj => by have := (HG10.out.lt hj).1; omega)
  have HG11 := hide hm
  clear hm hg hs10 HG10
  go_wp2_with fail
  refine (held_txs _ 1 l.length _ HG11.out.txs (by omega) (Nat.le_refl _) (by omega)).mono ?_
  rw [HMM.out]
  rintro e w12 ⟨rfl, hb⟩
  have hs12 := hs11.trans (hb.mono hs11.size)
  have HG12 := hide (HG11.out.down hb)
  clear hb hs11 HG11
  have d0 := (HNA.out.down hs12).cell
  go_wp2_with fail
  refine (to_tell _ bs _ (HVA.out.below hs12) HS.out).mono ?_
  rintro e w13 ⟨⟨g13, ps13, rfl, hO, hps⟩, hb⟩
  have hx := hO.brs
  rw [hps] at hx
  have HX13 := hide hx
  have hs13 := hs12.trans (hb.mono hs12.size)
  have HG13 := hide (HG12.out.down hb)
  clear hb hs12 HG12 hO hps hx d0
  go_wp2_with fail
  refine (impl_lost _ bs b l _ HX13.out HS.out (HK.out.below (hbA.trans (hs13.mono hbA.size))) HB.out HL.out).mono ?_
  rintro e w14 ⟨⟨a14, n14, c14, rfl, hO⟩, hb⟩
  have hs14 := hs13.trans (hb.mono hs13.size)
  have HG14 := hide (HG13.out.down hb)
  have HH14 := hide hO.txs
  clear hb hs13 HG13 hO HX13
  go_wp2_with fail
  refine (eq_txs _ _ l _ HH14.out (HW.out.below hs14) (by omega)).mono ?_
  rintro e w15 ⟨rfl, hb⟩
  have hs15 := hs14.trans (hb.mono hs14.size)
  have HG15 := hide (HG14.out.down hb)
  clear hb hs14 HG14 HH14
  go_wp2_with fail
  refine (held_txs _ 1 l.length _ HG15.out.txs (by omega) (Nat.le_refl _) (by omega)).mono ?_
  rw [HMM.out]
  rintro e w16 ⟨rfl, hb⟩
  have hs16 := hs15.trans (hb.mono hs15.size)
  have hbz := hbA.trans (hs16.mono hbA.size)
  clear hb hs15 HG15 HV HF HK HS HB HL HW HNA HVA HPS HWL HMM hs16
  go_wp2
  go_ret
  exact ⟨rfl, hbz⟩
end Go.Proofs.YtcbkeabfnldmhaaGreatDoor
