/-
  The signals that are lost, in the specification's text.
-/
import Derived.Test.YtjgopjnkkhkcnaaGreatDoorBrYs
import Derived.Test.YtjgopjnkkhkcnaaGreatDoorBrP
import Derived.Test.YtjgopjnkkhkcnaaGreatDoorStXS
namespace Go.Proofs.YtjgopjnkkhkcnaaGreatDoor
open Go.RowKit M
open Clk (upd upd_same upd_other)
open Go.Sort (grow)
namespace M
theorem sgB_short {b : Evs} (h : Tl b) : (sgB b).length ≤ 30 := (h.2.2.1.2.1.good (Nat.le_refl _)).2.2.1.1
theorem allS_short : ∀ {bs : Brs}, (∀ b ∈ bs, Tl b) → (allS bs).length ≤ 30 * bs.length
  | [], _ => by simp [allS]
  | b :: r, h => by
    have h1 := sgB_short (h b (by simp))
    have h2 := allS_short (bs := r) (fun c hc => h c (by simp [hc]))
    rw [allS, List.length_append, List.length_cons]; omega
theorem lsl_short {bs : Brs} (hg : GdT bs) : (lsl bs).length ≤ 780 := by
  have h1 := lst_len (keptOf bs) (allS bs) []
  have h2 := allS_short hg.2.1
  have h3 := hg.1
  unfold lsl
  simp at h1
  omega
theorem lin_kept {kept out : Txs} {n : ByteArray} (h : n ∈ kept) : lin kept out n = out := by unfold lin; rw [if_pos (has_iff.2 h)]
theorem lin_old {kept out : Txs} {n : ByteArray} (h1 : ¬ n ∈ kept) (h : n ∈ out) : lin kept out n = out := by
  unfold lin; rw [if_neg (fun e => h1 (has_iff.1 e)), if_pos (has_iff.2 h)]
theorem lin_new {kept out : Txs} {n : ByteArray} (h1 : ¬ n ∈ kept) (h : ¬ n ∈ out) : lin kept out n = tog out n := by
  unfold lin; rw [if_neg (fun e => h1 (has_iff.1 e)), if_neg (fun e => h (has_iff.1 e))]
theorem lst_step {kp ns L : Txs} {j : Nat} {y : ByteArray} (h : ns[j]? = some y) : lst kp (ns.take (j + 1)) L = lin kp (lst kp (ns.take j) L) y := by
  obtain ⟨hk, rfl⟩ := List.getElem?_eq_some_iff.1 h
  rw [List.take_succ_eq_append_getElem hk, lst_snoc]
end M
set_option maxRecDepth 20000 in
set_option maxHeartbeats 8000000 in
theorem spec_lost (v : Value) (bs : Brs) (w : World) (hv : BrsOf w v bs) (hf : FineS bs) (hg : GdT bs) :
    Calls Tryz.prog 130 #[v] w fun e w' => (∃ a n c, e = .returned (.slice a n c) ∧ OwnT w' w.heap.size (.slice a n c) (lsl bs)) ∧ Below w.heap.size w w' := by
  have HV := hide hv
  have HF := hide hf
  have HG := hide hg
  have hn := hf.1
  have h12 := hg.1
  obtain ⟨a1, c1, rfl⟩ := hv.form
  by_cases h0 : bs.length = 0
  · have HL := hide (show lsl bs = [] by
      have : bs = [] := List.eq_nil_of_length_eq_zero h0
      subst this; rfl)
    have HCI := hide (show curI bs bs.length = -1 by unfold curI; rw [if_pos h0])
    have hneg : (-1 : Int) < 0 := by decide
    clear h0 hv hf hg
    go_enter Tryz.func130, Tryz.ntmps130
    go_wp2_with fail
    refine (spec_current _ bs _ HV.out HF.out HG.out).mono ?_
    rw [HCI.out]
    rintro e w3 ⟨rfl, hb3⟩
    go_wp2
    go_ret
    exact ⟨⟨_, _, _, rfl, by rw [HL.out]; exact OwnT.nil _ _⟩, hb3⟩
  have hp : 0 < bs.length := by omega
  obtain ⟨q, hq⟩ : ∃ q, cur bs bs.length = q := ⟨_, rfl⟩
  have HCI := hide (show curI bs bs.length = (q : Int) by unfold curI; rw [if_neg h0, hq])
  have hcb := cur_b hp
  rw [hq] at hcb
  have HCU := hide (show cB bs = curB bs from if_neg (fun h => by subst h; simp at h0))
  obtain ⟨g0, off0, rfl, hlg0, a2, c2, hc, hs⟩ := hv.at hcb
  have hql := (List.getElem?_eq_some_iff.1 hcb).1
  have hzl : ¬ ((q : Int) < 0) := by omega
  have hi0 : (0 : Int) ≤ (q : Int) := by omega
  have hi1 : (q : Int) < (bs.length : Int) := by omega
  have HT := hide (hg.2.1 (curB bs) (List.mem_of_getElem? (cur_b hp)))
  have HS := hide hs
  have HCE := hide hc
  have HCF := hide (hf.2 (curB bs) (List.mem_of_getElem? (cur_b hp)))
  clear h0 hq hcb hc hs hv hf hg
  go_enter Tryz.func130, Tryz.ntmps130
  go_wp2_with fail
  refine (spec_current _ bs _ HV.out HF.out HG.out).mono ?_
  rw [HCI.out]
  rintro e w3 ⟨rfl, hb3⟩
  have d1 := (hb3.cell (p := ⟨g0, off0 + q, none⟩) hlg0).trans HCE.out
  go_wp2_with fail
  refine (spec_fold _ (curB bs) (curB bs).length _ (HS.out.below hb3) HCF.out.1 HCF.out.2 HT.out.2.2.1).mono ?_
  rintro e w4 ⟨⟨u0, u1, rfl, hA4⟩, hb4⟩
  obtain ⟨kp, hkp⟩ : ∃ kp, keptOf bs = kp := ⟨_, rfl⟩
  obtain ⟨s, hs⟩ : ∃ s, sk (curB bs) (curB bs).length = s := ⟨_, rfl⟩
  have hsk : s.sg = kp := by rw [← hs, ← hkp]; unfold keptOf sgB; rw [HCU.out]
  have hkl : kp.length ≤ 1048576 := by
    have := sgB_short HT.out
    rw [← hkp]; unfold keptOf; rw [HCU.out]; omega
  rw [hs] at hA4 ⊢
  obtain ⟨x0, n0, rfl⟩ := hA4.q.1.form
  obtain ⟨x1, n1, rfl⟩ := hA4.q.2.form
  have hb14 := hb3.trans (hb4.mono hb3.size)
  have hal := (Below.refl w4.heap.size w4).alloc (Nat.le_refl _) (.cells (sarr (.slice x0 s.sg.length n0) (.slice x1 s.tm.length n1) s) 154)
  have HBX := hide (show Blk (w4.alloc (.cells (sarr (.slice x0 s.sg.length n0) (.slice x1 s.tm.length n1) s) 154)) w4.heap.size 6 (sq (.slice x0 s.sg.length n0) (.slice x1 s.tm.length n1) s) 154 from new6 w4 _ _ _ _ _ _ 154)
  have HKT := hide (show TxsOf (w4.alloc (.cells (sarr (.slice x0 s.sg.length n0) (.slice x1 s.tm.length n1) s) 154)) (.slice x0 s.sg.length n0) kp from by
    have := hA4.q.1.below hal
    rw [hsk] at this
    rw [hsk]; exact this)
  have hb5 := hb14.trans (hal.mono hb14.size)
  obtain ⟨w5, hw5⟩ : ∃ w5, w4.alloc (.cells (sarr (.slice x0 s.sg.length n0) (.slice x1 s.tm.length n1) s) 154) = w5 := ⟨_, rfl⟩
  rw [hw5] at HBX HKT hb5
  have hg5 : w.heap.size ≤ w5.heap.size := hb5.size
  have HW5 := hide hw5
  have HKP := hide hkp
  have HSG := hide hsk
  clear hs hsk hkp hw5 hal hb14 hb4 hb3 hA4 d1 HT HS HCE HCF
  go_wp2_with fail
  rw [HW5.out]
  clear HW5
  go_loopw [6, 28] (fun x i wr => ∃ (k n c : Nat) (ao : Option Addr), k ≤ bs.length ∧ i = .int .i64 k ∧ x = .slice ao n c ∧ Hid (OwnT wr w.heap.size (.slice ao n c) (lst kp (allS (bs.take k)) [])) ∧ Hid ((lst kp (allS (bs.take k)) []).length ≤ 60 * k) ∧ Below w5.heap.size w5 wr) (fun _ i _ => bs.length - (intOf i).toNat)
  case atStart => exact ⟨0, 0, 0, none, Nat.zero_le _, rfl, rfl, hide (OwnT.nil _ _), hide (by simp [allS, lst]), Below.refl _ _⟩
  case round =>
    obtain ⟨k, n, c, ao, hk, rfl, rfl, HO, HN, hbr⟩ := hrel
    by_cases hlt : k < bs.length
    · obtain ⟨es, he⟩ : ∃ e, bs[k]? = some e := ⟨bs[k], List.getElem?_eq_getElem hlt⟩
      have hW1 := hb5.trans (hbr.mono hb5.size)
      obtain ⟨g, off, hgg, hlg, a2', c2', hc, hs⟩ := HV.out.at he
      simp only [Option.some.injEq, Addr.mk.injEq, and_true] at hgg
      obtain ⟨rfl, rfl⟩ := hgg
      have hcw := (hW1.cell (p := ⟨g0, off0 + k, none⟩) hlg).trans hc
      have hal2 := (Below.refl wr.heap.size wr).alloc (Nat.le_refl _) (.cells #[.slice a2' es.length c2'] 148)
      have q0 : (wr.alloc (.cells #[.slice a2' es.length c2'] 148)).cell? ⟨wr.heap.size, 0, none⟩ = some (.slice a2' es.length c2') := one_new wr _ _
      have htl := HG.out.2.1 es (List.mem_of_getElem? he)
      have hfe := HF.out.2 es (List.mem_of_getElem? he)
      have HES := hide he
      have HSE := hide (hs.below (hW1.trans (hal2.mono hW1.size)))
      have HTL := hide htl
      have HFE := hide hfe
      clear hc hs htl hfe he hW1
      go_wp2_with fail
      refine (spec_fold _ es es.length _ HSE.out HFE.out.1 HFE.out.2 HTL.out.2.2.1).mono ?_
      rintro e w6 ⟨⟨y0, y1, rfl, hA6⟩, hb6⟩
      obtain ⟨ns, hns⟩ : ∃ ns, sgB es = ns := ⟨_, rfl⟩
      have hnl : ns.length ≤ 30 := by rw [← hns]; exact sgB_short HTL.out
      obtain ⟨t, ht⟩ : ∃ t, sk es es.length = t := ⟨_, rfl⟩
      have hts : t.sg = ns := by rw [← ht, ← hns]; rfl
      rw [ht] at hA6 ⊢
      obtain ⟨z0, m0, rfl⟩ := hA6.q.1.form
      obtain ⟨z1, m1, rfl⟩ := hA6.q.2.form
      have hr6 := hal2.trans (hb6.mono hal2.size)
      have hal7 := (Below.refl w6.heap.size w6).alloc (Nat.le_refl _) (.cells (sarr (.slice z0 t.sg.length m0) (.slice z1 t.tm.length m1) t) 154)
      have HBX7 := hide (show Blk (w6.alloc (.cells (sarr (.slice z0 t.sg.length m0) (.slice z1 t.tm.length m1) t) 154)) w6.heap.size 6 (sq (.slice z0 t.sg.length m0) (.slice z1 t.tm.length m1) t) 154 from new6 w6 _ _ _ _ _ _ 154)
      have HNT := hide (show TxsOf (w6.alloc (.cells (sarr (.slice z0 t.sg.length m0) (.slice z1 t.tm.length m1) t) 154)) (.slice z0 t.sg.length m0) ns from by
        have := hA6.q.1.below hal7
        rw [hts] at this
        rw [hts]; exact this)
      have hr7 := hr6.trans (hal7.mono hr6.size)
      have hbr7 := hbr.trans (hr7.mono hbr.size)
      have HO7 := hide (HO.out.down hr7)
      obtain ⟨w7, hw7⟩ : ∃ w7, w6.alloc (.cells (sarr (.slice z0 t.sg.length m0) (.slice z1 t.tm.length m1) t) 154) = w7 := ⟨_, rfl⟩
      rw [hw7] at HBX7 HNT hr7 hbr7 HO7
      have HTS := hide hts
      have HNS := hide hns
      have htl2 : t.sg.length = ns.length := by rw [hts]
      rw [htl2] at hw7
      have HW7 := hide hw7
      obtain ⟨L, hL⟩ : ∃ L, lst kp (allS (bs.take k)) [] = L := ⟨_, rfl⟩
      have hLr : Rise L := by rw [← hL]; exact (lst_rise kp _ [] rise_nil).1
      have HLR := hide hLr
      have HLE := hide hL
      rw [hL] at HO7 HN
      obtain ⟨⟨-, -, -, -, b4, -⟩, -⟩ := HBX7.out.hex
      rw [htl2] at HNT b4 ⊢
      clear hL hLr ht hts hns hw7 hal7 hr6 hal2 hb6 hA6 q0 hcw HO HSE HTL HFE htl2 hr7
      go_wp2_with fail
      rw [HW7.out]
      clear HW7
      go_wp2_with fail
      go_loopw [6, 41] (fun x i wi => ∃ (j n c : Nat) (ao : Option Addr), j ≤ ns.length ∧ i = .int .i64 j ∧ x = .slice ao n c ∧ Hid (OwnT wi w.heap.size (.slice ao n c) (lst kp (ns.take j) L)) ∧ Hid ((lst kp (ns.take j) L).length ≤ 60 * k + j) ∧ Below w7.heap.size w7 wi) (fun _ i _ => ns.length - (intOf i).toNat)
      case atStart => exact ⟨0, n, c, ao, Nat.zero_le _, rfl, rfl, hide (by have := HO7.out; simpa [lst] using this), hide (by have := HN.out; simpa [lst] using this), Below.refl _ _⟩
      case round =>
        obtain ⟨j, m, cm, am, hj, rfl, rfl, HM, HML, hbi⟩ := hrel
        clear HO7
        by_cases hjl : j < ns.length
        · obtain ⟨y, hy⟩ : ∃ y, ns[j]? = some y := ⟨ns[j], List.getElem?_eq_getElem hjl⟩
          obtain ⟨za, zc, hzv, hzr⟩ := HNT.out
          simp only [Value.slice.injEq, true_and] at hzv
          obtain ⟨rfl, rfl⟩ := hzv
          obtain ⟨zb, zo, rfl, hzl, hzc⟩ := hzr (by omega)
          have c0 := (hbi.cell (p := ⟨zb, zo + j, none⟩) hzl).trans (hzc j y hy)
          have hwi := hbr7.trans (hbi.mono hbr7.size)
          have HKW := hide (HKT.out.below hwi)
          obtain ⟨⟨-, -, -, -, s4, -⟩, -⟩ := (HBX.out.down hwi).hex
          have HST := hide (lst_step (kp := kp) (L := L) hy)
          obtain ⟨M, hM⟩ : ∃ M, lst kp (ns.take j) L = M := ⟨_, rfl⟩
          have hMr : Rise M := by rw [← hM]; exact (lst_rise kp _ L HLR.out).1
          have HMR := hide hMr
          rw [hM] at HM HML HST
          have hml : M.length ≤ 1048576 := by have := HML.out; omega
          have HMT := hide HM.out.txs
          clear hM hMr hzr hzc hy hwi
          rcases Classical.em (y ∈ kp) with hk1 | hk1
          · have HNX := hide (show OwnT wr w.heap.size (.slice am m cm) (lst kp (ns.take (j + 1)) L) ∧ (lst kp (ns.take (j + 1)) L).length ≤ 60 * k + (j + 1) from by
              rw [HST.out, lin_kept hk1]; exact ⟨HM.out, by have := HML.out; omega⟩)
            go_wp2_with fail
            refine (at_txs _ kp y _ HKW.out hkl).mono ?_
            rintro e wv ⟨⟨r, rfl, hr⟩, hwv⟩
            rw [hwv]
            have hr0 : ¬ r < 0 := by have := hr.2 hk1; omega
            clear hwv wv hr hk1 c0 HM HKW HST HML HMT
            go_wp2
            go_roundw
            case rel => exact ⟨j + 1, m, cm, am, by omega, by go_num, rfl, hide HNX.out.1, hide HNX.out.2, hbi⟩
            case measure => simp [intOf]; omega
          · rcases Classical.em (y ∈ M) with hk2 | hk2
            · have HNX := hide (show OwnT wr w.heap.size (.slice am m cm) (lst kp (ns.take (j + 1)) L) ∧ (lst kp (ns.take (j + 1)) L).length ≤ 60 * k + (j + 1) from by
                rw [HST.out, lin_old hk1 hk2]; exact ⟨HM.out, by have := HML.out; omega⟩)
              go_wp2_with fail
              refine (at_txs _ kp y _ HKW.out hkl).mono ?_
              rintro e wv ⟨⟨r, rfl, hr⟩, hwv⟩
              rw [hwv]
              have hr0 : r < 0 := by
                rcases Int.lt_or_le r 0 with h | h
                · exact h
                · exact absurd (hr.1 h) hk1
              clear hwv wv hr hk1
              go_wp2_with fail
              refine (at_txs _ M y _ HMT.out hml).mono ?_
              rintro e wv ⟨⟨r2, rfl, hr2⟩, hwv⟩
              rw [hwv]
              have hr20 : ¬ r2 < 0 := by have := hr2.2 hk2; omega
              clear hwv wv hr2 hk2 c0 HM HKW HST HML HMT
              go_wp2
              go_roundw
              case rel => exact ⟨j + 1, m, cm, am, by omega, by go_num, rfl, hide HNX.out.1, hide HNX.out.2, hbi⟩
              case measure => simp [intOf]; omega
            · have HNW := hide (show lst kp (ns.take (j + 1)) L = tog M y from by rw [HST.out, lin_new hk1 hk2])
              go_wp2_with fail
              refine (at_txs _ kp y _ HKW.out hkl).mono ?_
              rintro e wv ⟨⟨r, rfl, hr⟩, hwv⟩
              rw [hwv]
              have hr0 : r < 0 := by
                rcases Int.lt_or_le r 0 with h | h
                · exact h
                · exact absurd (hr.1 h) hk1
              clear hwv wv hr hk1
              go_wp2_with fail
              refine (at_txs _ M y _ HMT.out hml).mono ?_
              rintro e wv ⟨⟨r2, rfl, hr2⟩, hwv⟩
              rw [hwv]
              have hr20 : r2 < 0 := by
                rcases Int.lt_or_le r2 0 with h | h
                · exact h
                · exact absurd (hr2.1 h) hk2
              clear hwv wv hr2 hk2
              go_wp2_with fail
              refine (turn_txs _ M y _ HMT.out hml HMR.out).mono ?_
              rintro e w9 ⟨⟨a9, n9, c9, rfl, hO9⟩, hb9⟩
              have hgw : w.heap.size ≤ wr.heap.size := by have := hbr7.size; have := hbi.size; omega
              have HO9 := hide (show OwnT w9 w.heap.size (.slice a9 n9 c9) (lst kp (ns.take (j + 1)) L) from by rw [HNW.out]; exact hO9.mono hgw)
              have HL9 := hide (show (lst kp (ns.take (j + 1)) L).length ≤ 60 * k + (j + 1) from by rw [HNW.out]; have := tog_len M y; have := HML.out; omega)
              have hb92 := hbi.trans (hb9.mono hbi.size)
              clear hO9 hb9 c0 HM HKW HST HML HMT HNW s4
              go_wp2
              go_roundw
              case rel => exact ⟨j + 1, n9, c9, a9, by omega, by go_num, rfl, HO9, HL9, hb92⟩
              case measure => simp [intOf]; omega
        · obtain rfl : j = ns.length := by omega
          have HS1 := hide (show lst kp (allS (bs.take (k + 1))) [] = lst kp ns L by rw [take_snocB HES.out, allS_app, lst_app, HLE.out]; simp [allS, HNS.out])
          have HM2 := hide (show OwnT wr w.heap.size (.slice am m cm) (lst kp (allS (bs.take (k + 1))) []) from by
            have := HM.out
            rw [List.take_length] at this
            rw [HS1.out]; exact this)
          have HN3 := hide (show (lst kp (allS (bs.take (k + 1))) []).length ≤ 60 * (k + 1) from by
            have := HML.out
            rw [List.take_length] at this
            rw [HS1.out]; omega)
          have hbx := hbr7.trans (hbi.mono hbr7.size)
          clear HM HS1 HN HML
          go_wp2
          go_roundw
          case rel => exact ⟨k + 1, m, cm, am, by omega, by go_num, rfl, HM2, HN3, hbx⟩
          case measure => simp [intOf]; omega
    · obtain rfl : k = bs.length := by omega
      have HZ := hide (show OwnT wr w.heap.size (.slice ao n c) (lsl bs) from by
        have := HO.out; rw [List.take_length] at this; unfold lsl; rw [HKP.out]; exact this)
      clear HO HN
      go_wp2
      go_ret
      exact ⟨⟨_, _, _, rfl, HZ.out⟩, hb5.trans (hbr.mono hb5.size)⟩
end Go.Proofs.YtjgopjnkkhkcnaaGreatDoor
