/-
  Texts that follow one another, joined: BrLs, RgQs, RgC6.
-/
import Derived.Test.YtfkeokglifpkoaaGreatDoorJoin32
import Derived.Test.YtfkeokglifpkoaaGreatDoorJoin42
import Derived.Test.YtfkeokglifpkoaaGreatDoorJoin19
import Derived.Test.YtfkeokglifpkoaaGreatDoorJoin36
import Derived.Test.YtfkeokglifpkoaaGreatDoorJoin41
/-
  The signals that are lost, in the specification's text.
-/
namespace Go.Proofs.YtfkeokglifpkoaaGreatDoor
open Go.RowKit M
open Clk (upd upd_same upd_other)
open Go.Sort (grow)
namespace M
theorem sgB_short {b : Evs} (h : Tl b) : (sgB b).length ≤ 30 := (h.2.2.1.2.1.good (Nat.le_refl _)).2.2.1.1
theorem allS_short : ∀ {bs : Brs}, (∀ b ∈ bs, Tl b) → (allS bs).length ≤ 30 * bs.length
  | [], _ => by simp [allS]
  | b :: r, h => by
    have h1 := sgB_short (h b (by simp))
    have h2 := allS_short (bs := r) (fun c hc => h c (by simp [hc]))
    rw [allS, List.length_append, List.length_cons]; omega
theorem lsl_short {bs : Brs} (hg : GdT bs) : (lsl bs).length ≤ 780 := by
  have h1 := lst_len (keptOf bs) (allS bs) []
  have h2 := allS_short hg.2.1
  have h3 := hg.1
  unfold lsl
  simp at h1
  omega
theorem lin_kept {kept out : Txs} {n : ByteArray} (h : n ∈ kept) : lin kept out n = out := by unfold lin; rw [if_pos (has_iff.2 h)]
theorem lin_old {kept out : Txs} {n : ByteArray} (h1 : ¬ n ∈ kept) (h : n ∈ out) : lin kept out n = out := by
  unfold lin; rw [if_neg (fun e => h1 (has_iff.1 e)), if_pos (has_iff.2 h)]
theorem lin_new {kept out : Txs} {n : ByteArray} (h1 : ¬ n ∈ kept) (h : ¬ n ∈ out) : lin kept out n = tog out n := by
  unfold lin; rw [if_neg (fun e => h1 (has_iff.1 e)), if_neg (fun e => h (has_iff.1 e))]
theorem lst_step {kp ns L : Txs} {j : Nat} {y : ByteArray} (h : ns[j]? = some y) : lst kp (ns.take (j + 1)) L = lin kp (lst kp (ns.take j) L) y := by
  obtain ⟨hk, rfl⟩ := List.getElem?_eq_some_iff.1 h
  rw [List.take_succ_eq_append_getElem hk, lst_snoc]
end M
set_option maxRecDepth 20000 in
set_option maxHeartbeats 8000000 in
theorem spec_lost (v : Value) (bs : Brs) (w : World) (hv : BrsOf w v bs) (hf : FineS bs) (hg : GdT bs) :
    Calls Tryz.prog 117 #[v] w fun e w' => (∃ a n c, e = .returned (.slice a n c) ∧ OwnT w' w.heap.size (.slice a n c) (lsl bs)) ∧ Below w.heap.size w w' := by
  have HV := hide hv
  have HF := hide hf
  have HG := hide hg
  have hn := hf.1
  have h12 := hg.1
  obtain ⟨a1, c1, rfl⟩ := hv.form
  by_cases h0 : bs.length = 0
  · have HL := hide (show lsl bs = [] by
      have : bs = [] := List.eq_nil_of_length_eq_zero h0
      subst this; rfl)
    have HCI := hide (show curI bs bs.length = -1 by unfold curI; rw [if_pos h0])
    have hneg : (-1 : Int) < 0 := by decide
    clear h0 hv hf hg
    go_enter Tryz.func117, Tryz.ntmps117
    go_wp2_with fail
    refine (spec_current _ bs _ HV.out HF.out HG.out).mono ?_
    rw [HCI.out]
    rintro e w3 ⟨rfl, hb3⟩
    go_wp2
    go_ret
    exact ⟨⟨_, _, _, rfl, by rw [HL.out]; exact OwnT.nil _ _⟩, hb3⟩
  have hp : 0 < bs.length := by omega
  obtain ⟨q, hq⟩ : ∃ q, cur bs bs.length = q := ⟨_, rfl⟩
  have HCI := hide (show curI bs bs.length = (q : Int) by unfold curI; rw [if_neg h0, hq])
  have hcb := cur_b hp
  rw [hq] at hcb
  have HCU := hide (show cB bs = curB bs from if_neg (fun h => by subst h; simp at h0))
  obtain ⟨g0, off0, rfl, hlg0, a2, c2, hc, hs⟩ := hv.at hcb
  have hql := (List.getElem?_eq_some_iff.1 hcb).1
  have hzl : ¬ ((q : Int) < 0) := by omega
  have hi0 : (0 : Int) ≤ (q : Int) := by omega
  have hi1 : (q : Int) < (bs.length : Int) := by omega
  have HT := hide (hg.2.1 (curB bs) (List.mem_of_getElem? (cur_b hp)))
  have HS := hide hs
  have HCE := hide hc
  have HCF := hide (hf.2 (curB bs) (List.mem_of_getElem? (cur_b hp)))
  clear h0 hq hcb hc hs hv hf hg
  go_enter Tryz.func117, Tryz.ntmps117
  go_wp2_with fail
  refine (spec_current _ bs _ HV.out HF.out HG.out).mono ?_
  rw [HCI.out]
  rintro e w3 ⟨rfl, hb3⟩
  have d1 := (hb3.cell (p := ⟨g0, off0 + q, none⟩) hlg0).trans HCE.out
  go_wp2_with fail
  refine (spec_fold _ (curB bs) (curB bs).length _ (HS.out.below hb3) HCF.out.1 HCF.out.2 HT.out.2.2.1).mono ?_
  rintro e w4 ⟨⟨u0, u1, rfl, hA4⟩, hb4⟩
  obtain ⟨kp, hkp⟩ : ∃ kp, keptOf bs = kp := ⟨_, rfl⟩
  obtain ⟨s, hs⟩ : ∃ s, sk (curB bs) (curB bs).length = s := ⟨_, rfl⟩
  have hsk : s.sg = kp := by rw [← hs, ← hkp]; unfold keptOf sgB; rw [HCU.out]
  have hkl : kp.length ≤ 1048576 := by
    have := sgB_short HT.out
    rw [← hkp]; unfold keptOf; rw [HCU.out]; omega
  rw [hs] at hA4 ⊢
  obtain ⟨x0, n0, rfl⟩ := hA4.q.1.form
  obtain ⟨x1, n1, rfl⟩ := hA4.q.2.form
  have hb14 := hb3.trans (hb4.mono hb3.size)
  have hal := (Below.refl w4.heap.size w4).alloc (Nat.le_refl _) (.cells (sarr (.slice x0 s.sg.length n0) (.slice x1 s.tm.length n1) s) 60)
  have HBX := hide (show Blk (w4.alloc (.cells (sarr (.slice x0 s.sg.length n0) (.slice x1 s.tm.length n1) s) 60)) w4.heap.size 6 (sq (.slice x0 s.sg.length n0) (.slice x1 s.tm.length n1) s) 60 from new6 w4 _ _ _ _ _ _ 60)
  have HKT := hide (show TxsOf (w4.alloc (.cells (sarr (.slice x0 s.sg.length n0) (.slice x1 s.tm.length n1) s) 60)) (.slice x0 s.sg.length n0) kp from by
    have := hA4.q.1.below hal
    rw [hsk] at this
    rw [hsk]; exact this)
  have hb5 := hb14.trans (hal.mono hb14.size)
  obtain ⟨w5, hw5⟩ : ∃ w5, w4.alloc (.cells (sarr (.slice x0 s.sg.length n0) (.slice x1 s.tm.length n1) s) 60) = w5 := ⟨_, rfl⟩
  rw [hw5] at HBX HKT hb5
  have hg5 : w.heap.size ≤ w5.heap.size := hb5.size
  have HW5 := hide hw5
  have HKP := hide hkp
  have HSG := hide hsk
  clear hs hsk hkp hw5 hal hb14 hb4 hb3 hA4 d1 HT HS HCE HCF
  go_wp2_with fail
  rw [HW5.out]
  clear HW5
  go_loopw [6, 28] (fun x i wr => ∃ (k n c : Nat) (ao : Option Addr), k ≤ bs.length ∧ i = .int .i64 k ∧ x = .slice ao n c ∧ Hid (OwnT wr w.heap.size (.slice ao n c) (lst kp (allS (bs.take k)) [])) ∧ Hid ((lst kp (allS (bs.take k)) []).length ≤ 60 * k) ∧ Below w5.heap.size w5 wr) (fun _ i _ => bs.length - (intOf i).toNat)
  case atStart => exact ⟨0, 0, 0, none, Nat.zero_le _, rfl, rfl, hide (OwnT.nil _ _), hide (by simp [allS, lst]), Below.refl _ _⟩
  case round =>
    obtain ⟨k, n, c, ao, hk, rfl, rfl, HO, HN, hbr⟩ := hrel
    by_cases hlt : k < bs.length
    · obtain ⟨es, he⟩ : ∃ e, bs[k]? = some e := ⟨bs[k], List.getElem?_eq_getElem hlt⟩
      have hW1 := hb5.trans (hbr.mono hb5.size)
      obtain ⟨g, off, hgg, hlg, a2', c2', hc, hs⟩ := HV.out.at he
      simp only [Option.some.injEq, Addr.mk.injEq, and_true] at hgg
      obtain ⟨rfl, rfl⟩ := hgg
      have hcw := (hW1.cell (p := ⟨g0, off0 + k, none⟩) hlg).trans hc
      have hal2 := (Below.refl wr.heap.size wr).alloc (Nat.le_refl _) (.cells #[.slice a2' es.length c2'] 81)
      have q0 : (wr.alloc (.cells #[.slice a2' es.length c2'] 81)).cell? ⟨wr.heap.size, 0, none⟩ = some (.slice a2' es.length c2') := one_new wr _ _
      have htl := HG.out.2.1 es (List.mem_of_getElem? he)
      have hfe := HF.out.2 es (List.mem_of_getElem? he)
      have HES := hide he
      have HSE := hide (hs.below (hW1.trans (hal2.mono hW1.size)))
      have HTL := hide htl
      have HFE := hide hfe
      clear hc hs htl hfe he hW1
      go_wp2_with fail
      refine (spec_fold _ es es.length _ HSE.out HFE.out.1 HFE.out.2 HTL.out.2.2.1).mono ?_
      rintro e w6 ⟨⟨y0, y1, rfl, hA6⟩, hb6⟩
      obtain ⟨ns, hns⟩ : ∃ ns, sgB es = ns := ⟨_, rfl⟩
      have hnl : ns.length ≤ 30 := by rw [← hns]; exact sgB_short HTL.out
      obtain ⟨t, ht⟩ : ∃ t, sk es es.length = t := ⟨_, rfl⟩
      have hts : t.sg = ns := by rw [← ht, ← hns]; rfl
      rw [ht] at hA6 ⊢
      obtain ⟨z0, m0, rfl⟩ := hA6.q.1.form
      obtain ⟨z1, m1, rfl⟩ := hA6.q.2.form
      have hr6 := hal2.trans (hb6.mono hal2.size)
      have hal7 := (Below.refl w6.heap.size w6).alloc (Nat.le_refl _) (.cells (sarr (.slice z0 t.sg.length m0) (.slice z1 t.tm.length m1) t) 60)
      have HBX7 := hide (show Blk (w6.alloc (.cells (sarr (.slice z0 t.sg.length m0) (.slice z1 t.tm.length m1) t) 60)) w6.heap.size 6 (sq (.slice z0 t.sg.length m0) (.slice z1 t.tm.length m1) t) 60 from new6 w6 _ _ _ _ _ _ 60)
      have HNT := hide (show TxsOf (w6.alloc (.cells (sarr (.slice z0 t.sg.length m0) (.slice z1 t.tm.length m1) t) 60)) (.slice z0 t.sg.length m0) ns from by
        have := hA6.q.1.below hal7
        rw [hts] at this
        rw [hts]; exact this)
      have hr7 := hr6.trans (hal7.mono hr6.size)
      have hbr7 := hbr.trans (hr7.mono hbr.size)
      have HO7 := hide (HO.out.down hr7)
      obtain ⟨w7, hw7⟩ : ∃ w7, w6.alloc (.cells (sarr (.slice z0 t.sg.length m0) (.slice z1 t.tm.length m1) t) 60) = w7 := ⟨_, rfl⟩
      rw [hw7] at HBX7 HNT hr7 hbr7 HO7
      have HTS := hide hts
      have HNS := hide hns
      have htl2 : t.sg.length = ns.length := by rw [hts]
      rw [htl2] at hw7
      have HW7 := hide hw7
      obtain ⟨L, hL⟩ : ∃ L, lst kp (allS (bs.take k)) [] = L := ⟨_, rfl⟩
      have hLr : Rise L := by rw [← hL]; exact (lst_rise kp _ [] rise_nil).1
      have HLR := hide hLr
      have HLE := hide hL
      rw [hL] at HO7 HN
      obtain ⟨⟨-, -, -, -, b4, -⟩, -⟩ := HBX7.out.hex
      rw [htl2] at HNT b4 ⊢
      clear hL hLr ht hts hns hw7 hal7 hr6 hal2 hb6 hA6 q0 hcw HO HSE HTL HFE htl2 hr7
      go_wp2_with fail
      rw [HW7.out]
      clear HW7
      go_wp2_with fail
      go_loopw [6, 41] (fun x i wi => ∃ (j n c : Nat) (ao : Option Addr), j ≤ ns.length ∧ i = .int .i64 j ∧ x = .slice ao n c ∧ Hid (OwnT wi w.heap.size (.slice ao n c) (lst kp (ns.take j) L)) ∧ Hid ((lst kp (ns.take j) L).length ≤ 60 * k + j) ∧ Below w7.heap.size w7 wi) (fun _ i _ => ns.length - (intOf i).toNat)
      case atStart => exact ⟨0, n, c, ao, Nat.zero_le _, rfl, rfl, hide (by have := HO7.out; simpa [lst] using this), hide (by have := HN.out; simpa [lst] using this), Below.refl _ _⟩
      case round =>
        obtain ⟨j, m, cm, am, hj, rfl, rfl, HM, HML, hbi⟩ := hrel
        clear HO7
        by_cases hjl : j < ns.length
        · obtain ⟨y, hy⟩ : ∃ y, ns[j]? = some y := ⟨ns[j], List.getElem?_eq_getElem hjl⟩
          obtain ⟨za, zc, hzv, hzr⟩ := HNT.out
          simp only [Value.slice.injEq, true_and] at hzv
          obtain ⟨rfl, rfl⟩ := hzv
          obtain ⟨zb, zo, rfl, hzl, hzc⟩ := hzr (by omega)
          have c0 := (hbi.cell (p := ⟨zb, zo + j, none⟩) hzl).trans (hzc j y hy)
          have hwi := hbr7.trans (hbi.mono hbr7.size)
          have HKW := hide (HKT.out.below hwi)
          obtain ⟨⟨-, -, -, -, s4, -⟩, -⟩ := (HBX.out.down hwi).hex
          have HST := hide (lst_step (kp := kp) (L := L) hy)
          obtain ⟨M, hM⟩ : ∃ M, lst kp (ns.take j) L = M := ⟨_, rfl⟩
          have hMr : Rise M := by rw [← hM]; exact (lst_rise kp _ L HLR.out).1
          have HMR := hide hMr
          rw [hM] at HM HML HST
          have hml : M.length ≤ 1048576 := by have := HML.out; omega
          have HMT := hide HM.out.txs
          clear hM hMr hzr hzc hy hwi
          rcases Classical.em (y ∈ kp) with hk1 | hk1
          · have HNX := hide (show OwnT wr w.heap.size (.slice am m cm) (lst kp (ns.take (j + 1)) L) ∧ (lst kp (ns.take (j + 1)) L).length ≤ 60 * k + (j + 1) from by
              rw [HST.out, lin_kept hk1]; exact ⟨HM.out, by have := HML.out; omega⟩)
            go_wp2_with fail
            refine (at_txs _ kp y _ HKW.out hkl).mono ?_
            rintro e wv ⟨⟨r, rfl, hr⟩, hwv⟩
            rw [hwv]
            have hr0 : ¬ r < 0 := by have := hr.2 hk1; omega
            clear hwv wv hr hk1 c0 HM HKW HST HML HMT
            go_wp2
            go_roundw
            case rel => exact ⟨j + 1, m, cm, am, by omega, by go_num, rfl, hide HNX.out.1, hide HNX.out.2, hbi⟩
            case measure => simp [intOf]; omega
          · rcases Classical.em (y ∈ M) with hk2 | hk2
            · have HNX := hide (show OwnT wr w.heap.size (.slice am m cm) (lst kp (ns.take (j + 1)) L) ∧ (lst kp (ns.take (j + 1)) L).length ≤ 60 * k + (j + 1) from by
                rw [HST.out, lin_old hk1 hk2]; exact ⟨HM.out, by have := HML.out; omega⟩)
              go_wp2_with fail
              refine (at_txs _ kp y _ HKW.out hkl).mono ?_
              rintro e wv ⟨⟨r, rfl, hr⟩, hwv⟩
              rw [hwv]
              have hr0 : r < 0 := by
                rcases Int.lt_or_le r 0 with h | h
                · exact h
                · exact absurd (hr.1 h) hk1
              clear hwv wv hr hk1
              go_wp2_with fail
              refine (at_txs _ M y _ HMT.out hml).mono ?_
              rintro e wv ⟨⟨r2, rfl, hr2⟩, hwv⟩
              rw [hwv]
              have hr20 : ¬ r2 < 0 := by have := hr2.2 hk2; omega
              clear hwv wv hr2 hk2 c0 HM HKW HST HML HMT
              go_wp2
              go_roundw
              case rel => exact ⟨j + 1, m, cm, am, by omega, by go_num, rfl, hide HNX.out.1, hide HNX.out.2, hbi⟩
              case measure => simp [intOf]; omega
            · have HNW := hide (show lst kp (ns.take (j + 1)) L = tog M y from by rw [HST.out, lin_new hk1 hk2])
              go_wp2_with fail
              refine (at_txs _ kp y _ HKW.out hkl).mono ?_
              rintro e wv ⟨⟨r, rfl, hr⟩, hwv⟩
              rw [hwv]
              have hr0 : r < 0 := by
                rcases Int.lt_or_le r 0 with h | h
                · exact h
                · exact absurd (hr.1 h) hk1
              clear hwv wv hr hk1
              go_wp2_with fail
              refine (at_txs _ M y _ HMT.out hml).mono ?_
              rintro e wv ⟨⟨r2, rfl, hr2⟩, hwv⟩
              rw [hwv]
              have hr20 : r2 < 0 := by
                rcases Int.lt_or_le r2 0 with h | h
                · exact h
                · exact absurd (hr2.1 h) hk2
              clear hwv wv hr2 hk2
              go_wp2_with fail
              refine (turn_txs _ M y _ HMT.out hml HMR.out).mono ?_
              rintro e w9 ⟨⟨a9, n9, c9, rfl, hO9⟩, hb9⟩
              have hgw : w.heap.size ≤ wr.heap.size := by have := hbr7.size; have := hbi.size; omega
              have HO9 := hide (show OwnT w9 w.heap.size (.slice a9 n9 c9) (lst kp (ns.take (j + 1)) L) from by rw [HNW.out]; exact hO9.mono hgw)
              have HL9 := hide (show (lst kp (ns.take (j + 1)) L).length ≤ 60 * k + (j + 1) from by rw [HNW.out]; have := tog_len M y; have := HML.out; omega)
              have hb92 := hbi.trans (hb9.mono hbi.size)
              clear hO9 hb9 c0 HM HKW HST HML HMT HNW s4
              go_wp2
              go_roundw
              case rel => exact ⟨j + 1, n9, c9, a9, by omega, by go_num, rfl, HO9, HL9, hb92⟩
              case measure => simp [intOf]; omega
        · obtain rfl : j = ns.length := by omega
          have HS1 := hide (show lst kp (allS (bs.take (k + 1))) [] = lst kp ns L by rw [take_snocB HES.out, allS_app, lst_app, HLE.out]; simp [allS, HNS.out])
          have HM2 := hide (show OwnT wr w.heap.size (.slice am m cm) (lst kp (allS (bs.take (k + 1))) []) from by
            have := HM.out
            rw [List.take_length] at this
            rw [HS1.out]; exact this)
          have HN3 := hide (show (lst kp (allS (bs.take (k + 1))) []).length ≤ 60 * (k + 1) from by
            have := HML.out
            rw [List.take_length] at this
            rw [HS1.out]; omega)
          have hbx := hbr7.trans (hbi.mono hbr7.size)
          clear HM HS1 HN HML
          go_wp2
          go_roundw
          case rel => exact ⟨k + 1, m, cm, am, by omega, by go_num, rfl, HM2, HN3, hbx⟩
          case measure => simp [intOf]; omega
    · obtain rfl : k = bs.length := by omega
      have HZ := hide (show OwnT wr w.heap.size (.slice ao n c) (lsl bs) from by
        have := HO.out; rw [List.take_length] at this; unfold lsl; rw [HKP.out]; exact this)
      clear HO HN
      go_wp2
      go_ret
      exact ⟨⟨_, _, _, rfl, HZ.out⟩, hb5.trans (hbr.mono hb5.size)⟩
end Go.Proofs.YtfkeokglifpkoaaGreatDoor

/-
  Reapply in the specification's text.
-/
namespace Go.Proofs.YtfkeokglifpkoaaGreatDoor
open Go.RowKit M
open Go.Sort (grow)
namespace M
theorem own_low {w : World} {B g i : Nat} {v : Value} {l : Txs} (h : OwnT w B v l) (hg : g < B) (x : Value) : OwnT (w.setCell ⟨g, i, none⟩ x) B v l := own_set_low h hg x
theorem tkb_no {my : St → Ev → Bool} {r : Rg} {k : Int} {x : ByteArray} (h : tkc my r k x ≠ 0) : tkb my r k x = r.bs := by unfold tkb; rw [if_neg h]
/-- While names are put again: the region as it stands in its box, the names. -/
structure QS (my : St → Ev → Bool) (w W : World) (B nB : Nat) (u nv : Value) (ps : Prs) (ns : Txs) (bs : Brs) (id ver : Int) (k : Nat) : Prop where
  own : OwnP W B u ps
  eq : bsP ps = (rpl my id ver (ns.take k) (bs, 0)).1
  nm : OwnT W nB nv ns
  r2 : R2 w W id ver u
theorem QS.down {my : St → Ev → Bool} {w W W' : World} {B nB k : Nat} {u nv : Value} {ps : Prs} {ns : Txs} {bs : Brs} {id ver : Int} (h : QS my w W B nB u nv ps ns bs id ver k) (hb : Below W.heap.size W W') : QS my w W' B nB u nv ps ns bs id ver k :=
  ⟨h.own.down hb, h.eq, h.nm.down hb, h.r2.down hb⟩
end M
set_option maxRecDepth 20000 in
set_option maxHeartbeats 8000000 in
theorem spec_reapL (my : St → Ev → Bool) (hmy : ∀ s e, BP (my s e) (May s e)) (id ver : Int) (v : Value) (ps : Prs) (B : Nat) (w : World) (ho : OwnP w B v ps) (hB : B ≤ w.heap.size) (hg : GdR ⟨id, ver, bsP ps⟩) :
    Calls Tryz.prog 69 #[rv id ver v] w fun e w' => (∃ u ps', e = .returned (.tuple #[rv id ver u, .int .i64 ((rpA my ⟨id, ver, bsP ps⟩).2 : Int)]) ∧ OwnP w' B u ps' ∧ bsP ps' = (rpA my ⟨id, ver, bsP ps⟩).1) ∧ Below w.heap.size w w' := by
  have HG := hide hg
  have HMY := hide hmy
  obtain ⟨a1, c1, rfl⟩ := ho.form
  obtain ⟨W, hW⟩ : ∃ W, (w.alloc (.cells #[.int .i64 id, .int .i64 ver, .slice a1 ps.length c1] 34)).alloc (.cells #[.int .i64 0, .int .i64 0, .slice none 0 0] 34) = W := ⟨_, rfl⟩
  have HR := hide (show R2 w W id ver (.slice a1 ps.length c1) from by rw [← hW]; exact R2.new w _ _ _)
  have HO := hide (ho.down HR.out.low)
  have HW := hide hW
  obtain ⟨⟨d0, d1, d2⟩, -⟩ := HR.out.arg.tri
  rw [← hW] at d0 d1 d2
  obtain ⟨bs, hbs⟩ : ∃ bs, bsP ps = bs := ⟨_, rfl⟩
  obtain ⟨ns, hns⟩ : ∃ ns, lsl bs = ns := ⟨_, rfl⟩
  rw [hbs] at hg HG
  have hln : ns.length ≤ 360 := by rw [← hns]; exact lsl_len hg.2.2.1
  have HNM := hide (show ∀ x ∈ ns, x.size ≤ maxLen from by rw [← hns]; exact lsl_nm hg.2.2.1)
  have HRA := hide (show rpA my ⟨id, ver, bs⟩ = rpl my id ver ns (bs, 0) from by unfold rpA; rw [hns])
  have HNS := hide hns
  have HBS := hide hbs
  have HFB := hide (show FineS bs from hg.2.2.1.2.fine (by exact Nat.le_trans (show bs.length ≤ 12 from hg.2.2.1.1) (by omega)))
  rw [hbs, HRA.out]
  clear ho hg hmy hW hns hbs HRA
  go_enter Tryz.func69, Tryz.ntmps69
  go_wp2_with fail
  rw [HW.out]
  clear HW d0 d1 d2
  refine (spec_lost _ bs _ (by have := HO.out.brs; rwa [HBS.out] at this) HFB.out HG.out.2.2.1).mono ?_
  rintro e w5 ⟨⟨an, nn, cn, rfl, hN⟩, hb5⟩
  obtain ⟨ax, cx, hx3⟩ := hN.form
  simp only [Value.slice.injEq] at hx3
  obtain ⟨rfl, rfl, rfl⟩ := hx3
  rw [HNS.out] at hN ⊢
  have HQ := hide (show QS my w w5 B W.heap.size (.slice a1 ps.length c1) (.slice an ns.length cn) ps ns bs id ver 0 from ⟨HO.out.down hb5, by rw [HBS.out]; rfl, hN, HR.out.down hb5⟩)
  have hWw := HR.out.big
  clear hb5 hN HR HO HNS HBS HFB
  go_wp2_with fail
  go_loopw [4, 14] (fun m' i wr => ∃ (k m : Nat) (u : Value) (ps : Prs), k ≤ ns.length ∧ i = .int .i64 k ∧ m' = .int .i64 m ∧ (rpl my id ver (ns.take k) (bs, 0)).2 = m ∧ Hid (QS my w wr B W.heap.size u (.slice an ns.length cn) ps ns bs id ver k)) (fun _ i _ => ns.length - (intOf i).toNat)
  case atStart => exact ⟨0, 0, _, _, Nat.zero_le _, rfl, rfl, rfl, HQ⟩
  case round =>
    obtain ⟨k, m, u, ps, hk, rfl, rfl, hm, HQ⟩ := hrel
    obtain ⟨au, cu, rfl⟩ := HQ.out.own.form
    by_cases hlt : k < ns.length
    · obtain ⟨x, hx⟩ : ∃ x, ns[k]? = some x := ⟨ns[k], List.getElem?_eq_getElem hlt⟩
      obtain ⟨za, zc, hzv, hzr⟩ := HQ.out.nm.txs
      simp only [Value.slice.injEq, true_and] at hzv
      obtain ⟨hza, hzc'⟩ := hzv
      subst hza
      clear hzc'
      obtain ⟨zb, zo, rfl, hzl, hzc⟩ := hzr (by omega)
      have c0 := hzc k x hx
      have HX := hide hx
      have hxs := HNM.out x (List.mem_of_getElem? hx)
      have hBr : B ≤ wr.heap.size := Nat.le_trans hB HQ.out.r2.low.size
      have hgr : GdR ⟨id, ver, bsP ps⟩ := by rw [HQ.out.eq]; exact rpl_good HMY.out _ _ HG.out
      have HGR := hide hgr
      have hmb : m ≤ 360 := by
        have := rpl_len (my := my) (id := id) (ver := ver) (ns.take k) (bs, 0)
        rw [hm] at this
        simp at this; omega
      obtain ⟨⟨d0, d1, d2⟩, -⟩ := HQ.out.r2.arg.tri
      have HM := hide hm
      clear hzr hzc hx hgr hm
      go_wp2_with fail
      refine (spec_l16 my HMY.out id ver _ ps 2 x B _ HQ.out.own hBr HGR.out hxs).mono ?_
      rintro e w6 ⟨⟨u6, ps6, rfl, hO6, hps6⟩, hb6⟩
      obtain ⟨a6, c6, rfl⟩ := hO6.form
      have hsn := rpl_snoc (my := my) (id := id) (ver := ver) (s := (bs, 0)) HX.out
      obtain ⟨w7, hw7⟩ : ∃ w7, w6.alloc (.cells #[.int .i64 id, .int .i64 ver, .slice a6 ps6.length c6] 34) = w7 := ⟨_, rfl⟩
      have h67 : Below w6.heap.size w6 w7 := by rw [← hw7]; exact low1 _ _
      have HY := hide (show Blk w7 w6.heap.size 3 (q3 (.int .i64 id) (.int .i64 ver) (.slice a6 ps6.length c6)) 34 from by rw [← hw7]; exact new3 _ _ _ _ _)
      have HQ7 := hide ((HQ.out.down hb6).down h67)
      have HO7 := hide (hO6.down h67)
      have HPS := hide hps6
      have HSN := hide hsn
      have HW7 := hide hw7
      clear hb6 h67 hO6 hps6 hsn hw7 d0 d1 d2 c0
      go_upto_region 6 with fail
      rw [HW7.out]
      clear HW7
      by_cases hc : tkc my ⟨id, ver, bsP ps⟩ 2 x = 0
      · have hst := rps_yes (my := my) (id := id) (ver := ver) (s := rpl my id ver (ns.take k) (bs, 0)) (x := x) (by rw [← HQ.out.eq]; exact hc)
        have HST := hide hst
        rw [hc]
        obtain ⟨⟨p0, p1, p2⟩, -⟩ := HY.out.tri
        obtain ⟨⟨d0, d1, d2⟩, f0, f1, f2⟩ := HQ7.out.r2.arg.tri
        have HQ8 := hide (show QS my w (((w7.setCell ⟨w.heap.size, 0, none⟩ (.int .i64 id)).setCell ⟨w.heap.size, 1, none⟩ (.int .i64 ver)).setCell ⟨w.heap.size, 2, none⟩ (.slice a6 ps6.length c6)) B W.heap.size (.slice a6 ps6.length c6) (.slice (some ⟨zb, zo, none⟩) ns.length cn) ps6 ns bs id ver (k + 1) from by
          have hR := HQ7.out.r2
          refine ⟨((HO7.out.set_off hR.arg (by decide) (by decide) _).set_off (hR.arg.tri0 _) (by decide) (by decide) _).set_off ((hR.arg.tri0 _).tri1 _) (by decide) (by decide) _, by rw [HSN.out, HST.out, HPS.out, HQ.out.eq], own_low (own_low (own_low HQ7.out.nm (by omega) _) (by omega) _) (by omega) _, ⟨((hR.low.setCell (p := ⟨w.heap.size, 0, none⟩) (Nat.le_refl _) _).setCell (p := ⟨w.heap.size, 1, none⟩) (Nat.le_refl _) _).setCell (p := ⟨w.heap.size, 2, none⟩) (Nat.le_refl _) _, hR.arg.put3 _ _ _, ((hR.res.off (by omega) _).off (by omega) _).off (by omega) _, by simpa using hR.big⟩⟩)
        have HM8 := hide (show (rpl my id ver (ns.take (k + 1)) (bs, 0)).2 = m + 1 from by rw [HSN.out, HST.out]; simp only; rw [HM.out])
        clear hst HQ HQ7 HO7 HY HGR HX HPS HSN HST HM hc
        go_wp2
        exact ⟨⟨k + 1, m + 1, _, ps6, by omega, by go_num, by go_num, HM8.out, HQ8⟩, by simp [intOf]; omega⟩
      · have hst := rps_no (my := my) (id := id) (ver := ver) (s := rpl my id ver (ns.take k) (bs, 0)) (x := x) (by rw [← HQ.out.eq]; exact hc)
        have HST := hide hst
        have hcb : (tkc my ⟨id, ver, bsP ps⟩ 2 x == 0) = false := by simp [hc]
        have HQ8 := hide (show QS my w w7 B W.heap.size (.slice au ps.length cu) (.slice (some ⟨zb, zo, none⟩) ns.length cn) ps ns bs id ver (k + 1) from
          ⟨HQ7.out.own, by rw [HSN.out, HST.out]; simp only; rw [tkb_no (by rw [← HQ.out.eq]; exact hc)]; exact HQ.out.eq, HQ7.out.nm, HQ7.out.r2⟩)
        have HM8 := hide (show (rpl my id ver (ns.take (k + 1)) (bs, 0)).2 = m from by rw [HSN.out, HST.out]; exact HM.out)
        clear hst HQ HQ7 HO7 HY HGR HX HPS HSN HST HM hc
        go_wp2
        exact ⟨⟨k + 1, m, _, ps, by omega, by go_num, rfl, HM8.out, HQ8⟩, by simp [intOf]; omega⟩
    · obtain rfl : k = ns.length := by omega
      rw [List.take_length] at hm
      have heq := HQ.out.eq
      rw [List.take_length] at heq
      have HM := hide hm
      have HEQ := hide heq
      have HRr := hide HQ.out.r2
      have HOr := hide HQ.out.own
      obtain ⟨WZ, hWZ⟩ : ∃ WZ, ((wr.setCell ⟨w.heap.size + 1, 0, none⟩ (.int .i64 id)).setCell ⟨w.heap.size + 1, 1, none⟩ (.int .i64 ver)).setCell ⟨w.heap.size + 1, 2, none⟩ (.slice au ps.length cu) = WZ := ⟨_, rfl⟩
      obtain ⟨hz, hzb, -⟩ := HRr.out.fin (.int .i64 id) (.int .i64 ver) (.slice au ps.length cu) WZ hWZ
      have HZO := hide (show OwnP WZ B (.slice au ps.length cu) ps from by
        rw [← hWZ]; exact ((HOr.out.set_off HRr.out.res (by decide) (by decide) _).set_off (HRr.out.res.tri0 _) (by decide) (by decide) _).set_off ((HRr.out.res.tri0 _).tri1 _) (by decide) (by decide) _)
      obtain ⟨⟨d0, d1, d2⟩, -⟩ := HRr.out.arg.tri
      obtain ⟨⟨e0, e1, e2⟩, f0, f1, f2⟩ := HRr.out.res.tri
      have HWZ := hide hWZ
      have HZ := hide hz
      clear hz hWZ hm heq HQ HRr HOr
      go_wp2
      rw [HWZ.out]
      clear d0 d1 d2 e0 e1 e2 f0 f1 f2
      obtain ⟨⟨e0, e1, e2⟩, -⟩ := HZ.out.tri
      exact bodyPost_ret (v := .tuple #[rv id ver (.slice au ps.length cu), .int .i64 (m : Int)]) (by simp [results, Tryz.results69, go_sem, e0, e1, e2]) rfl ⟨⟨_, ps, by rw [HM.out], HZO.out, HEQ.out⟩, hzb⟩
set_option maxRecDepth 20000 in
set_option maxHeartbeats 8000000 in
theorem spec_reap_no (id ver : Int) (v : Value) (bs : Brs) (b : Bool) (w : World) (hv : BrsOf w v bs) (hf : FineS bs) (hco : CapOk v) (hb : BP b (GdR ⟨id, ver, bs⟩)) (hno : (b && (rgv ver == id)) = false) :
    Calls Tryz.prog 32 #[rv id ver v] w fun e w' => (∃ v ps, e = .returned (.tuple #[rv 0 0 v, .int .i64 0, .bool false]) ∧ OwnP w' w.heap.size v ps ∧ bsP ps = []) ∧ Below w.heap.size w w' := by
  have HF := hide hf
  have HB := hide hb
  have HCO := hide hco
  obtain ⟨a1, c1, rfl⟩ := hv.form
  obtain ⟨W, hW⟩ : ∃ W, (w.alloc (.cells #[.int .i64 id, .int .i64 ver, .slice a1 bs.length c1] 34)).alloc (.cells #[.int .i64 0, .int .i64 0, .slice none 0 0] 34) = W := ⟨_, rfl⟩
  have HR := hide (show R2 w W id ver (.slice a1 bs.length c1) from by rw [← hW]; exact R2.new w _ _ _)
  have HV := hide (hv.below HR.out.low)
  have HW := hide hW
  obtain ⟨⟨d0, d1, d2⟩, -⟩ := HR.out.arg.tri
  rw [← hW] at d0 d1 d2
  have HN := hide hno
  clear hv hf hb hco hW hno
  cases b
  · go_enter Tryz.func32, Tryz.ntmps32
    go_wp2_with fail
    rw [HW.out]
    clear HW d0 d1 d2
    refine (spec_goodR id ver _ bs false _ HV.out HF.out HCO.out HB.out).mono ?_
    rintro e w1 ⟨rfl, hb1⟩
    have HR1 := hide (HR.out.down hb1)
    obtain ⟨WZ, hWZ⟩ : ∃ WZ, ((w1.setCell ⟨w.heap.size + 1, 0, none⟩ (.int .i64 0)).setCell ⟨w.heap.size + 1, 1, none⟩ (.int .i64 0)).setCell ⟨w.heap.size + 1, 2, none⟩ (.slice none 0 0) = WZ := ⟨_, rfl⟩
    obtain ⟨hz, hzb, -⟩ := HR1.out.fin (.int .i64 0) (.int .i64 0) (.slice none 0 0) WZ hWZ
    obtain ⟨⟨e0, e1, e2⟩, f0, f1, f2⟩ := HR1.out.res.tri
    have HWZ := hide hWZ
    have HZ := hide hz
    clear hz hWZ
    go_wp2
    rw [HWZ.out]
    clear e0 e1 e2 f0 f1 f2
    obtain ⟨⟨e0, e1, e2⟩, -⟩ := HZ.out.tri
    exact bodyPost_ret (v := .tuple #[rv 0 0 (.slice none 0 0), .int .i64 0, .bool false]) (by simp [results, Tryz.results32, go_sem, e0, e1, e2]) rfl ⟨⟨_, [], rfl, OwnP.nil _ _, rfl⟩, hzb⟩
  · have hg : GdR ⟨id, ver, bs⟩ := HB.out.1 rfl
    have HVR := hide hg.2.1
    have HAC := hide (show (ver % 10 == id) = false from by
      have := HN.out
      rw [Bool.true_and, rgv_yes (inB_iff.2 hg.2.1)] at this; exact this)
    clear hg
    go_enter Tryz.func32, Tryz.ntmps32
    go_wp2_with fail
    rw [HW.out]
    clear HW d0 d1 d2
    refine (spec_goodR id ver _ bs true _ HV.out HF.out HCO.out HB.out).mono ?_
    rintro e w1 ⟨rfl, hb1⟩
    have HR1 := hide (HR.out.down hb1)
    have HV1 := hide (HV.out.below hb1)
    obtain ⟨⟨d0, d1, d2⟩, -⟩ := HR1.out.arg.tri
    clear hb1 HR HV
    go_wp2_with fail
    refine (spec_act id ver _ bs _ HV1.out HVR.out.1 HVR.out.2).mono ?_
    rw [HAC.out]
    rintro e w2 ⟨rfl, hb2⟩
    have HR2 := hide (HR1.out.down hb2)
    clear hb2 HR1 HV1 d0 d1 d2
    obtain ⟨WZ, hWZ⟩ : ∃ WZ, ((w2.setCell ⟨w.heap.size + 1, 0, none⟩ (.int .i64 0)).setCell ⟨w.heap.size + 1, 1, none⟩ (.int .i64 0)).setCell ⟨w.heap.size + 1, 2, none⟩ (.slice none 0 0) = WZ := ⟨_, rfl⟩
    obtain ⟨hz, hzb, -⟩ := HR2.out.fin (.int .i64 0) (.int .i64 0) (.slice none 0 0) WZ hWZ
    obtain ⟨⟨e0, e1, e2⟩, f0, f1, f2⟩ := HR2.out.res.tri
    have HWZ := hide hWZ
    have HZ := hide hz
    clear hz hWZ
    go_wp2
    rw [HWZ.out]
    clear e0 e1 e2 f0 f1 f2
    obtain ⟨⟨e0, e1, e2⟩, -⟩ := HZ.out.tri
    exact bodyPost_ret (v := .tuple #[rv 0 0 (.slice none 0 0), .int .i64 0, .bool false]) (by simp [results, Tryz.results32, go_sem, e0, e1, e2]) rfl ⟨⟨_, [], rfl, OwnP.nil _ _, rfl⟩, hzb⟩
set_option maxRecDepth 20000 in
set_option maxHeartbeats 8000000 in
theorem spec_reap_ok (my : St → Ev → Bool) (hmy : ∀ s e, BP (my s e) (May s e)) (id ver : Int) (v : Value) (bs : Brs) (w : World) (hv : BrsOf w v bs) (hf : FineS bs) (hco : CapOk v) (hb : GdR ⟨id, ver, bs⟩) (hact : (rgv ver == id) = true) :
    Calls Tryz.prog 32 #[rv id ver v] w fun e w' => (∃ v ps, e = .returned (.tuple #[rv id ver v, .int .i64 ((rpA my ⟨id, ver, bs⟩).2 : Int), .bool true]) ∧ OwnP w' w.heap.size v ps ∧ bsP ps = (rpA my ⟨id, ver, bs⟩).1) ∧ Below w.heap.size w w' := by
  have HF := hide hf
  have HB := hide hb
  have HCO := hide hco
  obtain ⟨a1, c1, rfl⟩ := hv.form
  obtain ⟨W, hW⟩ : ∃ W, (w.alloc (.cells #[.int .i64 id, .int .i64 ver, .slice a1 bs.length c1] 34)).alloc (.cells #[.int .i64 0, .int .i64 0, .slice none 0 0] 34) = W := ⟨_, rfl⟩
  have HR := hide (show R2 w W id ver (.slice a1 bs.length c1) from by rw [← hW]; exact R2.new w _ _ _)
  have HV := hide (hv.below HR.out.low)
  have HW := hide hW
  obtain ⟨⟨d0, d1, d2⟩, -⟩ := HR.out.arg.tri
  rw [← hW] at d0 d1 d2
  have HBX := hide (show BP true (GdR ⟨id, ver, bs⟩) from ⟨fun _ => HB.out, fun _ => rfl⟩)
  have HVR := hide HB.out.2.1
  have HAC := hide (show (ver % 10 == id) = true from by
    have := hact
    rw [rgv_yes (inB_iff.2 HB.out.2.1)] at this; exact this)
  have HMY := hide hmy
  clear hv hf hb hco hW hact hmy
  go_enter Tryz.func32, Tryz.ntmps32
  go_wp2_with fail
  rw [HW.out]
  clear HW d0 d1 d2
  refine (spec_goodR id ver _ bs true _ HV.out HF.out HCO.out HBX.out).mono ?_
  rintro e w1 ⟨rfl, hb1⟩
  have HR1 := hide (HR.out.down hb1)
  have HV1 := hide (HV.out.below hb1)
  obtain ⟨⟨d0, d1, d2⟩, -⟩ := HR1.out.arg.tri
  clear hb1 HR HV
  go_wp2_with fail
  refine (spec_act id ver _ bs _ HV1.out HVR.out.1 HVR.out.2).mono ?_
  rw [HAC.out]
  rintro e w2 ⟨rfl, hb2⟩
  have HR2 := hide (HR1.out.down hb2)
  have HV2 := hide (HV1.out.below hb2)
  clear hb2 HR1 HV1 d0 d1 d2
  obtain ⟨⟨d0, d1, d2⟩, -⟩ := HR2.out.arg.tri
  go_wp2_with fail
  refine (spec_own16 id ver _ bs _ HV2.out HB.out.2.2.1).mono ?_
  rintro e w4 ⟨⟨r, ps, rfl, hO, hps⟩, hb4⟩
  subst hps
  have HR4 := hide (HR2.out.down hb4)
  have HO4 := hide hO
  have HB1 := hide HR2.out.big
  have hs4 := hb4.size
  clear hO hb4 HR2 d0 d1 d2
  go_wp2_with fail
  refine (spec_reapL my HMY.out id ver r ps w2.heap.size _ HO4.out hs4 HB.out).mono ?_
  rintro e w5 ⟨⟨u, ps5, rfl, hO5, hps5⟩, hb5⟩
  obtain ⟨au, cu, rfl⟩ := hO5.form
  obtain ⟨w6, hw6⟩ : ∃ w6, w5.alloc (.cells #[.int .i64 id, .int .i64 ver, .slice au ps5.length cu] 34) = w6 := ⟨_, rfl⟩
  have h56 : Below w5.heap.size w5 w6 := by rw [← hw6]; exact low1 _ _
  have HY := hide (show Blk w6 w5.heap.size 3 (q3 (.int .i64 id) (.int .i64 ver) (.slice au ps5.length cu)) 34 from by rw [← hw6]; exact new3 _ _ _ _ _)
  have HR6 := hide ((HR4.out.down hb5).down h56)
  have HO6 := hide (hO5.down h56)
  have HPS := hide hps5
  have HW6 := hide hw6
  clear hb5 h56 hO5 hps5 HR4 HO4 hw6
  go_upto_region 4 with fail
  rw [HW6.out]
  clear HW6
  obtain ⟨⟨p0, p1, p2⟩, -⟩ := HY.out.tri
  obtain ⟨WZ, hWZ⟩ : ∃ WZ, ((w6.setCell ⟨w.heap.size + 1, 0, none⟩ (.int .i64 id)).setCell ⟨w.heap.size + 1, 1, none⟩ (.int .i64 ver)).setCell ⟨w.heap.size + 1, 2, none⟩ (.slice au ps5.length cu) = WZ := ⟨_, rfl⟩
  obtain ⟨hz, hzb, hzo⟩ := HR6.out.fin (.int .i64 id) (.int .i64 ver) (.slice au ps5.length cu) WZ hWZ
  have HZO := hide (hzo _ _ _ HO6.out HB1.out)
  obtain ⟨⟨e0, e1, e2⟩, f0, f1, f2⟩ := HR6.out.res.tri
  have HWZ := hide hWZ
  have HZ := hide hz
  clear hz hWZ hzo HR6 HO6 HY
  go_wp2
  rw [HWZ.out]
  clear p0 p1 p2 e0 e1 e2 f0 f1 f2
  obtain ⟨⟨e0, e1, e2⟩, -⟩ := HZ.out.tri
  exact bodyPost_ret (v := .tuple #[rv id ver (.slice au ps5.length cu), .int .i64 ((rpA my ⟨id, ver, bsP ps⟩).2 : Int), .bool true]) (by simp [results, Tryz.results32, go_sem, e0, e1, e2]) rfl ⟨⟨_, ps5, rfl, HZO.out, HPS.out⟩, hzb⟩
end Go.Proofs.YtfkeokglifpkoaaGreatDoor

/-
  The law of Reapply: both texts tell the same. Condition: the table knownKinds reads as the program's text lays it.
-/
namespace Go.Proofs.YtfkeokglifpkoaaGreatDoor
open Go.RowKit M
theorem law_reapply (id ver : Int) (v : Value) (bs : Brs) (w : World) (hv : BrsOf w v bs) (hf : Fine bs) (hkk : KK w) :
    Calls Tryz.prog 8 #[rv id ver v] w fun e w' => e = .returned (.bool true) ∧ Below w.heap.size w w' :=
  law_Reapply_run id ver v bs w hv hf hkk (fun hs => by
    obtain ⟨my, hmy⟩ : ∃ my : St → Ev → Bool, ∀ s e, BP (my s e) (May s e) :=
      ⟨fun s e => Classical.choose (bp_ex (May s e)), fun s e => Classical.choose_spec (bp_ex (May s e))⟩
    obtain ⟨b, hb⟩ := bp_ex (GdR ⟨id, ver, bs⟩)
    cases hc : (b && (rgv ver == id))
    · exact ⟨0, 0, [], 0, false, by simp, fun v w h hco => spec_reap_no id ver v bs b w h hs hco hb hc, fun v w h hk => impl_reap_no id ver v bs b w h hs hk hb hc⟩
    · rw [Bool.and_eq_true] at hc
      have hg : GdR ⟨id, ver, bs⟩ := hb.1 hc.1
      have hg2 : GdR ⟨id, ver, (rpA my ⟨id, ver, bs⟩).1⟩ := rpl_good hmy _ _ hg
      exact ⟨id, ver, (rpA my ⟨id, ver, bs⟩).1, ((rpA my ⟨id, ver, bs⟩).2 : Int), true, ⟨hg2.2.2.1.1, fun b hb' => ⟨(hg2.2.2.1.2.1 b hb').short, (hg2.2.2.1.2.1 b hb').names⟩⟩, fun v w h hco => spec_reap_ok my hmy id ver v bs w h hs hco hg hc.2, fun v w h hk => impl_reap_ok my hmy id ver v bs w h hs hk hg hc.2⟩)
end Go.Proofs.YtfkeokglifpkoaaGreatDoor
