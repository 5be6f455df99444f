/-
  CurrentOf of the specification.
-/
import Derived.Test.YtcbkeabfnldmhaaDoorJoin43
namespace Go.Proofs.YtcbkeabfnldmhaaDoor
open Go.RowKit M
open Go.Sort (grow)
namespace M
theorem btr_gt {b o : Evs} (h : lv o < lv b) : btr b o = true := by unfold btr; rw [decide_eq_true h]; rfl
theorem btr_eq {b o : Evs} (h : lv o = lv b) : btr b o = decide (o.length ≤ b.length) := by
  unfold btr; rw [decide_eq_false (by omega), decide_eq_true h]; simp
theorem btr_lt {b o : Evs} (h : lv b < lv o) : btr b o = false := by
  unfold btr; rw [decide_eq_false (by omega), decide_eq_false (by omega)]; rfl
theorem cur_btr {bs : Brs} {k : Nat} {o b : Evs} (hb : bs[k]? = some b) (ho : bs[cur bs k]? = some o) : cur bs (k + 1) = if btr b o = true then k else cur bs k := by
  rw [cur, getD_at hb, getD_at ho]
def curI (bs : Brs) (k : Nat) : Int := if k = 0 then -1 else (cur bs k : Int)
end M
set_option maxRecDepth 20000 in
set_option maxHeartbeats 4000000 in
theorem spec_current (v : Value) (bs : Brs) (w : World) (hv : BrsOf w v bs) (hf : FineS bs) (hg : GdT bs) :
    Calls Tryd.prog 37 #[v] w fun e w' => e = .returned (.int .i64 (curI bs bs.length)) ∧ Below w.heap.size w w' := by
  have HV := hide hv
  have HF := hide hf
  have HG := hide hg
  have hn := hf.1
  obtain ⟨a, cap, rfl⟩ := hv.form
  clear hv hf hg
  go_enter Tryd.func37, Tryd.ntmps37
  go_wp2
  go_loopw [3, 11] (fun x i wr => ∃ (k : Nat) (z : Int), k ≤ bs.length ∧ i = .int .i64 k ∧ x = .int .i64 z ∧ Hid (z = curI bs k) ∧ Below w.heap.size w wr) (fun _ i _ => bs.length - (intOf i).toNat)
  case atStart => exact ⟨0, -1, Nat.zero_le _, rfl, rfl, hide rfl, Below.refl _ _⟩
  case round =>
    obtain ⟨k, z, hk, rfl, rfl, HZ, hbw⟩ := hrel
    by_cases hlt : k < bs.length
    · obtain ⟨es, he⟩ : ∃ e, bs[k]? = some e := ⟨bs[k], List.getElem?_eq_getElem hlt⟩
      obtain ⟨g, off, rfl, hlg, a2, c2, hc, hs⟩ := HV.out.at he
      have hcw := (hbw.cell (p := ⟨g, off + k, none⟩) hlg).trans hc
      have hal := (Below.refl wr.heap.size wr).alloc (Nat.le_refl _) (.cells #[.slice a2 es.length c2] 51)
      have hbq := hbw.trans (hal.mono hbw.size)
      by_cases hk0 : k = 0
      · have hz := HZ.out
        unfold curI at hz
        rw [if_pos hk0] at hz
        have hzl : z < 0 := by omega
        have HN := hide (show (k : Int) = curI bs (k + 1) by unfold curI; rw [if_neg (by omega), hk0, cur_one])
        clear HZ hk0 hz hc hs he hal
        go_wp2
        exact ⟨⟨k + 1, k, by omega, by go_num, rfl, HN, hbq⟩, by simp [intOf]; omega⟩
      · have hz := HZ.out
        unfold curI at hz
        rw [if_neg hk0] at hz
        obtain ⟨q, hq⟩ : ∃ q, cur bs k = q := ⟨_, rfl⟩
        rw [hq] at hz
        subst hz
        obtain ⟨o, ho⟩ := cur_at hk (by omega)
        have HCB := hide (cur_btr he ho)
        rw [hq] at ho
        obtain ⟨g', off', hgg, -, a3, c3, hc3, hs3⟩ := HV.out.at ho
        simp only [Option.some.injEq, Addr.mk.injEq, and_true] at hgg
        obtain ⟨rfl, rfl⟩ := hgg
        have hql := (List.getElem?_eq_some_iff.1 ho).1
        have hzl : ¬ ((q : Int) < 0) := by omega
        have hi0 : (0 : Int) ≤ (q : Int) := by omega
        have hi1 : (q : Int) < (bs.length : Int) := by omega
        have q1 := (hbq.cell (p := ⟨g, off + q, none⟩) hlg).trans hc3
        have hpe := (HG.out.2.1 es (List.mem_of_getElem? he)).pos
        have hpo := (HG.out.2.1 o (List.mem_of_getElem? ho)).pos
        have hle := (HF.out.at he).1
        have hlo := (HF.out.at ho).1
        obtain ⟨je, hje⟩ : ∃ j, es.length - 1 = j := ⟨_, rfl⟩
        obtain ⟨jo, hjo⟩ : ∃ j, o.length - 1 = j := ⟨_, rfl⟩
        obtain ⟨x, hx⟩ : ∃ x, es[je]? = some x := ⟨es[je]'(by omega), List.getElem?_eq_getElem _⟩
        obtain ⟨y, hy⟩ : ∃ y, o[jo]? = some y := ⟨o[jo]'(by omega), List.getElem?_eq_getElem _⟩
        obtain ⟨a2', c2', hv2, hr2⟩ := hs
        obtain ⟨a3', c3', hv3, hr3⟩ := hs3
        simp only [Value.slice.injEq, true_and] at hv2 hv3
        obtain ⟨rfl, rfl⟩ := hv2
        obtain ⟨rfl, rfl⟩ := hv3
        obtain ⟨g1, o1, rfl, hl1, hrow1⟩ := hr2 (by intro h; subst h; simp at hpe)
        obtain ⟨g2, o2, rfl, hl2, hrow2⟩ := hr3 (by intro h; subst h; simp at hpo)
        have e1 := ((hrow1 je x hx).below hbq hl1).2.1
        have e2 := ((hrow2 jo y hy).below hbq hl2).2.1
        have hse : (es.length : Int) - 1 = (je : Int) := by omega
        have hso : (o.length : Int) - 1 = (jo : Int) := by omega
        have hj0 : (0 : Int) ≤ (je : Int) := by omega
        have hj1 : (je : Int) < (es.length : Int) := by omega
        have hj2 : (0 : Int) ≤ (jo : Int) := by omega
        have hj3 : (jo : Int) < (o.length : Int) := by omega
        have hlve := lv_at (show es[es.length - 1]? = some x by rw [hje]; exact hx)
        have hlvo := lv_at (show o[o.length - 1]? = some y by rw [hjo]; exact hy)
        have HQ := hide hq
        rcases (show y.ver < x.ver ∨ y.ver = x.ver ∨ x.ver < y.ver by omega) with h | h | h
        · have hg1 : x.ver > y.ver := h
          have HN := hide (show (k : Int) = curI bs (k + 1) by
            unfold curI
            rw [if_neg (by omega), HCB.out, btr_gt (by omega), if_pos rfl])
          clear HZ hk0 hc hc3 hr2 hr3 hrow1 hrow2 hx hy he ho hal hq hje hjo hlve hlvo HCB hpe hpo
          go_wp2
          exact ⟨⟨k + 1, k, by omega, by go_num, rfl, HN, hbq⟩, by simp [intOf]; omega⟩
        · have hg1 : ¬ x.ver > y.ver := by omega
          have hg2 : (x.ver == y.ver) = true := by simp [h]
          by_cases hll : o.length ≤ es.length
          · have hg3 : (es.length : Int) ≥ (o.length : Int) := by omega
            have HN := hide (show (k : Int) = curI bs (k + 1) by
              unfold curI
              rw [if_neg (by omega), HCB.out, btr_eq (by omega), decide_eq_true hll, if_pos rfl])
            clear HZ hk0 hc hc3 hr2 hr3 hrow1 hrow2 hx hy he ho hal hq hje hjo hlve hlvo HCB hpe hpo h
            go_wp2
            exact ⟨⟨k + 1, k, by omega, by go_num, rfl, HN, hbq⟩, by simp [intOf]; omega⟩
          · have hg3 : ¬ (es.length : Int) ≥ (o.length : Int) := by omega
            have HN := hide (show (q : Int) = curI bs (k + 1) by
              unfold curI
              rw [if_neg (by omega), HCB.out, btr_eq (by omega), decide_eq_false hll, if_neg (by simp), HQ.out])
            clear HZ hk0 hc hc3 hr2 hr3 hrow1 hrow2 hx hy he ho hal hq hje hjo hlve hlvo HCB hpe hpo h
            go_wp2
            exact ⟨⟨k + 1, q, by omega, by go_num, rfl, HN, hbq⟩, by simp [intOf]; omega⟩
        · have hg1 : ¬ x.ver > y.ver := by omega
          have hg2 : (x.ver == y.ver) = false := by simp; omega
          have HN := hide (show (q : Int) = curI bs (k + 1) by
            unfold curI
            rw [if_neg (by omega), HCB.out, btr_lt (by omega), if_neg (by simp), HQ.out])
          clear HZ hk0 hc hc3 hr2 hr3 hrow1 hrow2 hx hy he ho hal hq hje hjo hlve hlvo HCB hpe hpo h
          go_wp2
          exact ⟨⟨k + 1, q, by omega, by go_num, rfl, HN, hbq⟩, by simp [intOf]; omega⟩
    · obtain rfl : k = bs.length := by omega
      have HZ2 := hide HZ.out
      clear HV HZ
      go_wp2
      go_ret
      exact ⟨ret_int (by rw [HZ2.out]), hbw⟩
set_option maxHeartbeats 2000000 in
theorem spec_cur (v : Value) (bs : Brs) (b : Bool) (l : Evs) (w : World) (hv : BrsOf w v bs) (hf : FineS bs) (hco : CapOk v) (hb : BP b (GdT bs ∧ bs ≠ [])) (hl : (b = true → l = curB bs) ∧ (b = false → l = [])) :
    Calls Tryd.prog 13 #[.agg #[v]] w fun e w' => (∃ a n c, e = .returned (.tuple #[.slice a n c, .bool b]) ∧ OwnE w' w.heap.size (.slice a n c) l) ∧ Below w.heap.size w w' := by
  have hal := (Below.refl w.heap.size w).alloc (Nat.le_refl _) (.cells #[v] 29)
  have HV := hide (hv.below hal)
  have HC := hide (show M.One (w.alloc (.cells #[v] 29)) w.heap.size v 29 from heap_alloc_new w _)
  have HF := hide hf
  have HB := hide hb
  have HL := hide hl
  have HCO := hide hco
  obtain ⟨a1, c1, rfl⟩ := hv.form
  have d0 := HC.out.cell
  obtain ⟨gb, hgb⟩ := bp_ex (GdT bs)
  have HGB := hide hgb
  clear hv hf hco hb hl hgb
  cases gb
  · have HN := hide (show b = false from HB.out.no (fun h => by have := HGB.out.yes h.1; cases this))
    have HN2 := hide (HL.out.2 HN.out)
    go_enter Tryd.func13, Tryd.ntmps13
    go_wp2_with fail
    refine (spec_gt _ bs false _ HV.out HF.out HCO.out HGB.out).mono ?_
    rintro e w2 ⟨rfl, hb2⟩
    have hbw := hal.trans (hb2.mono hal.size)
    go_wp2
    go_ret2
    exact ⟨⟨_, _, _, by rw [HN.out]; rfl, by rw [HN2.out]; exact OwnE.nil _ _⟩, hbw⟩
  · have HG := hide (HGB.out.1 rfl)
    by_cases h0 : bs.length = 0
    · have HN := hide (show b = false from HB.out.no (fun h => h.2 (List.eq_nil_of_length_eq_zero h0)))
      have HN2 := hide (HL.out.2 HN.out)
      have HCI := hide (show curI bs bs.length = -1 by unfold curI; rw [if_pos h0])
      have hneg : (-1 : Int) < 0 := by decide
      clear h0
      go_enter Tryd.func13, Tryd.ntmps13
      go_wp2_with fail
      refine (spec_gt _ bs true _ HV.out HF.out HCO.out HGB.out).mono ?_
      rintro e w2 ⟨rfl, hb2⟩
      have hbw := hal.trans (hb2.mono hal.size)
      clear d0
      have d0 := (HC.out.down hb2).cell
      go_wp2_with fail
      refine (spec_current _ bs _ (HV.out.below hb2) HF.out HG.out).mono ?_
      rw [HCI.out]
      rintro e w3 ⟨rfl, hb3⟩
      have hbw3 := hbw.trans (hb3.mono hbw.size)
      clear hb3 hbw hb2 d0
      go_wp2
      go_ret2
      exact ⟨⟨_, _, _, by rw [HN.out]; rfl, by rw [HN2.out]; exact OwnE.nil _ _⟩, hbw3⟩
    · have hp : 0 < bs.length := by omega
      have HN := hide (show b = true from HB.out.yes ⟨HG.out, fun h => by subst h; simp at h0⟩)
      have HN2 := hide (HL.out.1 HN.out)
      obtain ⟨q, hq⟩ : ∃ q, cur bs bs.length = q := ⟨_, rfl⟩
      have HCI := hide (show curI bs bs.length = (q : Int) by unfold curI; rw [if_neg h0, hq])
      have hcb := cur_b hp
      rw [hq] at hcb
      obtain ⟨g, off, rfl, hlg, a2, c2, hc, hs⟩ := HV.out.at hcb
      have hql := (List.getElem?_eq_some_iff.1 hcb).1
      have hzl : ¬ ((q : Int) < 0) := by omega
      have hi0 : (0 : Int) ≤ (q : Int) := by omega
      have hi1 : (q : Int) < (bs.length : Int) := by omega
      have HT := hide (HG.out.2.1 (curB bs) (List.mem_of_getElem? (cur_b hp)))
      have HS := hide hs
      have HCE := hide hc
      clear h0 hq hcb hc hs
      go_enter Tryd.func13, Tryd.ntmps13
      go_wp2_with fail
      refine (spec_gt _ bs true _ HV.out HF.out HCO.out HGB.out).mono ?_
      rintro e w2 ⟨rfl, hb2⟩
      have hbw := hal.trans (hb2.mono hal.size)
      clear d0
      have d0 := (HC.out.down hb2).cell
      go_wp2_with fail
      refine (spec_current _ bs _ (HV.out.below hb2) HF.out HG.out).mono ?_
      rw [HCI.out]
      rintro e w3 ⟨rfl, hb3⟩
      have hbx := hb2.trans (hb3.mono hb2.size)
      have hbw3 := hal.trans (hbx.mono hal.size)
      clear d0 hb3 hbw hb2
      have d0 := (HC.out.down hbx).cell
      have d1 := (hbx.cell (p := ⟨g, off + q, none⟩) hlg).trans HCE.out
      go_wp2_with fail
      refine (own_evs _ (curB bs) _ (HS.out.below hbx) (by have := HT.out.short; omega) HT.out.1).mono ?_
      rintro e w4 ⟨⟨a7, n7, c7, rfl, hO⟩, hb4⟩
      have HO := hide (hO.mono hbw3.size)
      have hbz := hbw3.trans (hb4.mono hbw3.size)
      clear hO hb4 hbw3 hbx d0 d1
      go_wp2
      go_ret2
      exact ⟨⟨_, _, _, by rw [HN.out]; rfl, by rw [HN2.out]; exact HO.out⟩, hbz⟩
end Go.Proofs.YtcbkeabfnldmhaaDoor
