/-
  Texts that follow one another, joined: RgS, RgG1, RgG0.
-/
import Derived.Test.YtfkeokglifpkoaaGreatDoorJoin9
import Derived.Test.YtfkeokglifpkoaaGreatDoorJoin32
import Derived.Test.YtfkeokglifpkoaaGreatDoorJoin33
import Derived.Test.YtfkeokglifpkoaaGreatDoorJoin21
import Derived.Test.YtfkeokglifpkoaaGreatDoorJoin23
import Derived.Test.YtfkeokglifpkoaaGreatDoorJoin31
import Derived.Test.YtfkeokglifpkoaaGreatDoorJoin19
import Derived.Test.YtfkeokglifpkoaaGreatDoorJoin18
/-
  A region in the specification's text: which are good, which is active, a region's own memory, the history that counts.
-/
namespace Go.Proofs.YtfkeokglifpkoaaGreatDoor
open Go.RowKit M
open Go.Sort (grow)
namespace M
def verK (bs : Brs) (v : Int) (k : Nat) : Prop := ∀ j b, j < k → bs[j]? = some b → ∀ e ∈ b, e.ver ≤ v
def verE (es : Evs) (v : Int) (k : Nat) : Prop := ∀ j e, j < k → es[j]? = some e → e.ver ≤ v
theorem verK.zero (bs : Brs) (v : Int) : verK bs v 0 := fun _ _ h => absurd h (Nat.not_lt_zero _)
theorem verE.zero (es : Evs) (v : Int) : verE es v 0 := fun _ _ h => absurd h (Nat.not_lt_zero _)
theorem verE.succ {es : Evs} {v : Int} {k : Nat} {x : Ev} (h : verE es v k) (hx : es[k]? = some x) (hv : x.ver ≤ v) : verE es v (k + 1) := fun j e hj he => by
  by_cases c : j = k
  · subst c; rw [hx] at he; simp at he; subst he; exact hv
  · exact h j e (by omega) he
theorem verK.succ {bs : Brs} {v : Int} {k : Nat} {x : Evs} (h : verK bs v k) (hx : bs[k]? = some x) (hv : verE x v x.length) : verK bs v (k + 1) := fun j b hj hb => by
  by_cases c : j = k
  · subst c; rw [hx] at hb; simp at hb; subst hb
    intro e he
    obtain ⟨i, hi, rfl⟩ := List.mem_iff_getElem.1 he
    exact hv i _ hi (List.getElem?_eq_getElem hi)
  · exact h j b (by omega) hb
theorem verK.all {bs : Brs} {v : Int} (h : verK bs v bs.length) : verB bs v := fun b hb e he => by
  obtain ⟨i, hi, rfl⟩ := List.mem_iff_getElem.1 hb
  exact h i _ hi (List.getElem?_eq_getElem hi) e he
theorem verB.not {bs : Brs} {v : Int} {k j : Nat} {b : Evs} {e : Ev} (hb : bs[k]? = some b) (he : b[j]? = some e) (h : v < e.ver) : ¬ verB bs v := fun hh => by
  have := hh b (List.mem_of_getElem? hb) e (List.mem_of_getElem? he)
  omega
end M
set_option maxRecDepth 20000 in
set_option maxHeartbeats 4000000 in
theorem spec_goodR (id ver : Int) (v : Value) (bs : Brs) (b : Bool) (w : World) (hv : BrsOf w v bs) (hf : FineS bs) (hco : CapOk v) (hb : BP b (GdR ⟨id, ver, bs⟩)) :
    Calls Tryz.prog 51 #[rv id ver v] w fun e w' => e = .returned (.bool b) ∧ Below w.heap.size w w' := by
  have hal := low1 w (.cells #[.int .i64 id, .int .i64 ver, v] 34)
  have HV := hide (hv.below hal)
  have HC := hide (new3 w (.int .i64 id) (.int .i64 ver) v 34)
  have HF := hide hf
  have HB := hide hb
  have HCO := hide hco
  have hn := hf.1
  obtain ⟨a1, c1, rfl⟩ := hv.form
  obtain ⟨⟨d0, d1, d2⟩, -⟩ := HC.out.tri
  clear hv hf hb hco
  cases h : inB id 0 9
  · have HN := hide (show b = false from HB.out.no (fun hh => by have := inB_iff.2 hh.1; rw [h] at this; cases this))
    go_enter Tryz.func51, Tryz.ntmps51
    go_wp2_with (go_at_call 93; refine (spec_in _ _ _ _).mono ?_; rintro e w' ⟨rfl, rfl⟩; rw [h])
    go_ret
    exact ⟨ret_bool HN.out.symm, hal⟩
  cases h2 : inB ver 0 1000000
  · have HN := hide (show b = false from HB.out.no (fun hh => by have := inB_iff.2 hh.2.1; rw [h2] at this; cases this))
    go_enter Tryz.func51, Tryz.ntmps51
    go_wp2_with (first | (go_at_call 93; refine (spec_in _ _ _ _).mono ?_; rintro e w' ⟨rfl, rfl⟩; rw [h]) | (go_at_call 94; refine (spec_ver _ _).mono ?_; rintro e w' ⟨rfl, rfl⟩; rw [h2]))
    go_ret
    exact ⟨ret_bool HN.out.symm, hal⟩
  obtain ⟨gb, hgb⟩ := bp_ex (GdT bs)
  have HGB := hide hgb
  clear hgb
  cases gb
  · have HN := hide (show b = false from HB.out.no (fun hh => by have := HGB.out.2 hh.2.2.1; cases this))
    go_enter Tryz.func51, Tryz.ntmps51
    go_wp2_with (first | (go_at_call 93; refine (spec_in _ _ _ _).mono ?_; rintro e w' ⟨rfl, rfl⟩; rw [h]) | (go_at_call 94; refine (spec_ver _ _).mono ?_; rintro e w' ⟨rfl, rfl⟩; rw [h2]))
    refine (spec_gt _ bs false _ HV.out HF.out HCO.out HGB.out).mono ?_
    rintro e w2 ⟨rfl, hb2⟩
    have hbw := hal.trans (hb2.mono hal.size)
    go_wp2
    go_ret
    exact ⟨ret_bool HN.out.symm, hbw⟩
  have HG := hide (HGB.out.1 rfl)
  have HBB := hide (show BP b (verB bs ver) from ⟨fun e => (HB.out.1 e).2.2.2, fun hh => HB.out.2 ⟨inB_iff.1 h, inB_iff.1 h2, HG.out, hh⟩⟩)
  go_enter Tryz.func51, Tryz.ntmps51
  go_wp2_with (first | (go_at_call 93; refine (spec_in _ _ _ _).mono ?_; rintro e w' ⟨rfl, rfl⟩; rw [h]) | (go_at_call 94; refine (spec_ver _ _).mono ?_; rintro e w' ⟨rfl, rfl⟩; rw [h2]))
  refine (spec_gt _ bs true _ HV.out HF.out HCO.out HGB.out).mono ?_
  rintro e w2 ⟨rfl, hb2⟩
  have hbw := hal.trans (hb2.mono hal.size)
  have HC2 := hide (HC.out.down hb2)
  have HV2 := hide (HV.out.below hb2)
  obtain ⟨⟨e0, e1, e2⟩, -⟩ := HC2.out.tri
  clear HC HV HB HGB d0 d1 d2 hb2 hal h h2
  go_wp2_with fail
  clear e0 e1 e2
  go_loopw [27] (fun i wr => ∃ k : Nat, k ≤ bs.length ∧ i = .int .i64 k ∧ Hid (verK bs ver k) ∧ Below w2.heap.size w2 wr) (fun i _ => bs.length - (intOf i).toNat)
  case atStart => exact ⟨0, Nat.zero_le _, rfl, hide (verK.zero bs ver), Below.refl _ _⟩
  case round =>
    rename World => wo
    obtain ⟨k, hk, rfl, HI, hbr⟩ := hrel
    by_cases hlt : k < bs.length
    · obtain ⟨es, he⟩ : ∃ e, bs[k]? = some e := ⟨bs[k], List.getElem?_eq_getElem hlt⟩
      obtain ⟨g, off, rfl, hlg, a2, c2, hc, hs⟩ := HV2.out.at he
      have hcw := (hbr.cell (p := ⟨g, off + k, none⟩) hlg).trans hc
      have hal2 := low1 wo (.cells #[.slice a2 es.length c2] 81)
      have hbq := hbr.trans (hal2.mono hbr.size)
      have q0 := one_new wo (.slice a2 es.length c2) 81
      have hle : es.length ≤ 60 := (HG.out.2.1 es (List.mem_of_getElem? he)).short
      have HS := hide (hs.below hbq)
      have HE := hide he
      obtain ⟨wq, hwq⟩ : ∃ wq, wo.alloc (.cells #[.slice a2 es.length c2] 81) = wq := ⟨_, rfl⟩
      rw [hwq] at hbq q0 HS
      have HWQ := hide hwq
      clear hc hs he hal2 hwq
      go_wp2_with fail
      rw [HWQ.out]
      clear HWQ
      go_wp2_with fail
      go_loopw [34] (fun i wi => ∃ j : Nat, j ≤ es.length ∧ i = .int .i64 j ∧ Hid (verE es ver j) ∧ Below wq.heap.size wq wi) (fun i _ => es.length - (intOf i).toNat)
      case atStart => exact ⟨0, Nat.zero_le _, rfl, hide (verE.zero es ver), Below.refl _ _⟩
      case round =>
        obtain ⟨j, hj, rfl, HJ, hbi⟩ := hrel
        by_cases hjl : j < es.length
        · obtain ⟨x, hx⟩ : ∃ x, es[j]? = some x := ⟨es[j], List.getElem?_eq_getElem hjl⟩
          obtain ⟨a3, c3, hv3, hr3⟩ := HS.out
          simp only [Value.slice.injEq, true_and] at hv3
          obtain ⟨rfl, rfl⟩ := hv3
          obtain ⟨g1, o1, rfl, hl1, hrow1⟩ := hr3 (by intro h; subst h; simp at hjl)
          obtain ⟨f0, f1, f2, f3⟩ := (hrow1 j x hx).below hbi hl1
          have hb4 := hbq.trans (hbi.mono hbq.size)
          have hbz := hbw.trans (hb4.mono hbw.size)
          obtain ⟨⟨-, m1, -⟩, -⟩ := ((HC2.out.down hb4).alloc (.cells (evarr x) 74)).tri
          have hal5 := low1 wr (.cells (evarr x) 74)
          have HX := hide hx
          have hbi5 := hbi.trans (hal5.mono hbi.size)
          have hbz5 := hbz.trans (hal5.mono hbz.size)
          clear hr3 hrow1 hx
          by_cases hgt : ver < x.ver
          · have hgt' : x.ver > ver := hgt
            have HN := hide (show b = false from HBB.out.no (verB.not HE.out HX.out hgt))
            clear HI HJ
            go_wp2
            go_ret
            exact ⟨ret_bool HN.out.symm, hbz5⟩
          · have hgt' : ¬ x.ver > ver := hgt
            have HJ2 := hide (HJ.out.succ HX.out (by omega))
            clear HJ
            go_wp2
            go_roundw
            case rel => exact ⟨j + 1, by omega, by go_num, HJ2, hbi5⟩
            case measure => simp [intOf]; omega
        · obtain rfl : j = es.length := by omega
          have HI2 := hide (HI.out.succ HE.out HJ.out)
          have hbx := hbq.trans (hbi.mono hbq.size)
          clear HI HJ
          go_wp2
          go_roundw
          case rel => exact ⟨k + 1, by omega, by go_num, HI2, hbx⟩
          case measure => simp [intOf]; omega
    · obtain rfl : k = bs.length := by omega
      have HN := hide (show b = true from HBB.out.yes HI.out.all)
      have hbz := hbw.trans (hbr.mono hbw.size)
      clear HI
      go_wp2
      go_ret
      exact ⟨ret_bool HN.out.symm, hbz⟩
theorem spec_act (id ver : Int) (v : Value) (bs : Brs) (w : World) (hv : BrsOf w v bs) (h0 : 0 ≤ ver) (_h1 : ver ≤ 1000000) :
    Calls Tryz.prog 52 #[rv id ver v] w fun e w' => e = .returned (.bool (ver % 10 == id)) ∧ Below w.heap.size w w' := by
  have hal := low1 w (.cells #[.int .i64 id, .int .i64 ver, v] 34)
  have HC := hide (new3 w (.int .i64 id) (.int .i64 ver) v 34)
  obtain ⟨a1, c1, rfl⟩ := hv.form
  obtain ⟨⟨d0, d1, d2⟩, -⟩ := HC.out.tri
  have ht : ver.tmod 10 = ver % 10 := Int.tmod_eq_emod_of_nonneg h0
  clear hv
  go_enter Tryz.func52, Tryz.ntmps52
  go_wp2
  go_ret
  exact ⟨rfl, hal⟩
theorem spec_active (id ver : Int) (v : Value) (bs : Brs) (b : Bool) (w : World) (hv : BrsOf w v bs) (hf : FineS bs) (hco : CapOk v) (hb : BP b (GdR ⟨id, ver, bs⟩)) :
    Calls Tryz.prog 13 #[rv id ver v] w fun e w' => e = .returned (.tuple #[.bool (b && (rgv ver == id)), .bool b]) ∧ Below w.heap.size w w' := by
  have hal := low1 w (.cells #[.int .i64 id, .int .i64 ver, v] 34)
  have HV := hide (hv.below hal)
  have HC := hide (new3 w (.int .i64 id) (.int .i64 ver) v 34)
  have HF := hide hf
  have HB := hide hb
  have HCO := hide hco
  obtain ⟨a1, c1, rfl⟩ := hv.form
  obtain ⟨⟨d0, d1, d2⟩, -⟩ := HC.out.tri
  clear hv hf hb hco
  cases b
  · go_enter Tryz.func13, Tryz.ntmps13
    go_wp2_with fail
    refine (spec_goodR id ver _ bs false _ HV.out HF.out HCO.out HB.out).mono ?_
    rintro e w2 ⟨rfl, hb2⟩
    have hbw := hal.trans (hb2.mono hal.size)
    go_wp2
    go_ret2
    exact ⟨rfl, hbw⟩
  · have HG := hide (HB.out.1 rfl)
    have HZ := hide (show rgv ver = ver % 10 from rgv_yes (inB_iff.2 HG.out.2.1))
    obtain ⟨z, hz⟩ : ∃ z, (ver % 10 == id) = z := ⟨_, rfl⟩
    have HZZ := hide hz
    rw [HZ.out, hz]
    clear hz
    go_enter Tryz.func13, Tryz.ntmps13
    go_wp2_with fail
    refine (spec_goodR id ver _ bs true _ HV.out HF.out HCO.out HB.out).mono ?_
    rintro e w2 ⟨rfl, hb2⟩
    have hbw := hal.trans (hb2.mono hal.size)
    obtain ⟨⟨e0, e1, e2⟩, -⟩ := (HC.out.down hb2).tri
    clear d0 d1 d2
    go_wp2_with fail
    refine (spec_act id ver _ bs _ (HV.out.below hb2) HG.out.2.1.1 HG.out.2.1.2).mono ?_
    rw [HZZ.out]
    rintro e w3 ⟨rfl, hb3⟩
    have hbx := hbw.trans (hb3.mono hbw.size)
    go_wp2
    go_ret2
    exact ⟨rfl, hbx⟩
set_option maxHeartbeats 1000000 in
theorem spec_hist16 (id ver : Int) (v : Value) (bs : Brs) (w : World) (hv : BrsOf w v bs) (hf : FineS bs) (hg : GdT bs) :
    Calls Tryz.prog 74 #[rv id ver v] w fun e w' => (∃ a c, e = .returned (.slice a (cB bs).length c) ∧ SliceOf w' (.slice a (cB bs).length c) (cB bs)) ∧ Below w.heap.size w w' := by
  have hal := low1 w (.cells #[.int .i64 id, .int .i64 ver, v] 34)
  have HV := hide (hv.below hal)
  have HC := hide (new3 w (.int .i64 id) (.int .i64 ver) v 34)
  have HF := hide hf
  have HG := hide hg
  obtain ⟨a1, c1, rfl⟩ := hv.form
  obtain ⟨⟨d0, d1, d2⟩, -⟩ := HC.out.tri
  by_cases h0 : bs.length = 0
  · have HL := hide (show cB bs = [] by
      have : bs = [] := List.eq_nil_of_length_eq_zero h0
      subst this; rfl)
    have HCI := hide (show curI bs bs.length = -1 by unfold curI; rw [if_pos h0])
    have hneg : (-1 : Int) < 0 := by decide
    clear h0 hv hf hg
    rw [HL.out]
    go_enter Tryz.func74, Tryz.ntmps74
    go_wp2_with fail
    refine (spec_current _ bs _ HV.out HF.out HG.out).mono ?_
    rw [HCI.out]
    rintro e w3 ⟨rfl, hb3⟩
    have hbw := hal.trans (hb3.mono hal.size)
    go_wp2
    go_ret
    exact ⟨⟨none, 0, rfl, ⟨none, 0, rfl, fun h => absurd rfl h⟩⟩, hbw⟩
  have hp : 0 < bs.length := by omega
  obtain ⟨q, hq⟩ : ∃ q, cur bs bs.length = q := ⟨_, rfl⟩
  have HCI := hide (show curI bs bs.length = (q : Int) by unfold curI; rw [if_neg h0, hq])
  have hcb := cur_b hp
  rw [hq] at hcb
  have HCU := hide (show cB bs = curB bs from if_neg (fun h => by subst h; simp at h0))
  obtain ⟨g0, off0, rfl, hlg0, a2, c2, hc, hs⟩ := HV.out.at hcb
  have hql := (List.getElem?_eq_some_iff.1 hcb).1
  have hzl : ¬ ((q : Int) < 0) := by omega
  have hi0 : (0 : Int) ≤ (q : Int) := by omega
  have hi1 : (q : Int) < (bs.length : Int) := by omega
  have HS := hide hs
  have HCE := hide hc
  clear h0 hq hcb hc hs hv hf hg
  rw [HCU.out]
  go_enter Tryz.func74, Tryz.ntmps74
  go_wp2_with fail
  refine (spec_current _ bs _ HV.out HF.out HG.out).mono ?_
  rw [HCI.out]
  rintro e w3 ⟨rfl, hb3⟩
  have hbw := hal.trans (hb3.mono hal.size)
  have m1 := (hb3.cell (p := ⟨g0, off0 + q, none⟩) hlg0).trans HCE.out
  obtain ⟨⟨e0, e1, e2⟩, -⟩ := (HC.out.down hb3).tri
  have HS3 := hide (HS.out.below hb3)
  clear d0 d1 d2
  go_wp2
  go_ret
  exact ⟨⟨_, _, rfl, HS3.out⟩, hbw⟩
set_option maxHeartbeats 1000000 in
theorem spec_own16 (id ver : Int) (v : Value) (bs : Brs) (w : World) (hv : BrsOf w v bs) (hg : GdT bs) :
    Calls Tryz.prog 57 #[rv id ver v] w fun e w' => (∃ r ps, e = .returned (rv id ver r) ∧ OwnP w' w.heap.size r ps ∧ bsP ps = bs) ∧ Below w.heap.size w w' := by
  obtain ⟨a1, c1, rfl⟩ := hv.form
  obtain ⟨W, hW⟩ : ∃ W, (w.alloc (.cells #[.int .i64 id, .int .i64 ver, .slice a1 bs.length c1] 34)).alloc (.cells #[.int .i64 0, .int .i64 0, .slice none 0 0] 34) = W := ⟨_, rfl⟩
  have HR := hide (show R2 w W id ver (.slice a1 bs.length c1) from by rw [← hW]; exact R2.new w _ _ _)
  have HV := hide (hv.below HR.out.low)
  have HG := hide hg
  have HWW := hide hW
  have h1001 : bs.length ≤ 1001 := by have := hg.1; omega
  have hsz : W.heap.size = w.heap.size + 2 := by rw [← hW]; simp
  have HSZ := hide hsz
  obtain ⟨⟨d0, d1, d2⟩, -⟩ := HR.out.arg.tri
  rw [← hW] at d0 d1 d2
  clear hv hg hW hsz
  go_enter Tryz.func57, Tryz.ntmps57
  go_wp2_with fail
  rw [HWW.out]
  clear d0 d1 d2
  refine (spec_own _ bs _ HV.out h1001 HG.out.2).mono ?_
  rintro e w2 ⟨⟨r, ps, rfl, hO, hps⟩, hb2⟩
  have HR2 := hide (HR.out.down hb2)
  have HO2 := hide (hO.mono (show w.heap.size + 2 ≤ W.heap.size from Nat.le_of_eq HSZ.out.symm))
  have HPS := hide hps
  obtain ⟨ar, cr, rfl⟩ := hO.form
  obtain ⟨⟨f0, f1, f2⟩, f3, f4, f5⟩ := HR2.out.arg.tri
  obtain ⟨⟨g0, g1, g2⟩, g3, g4, g5⟩ := HR2.out.res.tri
  obtain ⟨WZ, hWZ⟩ : ∃ WZ, ((((w2.setCell ⟨w.heap.size, 2, none⟩ (.slice ar ps.length cr)).setCell ⟨w.heap.size + 1, 0, none⟩ (.int .i64 id)).setCell ⟨w.heap.size + 1, 1, none⟩ (.int .i64 ver)).setCell ⟨w.heap.size + 1, 2, none⟩ (.slice ar ps.length cr)) = WZ := ⟨_, rfl⟩
  have HZ := hide (show Blk WZ (w.heap.size + 1) 3 (q3 (.int .i64 id) (.int .i64 ver) (.slice ar ps.length cr)) 34 from by rw [← hWZ]; exact ((HR2.out.res.off (by omega) _).put3 _ _ _))
  have HZO := hide (show OwnP WZ w.heap.size (.slice ar ps.length cr) ps from by
    rw [← hWZ]; exact ((((HO2.out.set_low (by omega) _).set_low (by omega) _).set_low (by omega) _).set_low (by omega) _).mono (by omega))
  have HZB := hide (show Below w.heap.size w WZ from by
    rw [← hWZ]; exact ((((HR2.out.low.setCell (p := ⟨w.heap.size, 2, none⟩) (Nat.le_refl _) _).setCell (p := ⟨w.heap.size + 1, 0, none⟩) (Nat.le_succ _) _).setCell (p := ⟨w.heap.size + 1, 1, none⟩) (Nat.le_succ _) _).setCell (p := ⟨w.heap.size + 1, 2, none⟩) (Nat.le_succ _) _))
  have HWZ := hide hWZ
  clear hWZ hb2 hO hps HR HV HO2 HR2
  go_wp2
  rw [HWZ.out]
  clear f0 f1 f2 f3 f4 f5 g0 g1 g2 g3 g4 g5
  obtain ⟨⟨e0, e1, e2⟩, -⟩ := HZ.out.tri
  exact bodyPost_ret (v := rv id ver (.slice ar ps.length cr)) (by simp [results, Tryz.results57, go_sem, e0, e1, e2]) rfl ⟨⟨_, ps, rfl, HZO.out, HPS.out⟩, HZB.out⟩
end Go.Proofs.YtfkeokglifpkoaaGreatDoor

/-
  A call in the specification's text: where nothing is taken.
-/
namespace Go.Proofs.YtfkeokglifpkoaaGreatDoor
open Go.RowKit M
open Clk (upd upd_same upd_other)
open Go.Sort (grow)
set_option maxRecDepth 20000 in
set_option maxHeartbeats 8000000 in
theorem spec_call_bad (my : St → Ev → Bool) (hmy : ∀ s e, BP (my s e) (May s e)) (id ver : Int) (v : Value) (ps : Prs) (k : Int) (x : ByteArray) (B : Nat) (w : World) (ho : OwnP w B v ps) (_hB : B ≤ w.heap.size) (hg : GdR ⟨id, ver, bsP ps⟩) (hx : x.size ≤ maxLen) (hc : okC k x = false) :
    Calls Tryz.prog 56 #[rv id ver v, .int .i64 k, .string x] w fun e w' => (∃ u ps', e = .returned (.tuple #[rv id ver u, .int .i64 1]) ∧ OwnP w' B u ps' ∧ bsP ps' = bsP ps) ∧ Below w.heap.size w w' := by
  have HG := hide hg
  have HX := hide hx
  have HMY := hide hmy
  obtain ⟨a1, c1, rfl⟩ := ho.form
  have HCO := hide (show ps.length ≤ c1 from ho.capOk)
  obtain ⟨W, hW⟩ : ∃ W, (w.alloc (.cells #[.int .i64 id, .int .i64 ver, .slice a1 ps.length c1] 34)).alloc (.cells #[.int .i64 0, .int .i64 0, .slice none 0 0] 34) = W := ⟨_, rfl⟩
  have HR := hide (show R2 w W id ver (.slice a1 ps.length c1) from by rw [← hW]; exact R2.new w _ _ _)
  have hdn : Below w.heap.size w W := HR.out.low
  have HO0 := hide ho
  have HO := hide (ho.down hdn)
  have HV := hide (show BrsOf W (.slice a1 ps.length c1) (bsP ps) from (ho.down hdn).brs)
  have HFN := hide (show FineS (bsP ps) from hg.2.2.1.2.fine (by exact Nat.le_trans (show (bsP ps).length ≤ 12 from hg.2.2.1.1) (by omega)))
  have HGT := hide (show GdT (bsP ps) from hg.2.2.1)
  have HVR := hide (show 0 ≤ ver ∧ ver ≤ 1000000 from hg.2.1)
  have HW := hide hW
  obtain ⟨⟨d0, d1, d2⟩, -⟩ := HR.out.arg.tri
  obtain ⟨⟨e0, e1, e2⟩, f0, f1, f2⟩ := HR.out.res.tri
  rw [← hW] at d0 d1 d2 e0 e1 e2 f0 f1 f2
  clear ho hg hx hmy hW
  cases h1 : inB k 1 6
  · go_enter Tryz.func56, Tryz.ntmps56
    go_wp2_with (go_at_call 93; refine (spec_in _ _ _ _).mono ?_; rintro e w' ⟨rfl, rfl⟩; rw [h1])
    obtain ⟨WZ, hWZ⟩ : ∃ WZ, (w.alloc (.cells #[.int .i64 id, .int .i64 ver, .slice a1 ps.length c1] 34)).alloc (.cells #[.int .i64 id, .int .i64 ver, .slice a1 ps.length c1] 34) = WZ := ⟨_, rfl⟩
    have hzb : Below w.heap.size w WZ := by rw [← hWZ]; exact ((Below.refl _ w).alloc (Nat.le_refl _) _).alloc (by simp) _
    have hz : Blk WZ (w.heap.size + 1) 3 (q3 (.int .i64 id) (.int .i64 ver) (.slice a1 ps.length c1)) 34 := by
      have := new3 (w.alloc (.cells #[.int .i64 id, .int .i64 ver, .slice a1 ps.length c1] 34)) (.int .i64 id) (.int .i64 ver) (.slice a1 ps.length c1) 34
      rw [World.size_alloc] at this; rw [← hWZ]; exact this
    have HZO := hide (HO0.out.down hzb)
    rw [hWZ]
    obtain ⟨⟨s0, s1, s2⟩, -⟩ := hz.tri
    exact bodyPost_ret (v := .tuple #[rv id ver (.slice a1 ps.length c1), .int .i64 1]) (by simp [results, Tryz.results56, go_sem, s0, s1, s2]) rfl ⟨⟨_, ps, rfl, HZO.out, rfl⟩, hzb⟩
  · have h2 : goodName x.data.toList = false := by unfold okC at hc; rw [h1] at hc; simpa [gN] using hc
    go_enter Tryz.func56, Tryz.ntmps56
    go_wp2_with (first | (go_at_call 93; refine (spec_in _ _ _ _).mono ?_; rintro e w' ⟨rfl, rfl⟩; rw [h1]) | (go_at_call 99; refine (spec_name x _ HX.out).mono ?_; rintro e w' ⟨rfl, rfl⟩; rw [h2]))
    obtain ⟨WZ, hWZ⟩ : ∃ WZ, (w.alloc (.cells #[.int .i64 id, .int .i64 ver, .slice a1 ps.length c1] 34)).alloc (.cells #[.int .i64 id, .int .i64 ver, .slice a1 ps.length c1] 34) = WZ := ⟨_, rfl⟩
    have hzb : Below w.heap.size w WZ := by rw [← hWZ]; exact ((Below.refl _ w).alloc (Nat.le_refl _) _).alloc (by simp) _
    have hz : Blk WZ (w.heap.size + 1) 3 (q3 (.int .i64 id) (.int .i64 ver) (.slice a1 ps.length c1)) 34 := by
      have := new3 (w.alloc (.cells #[.int .i64 id, .int .i64 ver, .slice a1 ps.length c1] 34)) (.int .i64 id) (.int .i64 ver) (.slice a1 ps.length c1) 34
      rw [World.size_alloc] at this; rw [← hWZ]; exact this
    have HZO := hide (HO0.out.down hzb)
    rw [hWZ]
    obtain ⟨⟨s0, s1, s2⟩, -⟩ := hz.tri
    exact bodyPost_ret (v := .tuple #[rv id ver (.slice a1 ps.length c1), .int .i64 1]) (by simp [results, Tryz.results56, go_sem, s0, s1, s2]) rfl ⟨⟨_, ps, rfl, HZO.out, rfl⟩, hzb⟩
set_option maxRecDepth 20000 in
set_option maxHeartbeats 8000000 in
theorem spec_call_passive (my : St → Ev → Bool) (hmy : ∀ s e, BP (my s e) (May s e)) (id ver : Int) (v : Value) (ps : Prs) (k : Int) (x : ByteArray) (B : Nat) (w : World) (ho : OwnP w B v ps) (_hB : B ≤ w.heap.size) (hg : GdR ⟨id, ver, bsP ps⟩) (hx : x.size ≤ maxLen) (hc : okC k x = true) (ha : ver % 10 ≠ id) :
    Calls Tryz.prog 56 #[rv id ver v, .int .i64 k, .string x] w fun e w' => (∃ u ps', e = .returned (.tuple #[rv id ver u, .int .i64 2]) ∧ OwnP w' B u ps' ∧ bsP ps' = bsP ps) ∧ Below w.heap.size w w' := by
  have HG := hide hg
  have HX := hide hx
  have HMY := hide hmy
  obtain ⟨a1, c1, rfl⟩ := ho.form
  have HCO := hide (show ps.length ≤ c1 from ho.capOk)
  obtain ⟨W, hW⟩ : ∃ W, (w.alloc (.cells #[.int .i64 id, .int .i64 ver, .slice a1 ps.length c1] 34)).alloc (.cells #[.int .i64 0, .int .i64 0, .slice none 0 0] 34) = W := ⟨_, rfl⟩
  have HR := hide (show R2 w W id ver (.slice a1 ps.length c1) from by rw [← hW]; exact R2.new w _ _ _)
  have hdn : Below w.heap.size w W := HR.out.low
  have HO0 := hide ho
  have HO := hide (ho.down hdn)
  have HV := hide (show BrsOf W (.slice a1 ps.length c1) (bsP ps) from (ho.down hdn).brs)
  have HFN := hide (show FineS (bsP ps) from hg.2.2.1.2.fine (by exact Nat.le_trans (show (bsP ps).length ≤ 12 from hg.2.2.1.1) (by omega)))
  have HGT := hide (show GdT (bsP ps) from hg.2.2.1)
  have HVR := hide (show 0 ≤ ver ∧ ver ≤ 1000000 from hg.2.1)
  have HW := hide hW
  obtain ⟨⟨d0, d1, d2⟩, -⟩ := HR.out.arg.tri
  obtain ⟨⟨e0, e1, e2⟩, f0, f1, f2⟩ := HR.out.res.tri
  rw [← hW] at d0 d1 d2 e0 e1 e2 f0 f1 f2
  have h1 : inB k 1 6 = true := by unfold okC at hc; rw [Bool.and_eq_true] at hc; exact hc.1
  have h2 : goodName x.data.toList = true := by unfold okC at hc; rw [Bool.and_eq_true] at hc; exact hc.2
  have HACT := hide (show (ver % 10 == id) = false by simp [ha])
  clear ho hg hx hmy hW hc ha
  go_enter Tryz.func56, Tryz.ntmps56
  go_wp2_with (first | (go_at_call 93; refine (spec_in _ _ _ _).mono ?_; rintro e w' ⟨rfl, rfl⟩; rw [h1]) | (go_at_call 99; refine (spec_name x _ HX.out).mono ?_; rintro e w' ⟨rfl, rfl⟩; rw [h2]))
  rw [HW.out]
  clear HW d0 d1 d2 e0 e1 e2 f0 f1 f2
  refine (spec_act id ver _ (bsP ps) _ HV.out HVR.out.1 HVR.out.2).mono ?_
  rw [HACT.out]
  rintro e w1 ⟨rfl, hb1⟩
  have HR1 := hide (HR.out.down hb1)
  have HO1 := hide (HO.out.down hb1)
  clear hb1 HR HO HV
  obtain ⟨⟨d0, d1, d2⟩, -⟩ := HR1.out.arg.tri
  obtain ⟨⟨e0, e1, e2⟩, f0, f1, f2⟩ := HR1.out.res.tri
  obtain ⟨WZ, hWZ⟩ : ∃ WZ, ((w1.setCell ⟨w.heap.size + 1, 0, none⟩ (.int .i64 id)).setCell ⟨w.heap.size + 1, 1, none⟩ (.int .i64 ver)).setCell ⟨w.heap.size + 1, 2, none⟩ (.slice a1 ps.length c1) = WZ := ⟨_, rfl⟩
  obtain ⟨hz, hzb, -⟩ := HR1.out.fin (.int .i64 id) (.int .i64 ver) (.slice a1 ps.length c1) WZ hWZ
  have HZO := hide (show OwnP WZ B (.slice a1 ps.length c1) ps from by
    rw [← hWZ]; exact ((HO1.out.set_off HR1.out.res (by decide) (by decide) _).set_off (HR1.out.res.tri0 _) (by decide) (by decide) _).set_off ((HR1.out.res.tri0 _).tri1 _) (by decide) (by decide) _)
  have HWZ := hide hWZ
  have HZ := hide hz
  clear hz hWZ
  go_wp2
  rw [HWZ.out]
  obtain ⟨⟨s0, s1, s2⟩, -⟩ := HZ.out.tri
  exact bodyPost_ret (v := .tuple #[rv id ver (.slice a1 ps.length c1), .int .i64 2]) (by simp [results, Tryz.results56, go_sem, s0, s1, s2]) rfl ⟨⟨_, ps, rfl, HZO.out, rfl⟩, hzb⟩
set_option maxRecDepth 20000 in
set_option maxHeartbeats 8000000 in
theorem spec_call_again (my : St → Ev → Bool) (hmy : ∀ s e, BP (my s e) (May s e)) (id ver : Int) (v : Value) (ps : Prs) (k : Int) (x : ByteArray) (B : Nat) (w : World) (ho : OwnP w B v ps) (_hB : B ≤ w.heap.size) (hg : GdR ⟨id, ver, bsP ps⟩) (hx : x.size ≤ maxLen) (hc : okC k x = true) (ha : ver % 10 = id) (hk : k = 2) (hin : x ∈ (stB (bsP ps)).sg) :
    Calls Tryz.prog 56 #[rv id ver v, .int .i64 k, .string x] w fun e w' => (∃ u ps', e = .returned (.tuple #[rv id ver u, .int .i64 5]) ∧ OwnP w' B u ps' ∧ bsP ps' = bsP ps) ∧ Below w.heap.size w w' := by
  have HG := hide hg
  have HX := hide hx
  have HMY := hide hmy
  obtain ⟨a1, c1, rfl⟩ := ho.form
  have HCO := hide (show ps.length ≤ c1 from ho.capOk)
  obtain ⟨W, hW⟩ : ∃ W, (w.alloc (.cells #[.int .i64 id, .int .i64 ver, .slice a1 ps.length c1] 34)).alloc (.cells #[.int .i64 0, .int .i64 0, .slice none 0 0] 34) = W := ⟨_, rfl⟩
  have HR := hide (show R2 w W id ver (.slice a1 ps.length c1) from by rw [← hW]; exact R2.new w _ _ _)
  have hdn : Below w.heap.size w W := HR.out.low
  have HO0 := hide ho
  have HO := hide (ho.down hdn)
  have HV := hide (show BrsOf W (.slice a1 ps.length c1) (bsP ps) from (ho.down hdn).brs)
  have HFN := hide (show FineS (bsP ps) from hg.2.2.1.2.fine (by exact Nat.le_trans (show (bsP ps).length ≤ 12 from hg.2.2.1.1) (by omega)))
  have HGT := hide (show GdT (bsP ps) from hg.2.2.1)
  have HVR := hide (show 0 ≤ ver ∧ ver ≤ 1000000 from hg.2.1)
  have HW := hide hW
  obtain ⟨⟨d0, d1, d2⟩, -⟩ := HR.out.arg.tri
  obtain ⟨⟨e0, e1, e2⟩, f0, f1, f2⟩ := HR.out.res.tri
  rw [← hW] at d0 d1 d2 e0 e1 e2 f0 f1 f2
  have h1 : inB k 1 6 = true := by unfold okC at hc; rw [Bool.and_eq_true] at hc; exact hc.1
  have h2 : goodName x.data.toList = true := by unfold okC at hc; rw [Bool.and_eq_true] at hc; exact hc.2
  obtain ⟨es, hes⟩ : ∃ es, cB (bsP ps) = es := ⟨_, rfl⟩
  obtain ⟨n, hn⟩ : ∃ n, es.length = n := ⟨_, rfl⟩
  obtain ⟨s, hs⟩ : ∃ s, stB (bsP ps) = s := ⟨_, rfl⟩
  have HES := hide hes
  have HNN := hide hn
  have HSS := hide hs
  have hh := cB_hist HGT.out
  rw [hes] at hh
  have hn60 : n ≤ 60 := by rw [← hn]; exact hh.1
  have hgs := stB_good HGT.out
  rw [hs] at hgs
  have HHI := hide hh
  have HGS := hide hgs
  have HE0 := hide (show evR ⟨id, ver, bsP ps⟩ k x = ⟨s.nx, ver, k, x⟩ from by unfold evR; rw [← hs])
  have HACT := hide (show (ver % 10 == id) = true by simp [ha])
  clear hes hn hs hh hgs
  have HIN := hide (show x ∈ s.sg from by rw [← HSS.out]; exact hin)
  have hkb : (k == 2) = true := by simp [hk]
  clear ho hg hx hmy hW hc ha hk hin
  go_enter Tryz.func56, Tryz.ntmps56
  go_wp2_with (first | (go_at_call 93; refine (spec_in _ _ _ _).mono ?_; rintro e w' ⟨rfl, rfl⟩; rw [h1]) | (go_at_call 99; refine (spec_name x _ HX.out).mono ?_; rintro e w' ⟨rfl, rfl⟩; rw [h2]))
  rw [HW.out]
  clear HW d0 d1 d2 e0 e1 e2 f0 f1 f2
  refine (spec_act id ver _ (bsP ps) _ HV.out HVR.out.1 HVR.out.2).mono ?_
  rw [HACT.out]
  rintro e w1 ⟨rfl, hb1⟩
  have HR1 := hide (HR.out.down hb1)
  have HO1 := hide (HO.out.down hb1)
  have HV1 := hide (HV.out.below hb1)
  obtain ⟨⟨d0, d1, d2⟩, -⟩ := HR1.out.arg.tri
  clear hb1 HR HO HV
  go_wp2_with fail
  refine (spec_hist16 id ver _ (bsP ps) _ HV1.out HFN.out HGT.out).mono ?_
  rw [HES.out, HNN.out]
  rintro e w2 ⟨⟨a2, c2, rfl, hsl⟩, hb2⟩
  have HR2 := hide (HR1.out.down hb2)
  have HO2 := hide (HO1.out.down hb2)
  have HS2 := hide hsl
  clear hsl hb2 HR1 HO1 HV1 d0 d1 d2
  go_wp2_with fail
  refine (spec_fold _ es n _ HS2.out (by have := HNN.out; omega) (fun e he => by have := hist_names HHI.out e he; unfold maxLen; omega) (by rw [← HNN.out]; exact HHI.out.2.1)).mono ?_
  rintro e w3 ⟨⟨u0, u1, rfl, hA⟩, hb3⟩
  have hsk : sk es n = s := by rw [← HSS.out]; unfold stB; rw [HES.out, HNN.out]
  rw [hsk] at hA ⊢
  obtain ⟨x0, m0, rfl⟩ := hA.q.1.form
  obtain ⟨x1, m1, rfl⟩ := hA.q.2.form
  have hal4 := low1 w3 (.cells (sarr (.slice x0 s.sg.length m0) (.slice x1 s.tm.length m1) s) 60)
  have HBX := hide (show Blk (w3.alloc (.cells (sarr (.slice x0 s.sg.length m0) (.slice x1 s.tm.length m1) s) 60)) w3.heap.size 6 (sq (.slice x0 s.sg.length m0) (.slice x1 s.tm.length m1) s) 60 from new6 w3 _ _ _ _ _ _ 60)
  obtain ⟨w4, hw4⟩ : ∃ w4, w3.alloc (.cells (sarr (.slice x0 s.sg.length m0) (.slice x1 s.tm.length m1) s) 60) = w4 := ⟨_, rfl⟩
  obtain ⟨sb, hsb⟩ : ∃ sb, w3.heap.size = sb := ⟨_, rfl⟩
  have HA4 := hide (hA.down hal4)
  have HS4 := hide ((HS2.out.below hb3).below hal4)
  have HR4 := hide ((HR2.out.down hb3).down hal4)
  have HO4 := hide ((HO2.out.down hb3).down hal4)
  rw [hw4] at HBX HA4 HS4 HR4 HO4
  rw [hsb] at HBX
  have HW4 := hide hw4
  have HSB := hide hsb
  obtain ⟨⟨b0, b1, b2, b3, b4, b5⟩, -⟩ := HBX.out.hex
  rw [← hw4, ← hsb] at b0 b1 b2 b3 b4 b5
  clear hA hal4 hb3 HR2 HO2 HS2 hsk hw4 hsb
  go_wp2_with fail
  rw [HW4.out]
  try rw [HSB.out]
  clear HW4 HSB b0 b1 b2 b3 b4 b5
  refine (at_txs _ s.sg x _ HA4.out.q.1 (by have := HGS.out.2.2.1.1; omega)).mono ?_
  rintro e wv ⟨⟨r, rfl, hr⟩, hwv⟩
  rw [hwv]
  have hr0 : r ≥ 0 := hr.2 HIN.out
  clear hwv wv hr
  obtain ⟨⟨b0, b1, b2, b3, b4, b5⟩, -⟩ := HBX.out.hex
  obtain ⟨⟨d0, d1, d2⟩, -⟩ := HR4.out.arg.tri
  obtain ⟨⟨e0, e1, e2⟩, f0, f1, f2⟩ := HR4.out.res.tri
  obtain ⟨WZ, hWZ⟩ : ∃ WZ, ((w4.setCell ⟨w.heap.size + 1, 0, none⟩ (.int .i64 id)).setCell ⟨w.heap.size + 1, 1, none⟩ (.int .i64 ver)).setCell ⟨w.heap.size + 1, 2, none⟩ (.slice a1 ps.length c1) = WZ := ⟨_, rfl⟩
  obtain ⟨hz, hzb, -⟩ := HR4.out.fin (.int .i64 id) (.int .i64 ver) (.slice a1 ps.length c1) WZ hWZ
  have HZO := hide (show OwnP WZ B (.slice a1 ps.length c1) ps from by
    rw [← hWZ]; exact ((HO4.out.set_off HR4.out.res (by decide) (by decide) _).set_off (HR4.out.res.tri0 _) (by decide) (by decide) _).set_off ((HR4.out.res.tri0 _).tri1 _) (by decide) (by decide) _)
  have HWZ := hide hWZ
  have HZ := hide hz
  clear hz hWZ
  go_wp2
  rw [HWZ.out]
  obtain ⟨⟨s0, s1, s2⟩, -⟩ := HZ.out.tri
  exact bodyPost_ret (v := .tuple #[rv id ver (.slice a1 ps.length c1), .int .i64 5]) (by simp [results, Tryz.results56, go_sem, s0, s1, s2]) rfl ⟨⟨_, ps, rfl, HZO.out, rfl⟩, hzb⟩
end Go.Proofs.YtfkeokglifpkoaaGreatDoor

/-
  Events copied in the specification's text, whatever they are.
-/
namespace Go.Proofs.YtfkeokglifpkoaaGreatDoor
open Go.RowKit M
open Go.Sort (grow)
set_option maxHeartbeats 1000000 in
theorem own_evs0 (a : Option Addr) (c : Nat) (w : World) :
    Calls Tryz.prog 103 #[.slice a 0 c] w fun e w' => (∃ a n c, e = .returned (.slice a n c) ∧ OwnE w' w.heap.size (.slice a n c) []) ∧ Below w.heap.size w w' := by
  have hal := (Below.refl w.heap.size w).alloc (Nat.le_refl _) (.cells #[] 74)
  have HO := hide (OwnE.lit0 w)
  go_enter Tryz.func103, Tryz.ntmps103
  cases a with
  | none =>
    go_wp2
    go_ret
    exact ⟨⟨_, _, _, rfl, HO.out⟩, hal⟩
  | some a =>
    go_wp2
    go_ret
    exact ⟨⟨_, _, _, rfl, HO.out⟩, hal⟩
theorem own_evsG (v : Value) (es : Evs) (w : World) (hv : SliceOf w v es) (hlen : es.length ≤ 1048576) :
    Calls Tryz.prog 103 #[v] w fun e w' => (∃ a n c, e = .returned (.slice a n c) ∧ OwnE w' w.heap.size (.slice a n c) es) ∧ Below w.heap.size w w' := by
  by_cases h0 : es = []
  · subst h0
    obtain ⟨a, c, rfl, -⟩ := hv
    exact own_evs0 a c w
  · exact own_evs v es w hv hlen h0
end Go.Proofs.YtfkeokglifpkoaaGreatDoor
