/-
  A region in the specification's text: which are good, which is active, a region's own memory, the history that counts.
-/
import Derived.Test.YtjgopjnkkhkcnaaGreatDoorRgX
import Derived.Test.YtjgopjnkkhkcnaaGreatDoorBrYs
import Derived.Test.YtjgopjnkkhkcnaaGreatDoorBrZb
import Derived.Test.YtjgopjnkkhkcnaaGreatDoorBrHs
import Derived.Test.YtjgopjnkkhkcnaaGreatDoorVs
namespace Go.Proofs.YtjgopjnkkhkcnaaGreatDoor
open Go.RowKit M
open Go.Sort (grow)
namespace M
def verK (bs : Brs) (v : Int) (k : Nat) : Prop := ∀ j b, j < k → bs[j]? = some b → ∀ e ∈ b, e.ver ≤ v
def verE (es : Evs) (v : Int) (k : Nat) : Prop := ∀ j e, j < k → es[j]? = some e → e.ver ≤ v
theorem verK.zero (bs : Brs) (v : Int) : verK bs v 0 := fun _ _ h => absurd h (Nat.not_lt_zero _)
theorem verE.zero (es : Evs) (v : Int) : verE es v 0 := fun _ _ h => absurd h (Nat.not_lt_zero _)
theorem verE.succ {es : Evs} {v : Int} {k : Nat} {x : Ev} (h : verE es v k) (hx : es[k]? = some x) (hv : x.ver ≤ v) : verE es v (k + 1) := fun j e hj he => by
  by_cases c : j = k
  · subst c; rw [hx] at he; simp at he; subst he; exact hv
  · exact h j e (by omega) he
theorem verK.succ {bs : Brs} {v : Int} {k : Nat} {x : Evs} (h : verK bs v k) (hx : bs[k]? = some x) (hv : verE x v x.length) : verK bs v (k + 1) := fun j b hj hb => by
  by_cases c : j = k
  · subst c; rw [hx] at hb; simp at hb; subst hb
    intro e he
    obtain ⟨i, hi, rfl⟩ := List.mem_iff_getElem.1 he
    exact hv i _ hi (List.getElem?_eq_getElem hi)
  · exact h j b (by omega) hb
theorem verK.all {bs : Brs} {v : Int} (h : verK bs v bs.length) : verB bs v := fun b hb e he => by
  obtain ⟨i, hi, rfl⟩ := List.mem_iff_getElem.1 hb
  exact h i _ hi (List.getElem?_eq_getElem hi) e he
theorem verB.not {bs : Brs} {v : Int} {k j : Nat} {b : Evs} {e : Ev} (hb : bs[k]? = some b) (he : b[j]? = some e) (h : v < e.ver) : ¬ verB bs v := fun hh => by
  have := hh b (List.mem_of_getElem? hb) e (List.mem_of_getElem? he)
  omega
end M
set_option maxRecDepth 20000 in
set_option maxHeartbeats 4000000 in
theorem spec_goodR (id ver : Int) (v : Value) (bs : Brs) (b : Bool) (w : World) (hv : BrsOf w v bs) (hf : FineS bs) (hco : CapOk v) (hb : BP b (GdR ⟨id, ver, bs⟩)) :
    Calls Tryz.prog 56 #[rv id ver v] w fun e w' => e = .returned (.bool b) ∧ Below w.heap.size w w' := by
  have hal := low1 w (.cells #[.int .i64 id, .int .i64 ver, v] 32)
  have HV := hide (hv.below hal)
  have HC := hide (new3 w (.int .i64 id) (.int .i64 ver) v 32)
  have HF := hide hf
  have HB := hide hb
  have HCO := hide hco
  have hn := hf.1
  obtain ⟨a1, c1, rfl⟩ := hv.form
  obtain ⟨⟨d0, d1, d2⟩, -⟩ := HC.out.tri
  clear hv hf hb hco
  cases h : inB id 0 9
  · have HN := hide (show b = false from HB.out.no (fun hh => by have := inB_iff.2 hh.1; rw [h] at this; cases this))
    go_enter Tryz.func56, Tryz.ntmps56
    go_wp2_with (go_at_call 78; refine (spec_in _ _ _ _).mono ?_; rintro e w' ⟨rfl, rfl⟩; rw [h])
    go_ret
    exact ⟨ret_bool HN.out.symm, hal⟩
  cases h2 : inB ver 0 1000000
  · have HN := hide (show b = false from HB.out.no (fun hh => by have := inB_iff.2 hh.2.1; rw [h2] at this; cases this))
    go_enter Tryz.func56, Tryz.ntmps56
    go_wp2_with (first | (go_at_call 78; refine (spec_in _ _ _ _).mono ?_; rintro e w' ⟨rfl, rfl⟩; rw [h]) | (go_at_call 106; refine (spec_ver _ _).mono ?_; rintro e w' ⟨rfl, rfl⟩; rw [h2]))
    go_ret
    exact ⟨ret_bool HN.out.symm, hal⟩
  obtain ⟨gb, hgb⟩ := bp_ex (GdT bs)
  have HGB := hide hgb
  clear hgb
  cases gb
  · have HN := hide (show b = false from HB.out.no (fun hh => by have := HGB.out.2 hh.2.2.1; cases this))
    go_enter Tryz.func56, Tryz.ntmps56
    go_wp2_with (first | (go_at_call 78; refine (spec_in _ _ _ _).mono ?_; rintro e w' ⟨rfl, rfl⟩; rw [h]) | (go_at_call 106; refine (spec_ver _ _).mono ?_; rintro e w' ⟨rfl, rfl⟩; rw [h2]))
    refine (spec_gt _ bs false _ HV.out HF.out HCO.out HGB.out).mono ?_
    rintro e w2 ⟨rfl, hb2⟩
    have hbw := hal.trans (hb2.mono hal.size)
    go_wp2
    go_ret
    exact ⟨ret_bool HN.out.symm, hbw⟩
  have HG := hide (HGB.out.1 rfl)
  have HBB := hide (show BP b (verB bs ver) from ⟨fun e => (HB.out.1 e).2.2.2, fun hh => HB.out.2 ⟨inB_iff.1 h, inB_iff.1 h2, HG.out, hh⟩⟩)
  go_enter Tryz.func56, Tryz.ntmps56
  go_wp2_with (first | (go_at_call 78; refine (spec_in _ _ _ _).mono ?_; rintro e w' ⟨rfl, rfl⟩; rw [h]) | (go_at_call 106; refine (spec_ver _ _).mono ?_; rintro e w' ⟨rfl, rfl⟩; rw [h2]))
  refine (spec_gt _ bs true _ HV.out HF.out HCO.out HGB.out).mono ?_
  rintro e w2 ⟨rfl, hb2⟩
  have hbw := hal.trans (hb2.mono hal.size)
  have HC2 := hide (HC.out.down hb2)
  have HV2 := hide (HV.out.below hb2)
  obtain ⟨⟨e0, e1, e2⟩, -⟩ := HC2.out.tri
  clear HC HV HB HGB d0 d1 d2 hb2 hal h h2
  go_wp2_with fail
  clear e0 e1 e2
  go_loopw [27] (fun i wr => ∃ k : Nat, k ≤ bs.length ∧ i = .int .i64 k ∧ Hid (verK bs ver k) ∧ Below w2.heap.size w2 wr) (fun i _ => bs.length - (intOf i).toNat)
  case atStart => exact ⟨0, Nat.zero_le _, rfl, hide (verK.zero bs ver), Below.refl _ _⟩
  case round =>
    rename World => wo
    obtain ⟨k, hk, rfl, HI, hbr⟩ := hrel
    by_cases hlt : k < bs.length
    · obtain ⟨es, he⟩ : ∃ e, bs[k]? = some e := ⟨bs[k], List.getElem?_eq_getElem hlt⟩
      obtain ⟨g, off, rfl, hlg, a2, c2, hc, hs⟩ := HV2.out.at he
      have hcw := (hbr.cell (p := ⟨g, off + k, none⟩) hlg).trans hc
      have hal2 := low1 wo (.cells #[.slice a2 es.length c2] 148)
      have hbq := hbr.trans (hal2.mono hbr.size)
      have q0 := one_new wo (.slice a2 es.length c2) 148
      have hle : es.length ≤ 60 := (HG.out.2.1 es (List.mem_of_getElem? he)).short
      have HS := hide (hs.below hbq)
      have HE := hide he
      obtain ⟨wq, hwq⟩ : ∃ wq, wo.alloc (.cells #[.slice a2 es.length c2] 148) = wq := ⟨_, rfl⟩
      rw [hwq] at hbq q0 HS
      have HWQ := hide hwq
      clear hc hs he hal2 hwq
      go_wp2_with fail
      rw [HWQ.out]
      clear HWQ
      go_wp2_with fail
      go_loopw [34] (fun i wi => ∃ j : Nat, j ≤ es.length ∧ i = .int .i64 j ∧ Hid (verE es ver j) ∧ Below wq.heap.size wq wi) (fun i _ => es.length - (intOf i).toNat)
      case atStart => exact ⟨0, Nat.zero_le _, rfl, hide (verE.zero es ver), Below.refl _ _⟩
      case round =>
        obtain ⟨j, hj, rfl, HJ, hbi⟩ := hrel
        by_cases hjl : j < es.length
        · obtain ⟨x, hx⟩ : ∃ x, es[j]? = some x := ⟨es[j], List.getElem?_eq_getElem hjl⟩
          obtain ⟨a3, c3, hv3, hr3⟩ := HS.out
          simp only [Value.slice.injEq, true_and] at hv3
          obtain ⟨rfl, rfl⟩ := hv3
          obtain ⟨g1, o1, rfl, hl1, hrow1⟩ := hr3 (by intro h; subst h; simp at hjl)
          obtain ⟨f0, f1, f2, f3⟩ := (hrow1 j x hx).below hbi hl1
          have hb4 := hbq.trans (hbi.mono hbq.size)
          have hbz := hbw.trans (hb4.mono hbw.size)
          obtain ⟨⟨-, m1, -⟩, -⟩ := ((HC2.out.down hb4).alloc (.cells (evarr x) 150)).tri
          have hal5 := low1 wr (.cells (evarr x) 150)
          have HX := hide hx
          have hbi5 := hbi.trans (hal5.mono hbi.size)
          have hbz5 := hbz.trans (hal5.mono hbz.size)
          clear hr3 hrow1 hx
          by_cases hgt : ver < x.ver
          · have hgt' : x.ver > ver := hgt
            have HN := hide (show b = false from HBB.out.no (verB.not HE.out HX.out hgt))
            clear HI HJ
            go_wp2
            go_ret
            exact ⟨ret_bool HN.out.symm, hbz5⟩
          · have hgt' : ¬ x.ver > ver := hgt
            have HJ2 := hide (HJ.out.succ HX.out (by omega))
            clear HJ
            go_wp2
            go_roundw
            case rel => exact ⟨j + 1, by omega, by go_num, HJ2, hbi5⟩
            case measure => simp [intOf]; omega
        · obtain rfl : j = es.length := by omega
          have HI2 := hide (HI.out.succ HE.out HJ.out)
          have hbx := hbq.trans (hbi.mono hbq.size)
          clear HI HJ
          go_wp2
          go_roundw
          case rel => exact ⟨k + 1, by omega, by go_num, HI2, hbx⟩
          case measure => simp [intOf]; omega
    · obtain rfl : k = bs.length := by omega
      have HN := hide (show b = true from HBB.out.yes HI.out.all)
      have hbz := hbw.trans (hbr.mono hbw.size)
      clear HI
      go_wp2
      go_ret
      exact ⟨ret_bool HN.out.symm, hbz⟩
theorem spec_act (id ver : Int) (v : Value) (bs : Brs) (w : World) (hv : BrsOf w v bs) (h0 : 0 ≤ ver) (_h1 : ver ≤ 1000000) :
    Calls Tryz.prog 70 #[rv id ver v] w fun e w' => e = .returned (.bool (ver % 10 == id)) ∧ Below w.heap.size w w' := by
  have hal := low1 w (.cells #[.int .i64 id, .int .i64 ver, v] 32)
  have HC := hide (new3 w (.int .i64 id) (.int .i64 ver) v 32)
  obtain ⟨a1, c1, rfl⟩ := hv.form
  obtain ⟨⟨d0, d1, d2⟩, -⟩ := HC.out.tri
  have ht : ver.tmod 10 = ver % 10 := Int.tmod_eq_emod_of_nonneg h0
  clear hv
  go_enter Tryz.func70, Tryz.ntmps70
  go_wp2
  go_ret
  exact ⟨rfl, hal⟩
set_option maxHeartbeats 1000000 in
theorem spec_hist16 (id ver : Int) (v : Value) (bs : Brs) (w : World) (hv : BrsOf w v bs) (hf : FineS bs) (hg : GdT bs) :
    Calls Tryz.prog 109 #[rv id ver v] w fun e w' => (∃ a c, e = .returned (.slice a (cB bs).length c) ∧ SliceOf w' (.slice a (cB bs).length c) (cB bs)) ∧ Below w.heap.size w w' := by
  have hal := low1 w (.cells #[.int .i64 id, .int .i64 ver, v] 32)
  have HV := hide (hv.below hal)
  have HC := hide (new3 w (.int .i64 id) (.int .i64 ver) v 32)
  have HF := hide hf
  have HG := hide hg
  obtain ⟨a1, c1, rfl⟩ := hv.form
  obtain ⟨⟨d0, d1, d2⟩, -⟩ := HC.out.tri
  by_cases h0 : bs.length = 0
  · have HL := hide (show cB bs = [] by
      have : bs = [] := List.eq_nil_of_length_eq_zero h0
      subst this; rfl)
    have HCI := hide (show curI bs bs.length = -1 by unfold curI; rw [if_pos h0])
    have hneg : (-1 : Int) < 0 := by decide
    clear h0 hv hf hg
    rw [HL.out]
    go_enter Tryz.func109, Tryz.ntmps109
    go_wp2_with fail
    refine (spec_current _ bs _ HV.out HF.out HG.out).mono ?_
    rw [HCI.out]
    rintro e w3 ⟨rfl, hb3⟩
    have hbw := hal.trans (hb3.mono hal.size)
    go_wp2
    go_ret
    exact ⟨⟨none, 0, rfl, ⟨none, 0, rfl, fun h => absurd rfl h⟩⟩, hbw⟩
  have hp : 0 < bs.length := by omega
  obtain ⟨q, hq⟩ : ∃ q, cur bs bs.length = q := ⟨_, rfl⟩
  have HCI := hide (show curI bs bs.length = (q : Int) by unfold curI; rw [if_neg h0, hq])
  have hcb := cur_b hp
  rw [hq] at hcb
  have HCU := hide (show cB bs = curB bs from if_neg (fun h => by subst h; simp at h0))
  obtain ⟨g0, off0, rfl, hlg0, a2, c2, hc, hs⟩ := HV.out.at hcb
  have hql := (List.getElem?_eq_some_iff.1 hcb).1
  have hzl : ¬ ((q : Int) < 0) := by omega
  have hi0 : (0 : Int) ≤ (q : Int) := by omega
  have hi1 : (q : Int) < (bs.length : Int) := by omega
  have HS := hide hs
  have HCE := hide hc
  clear h0 hq hcb hc hs hv hf hg
  rw [HCU.out]
  go_enter Tryz.func109, Tryz.ntmps109
  go_wp2_with fail
  refine (spec_current _ bs _ HV.out HF.out HG.out).mono ?_
  rw [HCI.out]
  rintro e w3 ⟨rfl, hb3⟩
  have hbw := hal.trans (hb3.mono hal.size)
  have m1 := (hb3.cell (p := ⟨g0, off0 + q, none⟩) hlg0).trans HCE.out
  obtain ⟨⟨e0, e1, e2⟩, -⟩ := (HC.out.down hb3).tri
  have HS3 := hide (HS.out.below hb3)
  clear d0 d1 d2
  go_wp2
  go_ret
  exact ⟨⟨_, _, rfl, HS3.out⟩, hbw⟩
set_option maxHeartbeats 1000000 in
theorem spec_own16 (id ver : Int) (v : Value) (bs : Brs) (w : World) (hv : BrsOf w v bs) (hg : GdT bs) :
    Calls Tryz.prog 58 #[rv id ver v] w fun e w' => (∃ r ps, e = .returned (rv id ver r) ∧ OwnP w' w.heap.size r ps ∧ bsP ps = bs) ∧ Below w.heap.size w w' := by
  obtain ⟨a1, c1, rfl⟩ := hv.form
  obtain ⟨W, hW⟩ : ∃ W, (w.alloc (.cells #[.int .i64 id, .int .i64 ver, .slice a1 bs.length c1] 32)).alloc (.cells #[.int .i64 0, .int .i64 0, .slice none 0 0] 32) = W := ⟨_, rfl⟩
  have HR := hide (show R2 w W id ver (.slice a1 bs.length c1) from by rw [← hW]; exact R2.new w _ _ _)
  have HV := hide (hv.below HR.out.low)
  have HG := hide hg
  have HWW := hide hW
  have h1001 : bs.length ≤ 1001 := by have := hg.1; omega
  have hsz : W.heap.size = w.heap.size + 2 := by rw [← hW]; simp
  have HSZ := hide hsz
  obtain ⟨⟨d0, d1, d2⟩, -⟩ := HR.out.arg.tri
  rw [← hW] at d0 d1 d2
  clear hv hg hW hsz
  go_enter Tryz.func58, Tryz.ntmps58
  go_wp2_with fail
  rw [HWW.out]
  clear d0 d1 d2
  refine (spec_own _ bs _ HV.out h1001 HG.out.2).mono ?_
  rintro e w2 ⟨⟨r, ps, rfl, hO, hps⟩, hb2⟩
  have HR2 := hide (HR.out.down hb2)
  have HO2 := hide (hO.mono (show w.heap.size + 2 ≤ W.heap.size from Nat.le_of_eq HSZ.out.symm))
  have HPS := hide hps
  obtain ⟨ar, cr, rfl⟩ := hO.form
  obtain ⟨⟨f0, f1, f2⟩, f3, f4, f5⟩ := HR2.out.arg.tri
  obtain ⟨⟨g0, g1, g2⟩, g3, g4, g5⟩ := HR2.out.res.tri
  obtain ⟨WZ, hWZ⟩ : ∃ WZ, ((((w2.setCell ⟨w.heap.size, 2, none⟩ (.slice ar ps.length cr)).setCell ⟨w.heap.size + 1, 0, none⟩ (.int .i64 id)).setCell ⟨w.heap.size + 1, 1, none⟩ (.int .i64 ver)).setCell ⟨w.heap.size + 1, 2, none⟩ (.slice ar ps.length cr)) = WZ := ⟨_, rfl⟩
  have HZ := hide (show Blk WZ (w.heap.size + 1) 3 (q3 (.int .i64 id) (.int .i64 ver) (.slice ar ps.length cr)) 32 from by rw [← hWZ]; exact ((HR2.out.res.off (by omega) _).put3 _ _ _))
  have HZO := hide (show OwnP WZ w.heap.size (.slice ar ps.length cr) ps from by
    rw [← hWZ]; exact ((((HO2.out.set_low (by omega) _).set_low (by omega) _).set_low (by omega) _).set_low (by omega) _).mono (by omega))
  have HZB := hide (show Below w.heap.size w WZ from by
    rw [← hWZ]; exact ((((HR2.out.low.setCell (p := ⟨w.heap.size, 2, none⟩) (Nat.le_refl _) _).setCell (p := ⟨w.heap.size + 1, 0, none⟩) (Nat.le_succ _) _).setCell (p := ⟨w.heap.size + 1, 1, none⟩) (Nat.le_succ _) _).setCell (p := ⟨w.heap.size + 1, 2, none⟩) (Nat.le_succ _) _))
  have HWZ := hide hWZ
  clear hWZ hb2 hO hps HR HV HO2 HR2
  go_wp2
  rw [HWZ.out]
  clear f0 f1 f2 f3 f4 f5 g0 g1 g2 g3 g4 g5
  obtain ⟨⟨e0, e1, e2⟩, -⟩ := HZ.out.tri
  exact bodyPost_ret (v := rv id ver (.slice ar ps.length cr)) (by simp [results, Tryz.results58, go_sem, e0, e1, e2]) rfl ⟨⟨_, ps, rfl, HZO.out, HPS.out⟩, HZB.out⟩
end Go.Proofs.YtjgopjnkkhkcnaaGreatDoor
