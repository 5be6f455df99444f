/-
  The law FnItems, walked: whatever the bytes, it returns true and turns nothing that was there. Condition: the table knownKinds reads as the program's text lays it.
-/
import Derived.Test.YtbajiamkgffhkaaDoorIdA
import Derived.Test.YtbajiamkgffhkaaDoorIdM
import Derived.Test.YtbajiamkgffhkaaDoorIcC
import Derived.Test.YtbajiamkgffhkaaDoorItX
namespace Go.Proofs.YtbajiamkgffhkaaDoor
open Go.RowKit M
open Clk (upd upd_same upd_other)
namespace M
theorem atI_yes {n : Nat} {l : Nat → Im} {x : Int} (h : GoodI n l) (h1 : 1 ≤ x) (h2 : x ≤ ah l n) : atR n l x = .tuple #[.int .i64 (vA n l x), .bool true] := if_pos ⟨h, h1, h2⟩
theorem ah_bd {n : Nat} {l : Nat → Im} (h : ∀ j, j < n → 0 ≤ (l j).u ∧ (l j).u ≤ 1001) : 0 ≤ ah l n ∧ ah l n ≤ 1001 := by
  cases n with
  | zero => rw [ah_zero]; omega
  | succ k => exact h k (by omega)
end M
set_option maxRecDepth 20000 in
set_option maxHeartbeats 2000000 in
theorem draw_cut (v : Value) (nb : Nat) (fb : Nat → Nat) (w : World) (hv : OctetsOf w v nb fb) (hnb : nb ≤ 1048576) :
    Calls Tryd.prog 19 #[v] w fun e w' => (∃ a cap n l, ∃ x : Int, e = .returned (.tuple #[.slice a n cap, .int .i64 x]) ∧ n ≤ 21 ∧ n ≤ cap ∧ -1 ≤ x ∧ x ≤ 2000 ∧ ItemsOf w' (.slice a n cap) n l) ∧ Below w.heap.size w w' := by
  obtain ⟨av, cv, rfl⟩ := hv.form
  have hal := (Below.refl w.heap.size w).alloc (Nat.le_refl _) (.cells #[.slice av nb cv, .int .i64 0, .int .u64 0] 63)
  have hC : CurAt (w.alloc (.cells #[.slice av nb cv, .int .i64 0, .int .u64 0] 63)) w.heap.size w.heap.size 0 := by
    have hb := Blk.fresh w #[.slice av nb cv, .int .i64 0, .int .u64 0] 3 (cu (.slice av nb cv) (0 : Nat) 0) 63 rfl
    exact ⟨_, nb, fb, 0, 0, Nat.le_refl _, hnb, Nat.le_refl _, hb, w, rfl, hv, hal⟩
  have HC := hide hC
  have HS0 := hide (show (w.alloc (.cells #[.slice av nb cv, .int .i64 0, .int .u64 0] 63)).heap.size = w.heap.size + 1 by simp)
  clear hC hv
  go_enter Tryd.func19, Tryd.ntmps19
  go_wp2_with fail
  refine (cur_items w.heap.size w.heap.size 0 _ HC.out (by omega)).mono ?_
  rintro e w1 ⟨⟨⟨a1, c1, n, l, rfl, hn, hnc, hA, hbd⟩⟩, hc1, hb1⟩
  have ha := ah_bd hbd
  obtain ⟨t, ht⟩ : ∃ t : Nat, ah l n = (t : Int) := ⟨(ah l n).toNat, by omega⟩
  have HTT := hide ht
  have ht2 : t ≤ 1001 := by omega
  have HC1 := hide hc1
  have HA := hide (show AnsT w1 (w.heap.size + 1) (.slice a1 n c1) n l by rw [← HS0.out]; exact hA)
  have hB1 := hal.trans (hb1.below (Nat.le_refl _) (by rw [HS0.out]; omega))
  clear hA hc1 hb1 HC hal ht ha hbd
  go_wp2_with fail
  refine (spec_last _ n l _ HA.out.items (by omega)).mono ?_
  rintro e w2 ⟨rfl, rfl⟩
  rw [HTT.out]
  go_wp2_with fail
  rw [show (t : Int) + 3 = ((t + 3 : Nat) : Int) by omega]
  refine (cur_picks w.heap.size w.heap.size (0 + 100) (t + 3) _ HC1.out (by omega) (by omega)).mono ?_
  rintro e w3 ⟨⟨x, hx, rfl⟩, hc3, ho3⟩
  have hB3 := hB1.trans (ho3.below (Nat.le_refl _) hB1.size)
  have HA3 := hide (HA.out.but ho3 (by omega)).items
  have hx2 : x ≤ 1003 := by omega
  clear HC1 hc3 ho3 HA hB1 hx
  go_wp2
  go_ret2
  exact ⟨⟨_, _, n, l, (x : Int) - 1, rfl, by omega, hnc, by omega, by omega, HA3.out⟩, hB3⟩
set_option maxRecDepth 20000 in
set_option maxHeartbeats 8000000 in
theorem law_fnItems (v0 : Value) (n0 : Nat) (f0 : Nat → Nat) (v1 : Value) (n1 : Nat) (f1 : Nat → Nat) (w : World) (hv0 : OctetsOf w v0 n0 f0) (hm0 : n0 < 2 ^ 47) (hv1 : OctetsOf w v1 n1 f1) (hm1 : n1 < 2 ^ 47) (hkk : KK w) :
    Calls Tryd.prog 4 #[v0, v1] w fun e w' => e = .returned (.bool true) ∧ Below w.heap.size w w' := by
  have h47 : (2 : Nat) ^ 47 = 140737488355328 := by decide
  rw [h47] at hm0 hm1
  have HV0 := hide hv0
  have HV1 := hide hv1
  have HK := hide hkk
  obtain ⟨a0, c0, rfl⟩ := hv0.form
  obtain ⟨a1, c1, rfl⟩ := hv1.form
  clear hv0 hv1 hkk h47
  by_cases hbig : n0 + n1 ≤ 1048576
  case neg =>
    have hg : (n0 : Int) + (n1 : Int) > 1048576 := by omega
    have hg2 : decide ((n0 : Int) + (n1 : Int) > 1048576) = true := decide_eq_true hg
    clear HV0 HV1 HK
    go_enter Tryd.func4, Tryd.ntmps4
    go_wp2
    go_ret
    exact ⟨rfl, Below.refl _ _⟩
  have hng : ¬ ((n0 : Int) + (n1 : Int) > 1048576) := by omega
  have hng2 : decide ((n0 : Int) + (n1 : Int) > 1048576) = false := decide_eq_false hng
  have HN0 := hide (show n0 ≤ 1048576 by omega)
  have HN1 := hide (show n1 ≤ 1048576 by omega)
  go_enter Tryd.func4, Tryd.ntmps4
  go_wp2_with fail
  refine (draw_events _ n0 f0 _ HV0.out HN0.out).mono ?_
  rintro e w1 ⟨⟨⟨al, cl, nl, le, rfl, hnl, hAV, hnm⟩⟩, hb1⟩
  obtain ⟨es, hes⟩ : ∃ es, evL nl le = es := ⟨_, rfl⟩
  have hel : es.length = nl := by rw [← hes, evL_len]
  have HES := hide (show SliceOf w1 (.slice al nl cl) es by rw [← hes]; exact hAV.slice)
  have HNM := hide (show ∀ e ∈ es, e.name.size ≤ maxLen from fun e he => by
    rw [← hes] at he
    obtain ⟨i, hi⟩ := List.getElem?_of_mem he
    obtain ⟨hi2, rfl⟩ := evL_get hi
    rw [hnm i hi2]; decide)
  have HEL := hide hel
  have HLN := hide (show es.length ≤ 1048576 by omega)
  clear hAV hnm hes HV0 hm0 hm1 hel
  go_wp2_with fail
  refine (impl_itemsOf _ es _ HES.out HLN.out HNM.out (HK.out.below hb1)).mono ?_
  rintro e w2 ⟨hIP, hb⟩
  have hB2 := hb1.trans (hb.mono hb1.size)
  have HES2 := hide (HES.out.below hb)
  clear HES hb hb1
  rcases Classical.em (IOk es) with hok | hok
  · rcases hIP with ⟨-, r2, rfl, hA2⟩ | ⟨h, -⟩
    case inr => exact absurd hok h
    obtain ⟨ar2, cr2, rfl⟩ := hA2.form
    obtain ⟨N, hN⟩ : ∃ N, (ga es es.length).1 = N := ⟨_, rfl⟩
    obtain ⟨L, hL⟩ : ∃ L, (ga es es.length).2 = L := ⟨_, rfl⟩
    rw [hN, hL] at hA2
    rw [hN]
    have HGI := hide (show GoodI N L by rw [← hN, ← hL]; exact iok_good hok)
    have HAH := hide (show ah L N = (es.length : Int) by rw [← hN, ← hL]; exact (ga_inv es es.length (Nat.le_refl _) hok.2.1).2.1)
    have HVA := hide (show ∀ j e, j < es.length → es[j]? = some e → vA N L ((j : Int) + 1) = e.ver from fun j e hj he => by rw [← hN, ← hL]; exact vA_ga es es.length (Nat.le_refl _) hok.2.1 j e hj he)
    have hN20 : N ≤ 20 := HGI.out.1
    have HOK := hide hok
    have HI2 := hide hA2.items
    have HNL := hide (And.intro hN hL)
    clear hA2 hN hL
    go_wp2_with fail
    refine (spec_itemsOf _ es _ HES2.out HLN.out HNM.out).mono ?_
    rintro e w3 ⟨hIP, hb⟩
    rcases hIP with ⟨-, r3, rfl, hA3⟩ | ⟨h, -⟩
    case inr => exact absurd HOK.out h
    rw [HNL.out.1, HNL.out.2] at hA3
    obtain ⟨ar3, cr3, rfl⟩ := hA3.form
    have hB3 := hB2.trans (hb.mono hB2.size)
    have HES3 := hide (HES2.out.below hb)
    have HI3 := hide (HI2.out.below hb)
    have HJ3 := hide hA3.items
    clear HES2 hb hB2 HI2 hA3 hok
    go_wp2_with fail
    refine (same_items _ _ N L _ HI3.out HJ3.out (by omega)).mono ?_
    rintro e w4 ⟨rfl, hb⟩
    have hB4 := hB3.trans (hb.mono hB3.size)
    have HES4 := hide (HES3.out.below hb)
    have HI4 := hide (HI3.out.below hb)
    clear HES3 hb hB3 HI3 HJ3
    go_wp2
    go_loopw [10, 63] (fun so ki wr => ∃ (k n c : Nat) (ao : Option Addr), k ≤ nl ∧ ki = .int .i64 (k : Int) ∧ so = .slice ao n c ∧ n ≤ c ∧ n ≤ 20 ∧ Hid (n = (ga es k).1 ∧ AnsT wr w.heap.size (.slice ao n c) n (ga es k).2) ∧ Hid (SliceOf wr (.slice al nl cl) es ∧ ItemsOf wr (.slice ar2 N cr2) N L) ∧ Below w.heap.size w wr) (fun _ i _ => nl - (intOf i).toNat)
    case atStart => exact ⟨0, 0, 0, none, Nat.zero_le _, rfl, rfl, Nat.le_refl _, by omega, hide ⟨rfl, .inl ⟨rfl, rfl⟩⟩, hide ⟨HES4.out, HI4.out⟩, hB4⟩
    case round =>
      rename World => wo
      obtain ⟨k, n, c, ao, hk, rfl, rfl, hnc, hn20, HO, HM, hbw⟩ := hrel
      clear HES4 HI4 hB4
      by_cases hlt : k < nl
      · have hlt2 : k < es.length := by rw [HEL.out]; exact hlt
        obtain ⟨x, hx⟩ : ∃ x, es[k]? = some x := ⟨es[k], List.getElem?_eq_getElem hlt2⟩
        have HG := hide (iok_step HOK.out hlt2 hx)
        have hidk : x.id = (k : Int) + 1 := (HOK.out.2.1 k x hlt2 hx).2.1
        have HVX := hide (show atR N L x.id = .tuple #[.int .i64 x.ver, .bool true] by rw [atI_yes HGI.out (by omega) (by rw [HAH.out]; omega), hidk, HVA.out k x hlt2 hx])
        have HSC := hide (ga_succ hx)
        have HNE := hide HO.out.1
        have hcells : ∃ b off, al = some ⟨b, off, none⟩ ∧ EvAt wo b (off + k * 4) x := by
          obtain ⟨a', cap', hf, hr⟩ := HM.out.1
          obtain ⟨b, off, ha, -, hrow⟩ := hr (by intro h; rw [h] at hlt2; simp at hlt2)
          have e1 : al = a' := by
            have := hf
            simp only [Value.slice.injEq] at this
            exact this.1
          exact ⟨b, off, e1.trans ha, hrow k x hx⟩
        obtain ⟨b, off, rfl, e0', e1', e2', e3'⟩ := hcells
        have hki : (k : Int) < (nl : Int) := by omega
        have hdx := (Below.refl wo.heap.size wo).alloc (Nat.le_refl _) (.cells #[.int .i64 x.id, .int .i64 x.ver, .int .i64 x.kind, .string x.name] 37)
        have hbw2 := hbw.trans (hdx.mono hbw.size)
        have HEB := hide (EB.new wo x)
        have HO2 := hide (HO.out.2.down hdx)
        have HM2 := hide (show SliceOf _ (.slice (some ⟨b, off, none⟩) nl cl) es ∧ ItemsOf _ (.slice ar2 N cr2) N L from ⟨HM.out.1.below hdx, HM.out.2.below hdx⟩)
        obtain ⟨l, hl⟩ : ∃ l, (ga es k).2 = l := ⟨_, rfl⟩
        have HLE := hide hl
        rw [hl] at HO2
        clear HO HM hl hdx hidk hx hbw
        go_wp2_with fail
        refine (impl_versionAt _ N L x.id _ HM2.out.2 (by omega)).mono ?_
        rintro e w5 ⟨rfl, hb⟩
        rw [HVX.out]
        have hB5 := hbw2.trans (hb.mono hbw2.size)
        have HEB5 := hide (HEB.out.down hb)
        have HO5 := hide (HO2.out.down hb)
        have HM5 := hide (show SliceOf w5 (.slice (some ⟨b, off, none⟩) nl cl) es ∧ ItemsOf w5 (.slice ar2 N cr2) N L from ⟨HM2.out.1.below hb, HM2.out.2.below hb⟩)
        clear HEB HO2 HM2 hb hbw2 HVX e0' e1' e2' e3'
        obtain ⟨d0, d1, d2, d3⟩ := HEB5.out.cells
        simp only [Nat.zero_add] at d1 d2 d3
        clear d2 d3
        go_wp2_with fail
        refine (impl_append ao n c l x.id x.ver _ HO5.out.items hnc (by omega)).mono ?_
        rintro e w6 ⟨hAP, hb⟩
        rcases hAP with ⟨hG, r, rfl, hAT⟩ | ⟨h, -⟩
        case inr => exact absurd (show GoodP n l x.id x.ver by have := HG.out; rw [← HNE.out, HLE.out] at this; exact this) h
        have hB6 := hB5.trans (hb.mono hB5.size)
        have HEB6 := hide (HEB5.out.down hb)
        have HM6 := hide (show SliceOf w6 (.slice (some ⟨b, off, none⟩) nl cl) es ∧ ItemsOf w6 (.slice ar2 N cr2) N L from ⟨HM5.out.1.below hb, HM5.out.2.below hb⟩)
        obtain ⟨ar, cr, rfl, hnr⟩ := hAT.roomy
        have h20 := hG.2.2.1
        have HFin := hide (show kpt n l x.ver + 1 = (ga es (k + 1)).1 ∧ AnsT w6 w.heap.size (.slice ar (kpt n l x.ver + 1) cr) (kpt n l x.ver + 1) (ga es (k + 1)).2 from by
          rw [HSC.out, ← HNE.out, HLE.out]; exact ⟨rfl, hAT.mono hB5.size⟩)
        have hvv : (x.ver != x.ver) = false := by simp
        clear HEB5 HO5 HM5 hb hB5 hAT hG HSC HNE HLE HG d0 d1
        obtain ⟨d0, d1, d2, d3⟩ := HEB6.out.cells
        simp only [Nat.zero_add] at d1 d2 d3
        clear d2 d3 HEB6
        generalize kpt n l x.ver + 1 = n2 at *
        go_wp2
        exact ⟨⟨k + 1, n2, cr, ar, by omega, by go_num, rfl, hnr, h20, HFin, HM6, hB6⟩, by simp [intOf]; omega⟩
      · have hke : k = es.length := by rw [HEL.out]; omega
        subst hke
        have hnN : n = N := HO.out.1.trans HNL.out.1
        subst hnN
        have HST := hide (show ItemsOf wo (.slice ao n c) n L by have := HO.out.2; rw [HNL.out.2] at this; exact this.items)
        have HU := hide HM.out.2
        have HLEN := hide HEL.out
        clear HO HM HVA HAH
        go_wp2_with fail
        refine (same_items _ _ n L _ HST.out HU.out (by omega)).mono ?_
        rintro e w7 ⟨rfl, hb⟩
        have hB7 := hbw.trans (hb.mono hbw.size)
        have HU7 := hide (HU.out.below hb)
        clear hb HST HU hbw
        go_wp2_with fail
        refine (impl_goodI _ n L _ HU7.out (by omega)).mono ?_
        rintro e w8 ⟨rfl, hb⟩
        have hB8 := hB7.trans (hb.mono hB7.size)
        rw [show decide (GoodI n L) = true from decide_eq_true HGI.out]
        clear hb hB7 HU7 HGI HNL HOK
        go_wp2_with fail
        refine (draw_cut _ n1 f1 _ (HV1.out.below hB8) HN1.out).mono ?_
        rintro e w9 ⟨⟨au, cu, m, lu, xu, rfl, hm, hmc, hx0, hx1, hu⟩, hb⟩
        have hB9 := hB8.trans (hb.mono hB8.size)
        have HU9 := hide hu
        clear hb hu hB8 HV1
        go_wp2_with fail
        refine (impl_cut _ m cu lu xu _ HU9.out hmc (by omega)).mono ?_
        rintro e w10 ⟨hCP, hb⟩
        have hB10 := hB9.trans (hb.mono hB9.size)
        have HU10 := hide (HU9.out.below hb)
        clear hb HU9 hB9
        rcases Classical.em (CutOk m lu xu) with hcut | hcut
        · rcases hCP with ⟨-, r10, cc, rfl, hbg, hA10⟩ | ⟨h, -⟩
          case inr => exact absurd hcut h
          obtain ⟨ac, ccap, rfl⟩ := hA10.form
          have HC10 := hide hA10.items
          have HBG := hide hbg
          have HCUT := hide hcut
          clear hA10
          go_wp2_with fail
          refine (spec_cut _ m lu xu _ HU10.out (by omega)).mono ?_
          rintro e w11 ⟨hCP, hb⟩
          rcases hCP with ⟨-, r11, cc2, rfl, hbg2, hA11⟩ | ⟨h, -⟩
          case inr => exact absurd HCUT.out h
          obtain rfl : cc = cc2 := HBG.out.uniq hbg2
          obtain ⟨ac2, ccap2, rfl⟩ := hA11.form
          have hB11 := hB10.trans (hb.mono hB10.size)
          have HU11 := hide (HU10.out.below hb)
          have HC11 := hide (HC10.out.below hb)
          have HD11 := hide hA11.items
          have hccm : cc ≤ 21 := by have := HBG.out.1; omega
          clear hb HU10 HC10 hA11 hbg2 hB10 hbg hcut
          go_wp2_with fail
          refine (same_items _ _ cc _ _ HC11.out HD11.out (by omega)).mono ?_
          rintro e w12 ⟨rfl, hb⟩
          have hB12 := hB11.trans (hb.mono hB11.size)
          have HU12 := hide (HU11.out.below hb)
          have HC12 := hide (HC11.out.below hb)
          clear hb HU11 HC11 HD11 hB11
          obtain ⟨xn, hxn⟩ : ∃ xn : Nat, xu = (xn : Int) := ⟨xu.toNat, by have := HCUT.out.2.1; omega⟩
          subst hxn
          obtain ⟨LC, hLC⟩ : ∃ LC, cutL lu (xn : Int) cc = LC := ⟨_, rfl⟩
          have HGC := hide (show GoodI cc LC by rw [← hLC]; exact cut_good HCUT.out.1 HBG.out HCUT.out.2.2)
          have HAC := hide (show ah LC cc = (xn : Int) by rw [← hLC]; exact cut_ah HBG.out HCUT.out.2.1 HCUT.out.2.2)
          have HVC := hide (show ∀ q : Int, 1 ≤ q → q ≤ (xn : Int) → vA cc LC q = vA m lu q from fun q q1 q2 => by rw [← hLC]; exact cut_vA HBG.out HCUT.out.2.1 HCUT.out.2.2 q1 q2)
          have HRC := hide (show RA cc LC m lu true true by rw [← hLC]; exact cut_ra HCUT.out.1 HBG.out HCUT.out.2.1 HCUT.out.2.2)
          have hxm : xn ≤ 2000 := by omega
          rw [hLC] at HC12
          have HC12b := hide HC12.out
          clear hLC hx0 hx1 HC12
          go_wp2
          go_loopw [23] (fun ti wr => ∃ t : Nat, t ≤ xn ∧ ti = .int .i64 ((t : Int) + 1) ∧ Hid (ItemsOf wr (.slice au m cu) m lu ∧ ItemsOf wr (.slice ac cc ccap) cc LC) ∧ Below w.heap.size w wr) (fun ti _ => xn + 1 - (intOf ti).toNat)
          case atStart => exact ⟨0, Nat.zero_le _, rfl, hide ⟨HU12.out, HC12b.out⟩, hB12⟩
          case round =>
            rename World => wq
            obtain ⟨t, ht, rfl, HP, hbt⟩ := hrel
            clear HU12 HC12b hB12
            by_cases htl : t < xn
            · have hle : decide ((t : Int) + 1 ≤ (xn : Int)) = true := decide_eq_true (by omega)
              have hle2 : (t : Int) + 1 ≤ (xn : Int) := by omega
              go_wp2_with fail
              refine (impl_versionAt _ m lu ((t : Int) + 1) _ HP.out.1 (by omega)).mono ?_
              rintro e w13 ⟨rfl, hb⟩
              rw [atI_yes HCUT.out.1 (show 1 ≤ (t : Int) + 1 by omega) (by have := HCUT.out.2.2; omega)]
              have hB13 := hbt.trans (hb.mono hbt.size)
              have HP13 := hide (show ItemsOf w13 (.slice au m cu) m lu ∧ ItemsOf w13 (.slice ac cc ccap) cc LC from ⟨HP.out.1.below hb, HP.out.2.below hb⟩)
              clear hb HP hbt
              go_wp2_with fail
              refine (impl_versionAt _ cc LC ((t : Int) + 1) _ HP13.out.2 (by omega)).mono ?_
              rintro e w14 ⟨rfl, hb⟩
              rw [atI_yes HGC.out (show 1 ≤ (t : Int) + 1 by omega) (by rw [HAC.out]; omega), HVC.out _ (by omega) (by omega)]
              have hB14 := hB13.trans (hb.mono hB13.size)
              have HP14 := hide (show ItemsOf w14 (.slice au m cu) m lu ∧ ItemsOf w14 (.slice ac cc ccap) cc LC from ⟨HP13.out.1.below hb, HP13.out.2.below hb⟩)
              have hvq : (vA m lu ((t : Int) + 1) != vA m lu ((t : Int) + 1)) = false := by simp
              clear hb HP13 hB13
              generalize vA m lu ((t : Int) + 1) = vq at *
              go_wp2
              exact ⟨⟨t + 1, by omega, by go_num, HP14, hB14⟩, by simp [intOf]; omega⟩
            · obtain rfl : t = xn := by omega
              have hle : decide ((t : Int) + 1 ≤ (t : Int)) = false := decide_eq_false (by omega)
              have hle2 : ¬ ((t : Int) + 1 ≤ (t : Int)) := by omega
              go_wp2_with fail
              refine (impl_lastOf _ cc LC _ HP.out.2 (by omega)).mono ?_
              rintro e w13 ⟨rfl, hb⟩
              have hB13 := hbt.trans (hb.mono hbt.size)
              have HP13 := hide (show ItemsOf w13 (.slice au m cu) m lu ∧ ItemsOf w13 (.slice ac cc ccap) cc LC from ⟨HP.out.1.below hb, HP.out.2.below hb⟩)
              clear hb HP hbt
              have hA0 := HAC.out
              by_cases ht0 : 0 < t
              · have hcc0 : 0 < cc := HBG.out.pos (by omega) HCUT.out.2.2
                rw [lastR_yes (HasL_yes (decide_eq_true HGC.out) hcc0)]
                rw [show (lst LC cc).u = (t : Int) from hA0]
                have hd0 : decide ((t : Int) > 0) = true := decide_eq_true (by omega)
                have htt : ((t : Int) == (t : Int)) = true := by simp
                clear hA0
                generalize (lst LC cc).v = lv at *
                go_wp2_with fail
                refine (impl_isAhead _ _ cc m LC lu true true _ HP13.out.2 HP13.out.1 (by omega) (by omega) HRC.out).mono ?_
                rintro e w14 ⟨rfl, hb⟩
                have hB14 := hB13.trans (hb.mono hB13.size)
                clear hb HP13 hB13
                go_wp2
                go_ret
                exact ⟨ret_bool (by first | rfl | simp [ht0]), hB14⟩
              · obtain rfl : t = 0 := by omega
                obtain rfl : cc = 0 := HBG.out.zero
                rw [lastR_no (by unfold HasL; simp)]
                clear hA0
                go_wp2_with fail
                refine (impl_isAhead _ _ 0 m LC lu true true _ HP13.out.2 HP13.out.1 (by omega) (by omega) HRC.out).mono ?_
                rintro e w14 ⟨rfl, hb⟩
                have hB14 := hB13.trans (hb.mono hB13.size)
                clear hb HP13 hB13
                go_wp2
                go_ret
                exact ⟨ret_bool (by first | rfl | simp), hB14⟩
        · rcases hCP with ⟨h, -⟩ | ⟨-, rfl⟩
          · exact absurd h hcut
          have HCUT := hide hcut
          clear hcut
          go_wp2_with fail
          refine (spec_cut _ m lu xu _ HU10.out (by omega)).mono ?_
          rintro e w11 ⟨hCP, hb⟩
          rcases hCP with ⟨h, -⟩ | ⟨-, rfl⟩
          · exact absurd h HCUT.out
          have hB11 := hB10.trans (hb.mono hB10.size)
          clear hb HU10 hB10
          go_wp2_with fail
          refine (same_items _ _ 0 lu _ (.nil _ _ _ _) (.nil _ _ _ _) (by omega)).mono ?_
          rintro e w12 ⟨rfl, hb⟩
          have hB12 := hB11.trans (hb.mono hB11.size)
          clear hb hB11
          go_wp2
          go_ret
          exact ⟨rfl, hB12⟩
  · rcases hIP with ⟨h, -⟩ | ⟨-, rfl⟩
    · exact absurd h hok
    have HOK := hide hok
    clear hok
    go_wp2_with fail
    refine (spec_itemsOf _ es _ HES2.out HLN.out HNM.out).mono ?_
    rintro e w3 ⟨hIP, hb⟩
    rcases hIP with ⟨h, -⟩ | ⟨-, rfl⟩
    · exact absurd h HOK.out
    have hB3 := hB2.trans (hb.mono hB2.size)
    clear hb hB2 HES2
    go_wp2_with fail
    refine (same_items _ _ 0 (fun _ => im0) _ (.nil _ _ _ _) (.nil _ _ _ _) (by omega)).mono ?_
    rintro e w4 ⟨rfl, hb⟩
    have hB8 := hB3.trans (hb.mono hB3.size)
    clear hb hB3
    go_wp2_with fail
    refine (draw_cut _ n1 f1 _ (HV1.out.below hB8) HN1.out).mono ?_
    rintro e w9 ⟨⟨au, cu, m, lu, xu, rfl, hm, hmc, hx0, hx1, hu⟩, hb⟩
    have hB9 := hB8.trans (hb.mono hB8.size)
    have HU9 := hide hu
    clear hb hu hB8 HV1
    go_wp2_with fail
    refine (impl_cut _ m cu lu xu _ HU9.out hmc (by omega)).mono ?_
    rintro e w10 ⟨hCP, hb⟩
    have hB10 := hB9.trans (hb.mono hB9.size)
    have HU10 := hide (HU9.out.below hb)
    clear hb HU9 hB9
    rcases Classical.em (CutOk m lu xu) with hcut | hcut
    · rcases hCP with ⟨-, r10, cc, rfl, hbg, hA10⟩ | ⟨h, -⟩
      case inr => exact absurd hcut h
      obtain ⟨ac, ccap, rfl⟩ := hA10.form
      have HC10 := hide hA10.items
      have HBG := hide hbg
      have HCUT := hide hcut
      clear hA10
      go_wp2_with fail
      refine (spec_cut _ m lu xu _ HU10.out (by omega)).mono ?_
      rintro e w11 ⟨hCP, hb⟩
      rcases hCP with ⟨-, r11, cc2, rfl, hbg2, hA11⟩ | ⟨h, -⟩
      case inr => exact absurd HCUT.out h
      obtain rfl : cc = cc2 := HBG.out.uniq hbg2
      obtain ⟨ac2, ccap2, rfl⟩ := hA11.form
      have hB11 := hB10.trans (hb.mono hB10.size)
      have HU11 := hide (HU10.out.below hb)
      have HC11 := hide (HC10.out.below hb)
      have HD11 := hide hA11.items
      have hccm : cc ≤ 21 := by have := HBG.out.1; omega
      clear hb HU10 HC10 hA11 hbg2 hB10 hbg hcut
      go_wp2_with fail
      refine (same_items _ _ cc _ _ HC11.out HD11.out (by omega)).mono ?_
      rintro e w12 ⟨rfl, hb⟩
      have hB12 := hB11.trans (hb.mono hB11.size)
      have HU12 := hide (HU11.out.below hb)
      have HC12 := hide (HC11.out.below hb)
      clear hb HU11 HC11 HD11 hB11
      obtain ⟨xn, hxn⟩ : ∃ xn : Nat, xu = (xn : Int) := ⟨xu.toNat, by have := HCUT.out.2.1; omega⟩
      subst hxn
      obtain ⟨LC, hLC⟩ : ∃ LC, cutL lu (xn : Int) cc = LC := ⟨_, rfl⟩
      have HGC := hide (show GoodI cc LC by rw [← hLC]; exact cut_good HCUT.out.1 HBG.out HCUT.out.2.2)
      have HAC := hide (show ah LC cc = (xn : Int) by rw [← hLC]; exact cut_ah HBG.out HCUT.out.2.1 HCUT.out.2.2)
      have HVC := hide (show ∀ q : Int, 1 ≤ q → q ≤ (xn : Int) → vA cc LC q = vA m lu q from fun q q1 q2 => by rw [← hLC]; exact cut_vA HBG.out HCUT.out.2.1 HCUT.out.2.2 q1 q2)
      have HRC := hide (show RA cc LC m lu true true by rw [← hLC]; exact cut_ra HCUT.out.1 HBG.out HCUT.out.2.1 HCUT.out.2.2)
      have hxm : xn ≤ 2000 := by omega
      rw [hLC] at HC12
      have HC12b := hide HC12.out
      clear hLC hx0 hx1 HC12
      go_wp2
      go_loopw [23] (fun ti wr => ∃ t : Nat, t ≤ xn ∧ ti = .int .i64 ((t : Int) + 1) ∧ Hid (ItemsOf wr (.slice au m cu) m lu ∧ ItemsOf wr (.slice ac cc ccap) cc LC) ∧ Below w.heap.size w wr) (fun ti _ => xn + 1 - (intOf ti).toNat)
      case atStart => exact ⟨0, Nat.zero_le _, rfl, hide ⟨HU12.out, HC12b.out⟩, hB12⟩
      case round =>
        rename World => wq
        obtain ⟨t, ht, rfl, HP, hbt⟩ := hrel
        clear HU12 HC12b hB12
        by_cases htl : t < xn
        · have hle : decide ((t : Int) + 1 ≤ (xn : Int)) = true := decide_eq_true (by omega)
          have hle2 : (t : Int) + 1 ≤ (xn : Int) := by omega
          go_wp2_with fail
          refine (impl_versionAt _ m lu ((t : Int) + 1) _ HP.out.1 (by omega)).mono ?_
          rintro e w13 ⟨rfl, hb⟩
          rw [atI_yes HCUT.out.1 (show 1 ≤ (t : Int) + 1 by omega) (by have := HCUT.out.2.2; omega)]
          have hB13 := hbt.trans (hb.mono hbt.size)
          have HP13 := hide (show ItemsOf w13 (.slice au m cu) m lu ∧ ItemsOf w13 (.slice ac cc ccap) cc LC from ⟨HP.out.1.below hb, HP.out.2.below hb⟩)
          clear hb HP hbt
          go_wp2_with fail
          refine (impl_versionAt _ cc LC ((t : Int) + 1) _ HP13.out.2 (by omega)).mono ?_
          rintro e w14 ⟨rfl, hb⟩
          rw [atI_yes HGC.out (show 1 ≤ (t : Int) + 1 by omega) (by rw [HAC.out]; omega), HVC.out _ (by omega) (by omega)]
          have hB14 := hB13.trans (hb.mono hB13.size)
          have HP14 := hide (show ItemsOf w14 (.slice au m cu) m lu ∧ ItemsOf w14 (.slice ac cc ccap) cc LC from ⟨HP13.out.1.below hb, HP13.out.2.below hb⟩)
          have hvq : (vA m lu ((t : Int) + 1) != vA m lu ((t : Int) + 1)) = false := by simp
          clear hb HP13 hB13
          generalize vA m lu ((t : Int) + 1) = vq at *
          go_wp2
          exact ⟨⟨t + 1, by omega, by go_num, HP14, hB14⟩, by simp [intOf]; omega⟩
        · obtain rfl : t = xn := by omega
          have hle : decide ((t : Int) + 1 ≤ (t : Int)) = false := decide_eq_false (by omega)
          have hle2 : ¬ ((t : Int) + 1 ≤ (t : Int)) := by omega
          go_wp2_with fail
          refine (impl_lastOf _ cc LC _ HP.out.2 (by omega)).mono ?_
          rintro e w13 ⟨rfl, hb⟩
          have hB13 := hbt.trans (hb.mono hbt.size)
          have HP13 := hide (show ItemsOf w13 (.slice au m cu) m lu ∧ ItemsOf w13 (.slice ac cc ccap) cc LC from ⟨HP.out.1.below hb, HP.out.2.below hb⟩)
          clear hb HP hbt
          have hA0 := HAC.out
          by_cases ht0 : 0 < t
          · have hcc0 : 0 < cc := HBG.out.pos (by omega) HCUT.out.2.2
            rw [lastR_yes (HasL_yes (decide_eq_true HGC.out) hcc0)]
            rw [show (lst LC cc).u = (t : Int) from hA0]
            have hd0 : decide ((t : Int) > 0) = true := decide_eq_true (by omega)
            have htt : ((t : Int) == (t : Int)) = true := by simp
            clear hA0
            generalize (lst LC cc).v = lv at *
            go_wp2_with fail
            refine (impl_isAhead _ _ cc m LC lu true true _ HP13.out.2 HP13.out.1 (by omega) (by omega) HRC.out).mono ?_
            rintro e w14 ⟨rfl, hb⟩
            have hB14 := hB13.trans (hb.mono hB13.size)
            clear hb HP13 hB13
            go_wp2
            go_ret
            exact ⟨ret_bool (by first | rfl | simp [ht0]), hB14⟩
          · obtain rfl : t = 0 := by omega
            obtain rfl : cc = 0 := HBG.out.zero
            rw [lastR_no (by unfold HasL; simp)]
            clear hA0
            go_wp2_with fail
            refine (impl_isAhead _ _ 0 m LC lu true true _ HP13.out.2 HP13.out.1 (by omega) (by omega) HRC.out).mono ?_
            rintro e w14 ⟨rfl, hb⟩
            have hB14 := hB13.trans (hb.mono hB13.size)
            clear hb HP13 hB13
            go_wp2
            go_ret
            exact ⟨ret_bool (by first | rfl | simp), hB14⟩
    · rcases hCP with ⟨h, -⟩ | ⟨-, rfl⟩
      · exact absurd h hcut
      have HCUT := hide hcut
      clear hcut
      go_wp2_with fail
      refine (spec_cut _ m lu xu _ HU10.out (by omega)).mono ?_
      rintro e w11 ⟨hCP, hb⟩
      rcases hCP with ⟨h, -⟩ | ⟨-, rfl⟩
      · exact absurd h HCUT.out
      have hB11 := hB10.trans (hb.mono hB10.size)
      clear hb HU10 hB10
      go_wp2_with fail
      refine (same_items _ _ 0 lu _ (.nil _ _ _ _) (.nil _ _ _ _) (by omega)).mono ?_
      rintro e w12 ⟨rfl, hb⟩
      have hB12 := hB11.trans (hb.mono hB11.size)
      clear hb hB11
      go_wp2
      go_ret
      exact ⟨rfl, hB12⟩
end Go.Proofs.YtbajiamkgffhkaaDoor
