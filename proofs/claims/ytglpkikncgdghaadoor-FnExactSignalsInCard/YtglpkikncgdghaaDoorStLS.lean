/-
  The law of SignalsIn, walked: it returns true and turns nothing that was there. Condition: the table knownKinds reads as the program's text lays it.
-/
import Derived.Test.YtglpkikncgdghaaDoorStY
import Derived.Test.YtglpkikncgdghaaDoorEvM
import Derived.Test.YtglpkikncgdghaaDoorStLH
namespace Go.Proofs.YtglpkikncgdghaaDoor
open Go.RowKit M
open Clk (upd upd_same upd_other)
namespace M
/-- What is held while the law goes on. -/
structure LS (w A W : World) (B : Nat) (r : Value) (l : Txs) : Prop where
  low : Below w.heap.size w W
  sp : Below A.heap.size A W
  out : OwnT W B r l
  lo : w.heap.size ≤ A.heap.size
  hi : A.heap.size ≤ B
theorem LS.down {w A W W' : World} {B : Nat} {r : Value} {l : Txs} (h : LS w A W B r l) (hb : Below W.heap.size W W') : LS w A W' B r l :=
  ⟨h.low.trans (hb.mono h.low.size), h.sp.trans (hb.mono h.sp.size), h.out.down hb, h.lo, h.hi⟩
theorem LS.marks {w A W W' : World} {B : Nat} {r : Value} {l l' : Txs} (h : LS w A W B r l) (hg : W.grownBy W' r.ownBlock) (hc : OwnT W' B r l') (hB : B ≤ W.heap.size) : LS w A W' B r l' :=
  have hb := gbT_low hg (fun _ hk => (h.out.lt hk).1) hB
  have h1 := h.lo
  have h2 := h.hi
  ⟨h.low.trans (hb.mono (by omega)), h.sp.trans (hb.mono (by omega)), hc, h.lo, h.hi⟩
theorem LS.gb {w A W W' : World} {B g : Nat} {r : Value} {l : Txs} (h : LS w A W B r l) (hg : W.grownBy W' (some g)) (h1 : A.heap.size ≤ g) (h2 : g < B) : LS w A W' B r l :=
  have h3 := h.lo
  ⟨h.low.trans (gb_low hg (by omega) h.low.size), h.sp.trans (gb_low hg h1 h.sp.size), h.out.other hg (fun k hk e => by have := (h.out.lt hk).1; simp only [Option.some.injEq] at e; omega), h.lo, h.hi⟩
end M
set_option maxRecDepth 20000 in
set_option maxHeartbeats 4000000 in
theorem law_SignalsIn (v : Value) (es : List Ev) (w : World) (hv : SliceOf w v es) (hml : es.length ≤ maxLen) (hnm : ∀ e ∈ es, e.name.size ≤ maxLen) (hkk : KK w) :
    Calls Tryd.prog 7 #[v] w fun e w' => e = .returned (.bool true) ∧ Below w.heap.size w w' := by
  have HV := hide hv
  have HK := hide hkk
  have HNM := hide hnm
  clear hkk hnm
  by_cases hl : es.length + tot es ≤ 1048576
  case neg =>
    obtain ⟨a, cap, rfl, -⟩ := hv
    have hge : ((-1 : Int) < 0) := by omega
    go_enter Tryd.func7, Tryd.ntmps7
    go_wp2_with fail
    refine (sz_all_no _ es _ HV.out hml HNM.out (by omega)).mono ?_
    rintro e w1 ⟨rfl, hb1⟩
    go_wp2
    go_ret
    exact ⟨rfl, hb1⟩
  have hlen : es.length ≤ 1048576 := by omega
  have hge : ¬ (1048576 - (es.length : Int) - ((tot es : Nat) : Int) < 0) := by omega
  have HLN := hide hlen
  obtain ⟨b, hb⟩ := bp_ex (Hist es)
  have HB := hide hb
  obtain ⟨l, hll⟩ : ∃ l : Txs, (b = true → l = (sk es es.length).sg) ∧ (b = false → l = []) := by
    cases b with
    | true => exact ⟨_, fun _ => rfl, fun h => (by cases h)⟩
    | false => exact ⟨[], fun h => (by cases h), fun _ => rfl⟩
  have hq : l.length ≤ 1048576 := by
    cases b with
    | true =>
      have hg := (hb.1 rfl).2.1.2.1.good (Nat.le_refl _)
      have := hg.2.2.1.1
      rw [hll.1 rfl]; omega
    | false => rw [hll.2 rfl]; exact Nat.zero_le _
  have HL := hide hll
  have HQ := hide hq
  have hbb : (b != b) = false := by cases b <;> rfl
  clear hb hll hq
  obtain ⟨mm, hmm⟩ : ∃ mm, 1 + l.length = mm := ⟨_, rfl⟩
  have HM := hide hmm
  have hm0 : ¬ ((mm : Int) < 0) := by omega
  have hm1 : ((mm : Int) != (mm : Int)) = false := by simp
  clear hmm
  obtain ⟨a, cap, rfl, -⟩ := hv
  go_enter Tryd.func7, Tryd.ntmps7
  go_wp2_with fail
  refine (sz_all_yes _ es _ HV.out hl).mono ?_
  rintro e w1 ⟨rfl, hb1⟩
  go_wp2_with fail
  refine (to_evs _ es _ (HV.out.below hb1) HLN.out).mono ?_
  rintro e w2 ⟨⟨rfl, hO⟩, hb⟩
  have hb2 := hb1.trans (hb.mono hb1.size)
  have HO := hide (evs_sl hO rfl)
  clear hb hO hb1 hge hl
  go_wp2_with fail
  refine (spec_signalsIn _ es b l _ HO.out HLN.out HNM.out HB.out HL.out).mono ?_
  rintro e wA ⟨⟨asp, nsp, csp, rfl, hR⟩, hb⟩
  have hB4 := hb2.trans (hb.mono hb2.size)
  have HR := hide hR.txs
  clear hb hb2 hR HO
  go_wp2_with fail
  refine (to_evs _ es _ (HV.out.below hB4) HLN.out).mono ?_
  rintro e w5 ⟨⟨rfl, hO⟩, hb5⟩
  have HO := hide hO
  have HB5 := hide hb5
  have hB5 := hB4.trans (hb5.mono hB4.size)
  have HLT := hide (blk_lt hO)
  clear hO hb5
  go_wp2_with fail
  refine (impl_signalsIn _ es b l _ (evs_sl HO.out rfl) HLN.out HNM.out (HK.out.below hB5) HB.out HL.out).mono ?_
  rintro e w6 ⟨⟨ar, nr, cr, rfl, hA⟩, hb⟩
  have HL6 := hide (show LS w wA w6 w5.heap.size (.slice ar nr cr) l from ⟨hB5.trans (hb.mono hB5.size), HB5.out.trans (hb.mono HB5.out.size), hA, hB4.size, HB5.out.size⟩)
  have HO6 := hide (blk_below HO.out hb)
  have h65 := hb.size
  clear hb hA HO HB5 hB4 hB5
  go_wp2_with fail
  refine (eq_txs _ _ l _ HL6.out.out.txs (HR.out.below HL6.out.sp) HQ.out).mono ?_
  rintro e w7 ⟨rfl, hb⟩
  have HL7 := hide (HL6.out.down hb)
  have HO7 := hide (blk_below HO6.out hb)
  have h75 := Nat.le_trans h65 hb.size
  clear hb HL6 HO6 h65
  go_wp2_with fail
  refine (to_evs _ es _ (HV.out.below HL7.out.low) HLN.out).mono ?_
  rintro e w8 ⟨⟨rfl, hO⟩, hb⟩
  have HO := hide hO
  have HL8 := hide (HL7.out.down hb)
  have HO8 := hide (blk_below HO7.out hb)
  have h85 := Nat.le_trans h75 hb.size
  clear hb hO HL7 HO7 h75
  go_wp2_with fail
  refine (eq_all _ _ es _ (evs_sl HO8.out rfl) (evs_sl HO.out rfl) HLN.out eq_ev).mono ?_
  rintro e w9 ⟨rfl, hb⟩
  have HL9 := hide (HL8.out.down hb)
  have HO9 := hide (evs_bk (blk_below HO8.out hb))
  have h95 := Nat.le_trans h85 hb.size
  clear hb HL8 HO HO8 h85
  obtain ⟨fb, hfb⟩ := HO9.out
  have HFB := hide hfb
  clear hfb HO9
  go_wp2_with fail
  refine (mark_evs wA.heap.size es.length es.length fb _ HFB.out HLN.out).mono ?_
  rintro e w10 ⟨⟨kk, rfl⟩, hg⟩
  have HL10 := hide (HL9.out.gb hg (Nat.le_refl _) HLT.out)
  have h105 := Nat.le_trans h95 hg.size
  have hkn : ¬ ((kk : Int) < 0) := by omega
  clear hg HL9 HFB h95
  go_wp2_with fail
  refine (eq_txs _ _ l _ HL10.out.out.txs (HR.out.below HL10.out.sp) HQ.out).mono ?_
  rintro e w11 ⟨rfl, hb⟩
  have HL11 := hide (HL10.out.down hb)
  have h115 := Nat.le_trans h105 hb.size
  clear hb HL10 hkn h105
  go_wp2_with fail
  refine (mark_txs w5.heap.size 1 _ l _ HL11.out.out HQ.out (by omega) (by omega)).mono ?_
  rintro e w12 ⟨rfl, hC, hg⟩
  have HL12 := hide (HL11.out.marks hg hC h115)
  clear hg hC HL11 h115
  rw [HM.out]
  go_wp2_with fail
  refine (held_txs _ 1 l.length _ HL12.out.out.txs HQ.out (by omega) (by omega)).mono ?_
  rintro e w13 ⟨rfl, hb⟩
  have HL13 := hide (HL12.out.down hb)
  clear hb HL12
  rw [HM.out]
  go_wp2_with fail
  refine (to_evs _ es _ (HV.out.below HL13.out.low) HLN.out).mono ?_
  rintro e w14 ⟨⟨rfl, hO⟩, hb⟩
  have HO := hide hO
  have HL14 := hide (HL13.out.down hb)
  clear hb hO HL13
  go_wp2_with fail
  refine (impl_signalsIn _ es b l _ (evs_sl HO.out rfl) HLN.out HNM.out (HK.out.below HL14.out.low) HB.out HL.out).mono ?_
  rintro e w15 ⟨⟨ar2, nr2, cr2, rfl, hA⟩, hb⟩
  have HA := hide hA.txs
  have HL15 := hide (HL14.out.down hb)
  clear hb hA HO HL14
  go_wp2_with fail
  refine (eq_txs _ _ l _ HA.out (HR.out.below HL15.out.sp) HQ.out).mono ?_
  rintro e w16 ⟨rfl, hb⟩
  have HL16 := hide (HL15.out.down hb)
  clear hb HL15 HA
  go_wp2_with fail
  refine (held_txs _ 1 l.length _ HL16.out.out.txs HQ.out (by omega) (by omega)).mono ?_
  rintro e w17 ⟨rfl, hb⟩
  have hbz := (HL16.out.down hb).low
  rw [HM.out]
  clear HL16 HR HV HM HQ HL HB HK HNM hb
  go_wp2
  go_ret
  exact ⟨rfl, hbz⟩
end Go.Proofs.YtglpkikncgdghaaDoor
