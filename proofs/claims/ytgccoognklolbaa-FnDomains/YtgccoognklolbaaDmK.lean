/-
  KnowsAll in both texts, and its law.
-/
import Derived.Test.YtgccoognklolbaaDmU
namespace Go.Proofs.Ytgccoognklolbaa
open Go.RowKit M
open Go.Sort (grow)
namespace M
/-- An answer that tells whether two lists are the same. -/
def EqB (e : Ending) (l m : Dms) : Prop := ∃ b, e = .returned (.bool b) ∧ (b = true ↔ l = m)
theorem EqB.of {b : Bool} {l m : Dms} (h : b = true ↔ l = m) : EqB (.returned (.bool b)) l m := ⟨b, rfl, h⟩
end M
set_option maxRecDepth 20000 in
set_option maxHeartbeats 2000000 in
theorem equal_doms (v u : Value) (l m : Dms) (w : World) (hv : DomsOf w v l) (hu : DomsOf w u m) (hl : l.length ≤ 1048576) (hm : m.length ≤ 1048576) :
    Calls Try.prog 53 #[v, u] w fun e w' => EqB e l m ∧ Below w.heap.size w w' := by
  obtain ⟨a, cap, rfl, hr⟩ := hv
  obtain ⟨a2, cap2, rfl, hr2⟩ := hu
  have HR := hide hr
  have HR2 := hide hr2
  clear hr hr2
  by_cases hlen : l.length = m.length
  case neg =>
    have hne : ((l.length : Int) != (m.length : Int)) = true := by simp; omega
    have HF := hide (show (false = true ↔ l = m) from ⟨fun h => (by cases h), fun h => absurd (congrArg List.length h) hlen⟩)
    clear hlen
    go_enter Try.func53, Try.ntmps53
    go_wp2
    go_ret
    exact ⟨EqB.of HF.out, Below.refl _ _⟩
  have hne : ((l.length : Int) != (m.length : Int)) = false := by simp; omega
  have HLEN := hide hlen
  have hlen2 : l.length ≤ m.length := by omega
  clear hlen
  go_enter Try.func53, Try.ntmps53
  go_wp2
  go_loopw [13] (fun i wr => ∃ k : Nat, k ≤ l.length ∧ i = .int .i64 k ∧ Hid (∀ q, q < k → l[q]? = m[q]?) ∧ Below w.heap.size w wr) (fun i _ => l.length - (intOf i).toNat)
  case atStart => exact ⟨0, Nat.zero_le _, rfl, hide (fun q hq => by omega), Below.refl _ _⟩
  case round =>
    obtain ⟨k, hk, rfl, HU, hbw⟩ := hrel
    by_cases hlt : k < l.length
    · obtain ⟨b, off, rfl, hb, hrow⟩ := HR.out (by omega)
      obtain ⟨b2, off2, rfl, hb2, hrow2⟩ := HR2.out (by omega)
      obtain ⟨x, hx⟩ : ∃ x, l[k]? = some x := ⟨l[k], List.getElem?_eq_getElem hlt⟩
      obtain ⟨y, hy⟩ : ∃ y, m[k]? = some y := ⟨m[k], List.getElem?_eq_getElem (by omega)⟩
      obtain ⟨c0, c1, c2⟩ := (hrow k x hx).below hbw hb
      obtain ⟨e0, e1, e2⟩ := (hrow2 k y hy).below hbw hb2
      have k0 := cell_regrown c0
      have k1 := cell_regrown c1
      have k2 := cell_regrown c2
      have g0 := cell_regrown e0
      have g1 := cell_regrown e1
      have g2 := cell_regrown e2
      have hi0 : (0 : Int) ≤ (k : Int) := by omega
      have hi1 : (k : Int) < (l.length : Int) := by omega
      have hi2 : (k : Int) < (m.length : Int) := by omega
      have hn := fun W => neq_dom x y W
      have hgd := fun op a b W => guard_dom op a b x y W
      have HX := hide hx
      have HY := hide hy
      clear hrow hrow2 HR HR2 hx hy c0 c1 c2 e0 e1 e2
      cases hd : deq x y
      · have HF := hide (show (false = true ↔ l = m) from ⟨fun h => (by cases h), fun h => by
          have h1 := HX.out
          rw [h, HY.out] at h1
          simp only [Option.some.injEq] at h1
          rw [(deq_iff x y).2 h1.symm] at hd; cases hd⟩)
        rw [hd] at hn
        clear hd
        go_wp2
        refine wp_region_quiet_below (by kernel_rfl) (by kernel_rfl) ?_
        repeat (go_big_quiet_step (fail))
        refine wpQuiet_nil ?_
        intro _ hw'
        obtain ⟨⟨dq, osq⟩, hw''⟩ := hw'
        subst hw''
        have hbw2 := hbw.trans ((below_regrown wr dq osq).mono hbw.size)
        clear hn hgd
        go_wp2
        go_ret
        exact ⟨EqB.of HF.out, hbw2⟩
      · have HU2 := hide (show ∀ q, q < k + 1 → l[q]? = m[q]? from fun q hq => by
          by_cases e : q = k
          · subst e; rw [HX.out, HY.out, (deq_iff x y).1 hd]
          · exact HU.out q (by omega))
        rw [hd] at hn
        clear hd
        go_wp2
        refine wp_region_quiet_below (by kernel_rfl) (by kernel_rfl) ?_
        repeat (go_big_quiet_step (fail))
        refine wpQuiet_nil ?_
        intro _ hw'
        obtain ⟨⟨dq, osq⟩, hw''⟩ := hw'
        subst hw''
        have hbw2 := hbw.trans ((below_regrown wr dq osq).mono hbw.size)
        clear hn hgd
        go_wp2
        go_roundw
        case rel => exact ⟨k + 1, by omega, by go_num, HU2, hbw2⟩
        case measure => simp [intOf]; omega
    · have HT := hide (show l = m from by
        apply List.ext_getElem?
        intro q
        rcases Nat.lt_or_ge q k with c | c
        · exact HU.out q c
        · have := HLEN.out
          rw [List.getElem?_eq_none (by omega), List.getElem?_eq_none (by omega)])
      clear HR HR2 HU HLEN
      go_wp2
      go_ret
      exact ⟨EqB.of ⟨fun _ => HT.out, fun _ => rfl⟩, hbw⟩
namespace M
open Classical in
noncomputable def knb (a c : Dms) : Bool := (gdB a && gdB c) && decide (Kn a c)
noncomputable def kgb (a c : Dms) : Bool := gdB a && gdB c
open Classical in
theorem knb_iff {a c : Dms} (h : kgb a c = true) {b : Bool} (hb : b = true ↔ Kn a c) : knb a c = b := by
  unfold kgb at h
  unfold knb
  rw [h, Bool.true_and, Bool.eq_iff_iff, decide_eq_true_eq, hb]
theorem knb_no {a c : Dms} (h : kgb a c = false) : knb a c = false := by
  unfold kgb at h
  unfold knb
  rw [h]; rfl
end M
set_option maxRecDepth 20000 in
set_option maxHeartbeats 2000000 in
theorem impl_knows (va vc : Value) (la lc : Dms) (w : World) (ha : DomsOf w va la) (hc : DomsOf w vc lc) (hna : la.length ≤ 1048576) (hnc : lc.length ≤ 1048576) (hla : LenD la) (hlc : LenD lc) :
    Calls Try.prog 33 #[va, vc] w fun e w' => e = .returned (.tuple #[.bool (knb la lc), .bool (kgb la lc)]) ∧ Below w.heap.size w w' := by
  have HA := hide ha
  have HC := hide hc
  have HLA := hide hla
  have HLC := hide hlc
  obtain ⟨aa, ca, rfl⟩ := ha.form
  obtain ⟨ac, cc, rfl⟩ := hc.form
  clear hla hlc ha hc
  cases hga : gdB la
  · have hb : kgb la lc = false := by unfold kgb; rw [hga]; rfl
    rw [hb, knb_no hb]
    clear hb
    go_enter Try.func33, Try.ntmps33
    go_wp2_with fail
    refine (impl_gdoms _ la _ HA.out hna HLA.out).mono ?_
    rintro e w1 ⟨rfl, hb1⟩
    rw [hga]
    go_wp2
    go_ret2
    exact ⟨rfl, hb1⟩
  cases hgc : gdB lc
  · have hb : kgb la lc = false := by unfold kgb; rw [hga, hgc]; rfl
    rw [hb, knb_no hb]
    clear hb
    go_enter Try.func33, Try.ntmps33
    go_wp2_with fail
    refine (impl_gdoms _ la _ HA.out hna HLA.out).mono ?_
    rintro e w1 ⟨rfl, hb1⟩
    rw [hga]
    go_wp2_with fail
    refine (impl_gdoms _ lc _ (HC.out.below hb1) hnc HLC.out).mono ?_
    rintro e w2 ⟨rfl, hb2⟩
    rw [hgc]
    have hb12 := hb1.trans (hb2.mono hb1.size)
    go_wp2
    go_ret2
    exact ⟨rfl, hb12⟩
  have HGA := hide (gdB_of hga)
  have HGC := hide (gdB_of hgc)
  have hkg : kgb la lc = true := by unfold kgb; rw [hga, hgc]; rfl
  have HKN := hide (show ∀ b, (b = true ↔ fo [] (la ++ lc) = lc) → knb la lc = b from fun b hb => knb_iff hkg (hb.trans (knows HGA.out.rid HGC.out.rid)))
  have HLE := hide (show (fo [] (la ++ lc)).length ≤ 1048576 from by
    have h1 := fo_len0 (la ++ lc)
    have h2 := HGA.out.1
    have h3 := HGC.out.1
    rw [List.length_append] at h1
    omega)
  rw [hkg]
  clear hkg
  generalize knb la lc = kb at *
  go_enter Try.func33, Try.ntmps33
  go_wp2_with fail
  refine (impl_gdoms _ la _ HA.out hna HLA.out).mono ?_
  rintro e w1 ⟨rfl, hb1⟩
  rw [hga]
  go_wp2_with fail
  refine (impl_gdoms _ lc _ (HC.out.below hb1) hnc HLC.out).mono ?_
  rintro e w2 ⟨rfl, hb2⟩
  rw [hgc]
  have hb12 := hb1.trans (hb2.mono hb1.size)
  obtain ⟨W3, hW3⟩ : ∃ W3, w2.alloc (.cells #[.slice aa la.length ca, .slice ac lc.length cc] 32) = W3 := ⟨_, rfl⟩
  obtain ⟨p, hp⟩ : ∃ p, w2.heap.size = p := ⟨_, rfl⟩
  have hb3 : Below w.heap.size w W3 := by rw [← hW3]; exact hb12.alloc hb12.size _
  have hcc : p < W3.heap.size ∧ W3.cell? ⟨p, 0, none⟩ = some (.slice aa la.length ca) ∧ W3.cell? ⟨p, 1, none⟩ = some (.slice ac lc.length cc) := by
    rw [← hW3, ← hp]; exact ⟨by simp, pair_new w2 _ _ _⟩
  have HB3 := hide (And.intro hb3 hcc)
  have HW := hide hW3
  have HP := hide hp
  clear hb1 hb2 hb12 hW3 hp hb3 hcc HLA HLC hga hgc
  go_wp2_with fail
  rw [HW.out, HP.out]
  clear HW HP
  refine (put_together p _ _ la lc _ (HA.out.below HB3.out.1) (HC.out.below HB3.out.1) HB3.out.2.1 HB3.out.2.2.1 HB3.out.2.2.2 HGA.out.small HGC.out.small HGA.out.fits HGC.out.fits).mono ?_
  rintro e w4 ⟨⟨a4, n4, c4, rfl, hO⟩, hb4⟩
  have hb5 := HB3.out.1.trans (hb4.mono HB3.out.1.size)
  have HO := hide hO.doms
  have HN4 := hide hO.len
  clear hO hb4 HB3 HGA HGC
  go_wp2_with fail
  refine (equal_doms _ _ (fo [] (la ++ lc)) lc _ HO.out (HC.out.below hb5) HLE.out hnc).mono ?_
  rintro e w6 ⟨⟨b, rfl, hb⟩, hb6⟩
  have HK := hide (HKN.out b hb)
  have hb7 := hb5.trans (hb6.mono hb5.size)
  clear hb hb6 hb5 HKN HO HN4 HA HC HLE
  go_wp2
  go_ret2
  exact ⟨by rw [HK.out]; rfl, hb7⟩
namespace M
/-- What is found behind k domains. -/
def FndK (lc : Dms) (x : Dm) (k : Nat) (f : Bool) : Prop := f = true ↔ ∃ q y, q < k ∧ lc[q]? = some y ∧ y.nm = x.nm ∧ lsD y x = false
theorem FndK.zero (lc : Dms) (x : Dm) : FndK lc x 0 false := ⟨fun h => (by cases h), fun ⟨q, y, h, _⟩ => by omega⟩
theorem FndK.keep {lc : Dms} {x : Dm} {k : Nat} (h : FndK lc x k true) : FndK lc x (k + 1) true := ⟨fun _ => by
  obtain ⟨q, y, h1, h2⟩ := h.1 rfl
  exact ⟨q, y, by omega, h2⟩, fun _ => rfl⟩
theorem FndK.yes {lc : Dms} {x y : Dm} {k : Nat} (hy : lc[k]? = some y) (h1 : y.nm = x.nm) (h2 : lsD y x = false) : FndK lc x (k + 1) true := ⟨fun _ => ⟨k, y, by omega, hy, h1, h2⟩, fun _ => rfl⟩
theorem FndK.no {lc : Dms} {x y : Dm} {k : Nat} (h : FndK lc x k false) (hy : lc[k]? = some y) (h2 : ¬ (y.nm = x.nm ∧ lsD y x = false)) : FndK lc x (k + 1) false := ⟨fun h => (by cases h), fun ⟨q, z, h1, h3, h4⟩ => by
  by_cases e : q = k
  · subst e
    rw [hy] at h3
    simp only [Option.some.injEq] at h3
    subst h3
    exact absurd h4 h2
  · exact h.2 ⟨q, z, by omega, h3, h4⟩⟩
theorem FndK.end_ {lc : Dms} {x : Dm} {k : Nat} {f : Bool} (h : FndK lc x k f) (hk : lc.length ≤ k) : f = true ↔ ∃ y ∈ lc, y.nm = x.nm ∧ lsD y x = false := by
  refine h.trans ⟨fun ⟨q, y, _, h2, h3⟩ => ⟨y, List.mem_of_getElem? h2, h3⟩, fun ⟨y, hy, h3⟩ => ?_⟩
  obtain ⟨q, hq⟩ := List.mem_iff_getElem?.1 hy
  exact ⟨q, y, by have := ltD hq; omega, hq, h3⟩
end M
set_option maxRecDepth 20000 in
set_option maxHeartbeats 4000000 in
theorem spec_knows (va vc : Value) (la lc : Dms) (w : World) (ha : DomsOf w va la) (hc : DomsOf w vc lc) (hna : la.length ≤ 1048576) (hnc : lc.length ≤ 1048576) (hla : LenD la) (hlc : LenD lc) :
    Calls Try.prog 32 #[va, vc] w fun e w' => e = .returned (.tuple #[.bool (knb la lc), .bool (kgb la lc)]) ∧ Below w.heap.size w w' := by
  have HA := hide ha
  have HC := hide hc
  have HLA := hide hla
  have HLC := hide hlc
  obtain ⟨aa, ca, rfl, hra⟩ := ha
  obtain ⟨ac, cc, rfl, hrc⟩ := hc
  have HRA := hide hra
  have HRC := hide hrc
  clear hla hlc hra hrc
  cases hga : gdB la
  · have hb : kgb la lc = false := by unfold kgb; rw [hga]; rfl
    rw [hb, knb_no hb]
    clear hb
    go_enter Try.func32, Try.ntmps32
    go_wp2_with fail
    refine (spec_gdoms _ la _ HA.out hna HLA.out).mono ?_
    rintro e w1 ⟨rfl, hb1⟩
    rw [hga]
    go_wp2
    go_ret2
    exact ⟨rfl, hb1⟩
  cases hgc : gdB lc
  · have hb : kgb la lc = false := by unfold kgb; rw [hga, hgc]; rfl
    rw [hb, knb_no hb]
    clear hb
    go_enter Try.func32, Try.ntmps32
    go_wp2_with fail
    refine (spec_gdoms _ la _ HA.out hna HLA.out).mono ?_
    rintro e w1 ⟨rfl, hb1⟩
    rw [hga]
    go_wp2_with fail
    refine (spec_gdoms _ lc _ (HC.out.below hb1) hnc HLC.out).mono ?_
    rintro e w2 ⟨rfl, hb2⟩
    rw [hgc]
    have hb12 := hb1.trans (hb2.mono hb1.size)
    go_wp2
    go_ret2
    exact ⟨rfl, hb12⟩
  have hkg : kgb la lc = true := by unfold kgb; rw [hga, hgc]; rfl
  have HKN := hide (show ∀ b, (b = true ↔ Kn la lc) → knb la lc = b from fun b hb => knb_iff hkg hb)
  rw [hkg]
  clear hkg
  generalize knb la lc = kb at *
  go_enter Try.func32, Try.ntmps32
  go_wp2_with fail
  refine (spec_gdoms _ la _ HA.out hna HLA.out).mono ?_
  rintro e w1 ⟨rfl, hb1⟩
  rw [hga]
  go_wp2_with fail
  refine (spec_gdoms _ lc _ (HC.out.below hb1) hnc HLC.out).mono ?_
  rintro e w2 ⟨rfl, hb2⟩
  rw [hgc]
  have hb12 := hb1.trans (hb2.mono hb1.size)
  clear hb1 hb2 HA HC HLA HLC hga hgc
  go_wp2
  go_loopw [21] (fun i wr => ∃ j : Nat, j ≤ la.length ∧ i = .int .i64 j ∧ Hid (∀ q x, q < j → la[q]? = some x → ∃ y ∈ lc, y.nm = x.nm ∧ lsD y x = false) ∧ Below w.heap.size w wr) (fun i _ => la.length - (intOf i).toNat)
  case atStart => exact ⟨0, Nat.zero_le _, rfl, hide (fun q x hq => by omega), hb12⟩
  case round =>
    rename World => wo
    obtain ⟨j, hj, rfl, HU, hbo⟩ := hrel
    clear hb12
    by_cases hlt : j < la.length
    · obtain ⟨b, off, rfl, hb, hrow⟩ := HRA.out (by omega)
      obtain ⟨x, hx⟩ : ∃ x, la[j]? = some x := ⟨la[j], List.getElem?_eq_getElem hlt⟩
      obtain ⟨c0, c1, c2⟩ := (hrow j x hx).below hbo hb
      have HX := hide hx
      obtain ⟨W1, hW1⟩ : ∃ W1, wo.alloc (.cells #[.string x.nm, .int .i64 x.ver, .string x.nt] 58) = W1 := ⟨_, rfl⟩
      obtain ⟨p, hp⟩ : ∃ p, wo.heap.size = p := ⟨_, rfl⟩
      have HBX := hide (show Blk W1 p 3 (qd x) 58 from by rw [← hW1, ← hp]; exact new3 wo _ _ _ _)
      have hb1 : Below w.heap.size w W1 := by rw [← hW1]; exact hbo.alloc hbo.size _
      have HW1 := hide hW1
      have HPP := hide hp
      clear hW1 hp hrow hx HRA hbo
      go_wp2
      rw [HW1.out, HPP.out]
      clear HW1 HPP c0 c1 c2
      go_loopw [8, 27] (fun f i wr => ∃ (k : Nat) (fb : Bool), k ≤ lc.length ∧ i = .int .i64 k ∧ f = .bool fb ∧ Hid (FndK lc x k fb ∧ Blk wr p 3 (qd x) 58) ∧ Below w.heap.size w wr) (fun _ i _ => lc.length - (intOf i).toNat)
      case atStart => exact ⟨0, false, Nat.zero_le _, rfl, rfl, hide ⟨FndK.zero _ _, HBX.out⟩, hb1⟩
      case round =>
        obtain ⟨k, fb, hk, rfl, rfl, HF, hbr⟩ := hrel
        clear HBX hb1
        by_cases hlt2 : k < lc.length
        · obtain ⟨b2, off2, rfl, hb2, hrow2⟩ := HRC.out (by omega)
          obtain ⟨y, hy⟩ : ∃ y, lc[k]? = some y := ⟨lc[k], List.getElem?_eq_getElem hlt2⟩
          obtain ⟨e0, e1, e2⟩ := (hrow2 k y hy).below hbr hb2
          obtain ⟨⟨x0, x1, x2⟩, -⟩ := HF.out.2.tri
          have HY := hide hy
          have hd1 := (Below.refl wr.heap.size wr).alloc (Nat.le_refl _) (.cells #[.string y.nm, .int .i64 y.ver, .string y.nt] 58)
          have hbr1 := hbr.trans (hd1.mono hbr.size)
          have hlx := HF.out.2.lt
          have HB1 := hide (HF.out.2.down hd1)
          clear hrow2 hy HRC hd1
          cases fb
          · by_cases hnm : y.nm = x.nm
            · have hd : (y.nm.toList == x.nm.toList) = true := by rw [eqS]; exact decide_eq_true hnm
              have HNM := hide hnm
              clear hnm
              go_wp2_with fail
              refine (spec_less y x _).mono ?_
              rintro e w4 ⟨rfl, hb4⟩
              have hbr4 := hbr1.trans (hb4.mono hbr1.size)
              have HB4 := hide (HB1.out.down hb4)
              clear hb4 HB1 hbr hbr1 e0 e1 e2 x0 x1 x2 hlx
              cases hls : lsD y x
              · have HF2 := hide (show FndK lc x (k + 1) true ∧ Blk w4 p 3 (qd x) 58 from ⟨FndK.yes HY.out HNM.out hls, HB4.out⟩)
                clear HF HB4
                go_wp2
                go_roundw
                case rel => exact ⟨k + 1, true, by omega, by go_num, rfl, HF2, hbr4⟩
                case measure => simp [intOf]; omega
              · have HF2 := hide (show FndK lc x (k + 1) false ∧ Blk w4 p 3 (qd x) 58 from ⟨FndK.no HF.out.1 HY.out (fun h => by rw [hls] at h; cases h.2), HB4.out⟩)
                clear HF HB4
                go_wp2
                go_roundw
                case rel => exact ⟨k + 1, false, by omega, by go_num, rfl, HF2, hbr4⟩
                case measure => simp [intOf]; omega
            · have hd : (y.nm.toList == x.nm.toList) = false := by rw [eqS]; exact decide_eq_false hnm
              have HF2 := hide (show FndK lc x (k + 1) false ∧ Blk _ p 3 (qd x) 58 from ⟨FndK.no HF.out.1 HY.out (fun h => hnm h.1), HB1.out⟩)
              clear HF HB1 hnm
              go_wp2
              go_roundw
              case rel => exact ⟨k + 1, false, by omega, by go_num, rfl, HF2, hbr1⟩
              case measure => simp [intOf]; omega
          · have HF2 := hide (show FndK lc x (k + 1) true ∧ Blk _ p 3 (qd x) 58 from ⟨FndK.keep HF.out.1, HB1.out⟩)
            clear HF HB1
            go_wp2
            go_roundw
            case rel => exact ⟨k + 1, true, by omega, by go_num, rfl, HF2, hbr1⟩
            case measure => simp [intOf]; omega
        · have HEND := hide (HF.out.1.end_ (by omega))
          clear HF HRC
          cases fb
          · have HK := hide (HKN.out false ⟨fun h => (by cases h), fun h => absurd (HEND.out.2 (h x (List.mem_of_getElem? HX.out))) (by simp)⟩)
            clear HEND HKN HU
            go_wp2
            go_ret2
            exact ⟨by rw [HK.out]; rfl, hbr⟩
          · have HU2 := hide (show ∀ q z, q < j + 1 → la[q]? = some z → ∃ y ∈ lc, y.nm = z.nm ∧ lsD y z = false from fun q z hq hz => by
              by_cases e : q = j
              · subst e
                rw [HX.out] at hz
                simp only [Option.some.injEq] at hz
                subst hz
                exact HEND.out.1 rfl
              · exact HU.out q z (by omega) hz)
            clear HEND HKN HU
            go_wp2
            go_roundw
            case rel => exact ⟨j + 1, by omega, by go_num, HU2, hbr⟩
            case measure => simp [intOf]; omega
    · have HK := hide (HKN.out true ⟨fun _ x hx => by
        obtain ⟨q, hq⟩ := List.mem_iff_getElem?.1 hx
        exact HU.out q x (by have := ltD hq; omega) hq, fun _ => rfl⟩)
      clear HKN HU HRA HRC
      go_wp2
      go_ret2
      exact ⟨by rw [HK.out]; rfl, hbo⟩
theorem law_knows (va : Value) (la : Dms) (vc : Value) (lc : Dms) (w : World) (ha : DomsOf w va la) (hla : LenD la) (hc : DomsOf w vc lc) (hlc : LenD lc) :
    Calls Try.prog 10 #[va, vc] w fun e w' => e = .returned (.bool true) ∧ Below w.heap.size w w' :=
  law_knows_run va la vc lc (knb la lc) (kgb la lc) w ha hla hc hlc (fun u0 u1 W h0 d0 h1 d1 => spec_knows u0 u1 la lc W d0 d1 h0 h1 hla hlc) (fun u0 u1 W h0 d0 h1 d1 => impl_knows u0 u1 la lc W d0 d1 h0 h1 hla hlc)
end Go.Proofs.Ytgccoognklolbaa
