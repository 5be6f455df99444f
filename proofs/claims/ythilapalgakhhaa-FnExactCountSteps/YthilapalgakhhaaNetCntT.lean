/-
  The specification's CountSteps, at a good net and marking.
-/
import Derived.Test.YthilapalgakhhaaNetCntS
import Derived.OwnWalk
import Derived.WalkSmall
namespace Go.Proofs.Ythilapalgakhhaa
open Go.RowKit M
open Clk (upd upd_same upd_other)
set_option maxHeartbeats 2000000 in
theorem spec_cnt (v : Value) (k : Nat) (st : Nat → Sp) (u : Value) (n : Nat) (f : Nat → Int) (t : Value) (cs : Nat → Int) (b : Bool) (w : World) (hv : StepsOf w v k st) (hu : IntsOf w u n f) (ht : IntsOf w t k cs) (hs : Short k st) (h : NOk (n : Int) k st n f) (hb : decide (All k cs 0 100) = b) :
    Calls Try.prog 38 #[netV (n : Int) v, u, t] w fun e w' => (∃ R, e = .returned (.tuple #[R, .bool b]) ∧ Fired w' n (if b = true then some (cnt st cs (pad n f) k) else none) R) ∧ Below w.heap.size w w' := by
  obtain ⟨i0, hi, hz0, hz1, hz2⟩ := info_parts info_int
  have HV := hide hv
  have HU := hide hu
  have HS := hide hs
  have hk := hs.1
  have hk12 : k ≤ 12 := h.1.2.1
  have hn8 : n ≤ 8 := by have := h.1.1.2; omega
  have hn1 : 1 ≤ n := by have := h.1.1.1; omega
  have HGk := hide h.1.2.2
  have HMk := hide h.mk
  have HGood := hide (show decide (GoodN (n : Int) k st) = true by rw [decide_eq_true_eq]; exact h.1)
  have HMo := hide (show decide (MOk n f (n : Int)) = true by rw [decide_eq_true_eq]; exact h.2)
  have HB := hide hb
  obtain ⟨a, cap, rfl, hrow⟩ := hv
  obtain ⟨a2, cap2, rfl, hru⟩ := hu
  obtain ⟨bu, ou, rfl, hbu, hrowu⟩ := hru (by omega)
  obtain ⟨a3, cap3, rfl, hrt⟩ := ht
  have HR := hide hrow
  have HRT := hide hrt
  have HRU := hide hrowu
  have hne : ((k : Int) != (k : Int)) = false := by simp
  have hbA := (Below.refl w.heap.size w).alloc (Nat.le_refl _) (.cells #[.int .i64 (n : Int), .slice a k cap] 29)
  have hNb := Blk.fresh w _ 2 (p2 (.int .i64 (n : Int)) (.slice a k cap)) 29 rfl
  clear hs h hrow hrt hru hrowu hb
  go_enter Try.func38, Try.ntmps38
  go_wp2_with fail
  refine (spec_good _ _ k st _ _ (HV.out.below hbA) HS.out HGood.out).mono ?_
  rintro e w1 ⟨rfl, hb⟩
  have hb1 := hbA.trans (hb.mono hbA.size)
  have hN1 := hNb.down hb
  obtain ⟨d0, d1, -, -⟩ := hN1.pair
  clear hNb hb hbA HGood
  go_wp2_with fail
  refine (l3mark_to _ _ _ _ _ n f _ _ (HU.out.below hb1) (by omega) HMo.out).mono ?_
  rintro e w2 ⟨rfl, hb⟩
  have hb2 := hb1.trans (hb.mono hb1.size)
  have hN2 := hN1.down hb
  obtain ⟨d0', d1', -, -⟩ := hN2.pair
  have hlN := hN2.lt
  clear hN1 hb hb1 HMo d0 d1 HV HU HS
  have hbC := hb2.alloc hb2.size (.cells #[] 3)
  go_wp2_with (at_builtin; refine wpList_append_own _ rfl _ _ 33 rfl w2.heap.size 3 i0 _ 1 8 Try.underlying33 hi hz0 hz1 hz2 rfl (by decide) _ 0 [] rfl ?own ⟨bu, ou, none⟩ n cap2 ((List.range n).map (iv (pad n f))) rfl ?c0 ?c1 ?c2 ?c3 ?c4 ?c5 ?_)
  case own => exact World.ownsRow_made (base := w2.heap.size) (e := 3) (size := 1) w2 #[] 0 (Nat.le_refl _) (Nat.zero_le _) rfl
  case c0 => simp
  case c1 =>
    intro j u hj
    have hjn : j < n := by have := (List.getElem?_eq_some_iff.1 hj).1; simpa using this
    rw [List.getElem?_map, List.getElem?_range hjn] at hj
    simp only [Option.map_some, Option.some.injEq] at hj
    subst hj
    rw [Addr.add_lit]
    refine (hbC.cell (p := ⟨bu, ou + j, none⟩) hbu).trans ((HRU.out j hjn).trans ?_)
    unfold iv; rw [pad_at hjn]
  case c2 => intro u hu; obtain ⟨j, _, rfl⟩ := List.mem_map.1 hu; rfl
  case c3 => unfold maxLen; omega
  case c4 => omega
  case c5 => simp
  intro v' w4 hown4 hgrow _
  obtain ⟨g, capg, rfl, hBg, hOB⟩ := own_b (by simpa using hown4) (by omega)
  have hb4 : Below w.heap.size w w4 := hbC.grown hgrow hbC.size (fun j hj => by simp [Value.ownBlock] at hj; have := hb2.size; omega)
  have hN4 : Blk w4 w.heap.size 2 (p2 (.int .i64 (n : Int)) (.slice a k cap)) 29 := by
    have h0 := hN2.alloc (.cells #[] 3)
    unfold Blk at h0 ⊢
    rw [hgrow.block w.heap.size (by simp; omega) (by simp [Value.ownBlock]; omega)]
    exact h0
  have H4 := hide (And.intro hOB (And.intro hN4 hb4))
  have hgne : w.heap.size < g := by omega
  clear hown4 hgrow hOB hN4 hb4 hbC hN2 hb2 d0' d1' HRU hi hz0 hz1 hz2
  go_wp2
  go_loopw [37] (fun y wr => ∃ i : Nat, i ≤ k ∧ y = .int .i64 i ∧ Hid (All i cs 0 100) ∧ Hid (OwnB wr g n capg (cnt st cs (pad n f) i) ∧ Blk wr w.heap.size 2 (p2 (.int .i64 (n : Int)) (.slice a k cap)) 29 ∧ Below w.heap.size w wr)) (fun y _ => k - (intOf y).toNat)
  case atStart => exact ⟨0, Nat.zero_le _, rfl, hide (fun j hj => absurd hj (by omega)), H4⟩
  case round =>
    rename World => wo
    obtain ⟨i, hik, rfl, HA, HBo⟩ := hrel
    obtain ⟨hc, hN, hbw⟩ := HBo.out
    by_cases hlt : i < k
    · obtain ⟨bb, off, rfl, hbb, hrow⟩ := HR.out (by omega)
      obtain ⟨x, y, q1, q2, i1, i2⟩ := hrow i hlt
      obtain ⟨b3, o3, rfl, hb3, hrow3⟩ := HRT.out (by omega)
      have hT := (hbw.cell (p := ⟨b3, o3 + i, none⟩) hb3).trans (hrow3 i hlt)
      obtain ⟨e0, e1, -, -⟩ := hN.pair
      by_cases hci : 0 ≤ cs i ∧ cs i ≤ 100
      · have HW := hide (show decide (0 ≤ cs i ∧ cs i ≤ 100) = true by rw [decide_eq_true_eq]; exact hci)
        have hA2 : All (i + 1) cs 0 100 := fun j hj => by
          rcases (show j < i ∨ j = i by omega) with h | h
          · exact HA.out j h
          · subst h; exact hci
        have HA2 := hide hA2
        have hS := HGk.out i hlt
        have h81 : (st i).ni ≤ 8 := by have := ris_len hS.1 (by omega); omega
        have h82 : (st i).no ≤ 8 := by have := ris_len hS.2 (by omega); omega
        have HF1 := hide hS.1
        have HF2 := hide hS.2
        have HBd := hide (cnt_bd (k := i) (p := (n : Int)) ⟨by omega, by omega⟩ (fun j hj => HGk.out j (by omega)) HA.out HMk.out.1 i (Nat.le_refl _))
        have HCt := hide (show cnt st cs (pad n f) (i + 1) = moves (st i).fo (cs i) (moves (st i).fi (- cs i) (cnt st cs (pad n f) i) (st i).ni) (st i).no from rfl)
        generalize cnt st cs (pad n f) i = M0 at *
        generalize (st i).ni = ni at *
        generalize (st i).fi = fi at *
        generalize (st i).no = no at *
        generalize (st i).fo = fo at *
        obtain ⟨ax, cx, rfl, rx⟩ := i1
        obtain ⟨ay, cy, rfl, ry⟩ := i2
        have RX := hide rx
        have RY := hide ry
        have c0 := (hbw.cell (p := ⟨bb, off + i * 2, none⟩) hbb).trans q1
        have Q1 := hide q1
        have Q2 := hide q2
        have hi0 : (0 : Int) ≤ (i : Int) := by omega
        have hi1 : (i : Int) < (k : Int) := by omega
        generalize hcd : cs i = d at *
        have hd0 : 0 ≤ d := hci.1
        have hd1 : d ≤ 100 := hci.2
        clear hrow hrow3 q1 q2 hS rx ry HR HRT HGk HMk HA hA2 hci hcd
        go_wp2_with fail
        refine (l1in_to _ _ _ _ _ HW.out).mono ?_
        rintro e w5 ⟨rfl, rfl⟩
        clear HW hc hN hT
        go_wp2
        go_loopw [52] (fun y wr => ∃ j : Nat, j ≤ ni ∧ y = .int .i64 j ∧ Hid (OwnB wr g n capg (moves fi (- d) M0 j) ∧ Blk wr w.heap.size 2 (p2 (.int .i64 (n : Int)) (.slice (some ⟨bb, off, none⟩) k cap)) 29 ∧ Below w.heap.size w wr)) (fun y _ => ni - (intOf y).toNat)
        case atStart => exact ⟨0, Nat.zero_le _, rfl, HBo⟩
        case round =>
          rename World => wq
          obtain ⟨j, hj, rfl, HQ⟩ := hrel
          obtain ⟨hc, hN, hbq⟩ := HQ.out
          by_cases hlj : j < ni
          · obtain ⟨bs, os, rfl, hbs, hrx⟩ := RX.out (by omega)
            have hfk := (HF1.out j hlj).1
            obtain ⟨z, hz⟩ := Int.eq_ofNat_of_zero_le hfk.1
            have hzt : (fi j).toNat = z := by omega
            have d0 := (hbq.cell (p := ⟨bs, os + j, none⟩) hbs).trans (hrx j hlj)
            rw [hz] at d0
            have hzn : z < n := by omega
            have d1 := hc.cell hzn
            have f1 := hc.thaw z
            have hz0 : (0 : Int) ≤ (z : Int) := by omega
            have hz1 : (z : Int) < (n : Int) := by omega
            have hMb := moves_bd (f := fi) (d := - d) (by omega) HBd.out j z
            have HNx := hide (show OwnB (wq.setCell ⟨g, z, none⟩ (.int .i64 (moves fi (- d) M0 j z - d))) g n capg (moves fi (- d) M0 (j + 1)) ∧ Blk (wq.setCell ⟨g, z, none⟩ (.int .i64 (moves fi (- d) M0 j z - d))) w.heap.size 2 (p2 (.int .i64 (n : Int)) (.slice (some ⟨bb, off, none⟩) k cap)) 29 ∧ Below w.heap.size w (wq.setCell ⟨g, z, none⟩ (.int .i64 (moves fi (- d) M0 j z - d))) by
              refine ⟨?_, hN.set_other (by omega) _ _, hbq.setCell (by simp; omega) _⟩
              have := hc.set z (moves fi (- d) M0 j z - d)
              rw [show moves fi (- d) M0 (j + 1) = upd (moves fi (- d) M0 j) z (moves fi (- d) M0 j z - d) by simp only [moves]; rw [hzt, Int.sub_eq_add_neg]]
              exact this)
            clear hrx hfk hz hzt hc hN HQ RX RY HF1 HF2 HBd HCt H4 HBo Q1 Q2
            generalize moves fi (- d) M0 j z = X at *
            go_wp2
            exact ⟨⟨j + 1, by omega, by go_num, HNx⟩, by simp [intOf]; omega⟩
          · obtain rfl : j = ni := by omega
            have HBd2 := hide (moves_bd (f := fi) (d := - d) (by omega) HBd.out j)
            generalize moves fi (- d) M0 j = M1 at *
            obtain ⟨e0, e1, -, -⟩ := hN.pair
            have c1 := (hbq.cell (p := ⟨bb, off + i * 2 + 1, none⟩) hbb).trans Q2.out
            clear hc hN RX HF1 HBd H4 HBo Q1
            go_wp2
            go_loopw [71] (fun y wr => ∃ l : Nat, l ≤ no ∧ y = .int .i64 l ∧ Hid (OwnB wr g n capg (moves fo d M1 l) ∧ Blk wr w.heap.size 2 (p2 (.int .i64 (n : Int)) (.slice (some ⟨bb, off, none⟩) k cap)) 29 ∧ Below w.heap.size w wr)) (fun y _ => no - (intOf y).toNat)
            case atStart => exact ⟨0, Nat.zero_le _, rfl, HQ⟩
            case round =>
              rename World => wt
              obtain ⟨l, hl, rfl, HL⟩ := hrel
              obtain ⟨hc, hN, hbt⟩ := HL.out
              by_cases hll : l < no
              · obtain ⟨bs, os, rfl, hbs, hry⟩ := RY.out (by omega)
                have hfk := (HF2.out l hll).1
                obtain ⟨z, hz⟩ := Int.eq_ofNat_of_zero_le hfk.1
                have hzt : (fo l).toNat = z := by omega
                have d0 := (hbt.cell (p := ⟨bs, os + l, none⟩) hbs).trans (hry l hll)
                rw [hz] at d0
                have hzn : z < n := by omega
                have d1 := hc.cell hzn
                have f1 := hc.thaw z
                have hz0 : (0 : Int) ≤ (z : Int) := by omega
                have hz1 : (z : Int) < (n : Int) := by omega
                have hMb := moves_bd (f := fo) (d := d) (by omega) HBd2.out l z
                have HNx := hide (show OwnB (wt.setCell ⟨g, z, none⟩ (.int .i64 (moves fo d M1 l z + d))) g n capg (moves fo d M1 (l + 1)) ∧ Blk (wt.setCell ⟨g, z, none⟩ (.int .i64 (moves fo d M1 l z + d))) w.heap.size 2 (p2 (.int .i64 (n : Int)) (.slice (some ⟨bb, off, none⟩) k cap)) 29 ∧ Below w.heap.size w (wt.setCell ⟨g, z, none⟩ (.int .i64 (moves fo d M1 l z + d))) by
                  refine ⟨?_, hN.set_other (by omega) _ _, hbt.setCell (by simp; omega) _⟩
                  have := hc.set z (moves fo d M1 l z + d)
                  rw [show moves fo d M1 (l + 1) = upd (moves fo d M1 l) z (moves fo d M1 l z + d) by simp only [moves]; rw [hzt]]
                  exact this)
                clear hry hfk hz hzt hc hN HL RY HF2 HBd2 HCt HQ Q2
                generalize moves fo d M1 l z = X at *
                go_wp2
                exact ⟨⟨l + 1, by omega, by go_num, HNx⟩, by simp [intOf]; omega⟩
              · obtain rfl : l = no := by omega
                have HE := hide (show OwnB wt g n capg (cnt st cs (pad n f) (i + 1)) ∧ Blk wt w.heap.size 2 (p2 (.int .i64 (n : Int)) (.slice (some ⟨bb, off, none⟩) k cap)) 29 ∧ Below w.heap.size w wt by rw [HCt.out]; exact ⟨hc, hN, hbt⟩)
                clear hc hN HL RY HF2 HBd2 HCt HQ Q2
                go_wp2
                exact ⟨⟨i + 1, by omega, by go_num, HA2, HE⟩, by simp [intOf]; omega⟩
      · have HW := hide (show decide (0 ≤ cs i ∧ cs i ≤ 100) = false by rw [decide_eq_false_iff_not]; exact hci)
        have eb : b = false := by rw [← HB.out, decide_eq_false_iff_not]; exact fun H => hci (H i hlt)
        subst eb
        clear hrow hrow3 q1 q2 i1 i2 HR HRT HGk HMk HA hci H4 HBo hc hN
        go_wp2_with fail
        refine (l1in_to _ _ _ _ _ HW.out).mono ?_
        rintro e w5 ⟨rfl, rfl⟩
        go_wp2
        go_ret2
        exact ⟨⟨_, rfl, .inl ⟨rfl, rfl⟩⟩, hbw⟩
    · obtain rfl : i = k := by omega
      have eb : b = true := by rw [← HB.out, decide_eq_true_eq]; exact HA.out
      subst eb
      have HF := hide (show Fired wo n (if true = true then some (cnt st cs (pad n f) i) else none) (.slice (some ⟨g, 0, none⟩) n capg) from .inr ⟨_, rfl, hc.ints⟩)
      clear hc hN HBo HB HR HRT HGk HMk HA H4
      go_wp2
      go_ret2
      exact ⟨⟨_, rfl, HF.out⟩, hbw⟩
end Go.Proofs.Ythilapalgakhhaa
