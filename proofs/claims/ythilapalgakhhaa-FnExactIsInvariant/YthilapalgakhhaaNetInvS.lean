/-
  IsInvariant: wrong arguments; the specification's text.
-/
import Derived.Test.YthilapalgakhhaaNetInv
namespace Go.Proofs.Ythilapalgakhhaa
open Go.RowKit M
set_option maxHeartbeats 500000 in
theorem impl_inv_no (p : Int) (v : Value) (k : Nat) (st : Nat → Sp) (u : Value) (m : Nat) (g : Nat → Int) (w : World) (hv : StepsOf w v k st) (hu : IntsOf w u m g) (hs : Short k st) (hm : m ≤ 1048576) (h : ¬ IOk p k st m g) :
    Calls Try.prog 35 #[netV p v, u] w fun e w' => e = .returned (.tuple #[.bool false, .bool false]) ∧ Below w.heap.size w w' := by
  have HV := hide hv
  have HU := hide hu
  obtain ⟨a, cap, rfl⟩ := hv.form
  obtain ⟨a2, cap2, rfl⟩ := hu.form
  clear hv hu
  have hbA := (Below.refl w.heap.size w).alloc (Nat.le_refl _) (.cells #[.int .i64 p, .slice a k cap] 29)
  have hN := Blk.fresh w _ 2 (fun i => if i = 0 then .int .i64 p else .slice a k cap) 29 (show #[.int .i64 p, .slice a k cap] = _ from rfl)
  by_cases hgood : GoodN p k st
  · have HGood := hide (show decide (GoodN p k st) = true by rw [decide_eq_true_eq]; exact hgood)
    by_cases hmp : (m : Int) = p
    · have hne : ((m : Int) != p) = false := by simp [hmp]
      have HW := hide (show decide (All m g (-100) 100) = false by rw [decide_eq_false_iff_not]; exact fun hg => h ⟨hgood, hg, hmp⟩)
      clear h hgood hmp
      go_enter Try.func35, Try.ntmps35
      go_wp2_with fail
      refine (impl_good p _ k st _ _ (HV.out.below hbA) hs HGood.out).mono ?_
      rintro e w1 ⟨rfl, hb⟩
      have hb1 := hbA.trans (hb.mono hbA.size)
      have hN1 := hN.down hb
      have n0 : w1.cell? ⟨w.heap.size, 0, none⟩ = some (.int .i64 p) := hN1.cell (by omega)
      clear hN hb hbA
      go_wp2_with fail
      refine (good_weights _ m g _ _ (HU.out.below hb1) hm HW.out).mono ?_
      rintro e w2 ⟨rfl, rfl⟩
      clear HV HU
      go_wp2
      go_ret2
      exact ⟨rfl, hb1⟩
    · have hne : ((m : Int) != p) = true := by simp [hmp]
      clear h hgood hmp
      go_enter Try.func35, Try.ntmps35
      go_wp2_with fail
      refine (impl_good p _ k st _ _ (HV.out.below hbA) hs HGood.out).mono ?_
      rintro e w1 ⟨rfl, hb⟩
      have hb1 := hbA.trans (hb.mono hbA.size)
      have hN1 := hN.down hb
      have n0 : w1.cell? ⟨w.heap.size, 0, none⟩ = some (.int .i64 p) := hN1.cell (by omega)
      clear hN hb hbA HV HU
      go_wp2
      go_ret2
      exact ⟨rfl, hb1⟩
  · have HGood := hide (show decide (GoodN p k st) = false by rw [decide_eq_false_iff_not]; exact hgood)
    clear h hgood hN
    go_enter Try.func35, Try.ntmps35
    go_wp2_with fail
    refine (impl_good p _ k st _ _ (HV.out.below hbA) hs HGood.out).mono ?_
    rintro e w1 ⟨rfl, hb⟩
    have hb1 := hbA.trans (hb.mono hbA.size)
    clear hb hbA HV HU
    go_wp2
    go_ret2
    exact ⟨rfl, hb1⟩
set_option maxHeartbeats 500000 in
theorem spec_inv_no (p : Int) (v : Value) (k : Nat) (st : Nat → Sp) (u : Value) (m : Nat) (g : Nat → Int) (w : World) (hv : StepsOf w v k st) (hu : IntsOf w u m g) (hs : Short k st) (hm : m ≤ 1048576) (h : ¬ IOk p k st m g) :
    Calls Try.prog 34 #[netV p v, u] w fun e w' => e = .returned (.tuple #[.bool false, .bool false]) ∧ Below w.heap.size w w' := by
  have HV := hide hv
  have HU := hide hu
  obtain ⟨a, cap, rfl⟩ := hv.form
  obtain ⟨a2, cap2, rfl⟩ := hu.form
  clear hv hu
  have hbA := (Below.refl w.heap.size w).alloc (Nat.le_refl _) (.cells #[.int .i64 p, .slice a k cap] 29)
  have hN := Blk.fresh w _ 2 (fun i => if i = 0 then .int .i64 p else .slice a k cap) 29 (show #[.int .i64 p, .slice a k cap] = _ from rfl)
  by_cases hgood : GoodN p k st
  · have HGood := hide (show decide (GoodN p k st) = true by rw [decide_eq_true_eq]; exact hgood)
    have HW := hide (show decide (TOk m g p) = false by rw [decide_eq_false_iff_not]; exact fun hg => h ⟨hgood, hg⟩)
    clear h hgood
    go_enter Try.func34, Try.ntmps34
    go_wp2_with fail
    refine (spec_good p _ k st _ _ (HV.out.below hbA) hs HGood.out).mono ?_
    rintro e w1 ⟨rfl, hb⟩
    have hb1 := hbA.trans (hb.mono hbA.size)
    have hN1 := hN.down hb
    have n0 : w1.cell? ⟨w.heap.size, 0, none⟩ = some (.int .i64 p) := hN1.cell (by omega)
    clear hN hb hbA
    go_wp2_with fail
    refine (l3weights_to _ _ m g _ _ (HU.out.below hb1) hm HW.out).mono ?_
    rintro e w2 ⟨rfl, rfl⟩
    clear HV HU
    go_wp2
    go_ret2
    exact ⟨rfl, hb1⟩
  · have HGood := hide (show decide (GoodN p k st) = false by rw [decide_eq_false_iff_not]; exact hgood)
    clear h hgood hN
    go_enter Try.func34, Try.ntmps34
    go_wp2_with fail
    refine (spec_good p _ k st _ _ (HV.out.below hbA) hs HGood.out).mono ?_
    rintro e w1 ⟨rfl, hb⟩
    have hb1 := hbA.trans (hb.mono hbA.size)
    clear hb hbA HV HU
    go_wp2
    go_ret2
    exact ⟨rfl, hb1⟩
set_option maxHeartbeats 1000000 in
theorem spec_inv (p : Int) (v : Value) (k : Nat) (st : Nat → Sp) (u : Value) (m : Nat) (g : Nat → Int) (b : Bool) (w : World) (hv : StepsOf w v k st) (hu : IntsOf w u m g) (hs : Short k st) (h : IOk p k st m g) (hb : decide (Inv k st g) = b) :
    Calls Try.prog 34 #[netV p v, u] w fun e w' => e = .returned (.tuple #[.bool b, .bool true]) ∧ Below w.heap.size w w' := by
  obtain ⟨hgood, hT⟩ := h
  have hp8 : p ≤ 8 := hgood.1.2
  have hp1 : 1 ≤ p := hgood.1.1
  have HGood := hide (show decide (GoodN p k st) = true by rw [decide_eq_true_eq]; exact hgood)
  have HW := hide (show decide (TOk m g p) = true by rw [decide_eq_true_eq]; exact hT)
  obtain ⟨hg, hmp⟩ := hT
  have HV := hide hv
  have HU := hide hu
  obtain ⟨a, cap, rfl, hr⟩ := hv
  obtain ⟨a2, cap2, rfl, hru⟩ := hu
  have HR := hide hr
  have HRU := hide hru
  have hk := hs.1
  have HB := hide hb
  have HGN := hide hgood
  have HG := hide hg
  have hm8 : m ≤ 8 := by omega
  have hpm : p ≤ (m : Int) := by omega
  clear hr hb hgood hg hmp hru
  have hbA := (Below.refl w.heap.size w).alloc (Nat.le_refl _) (.cells #[.int .i64 p, .slice a k cap] 29)
  have hN := Blk.fresh w _ 2 (fun i => if i = 0 then .int .i64 p else .slice a k cap) 29 (show #[.int .i64 p, .slice a k cap] = _ from rfl)
  go_enter Try.func34, Try.ntmps34
  go_wp2_with fail
  refine (spec_good p _ k st _ _ (HV.out.below hbA) hs HGood.out).mono ?_
  rintro e w1 ⟨rfl, hb⟩
  have hb1 := hbA.trans (hb.mono hbA.size)
  have hN1 := hN.down hb
  have n0 : w1.cell? ⟨w.heap.size, 0, none⟩ = some (.int .i64 p) := hN1.cell (by omega)
  have n1 : w1.cell? ⟨w.heap.size, 1, none⟩ = some (.slice a k cap) := hN1.cell (by omega)
  clear hN hb hbA
  go_wp2_with fail
  refine (l3weights_to _ _ m g _ _ (HU.out.below hb1) (by omega) HW.out).mono ?_
  rintro e w2 ⟨rfl, rfl⟩
  clear HGood HW HV HU
  go_wp2
  go_loopw [26] (fun i wr => ∃ j : Nat, j ≤ k ∧ i = .int .i64 j ∧ Hid (∀ q, q < j → asum g (st q).fi (st q).ni = asum g (st q).fo (st q).no) ∧ Below w2.heap.size w2 wr) (fun i _ => k - (intOf i).toNat)
  case atStart => exact ⟨0, Nat.zero_le _, rfl, hide (fun q h => absurd h (by omega)), Below.refl _ _⟩
  case round =>
    rename World => wo
    obtain ⟨j, hj, rfl, HP, hbw⟩ := hrel
    have hbx := hb1.trans (hbw.mono hb1.size)
    by_cases hlt : j < k
    · obtain ⟨bb, off, rfl, hbb, hrow⟩ := HR.out (by omega)
      obtain ⟨x, y, q1, q2, i1, i2⟩ := hrow j hlt
      have hS := HGN.out.2.2 j hlt
      have h81 : (st j).ni ≤ 8 := by have := ris_len hS.1 (by omega); omega
      have h82 : (st j).no ≤ 8 := by have := ris_len hS.2 (by omega); omega
      have HF1 := hide hS.1
      have HF2 := hide hS.2
      have HEQ := hide (show asum g (st j).fi (st j).ni = asum g (st j).fo (st j).no → ∀ q, q < j + 1 → asum g (st q).fi (st q).ni = asum g (st q).fo (st q).no from fun he q hq => by
          rcases (show q < j ∨ q = j by omega) with h | h
          · exact HP.out q h
          · subst h; exact he)
      have HNE := hide (show ¬ asum g (st j).fi (st j).ni = asum g (st j).fo (st j).no → b = false from fun hn => by rw [← HB.out, decide_eq_false_iff_not]; exact fun H => hn (H j hlt))
      generalize (st j).ni = ni at *
      generalize (st j).fi = fi at *
      generalize (st j).no = no at *
      generalize (st j).fo = fo at *
      obtain ⟨ax, cx, rfl, rx⟩ := i1
      obtain ⟨ay, cy, rfl, ry⟩ := i2
      have RX := hide rx
      have RY := hide ry
      have c0 := (hbx.cell (p := ⟨bb, off + j * 2, none⟩) hbb).trans q1
      have c1 := (hbx.cell (p := ⟨bb, off + j * 2 + 1, none⟩) hbb).trans q2
      have hbw2 := hbw.alloc hbw.size (.cells #[.slice ax ni cx, .slice ay no cy] 60)
      have hbx2 := hbx.alloc hbx.size (.cells #[.slice ax ni cx, .slice ay no cy] 60)
      clear HR hrow q1 q2 hS HP rx ry HB HGN
      go_wp2
      go_loop [8, 33] (fun x i => ∃ q : Nat, q ≤ ni ∧ i = .int .i64 q ∧ x = .int .i64 (- asum g fi q)) (fun _ i => ni - (intOf i).toNat)
      case atStart => exact ⟨0, Nat.zero_le _, rfl, rfl⟩
      case round =>
        obtain ⟨q, hq, rfl, rfl⟩ := hrel
        by_cases hlq : q < ni
        · obtain ⟨bu, ou, rfl, hbu, hrow⟩ := HRU.out (by have := (HF1.out q hlq).1; omega)
          obtain ⟨bs, os, rfl, hbs, hrow2⟩ := RX.out (by omega)
          have hfk := (HF1.out q hlq).1
          obtain ⟨z, hz⟩ := Int.eq_ofNat_of_zero_le hfk.1
          have d1 := (hbx2.cell (p := ⟨bs, os + q, none⟩) hbs).trans (hrow2 q hlq)
          rw [hz] at d1
          have hzm : z < m := by omega
          have d0 := (hbx2.cell (p := ⟨bu, ou + z, none⟩) hbu).trans (hrow z hzm)
          obtain ⟨s1, s2⟩ := asum_bd HG.out hpm HF1.out q hq
          obtain ⟨g1, g2⟩ := HG.out z hzm
          have hi0 : (0 : Int) ≤ (z : Int) := by omega
          have hi1 : (z : Int) < (m : Int) := by omega
          have HS := hide (show - asum g fi (q + 1) = - asum g fi q - g z by simp only [asum]; rw [hz, Int.toNat_natCast]; omega)
          clear HRU RX RY hrow hrow2 HF1 HF2 HG hfk hz HEQ HNE
          go_wp2
          go_round
          case rel => exact ⟨q + 1, by omega, by go_num, by rw [HS.out]⟩
          case measure => simp [intOf]; omega
        · obtain rfl : q = ni := by omega
          obtain ⟨s1, s2⟩ := asum_bd HG.out hpm HF1.out q hq
          have HT := hide (And.intro s1 s2)
          clear s1 s2
          go_wp2
          go_loop [8, 47] (fun x i => ∃ r : Nat, r ≤ no ∧ i = .int .i64 r ∧ x = .int .i64 (- asum g fi q + asum g fo r)) (fun _ i => no - (intOf i).toNat)
          case atStart => exact ⟨0, Nat.zero_le _, rfl, by simp [asum]⟩
          case round =>
            obtain ⟨r, hr, rfl, rfl⟩ := hrel
            obtain ⟨t1, t2⟩ := HT.out
            by_cases hlr : r < no
            · obtain ⟨bu, ou, rfl, hbu, hrow⟩ := HRU.out (by have := (HF2.out r hlr).1; omega)
              obtain ⟨bs, os, rfl, hbs, hrow2⟩ := RY.out (by omega)
              have hfk := (HF2.out r hlr).1
              obtain ⟨z, hz⟩ := Int.eq_ofNat_of_zero_le hfk.1
              have d1 := (hbx2.cell (p := ⟨bs, os + r, none⟩) hbs).trans (hrow2 r hlr)
              rw [hz] at d1
              have hzm : z < m := by omega
              have d0 := (hbx2.cell (p := ⟨bu, ou + z, none⟩) hbu).trans (hrow z hzm)
              obtain ⟨s1, s2⟩ := asum_bd HG.out hpm HF2.out r hr
              obtain ⟨g1, g2⟩ := HG.out z hzm
              have hi0 : (0 : Int) ≤ (z : Int) := by omega
              have hi1 : (z : Int) < (m : Int) := by omega
              have HS := hide (show - asum g fi q + asum g fo (r + 1) = - asum g fi q + asum g fo r + g z by simp only [asum]; rw [hz, Int.toNat_natCast]; omega)
              clear HRU RX RY hrow hrow2 HF1 HF2 HG hfk hz HEQ HNE HT
              go_wp2
              go_round
              case rel => exact ⟨r + 1, by omega, by go_num, by rw [HS.out]⟩
              case measure => simp [intOf]; omega
            · obtain rfl : r = no := by omega
              clear t1 t2
              by_cases heq : asum g fi q = asum g fo r
              · have he : ((- asum g fi q + asum g fo r) != 0) = false := by simp; omega
                have HP2 := hide (HEQ.out heq)
                clear HRU RX RY HF1 HF2 HG HEQ HNE HT heq
                go_wp2
                exact ⟨⟨j + 1, by omega, by go_num, HP2, hbw2⟩, by simp [intOf]; omega⟩
              · have he : ((- asum g fi q + asum g fo r) != 0) = true := by simp; omega
                have eb := HNE.out heq
                subst eb
                clear HRU RX RY HF1 HF2 HG HEQ HNE HT heq
                go_wp2
                go_ret2
                exact ⟨rfl, hbx2⟩
    · obtain rfl : j = k := by omega
      have eb : b = true := by rw [← HB.out, decide_eq_true_eq]; exact HP.out
      subst eb
      clear HR HP HB HG HGN HRU
      go_wp2
      go_ret2
      exact ⟨rfl, hbx⟩
end Go.Proofs.Ythilapalgakhhaa
