/-
  The specification's FireStep, at every net, list and number.
-/
import Derived.Test.YthilapalgakhhaaNetFireS
namespace Go.Proofs.Ythilapalgakhhaa
open Go.RowKit M
set_option maxHeartbeats 1000000 in
theorem spec_step (p : Int) (v : Value) (k : Nat) (st : Nat → Sp) (u : Value) (n : Nat) (f : Nat → Int) (i : Nat) (r : Option (Nat → Int)) (w : World) (hv : StepsOf w v k st) (hu : IntsOf w u n f) (hs : Short k st) (h : NOk p k st n f) (hi : i < k) (hr : fire (st i) (pad n f) = r) :
    Calls Try.prog 22 #[netV p v, u, .int .i64 (i : Int)] w fun e w' => (∃ R, e = .returned (.tuple #[R, .bool r.isSome]) ∧ Fired w' n r R) ∧ Below w.heap.size w w' := by
  have HV := hide hv
  have HU := hide hu
  have HS := hide hs
  have HR := hide hr
  obtain ⟨a, cap, rfl, hrow⟩ := hv
  obtain ⟨a2, cap2, rfl⟩ := hu.form
  obtain ⟨bb, off, rfl, hbb, hrow⟩ := hrow (by omega)
  obtain ⟨x, y, q1, q2, i1, i2⟩ := hrow i hi
  have hk := hs.1
  have hn8 : n ≤ 8 := by have := h.1.1.2; have := h.2.2; omega
  have hn1 : 1 ≤ n := by have := h.1.1.1; have := h.2.2; omega
  have HGood := hide (show decide (GoodN p k st) = true by rw [decide_eq_true_eq]; exact h.1)
  have HMk := hide (show decide (MOk n f p) = true by rw [decide_eq_true_eq]; exact h.2)
  have HSt := hide (show decide (0 ≤ (i : Int) ∧ (i : Int) ≤ (k : Int) - 1) = true by rw [decide_eq_true_eq]; omega)
  have hGS : GoodS (n : Int) (st i) := by have := h.1.2.2 i hi; rw [← h.2.2] at this; exact this
  have HGS := hide hGS
  have HM := hide h.mk
  obtain ⟨ax, cx, rfl⟩ := i1.form
  obtain ⟨ay, cy, rfl⟩ := i2.form
  have I1 := hide i1
  have I2 := hide i2
  have hi0 : (0 : Int) ≤ (i : Int) := by omega
  have hi1 : (i : Int) < (k : Int) := by omega
  have hbA := (Below.refl w.heap.size w).alloc (Nat.le_refl _) (.cells #[.int .i64 p, .slice (some ⟨bb, off, none⟩) k cap] 29)
  have hN := Blk.fresh w _ 2 (p2 (.int .i64 p) (.slice (some ⟨bb, off, none⟩) k cap)) 29 rfl
  clear hu hs h hr hrow i1 i2 hGS
  go_enter Try.func22, Try.ntmps22
  go_wp2_with fail
  refine (spec_good p _ k st _ _ (HV.out.below hbA) HS.out HGood.out).mono ?_
  rintro e w1 ⟨rfl, hb⟩
  have hb1 := hbA.trans (hb.mono hbA.size)
  have hN1 := hN.down hb
  obtain ⟨d0, d1, -, -⟩ := hN1.pair
  clear hN hb hbA HGood
  go_wp2_with fail
  refine (l3mark_to p _ _ _ _ n f _ _ (HU.out.below hb1) (by omega) HMk.out).mono ?_
  rintro e w2 ⟨rfl, hb⟩
  have hb2 := hb1.trans (hb.mono hb1.size)
  have hN2 := hN1.down hb
  obtain ⟨d0', d1', -, -⟩ := hN2.pair
  clear hN1 hb hb1 HMk d0 d1
  go_wp2_with fail
  refine (l1in_to _ _ _ _ _ HSt.out).mono ?_
  rintro e w3 ⟨rfl, rfl⟩
  have c0 := (hb2.cell (p := ⟨bb, off + i * 2, none⟩) hbb).trans q1
  have c1 := (hb2.cell (p := ⟨bb, off + i * 2 + 1, none⟩) hbb).trans q2
  clear HSt q1 q2
  go_wp2_with fail
  refine (l3fire _ _ _ (st i) n (pad n f) r _ (I1.out.below hb2) (I2.out.below hb2) ((HU.out.below hb2).ext (fun j hj => (pad_at hj).symm)) HGS.out hn1 hn8 HM.out HR.out).mono ?_
  rintro e w4 ⟨⟨R, rfl, hF⟩, hb⟩
  have hb4 := hb2.trans (hb.mono hb2.size)
  have HFi := hide hF
  clear hF hb hb2 hN2 c0 c1 HV HU HS I1 I2 HGS HM HR
  go_wp2
  go_ret2
  exact ⟨⟨_, rfl, HFi.out⟩, hb4⟩
set_option maxHeartbeats 1000000 in
theorem spec_step_no (p : Int) (v : Value) (k : Nat) (st : Nat → Sp) (u : Value) (n : Nat) (f : Nat → Int) (i : Int) (w : World) (hv : StepsOf w v k st) (hu : IntsOf w u n f) (hs : Short k st) (hn : n ≤ 1048576) (h : ¬ (NOk p k st n f ∧ 0 ≤ i ∧ i ≤ (k : Int) - 1)) :
    Calls Try.prog 22 #[netV p v, u, .int .i64 i] w fun e w' => e = .returned (.tuple #[.slice none 0 0, .bool false]) ∧ Below w.heap.size w w' := by
  have HV := hide hv
  have HU := hide hu
  have HS := hide hs
  obtain ⟨a, cap, rfl⟩ := hv.form
  obtain ⟨a2, cap2, rfl⟩ := hu.form
  have hk := hs.1
  have hbA := (Below.refl w.heap.size w).alloc (Nat.le_refl _) (.cells #[.int .i64 p, .slice a k cap] 29)
  have hN := Blk.fresh w _ 2 (p2 (.int .i64 p) (.slice a k cap)) 29 rfl
  clear hv hu hs
  by_cases hg : GoodN p k st
  · have HGood := hide (show decide (GoodN p k st) = true by rw [decide_eq_true_eq]; exact hg)
    by_cases hm : MOk n f p
    · have HMk := hide (show decide (MOk n f p) = true by rw [decide_eq_true_eq]; exact hm)
      have HSt := hide (show decide (0 ≤ i ∧ i ≤ (k : Int) - 1) = false by rw [decide_eq_false_iff_not]; exact fun hi => h ⟨⟨hg, hm⟩, hi⟩)
      clear h hg hm
      go_enter Try.func22, Try.ntmps22
      go_wp2_with fail
      refine (spec_good p _ k st _ _ (HV.out.below hbA) HS.out HGood.out).mono ?_
      rintro e w1 ⟨rfl, hb⟩
      have hb1 := hbA.trans (hb.mono hbA.size)
      have hN1 := hN.down hb
      obtain ⟨d0, d1, -, -⟩ := hN1.pair
      clear hN hb hbA HGood
      go_wp2_with fail
      refine (l3mark_to p _ _ _ _ n f _ _ (HU.out.below hb1) hn HMk.out).mono ?_
      rintro e w2 ⟨rfl, hb⟩
      have hb2 := hb1.trans (hb.mono hb1.size)
      have hN2 := hN1.down hb
      obtain ⟨d0', d1', -, -⟩ := hN2.pair
      clear hN1 hb hb1 HMk d0 d1
      go_wp2_with fail
      refine (l1in_to _ _ _ _ _ HSt.out).mono ?_
      rintro e w3 ⟨rfl, rfl⟩
      clear HSt HV HU HS hN2
      go_wp2
      go_ret2
      exact ⟨rfl, hb2⟩
    · have HMk := hide (show decide (MOk n f p) = false by rw [decide_eq_false_iff_not]; exact hm)
      clear h hg hm
      go_enter Try.func22, Try.ntmps22
      go_wp2_with fail
      refine (spec_good p _ k st _ _ (HV.out.below hbA) HS.out HGood.out).mono ?_
      rintro e w1 ⟨rfl, hb⟩
      have hb1 := hbA.trans (hb.mono hbA.size)
      have hN1 := hN.down hb
      obtain ⟨d0, d1, -, -⟩ := hN1.pair
      clear hN hb hbA HGood
      go_wp2_with fail
      refine (l3mark_to p _ _ _ _ n f _ _ (HU.out.below hb1) hn HMk.out).mono ?_
      rintro e w2 ⟨rfl, hb⟩
      have hb2 := hb1.trans (hb.mono hb1.size)
      clear hN1 hb hb1 HMk d0 d1 HV HU HS
      go_wp2
      go_ret2
      exact ⟨rfl, hb2⟩
  · have HGood := hide (show decide (GoodN p k st) = false by rw [decide_eq_false_iff_not]; exact hg)
    clear h hg hN
    go_enter Try.func22, Try.ntmps22
    go_wp2_with fail
    refine (spec_good p _ k st _ _ (HV.out.below hbA) HS.out HGood.out).mono ?_
    rintro e w1 ⟨rfl, hb⟩
    have hb1 := hbA.trans (hb.mono hbA.size)
    clear hb hbA HGood HV HU HS
    go_wp2
    go_ret2
    exact ⟨rfl, hb1⟩
end Go.Proofs.Ythilapalgakhhaa
