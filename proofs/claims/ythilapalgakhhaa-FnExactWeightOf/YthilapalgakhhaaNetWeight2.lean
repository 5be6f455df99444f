/-
  WeightOf: wrong lists; the specification's text; the law, walked.
-/
import Derived.Test.YthilapalgakhhaaNetWeight
namespace Go.Proofs.Ythilapalgakhhaa
open Go.RowKit M
set_option maxHeartbeats 600000 in
theorem impl_weight_no (v u : Value) (n m : Nat) (f g : Nat → Int) (w : World) (hv : IntsOf w v n f) (hu : IntsOf w u m g) (hn : n ≤ 1048576) (hm : m ≤ 1048576) (h : ¬ WOk n m f g) :
    Calls Try.prog 37 #[v, u] w fun e w' => e = .returned (.tuple #[.int .i64 0, .bool false]) ∧ w' = w := by
  have HV := hide hv
  have HU := hide hu
  obtain ⟨a, cap, rfl⟩ := hv.form
  obtain ⟨a2, cap2, rfl⟩ := hu.form
  clear hv hu
  by_cases h1 : 1 ≤ (n : Int) ∧ (n : Int) ≤ 8
  · have H1 := hide (show decide (1 ≤ (n : Int) ∧ (n : Int) ≤ 8) = true by rw [decide_eq_true_eq]; exact h1)
    by_cases h2 : All n f 0 9
    · have H2 := hide (show decide (All n f 0 9) = true by rw [decide_eq_true_eq]; exact h2)
      by_cases h3 : m = n
      · subst h3
        have H3 := hide (show decide (All m g (-100) 100) = false by rw [decide_eq_false_iff_not]; exact fun h3 => h ⟨h1, h2, rfl, h3⟩)
        have hne : ((m : Int) != (m : Int)) = false := by simp
        clear h h1 h2
        go_enter Try.func37, Try.ntmps37
        go_wp2_with fail
        refine (within_to _ _ _ _ _ H1.out).mono ?_
        rintro e w' ⟨rfl, rfl⟩
        go_wp2_with fail
        refine (good_tokens _ m f _ _ HV.out hm H2.out).mono ?_
        rintro e w' ⟨rfl, rfl⟩
        go_wp2_with fail
        refine (good_weights _ m g _ _ HU.out hm H3.out).mono ?_
        rintro e w' ⟨rfl, rfl⟩
        clear HV HU
        go_wp2
        go_ret2
        exact ⟨rfl, rfl⟩
      · have hne : ((m : Int) != (n : Int)) = true := by simp; omega
        clear h h1 h2 h3
        go_enter Try.func37, Try.ntmps37
        go_wp2_with fail
        refine (within_to _ _ _ _ _ H1.out).mono ?_
        rintro e w' ⟨rfl, rfl⟩
        go_wp2_with fail
        refine (good_tokens _ n f _ _ HV.out hn H2.out).mono ?_
        rintro e w' ⟨rfl, rfl⟩
        clear HV HU
        go_wp2
        go_ret2
        exact ⟨rfl, rfl⟩
    · have H2 := hide (show decide (All n f 0 9) = false by rw [decide_eq_false_iff_not]; exact h2)
      clear h h1 h2
      go_enter Try.func37, Try.ntmps37
      go_wp2_with fail
      refine (within_to _ _ _ _ _ H1.out).mono ?_
      rintro e w' ⟨rfl, rfl⟩
      go_wp2_with fail
      refine (good_tokens _ n f _ _ HV.out hn H2.out).mono ?_
      rintro e w' ⟨rfl, rfl⟩
      clear HV HU
      go_wp2
      go_ret2
      exact ⟨rfl, rfl⟩
  · have H1 := hide (show decide (1 ≤ (n : Int) ∧ (n : Int) ≤ 8) = false by rw [decide_eq_false_iff_not]; exact h1)
    clear h h1 HV HU
    go_enter Try.func37, Try.ntmps37
    go_wp2_with fail
    refine (within_to _ _ _ _ _ H1.out).mono ?_
    rintro e w' ⟨rfl, rfl⟩
    go_wp2
    go_ret2
    exact ⟨rfl, rfl⟩
set_option maxHeartbeats 600000 in
theorem spec_weight_no (v u : Value) (n m : Nat) (f g : Nat → Int) (w : World) (hv : IntsOf w v n f) (hu : IntsOf w u m g) (hn : n ≤ 1048576) (hm : m ≤ 1048576) (h : ¬ WOk n m f g) :
    Calls Try.prog 36 #[v, u] w fun e w' => e = .returned (.tuple #[.int .i64 0, .bool false]) ∧ Below w.heap.size w w' := by
  have HV := hide hv
  have HU := hide hu
  obtain ⟨a, cap, rfl⟩ := hv.form
  obtain ⟨a2, cap2, rfl⟩ := hu.form
  clear hv hu
  by_cases h1 : 1 ≤ (n : Int) ∧ (n : Int) ≤ 8
  · have H1 := hide (show decide (1 ≤ (n : Int) ∧ (n : Int) ≤ 8) = true by rw [decide_eq_true_eq]; exact h1)
    by_cases h2 : All n f 0 9
    · have H2 := hide (show decide (MOk n f (n : Int)) = true by rw [decide_eq_true_eq]; exact ⟨h2, rfl⟩)
      have H3 := hide (show decide (TOk m g (n : Int)) = false by rw [decide_eq_false_iff_not]; exact fun h3 => h ⟨h1, h2, by have := h3.2; omega, h3.1⟩)
      clear h h1 h2
      go_enter Try.func36, Try.ntmps36
      go_wp2_with fail
      refine (l1in_to _ _ _ _ _ H1.out).mono ?_
      rintro e w' ⟨rfl, rfl⟩
      go_wp2_with fail
      refine (l3mark_to _ _ _ _ _ n f _ _ HV.out hn H2.out).mono ?_
      rintro e w1 ⟨rfl, hb1⟩
      go_wp2_with fail
      refine (l3weights_to _ _ m g _ _ (HU.out.below hb1) hm H3.out).mono ?_
      rintro e w2 ⟨rfl, rfl⟩
      clear HV HU
      go_wp2
      go_ret2
      exact ⟨rfl, hb1⟩
    · have H2 := hide (show decide (MOk n f (n : Int)) = false by rw [decide_eq_false_iff_not]; exact fun h => h2 h.1)
      clear h h1 h2
      go_enter Try.func36, Try.ntmps36
      go_wp2_with fail
      refine (l1in_to _ _ _ _ _ H1.out).mono ?_
      rintro e w' ⟨rfl, rfl⟩
      go_wp2_with fail
      refine (l3mark_to _ _ _ _ _ n f _ _ HV.out hn H2.out).mono ?_
      rintro e w1 ⟨rfl, hb1⟩
      clear HV HU
      go_wp2
      go_ret2
      exact ⟨rfl, hb1⟩
  · have H1 := hide (show decide (1 ≤ (n : Int) ∧ (n : Int) ≤ 8) = false by rw [decide_eq_false_iff_not]; exact h1)
    clear h h1 HV HU
    go_enter Try.func36, Try.ntmps36
    go_wp2_with fail
    refine (l1in_to _ _ _ _ _ H1.out).mono ?_
    rintro e w' ⟨rfl, rfl⟩
    go_wp2
    go_ret2
    exact ⟨rfl, Below.refl _ _⟩
set_option maxHeartbeats 600000 in
theorem spec_weight (v u : Value) (n : Nat) (f g : Nat → Int) (w : World) (hv : IntsOf w v n f) (hu : IntsOf w u n g) (h : WOk n n f g) :
    Calls Try.prog 36 #[v, u] w fun e w' => e = .returned (.tuple #[.int .i64 (wsum f g n), .bool true]) ∧ Below w.heap.size w w' := by
  obtain ⟨hn, hf, -, hg⟩ := h
  have HV := hide hv
  have HU := hide hu
  obtain ⟨a, cap, rfl, hr⟩ := hv
  obtain ⟨a2, cap2, rfl, hr2⟩ := hu
  have HR := hide hr
  have HR2 := hide hr2
  have H1 := hide (show decide (1 ≤ (n : Int) ∧ (n : Int) ≤ 8) = true by rw [decide_eq_true_eq]; exact hn)
  have H2 := hide (show decide (MOk n f (n : Int)) = true by rw [decide_eq_true_eq]; exact ⟨hf, rfl⟩)
  have H3 := hide (show decide (TOk n g (n : Int)) = true by rw [decide_eq_true_eq]; exact ⟨hg, rfl⟩)
  have HF := hide hf
  have HG := hide hg
  have hn1 : 1 ≤ n := by omega
  have hn8 : n ≤ 8 := by omega
  clear hr hr2 hf hg hn
  go_enter Try.func36, Try.ntmps36
  go_wp2_with fail
  refine (l1in_to _ _ _ _ _ H1.out).mono ?_
  rintro e w' ⟨rfl, rfl⟩
  go_wp2_with fail
  refine (l3mark_to _ _ _ _ _ n f _ _ HV.out (by omega) H2.out).mono ?_
  rintro e w1 ⟨rfl, hb1⟩
  go_wp2_with fail
  refine (l3weights_to _ _ n g _ _ (HU.out.below hb1) (by omega) H3.out).mono ?_
  rintro e w2 ⟨rfl, rfl⟩
  clear H1 H2 H3 HV HU
  go_wp2
  go_loop [6, 30] (fun x i => ∃ k : Nat, k ≤ n ∧ i = .int .i64 k ∧ x = .int .i64 (wsum f g k)) (fun _ i => n - (intOf i).toNat)
  case atStart => exact ⟨0, Nat.zero_le _, rfl, rfl⟩
  case round =>
    obtain ⟨k, hk, rfl, rfl⟩ := hrel
    by_cases hlt : k < n
    · obtain ⟨bb, off, rfl, hbb, hrow⟩ := HR.out (by omega)
      obtain ⟨bb2, off2, rfl, hbb2, hrow2⟩ := HR2.out (by omega)
      have c0 := (hb1.cell (p := ⟨bb, off + k, none⟩) hbb).trans (hrow k hlt)
      have c1 := (hb1.cell (p := ⟨bb2, off2 + k, none⟩) hbb2).trans (hrow2 k hlt)
      obtain ⟨m1, m2⟩ := mul_bd (HF.out k hlt).1 (HF.out k hlt).2 (HG.out k hlt).1 (HG.out k hlt).2
      obtain ⟨s1, s2⟩ := wsum_bd HF.out HG.out k hk
      have hi0 : (0 : Int) ≤ (k : Int) := by omega
      have hi1 : (k : Int) < (n : Int) := by omega
      clear HR HR2 hrow hrow2 HF HG
      go_wp2
      go_round
      case rel => exact ⟨k + 1, by omega, by go_num, by simp only [wsum]⟩
      case measure => simp [intOf]; omega
    · obtain rfl : k = n := by omega
      clear HR HR2 HF HG
      go_wp2
      go_ret2
      exact ⟨rfl, hb1⟩
set_option maxHeartbeats 1000000 in
theorem law_weight_run (v u : Value) (n m : Nat) (f g : Nat → Int) (s : Int) (ok : Bool) (w : World) (hv : IntsOf w v n f) (hu : IntsOf w u m g) (hn : n ≤ 1048576) (hm : m ≤ 1048576)
    (hS : ∀ (v u : Value) (w : World), IntsOf w v n f → IntsOf w u m g → Calls Try.prog 36 #[v, u] w fun e w' => e = .returned (.tuple #[.int .i64 s, .bool ok]) ∧ Below w.heap.size w w')
    (hI : ∀ (v u : Value) (w : World), IntsOf w v n f → IntsOf w u m g → Calls Try.prog 37 #[v, u] w fun e w' => e = .returned (.tuple #[.int .i64 s, .bool ok]) ∧ w' = w) :
    Calls Try.prog 9 #[v, u] w fun e w' => e = .returned (.bool true) ∧ Below w.heap.size w w' := by
  have HV := hide hv
  have HU := hide hu
  have HS := hide hS
  have HI := hide hI
  obtain ⟨a, cap, rfl⟩ := hv.form
  obtain ⟨a2, cap2, rfl⟩ := hu.form
  have hgn : ¬ ((n : Int) > 1048576) := by omega
  have hgm : ¬ ((m : Int) > 1048576) := by omega
  have hok : (ok != ok) = false := by simp
  have hss : (s != s) = false := by simp
  clear hv hu hS hI
  go_enter Try.func9, Try.ntmps9
  go_wp2_with fail
  refine (to_ints _ n f _ HV.out hn).mono ?_
  rintro e w1 ⟨⟨rfl, hB1⟩, hb1⟩
  go_wp2_with fail
  refine (to_ints _ m g _ (HU.out.below hb1) hm).mono ?_
  rintro e w2 ⟨⟨rfl, hB2⟩, hb⟩
  have hb2 := hb1.trans (hb.mono hb1.size)
  have HA1 := hide ((hB1.down hb).ints (cap := n))
  have HA2 := hide (hB2.ints (cap := m))
  clear hB2 hB1 hb hb1
  go_wp2_with fail
  refine (HS.out _ _ _ HA1.out HA2.out).mono ?_
  rintro e w3 ⟨rfl, hb⟩
  have hb3 := hb2.trans (hb.mono hb2.size)
  clear HA1 HA2 hb hb2
  go_wp2_with fail
  refine (to_ints _ n f _ (HV.out.below hb3) hn).mono ?_
  rintro e w4 ⟨⟨rfl, hB4⟩, hb⟩
  have hb4 := hb3.trans (hb.mono hb3.size)
  clear hb hb3
  go_wp2_with fail
  refine (to_ints _ m g _ (HU.out.below hb4) hm).mono ?_
  rintro e w5 ⟨⟨rfl, hB5⟩, hb⟩
  have hb5 := hb4.trans (hb.mono hb4.size)
  have HX := hide ((hB4.down hb).ints (cap := n))
  have HY := hide (hB5.ints (cap := m))
  clear hB5 hB4 hb hb4
  go_wp2_with fail
  refine (HI.out _ _ _ HX.out HY.out).mono ?_
  rintro e w6 ⟨rfl, rfl⟩
  go_wp2_with fail
  refine (to_ints _ n f _ (HV.out.below hb5) hn).mono ?_
  rintro e w7 ⟨⟨rfl, hB7⟩, hb⟩
  have hb7 := hb5.trans (hb.mono hb5.size)
  have HX7 := hide (HX.out.below hb)
  have HY7 := hide (HY.out.below hb)
  have HZ := hide (hB7.ints (cap := n))
  clear hb hb5 HX HY hB7
  go_wp2_with fail
  refine (eq_ints _ _ n f _ HX7.out HZ.out hn).mono ?_
  rintro e w8 ⟨rfl, hb⟩
  have hb8 := hb7.trans (hb.mono hb7.size)
  have HY8 := hide (HY7.out.below hb)
  clear hb hb7 HX7 HY7 HZ
  go_wp2_with fail
  refine (to_ints _ m g _ (HU.out.below hb8) hm).mono ?_
  rintro e w9 ⟨⟨rfl, hB9⟩, hb⟩
  have hb9 := hb8.trans (hb.mono hb8.size)
  have HY9 := hide (HY8.out.below hb)
  have HZ := hide (hB9.ints (cap := m))
  clear hb hb8 HY8 hB9
  go_wp2_with fail
  refine (eq_ints _ _ m g _ HY9.out HZ.out hm).mono ?_
  rintro e w10 ⟨rfl, hb⟩
  have hb10 := hb9.trans (hb.mono hb9.size)
  clear hb hb9 HY9 HZ HV HU HS HI
  go_wp2
  go_ret
  exact ⟨rfl, hb10⟩
theorem law_weight (v : Value) (n : Nat) (f : Nat → Int) (u : Value) (m : Nat) (g : Nat → Int) (w : World) (hv : IntsOf w v n f) (mn : n ≤ maxLen) (hu : IntsOf w u m g) (mm : m ≤ maxLen) :
    Calls Try.prog 9 #[v, u] w fun e w' => e = .returned (.bool true) ∧ Below w.heap.size w w' := by
  unfold maxLen at mn mm
  by_cases hn : n ≤ 1048576
  · by_cases hm : m ≤ 1048576
    · by_cases h : WOk n m f g
      · obtain rfl := h.2.2.1
        exact law_weight_run v u m m f g (wsum f g m) true w hv hu hn hm (fun v u w h1 h2 => spec_weight v u m f g w h1 h2 h) (fun v u w h1 h2 => impl_weight v u m f g w h1 h2 h)
      · exact law_weight_run v u n m f g 0 false w hv hu hn hm (fun v u w h1 h2 => spec_weight_no v u n m f g w h1 h2 hn hm h) (fun v u w h1 h2 => impl_weight_no v u n m f g w h1 h2 hn hm h)
    · obtain ⟨a, cap, rfl⟩ := hv.form
      obtain ⟨a2, cap2, rfl⟩ := hu.form
      have hgn : ¬ ((n : Int) > 1048576) := by omega
      have hgm : ((m : Int) > 1048576) := by omega
      clear hv hu
      go_enter Try.func9, Try.ntmps9
      go_wp2
      go_ret
      exact ⟨rfl, Below.refl _ _⟩
  · obtain ⟨a, cap, rfl⟩ := hv.form
    obtain ⟨a2, cap2, rfl⟩ := hu.form
    have hgn : ((n : Int) > 1048576) := by omega
    clear hv hu
    go_enter Try.func9, Try.ntmps9
    go_wp2
    go_ret
    exact ⟨rfl, Below.refl _ _⟩
end Go.Proofs.Ythilapalgakhhaa
