/-
  Both texts of GoodRules, at every list of rules, and the law, walked.
-/
import Derived.Test.YtpabnncfcklnpaaHoR
namespace Go.Proofs.Ytpabnncfcklnpaa
open Go.RowKit M
namespace M
theorem good_next {ts : Nat → Tk} {j : Nat} (h : ∀ q, q < j → GoodR (ts q)) (hj : GoodR (ts j)) : ∀ q, q < j + 1 → GoodR (ts q) := fun q hq => by
  rcases (show q < j ∨ q = j by omega) with h1 | h1
  · exact h q h1
  · subst h1; exact hj
end M
set_option maxHeartbeats 1000000 in
theorem impl_good (v : Value) (k : Nat) (ts : Nat → Tk) (b : Bool) (w : World) (hv : TasksOf w v k ts) (hs : Short k ts) (hb : decide (GoodL k ts) = b) :
    Calls Try.prog 14 #[v] w fun e w' => e = .returned (.bool b) ∧ Below w.heap.size w w' := by
  obtain ⟨a, cap, rfl, hr⟩ := hv
  have HR := hide hr
  have HS := hide hs.2
  have HB := hide hb
  have hk := hs.1
  clear hr hs hb
  by_cases h30 : k ≤ 60
  · have hg30 : ¬ ((k : Int) > 60) := by omega
    go_enter Try.func14, Try.ntmps14
    go_wp2
    go_loopw [10] (fun i wr => ∃ j : Nat, j ≤ k ∧ i = .int .i64 j ∧ Hid (∀ q, q < j → GoodR (ts q)) ∧ Below w.heap.size w wr) (fun i _ => k - (intOf i).toNat)
    case atStart => exact ⟨0, Nat.zero_le _, rfl, hide (fun q hq => absurd hq (by omega)), Below.refl _ _⟩
    case round =>
      rename World => wo
      obtain ⟨j, hj, rfl, HP, hbw⟩ := hrel
      by_cases hlt : j < k
      · obtain ⟨bb, off, rfl, hbb, hrow⟩ := HR.out (by omega)
        obtain ⟨y, q1, q2, i1⟩ := hrow j hlt
        obtain ⟨ay, cy, rfl⟩ := i1.form
        have c0 := (hbw.cell (p := ⟨bb, off + j * 2, none⟩) hbb).trans q1
        have c1 := (hbw.cell (p := ⟨bb, off + j * 2 + 1, none⟩) hbb).trans q2
        have hs := hbw.size
        have hbA := hbw.alloc hs (.cells #[.int .i64 (ts j).long, .slice ay (ts j).nn cy] 48)
        have I1 := hide (i1.below hbA)
        have HSj := hide (HS.out j hlt)
        have HNo := hide (show ¬ GoodR (ts j) → b = false from fun h => by rw [← HB.out, decide_eq_false_iff_not]; exact fun H => h (H.2 j hlt))
        have HYes := hide (good_next (ts := ts) HP.out)
        clear hrow HR q1 q2 i1 HP HS HB
        by_cases hl : 0 ≤ (ts j).long ∧ (ts j).long ≤ 39
        · have HW := hide (show decide (0 ≤ (ts j).long ∧ (ts j).long ≤ 39) = true by rw [decide_eq_true_eq]; exact hl)
          by_cases hr : Ris (ts j).nn (ts j).fn
          · have HRi := hide (show decide (Ris (ts j).nn (ts j).fn) = true by rw [decide_eq_true_eq]; exact hr)
            have HP2 := hide (HYes.out ⟨hl, hr⟩)
            clear hl hr HNo HYes
            go_wp2_with fail
            refine (isfact_to _ _ _ HW.out).mono ?_
            rintro e w2 ⟨rfl, rfl⟩
            go_wp2_with fail
            refine (rising_to _ (ts j).nn (ts j).fn _ _ I1.out HSj.out HRi.out).mono ?_
            rintro e w3 ⟨rfl, rfl⟩
            go_wp2
            exact ⟨⟨j + 1, by omega, by go_num, HP2, hbA⟩, by simp [intOf]; omega⟩
          · have HRi := hide (show decide (Ris (ts j).nn (ts j).fn) = false by rw [decide_eq_false_iff_not]; exact hr)
            have eb := HNo.out (fun H => hr H.2)
            subst eb
            clear hl hr HNo HYes
            go_wp2_with fail
            refine (isfact_to _ _ _ HW.out).mono ?_
            rintro e w2 ⟨rfl, rfl⟩
            go_wp2_with fail
            refine (rising_to _ (ts j).nn (ts j).fn _ _ I1.out HSj.out HRi.out).mono ?_
            rintro e w3 ⟨rfl, rfl⟩
            go_wp2
            go_ret
            exact ⟨rfl, hbA⟩
        · have HW := hide (show decide (0 ≤ (ts j).long ∧ (ts j).long ≤ 39) = false by rw [decide_eq_false_iff_not]; exact hl)
          have eb := HNo.out (fun H => hl H.1)
          subst eb
          clear hl HNo HYes
          go_wp2_with fail
          refine (isfact_to _ _ _ HW.out).mono ?_
          rintro e w2 ⟨rfl, rfl⟩
          go_wp2
          go_ret
          exact ⟨rfl, hbA⟩
      · obtain rfl : j = k := by omega
        have eb : b = true := by rw [← HB.out, decide_eq_true_eq]; exact ⟨h30, HP.out⟩
        subst eb
        clear HR HS HP HB
        go_wp2
        go_ret
        exact ⟨rfl, hbw⟩
  · have hg30 : ((k : Int) > 60) := by omega
    have eb : b = false := by rw [← HB.out, decide_eq_false_iff_not]; exact fun H => h30 H.1
    subst eb
    clear HR HS HB
    go_enter Try.func14, Try.ntmps14
    go_wp2
    go_ret
    exact ⟨rfl, Below.refl _ _⟩
set_option maxHeartbeats 1000000 in
theorem spec_good (v : Value) (k : Nat) (ts : Nat → Tk) (b : Bool) (w : World) (hv : TasksOf w v k ts) (hs : Short k ts) (hb : decide (GoodL k ts) = b) :
    Calls Try.prog 12 #[v] w fun e w' => e = .returned (.bool b) ∧ Below w.heap.size w w' := by
  obtain ⟨a, cap, rfl, hr⟩ := hv
  have HR := hide hr
  have HS := hide hs.2
  have HB := hide hb
  have hk := hs.1
  clear hr hs hb
  go_enter Try.func12, Try.ntmps12
  go_wp2
  go_loopw [7] (fun i wr => ∃ j : Nat, j ≤ k ∧ i = .int .i64 j ∧ Hid (∀ q, q < j → GoodR (ts q)) ∧ Below w.heap.size w wr) (fun i _ => k - (intOf i).toNat)
  case atStart => exact ⟨0, Nat.zero_le _, rfl, hide (fun q hq => absurd hq (by omega)), Below.refl _ _⟩
  case round =>
    rename World => wo
    obtain ⟨j, hj, rfl, HP, hbw⟩ := hrel
    by_cases hlt : j < k
    · obtain ⟨bb, off, rfl, hbb, hrow⟩ := HR.out (by omega)
      obtain ⟨y, q1, q2, i1⟩ := hrow j hlt
      obtain ⟨ay, cy, rfl⟩ := i1.form
      have c0 := (hbw.cell (p := ⟨bb, off + j * 2, none⟩) hbb).trans q1
      have c1 := (hbw.cell (p := ⟨bb, off + j * 2 + 1, none⟩) hbb).trans q2
      have hs := hbw.size
      have hbA := hbw.alloc hs (.cells #[.int .i64 (ts j).long, .slice ay (ts j).nn cy] 48)
      have I1 := hide (i1.below hbA)
      have HSj := hide (HS.out j hlt)
      have HNo := hide (show ¬ GoodR (ts j) → b = false from fun h => by rw [← HB.out, decide_eq_false_iff_not]; exact fun H => h (H.2 j hlt))
      have HYes := hide (good_next (ts := ts) HP.out)
      clear hrow HR q1 q2 i1 HP HS HB
      by_cases hl : 0 ≤ (ts j).long ∧ (ts j).long ≤ 39
      · have HW := hide (show decide (0 ≤ (ts j).long ∧ (ts j).long ≤ 39) = true by rw [decide_eq_true_eq]; exact hl)
        by_cases hr : Ris (ts j).nn (ts j).fn
        · have HRi := hide (show decide (Ris (ts j).nn (ts j).fn) = true by rw [decide_eq_true_eq]; exact hr)
          have HP2 := hide (HYes.out ⟨hl, hr⟩)
          clear hl hr HNo HYes
          go_wp2_with fail
          refine (l1in_to _ _ _ _ _ HW.out).mono ?_
          rintro e w2 ⟨rfl, rfl⟩
          go_wp2_with fail
          refine (l8set_to _ (ts j).nn (ts j).fn _ _ I1.out HSj.out HRi.out).mono ?_
          rintro e w3 ⟨rfl, rfl⟩
          go_wp2
          exact ⟨⟨j + 1, by omega, by go_num, HP2, hbA⟩, by simp [intOf]; omega⟩
        · have HRi := hide (show decide (Ris (ts j).nn (ts j).fn) = false by rw [decide_eq_false_iff_not]; exact hr)
          have eb := HNo.out (fun H => hr H.2)
          subst eb
          clear hl hr HNo HYes
          go_wp2_with fail
          refine (l1in_to _ _ _ _ _ HW.out).mono ?_
          rintro e w2 ⟨rfl, rfl⟩
          go_wp2_with fail
          refine (l8set_to _ (ts j).nn (ts j).fn _ _ I1.out HSj.out HRi.out).mono ?_
          rintro e w3 ⟨rfl, rfl⟩
          go_wp2
          go_ret
          exact ⟨rfl, hbA⟩
      · have HW := hide (show decide (0 ≤ (ts j).long ∧ (ts j).long ≤ 39) = false by rw [decide_eq_false_iff_not]; exact hl)
        have eb := HNo.out (fun H => hl H.1)
        subst eb
        clear hl HNo HYes
        go_wp2_with fail
        refine (l1in_to _ _ _ _ _ HW.out).mono ?_
        rintro e w2 ⟨rfl, rfl⟩
        go_wp2
        go_ret
        exact ⟨rfl, hbA⟩
    · obtain rfl : j = k := by omega
      have HE := hide (show decide ((j : Int) ≤ 60) = b by
        rw [← HB.out, Bool.eq_iff_iff, decide_eq_true_eq, decide_eq_true_eq]
        exact ⟨fun h => ⟨by omega, HP.out⟩, fun h => by have := h.1; omega⟩)
      clear HR HS HP HB
      go_wp2
      go_ret
      exact ⟨ret_bool HE.out, hbw⟩
set_option maxHeartbeats 2000000 in
theorem law_good (v : Value) (k : Nat) (ts : Nat → Tk) (w : World) (hv : TasksOf w v k ts) (hl : Lens k ts) :
    Calls Try.prog 3 #[v] w fun e w' => e = .returned (.bool true) ∧ Below w.heap.size w w' := by
  have HV := hide hv
  obtain ⟨a, cap, rfl⟩ := hv.form
  have HL := hide hl
  have hoo : ∀ b : Bool, (b != b) = false := fun b => by simp
  clear hv hl
  go_enter Try.func3, Try.ntmps3
  go_wp2_with fail
  refine (sz_tasks _ k ts _ HV.out HL.out).mono ?_
  rintro e w1 ⟨⟨r, rfl, hr⟩, hb1⟩
  by_cases hrn : r < 0
  · clear hr HL HV
    go_wp2
    go_ret
    exact ⟨rfl, hb1⟩
  · have hsm : Small k ts := by
      rcases hr with h | ⟨_, h⟩
      · omega
      · exact h
    have HS := hide hsm.short
    clear hr hsm HL
    generalize hbb : decide (GoodL k ts) = b
    go_wp2_with fail
    refine (to_tasks _ k ts _ (HV.out.below hb1) HS.out).mono ?_
    rintro e w2 ⟨⟨rfl, X2, hX2⟩, hb⟩
    have hb2 := hb1.trans (hb.mono hb1.size)
    clear hb hb1
    go_wp2_with fail
    refine (spec_good _ k ts b _ (hX2.tasks (cap := k)) HS.out hbb).mono ?_
    rintro e w3 ⟨rfl, hb⟩
    have hb3 := hb2.trans (hb.mono hb2.size)
    clear hX2 hb hb2
    go_wp2_with fail
    refine (to_tasks _ k ts _ (HV.out.below hb3) HS.out).mono ?_
    rintro e w4 ⟨⟨rfl, X4, hX4⟩, s4⟩
    have hb4 := hb3.trans (s4.mono hb3.size)
    have HX4 := hide hX4
    clear hX4
    go_wp2_with fail
    refine (impl_good _ k ts b _ (HX4.out.tasks (cap := k)) HS.out hbb).mono ?_
    rintro e w5 ⟨rfl, hb⟩
    have hb5 := hb4.trans (hb.mono hb4.size)
    have HX5 := hide (HX4.out.below hb)
    have hob := hoo b
    clear hb hb4 s4 HX4 hoo
    go_wp2_with fail
    refine (to_tasks _ k ts _ (HV.out.below hb5) HS.out).mono ?_
    rintro e w7 ⟨⟨rfl, X7, hX7⟩, hb⟩
    have hb7 := hb5.trans (hb.mono hb5.size)
    have HX7 := hide (HX5.out.below hb)
    clear hb hb5 HX5
    go_wp2_with fail
    refine (eq_tasks _ _ k ts _ (HX7.out.tasks (cap := k)) (hX7.tasks (cap := k)) HS.out).mono ?_
    rintro e w8 ⟨rfl, hb⟩
    have hb8 := hb7.trans (hb.mono hb7.size)
    clear hb hb7 HX7 hX7 HV HS
    go_wp2
    go_ret
    exact ⟨rfl, hb8⟩
end Go.Proofs.Ytpabnncfcklnpaa
