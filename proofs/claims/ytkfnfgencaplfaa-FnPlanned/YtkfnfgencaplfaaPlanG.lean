/-
  The program's GoodPlan and OrderOf, at every list of tasks.
-/
import Derived.Test.YtkfnfgencaplfaaPlanC
namespace Go.Proofs.Ytkfnfgencaplfaa
open Go.RowKit M
open Clk (upd upd_same upd_other)
namespace M
theorem cell1 (w : World) (v : Value) (t : TypeId) : (w.alloc (.cells #[v] t)).cell? ⟨w.heap.size, 0, none⟩ = some v := (Blk.fresh w #[v] 1 (fun _ => v) t rfl).cell (show 0 < 1 by omega)
end M
set_option maxRecDepth 20000 in
set_option maxHeartbeats 1000000 in
theorem impl_good (v : Value) (k : Nat) (ts : Nat → Tk) (b : Bool) (w : World) (hv : TasksOf w v k ts) (hs : Short k ts) (hb : decide (GoodP k ts) = b) :
    Calls Try.prog 18 #[v] w fun e w' => e = .returned (.bool b) ∧ Below w.heap.size w w' := by
  have HV := hide hv
  obtain ⟨a, cap, rfl, hr⟩ := hv
  have HR := hide hr
  have HS := hide hs.2
  have HB := hide hb
  have hk := hs.1
  clear hr hs hb
  by_cases h30 : k ≤ 30
  · have hg30 : ¬ ((k : Int) > 30) := by omega
    go_enter Try.func18, Try.ntmps18
    go_wp2
    go_loopw [10] (fun i wr => ∃ j : Nat, j ≤ k ∧ i = .int .i64 j ∧ Hid (∀ q, q < j → BT k (ts q)) ∧ Below w.heap.size w wr) (fun i _ => k - (intOf i).toNat)
    case atStart => exact ⟨0, Nat.zero_le _, rfl, hide (fun q hq => absurd hq (by omega)), Below.refl _ _⟩
    case round =>
      rename World => wo
      obtain ⟨j, hj, rfl, HP, hbw⟩ := hrel
      by_cases hlt : j < k
      · obtain ⟨bb, off, rfl, hbb, hrow⟩ := HR.out (by omega)
        obtain ⟨y, q1, q2, i1⟩ := hrow j hlt
        obtain ⟨ay, cy, rfl⟩ := i1.form
        have c0 := (hbw.cell (p := ⟨bb, off + j * 2, none⟩) hbb).trans q1
        have c1 := (hbw.cell (p := ⟨bb, off + j * 2 + 1, none⟩) hbb).trans q2
        have hs := hbw.size
        have hbA := hbw.alloc hs (.cells #[.int .i64 (ts j).long, .slice ay (ts j).nn cy] 56)
        have I1 := hide (i1.below hbA)
        have HSj := hide (HS.out j hlt)
        have HNo := hide (show ¬ BT k (ts j) → b = false from fun h => by rw [← HB.out, decide_eq_false_iff_not]; exact fun H => h (H.1.2 j hlt))
        have HYes := hide (show BT k (ts j) → ∀ q, q < j + 1 → BT k (ts q) from fun h q hq => by
          rcases (show q < j ∨ q = j by omega) with h1 | h1
          · exact HP.out q h1
          · subst h1; exact h)
        clear hrow HR q1 q2 i1 HP HS HB HV
        by_cases hl : 1 ≤ (ts j).long ∧ (ts j).long ≤ 100
        · have HW := hide (show decide (1 ≤ (ts j).long ∧ (ts j).long ≤ 100) = true by rw [decide_eq_true_eq]; exact hl)
          by_cases hr : Ris (ts j).nn (ts j).fn (k : Int)
          · have HRi := hide (show decide (Ris (ts j).nn (ts j).fn (k : Int)) = true by rw [decide_eq_true_eq]; exact hr)
            have HP2 := hide (HYes.out ⟨hl, hr⟩)
            clear hl hr HNo HYes
            go_wp2_with fail
            refine (within_to _ _ _ _ _ HW.out).mono ?_
            rintro e w2 ⟨rfl, rfl⟩
            go_wp2_with fail
            refine (rising_to _ (ts j).nn (ts j).fn (k : Int) _ _ I1.out HSj.out (by omega) (by omega) HRi.out).mono ?_
            rintro e w3 ⟨rfl, rfl⟩
            go_wp2
            exact ⟨⟨j + 1, by omega, by go_num, HP2, hbA⟩, by simp [intOf]; omega⟩
          · have HRi := hide (show decide (Ris (ts j).nn (ts j).fn (k : Int)) = false by rw [decide_eq_false_iff_not]; exact hr)
            have eb := HNo.out (fun H => hr H.2)
            subst eb
            clear hl hr HNo HYes
            go_wp2_with fail
            refine (within_to _ _ _ _ _ HW.out).mono ?_
            rintro e w2 ⟨rfl, rfl⟩
            go_wp2_with fail
            refine (rising_to _ (ts j).nn (ts j).fn (k : Int) _ _ I1.out HSj.out (by omega) (by omega) HRi.out).mono ?_
            rintro e w3 ⟨rfl, rfl⟩
            go_wp2
            go_ret
            exact ⟨rfl, hbA⟩
        · have HW := hide (show decide (1 ≤ (ts j).long ∧ (ts j).long ≤ 100) = false by rw [decide_eq_false_iff_not]; exact hl)
          have eb := HNo.out (fun H => hl H.1)
          subst eb
          clear hl HNo HYes
          go_wp2_with fail
          refine (within_to _ _ _ _ _ HW.out).mono ?_
          rintro e w2 ⟨rfl, rfl⟩
          go_wp2
          go_ret
          exact ⟨rfl, hbA⟩
      · obtain rfl : j = k := by omega
        have hB : Bnd j ts := ⟨h30, HP.out⟩
        have HBn := hide hB
        have heb : (((ord ts j j).length : Int) == (j : Int)) = b := by
          rw [← HB.out, Bool.eq_iff_iff, decide_eq_true_eq, beq_iff_eq]
          unfold GoodP Whole
          constructor
          · intro h; exact ⟨hB, by omega⟩
          · intro h; have := h.2; omega
        have HEb := hide heb
        have hs := hbw.size
        clear HR HS HP hB heb HB
        go_wp2_with fail
        refine (tasks_order a j cap wo).mono ?_
        rintro e w2 ⟨rfl, rfl⟩
        have hbA := hbw.alloc hs (.cells #[.slice a j cap] 25)
        go_wp2_with fail
        refine (collect_is j ts wo.heap.size _ _ HBn.out (cell1 wo _ _) (HV.out.below hbA)).mono ?_
        rintro e w3 ⟨⟨r, rfl, hr⟩, hb3⟩
        have hb3' := hbA.trans (hb3.mono hbA.size)
        obtain ⟨a3, c3, rfl⟩ := own_form hr
        clear hr hb3 HBn HV
        go_wp2
        go_ret
        exact ⟨ret_bool HEb.out, hb3'⟩
  · have hg30 : ((k : Int) > 30) := by omega
    have eb : b = false := by rw [← HB.out, decide_eq_false_iff_not]; exact fun H => h30 H.1.1
    subst eb
    clear HR HS HB HV
    go_enter Try.func18, Try.ntmps18
    go_wp2
    go_ret
    exact ⟨rfl, Below.refl _ _⟩
set_option maxHeartbeats 1000000 in
theorem impl_order (v : Value) (k : Nat) (ts : Nat → Tk) (w : World) (hv : TasksOf w v k ts) (hs : Short k ts) (hg : GoodP k ts) :
    Calls Try.prog 21 #[v] w fun e w' => (∃ r, e = .returned (.tuple #[r, .bool true]) ∧ AnsC w' w.heap.size r k (lv (ord ts k k))) ∧ Below w.heap.size w w' := by
  have HV := hide hv
  have HG := hide hg
  have HS := hide hs
  obtain ⟨a, cap, rfl⟩ := hv.form
  clear hv hs hg
  go_enter Try.func21, Try.ntmps21
  go_wp2_with fail
  refine (impl_good _ k ts true _ HV.out HS.out (by rw [decide_eq_true_eq]; exact HG.out)).mono ?_
  rintro e w1 ⟨rfl, hb1⟩
  have hs1 := hb1.size
  have hbA := hb1.alloc hs1 (.cells #[.slice a k cap] 25)
  go_wp2_with fail
  refine (tasks_order a k cap w1).mono ?_
  rintro e w2 ⟨rfl, rfl⟩
  go_wp2_with fail
  refine (collect_is k ts w1.heap.size _ _ HG.out.1 (cell1 w1 _ _) (HV.out.below hbA)).mono ?_
  rintro e w3 ⟨⟨r, rfl, hr⟩, hb3⟩
  have hb3' := hbA.trans (hb3.mono hbA.size)
  have hr' := hr
  rw [pv_range, show (ord ts k k).length = k from HG.out.2] at hr
  have HA := hide ((own_ansC hr).mono hbA.size)
  obtain ⟨a3, c3, rfl⟩ := own_form hr'
  clear hr hb3 HV HS HG hr'
  go_wp2
  go_ret2
  exact ⟨⟨_, rfl, HA.out⟩, hb3'⟩
set_option maxHeartbeats 1000000 in
theorem impl_order_no (v : Value) (k : Nat) (ts : Nat → Tk) (w : World) (hv : TasksOf w v k ts) (hs : Short k ts) (hg : ¬ GoodP k ts) :
    Calls Try.prog 21 #[v] w fun e w' => e = .returned (.tuple #[.slice none 0 0, .bool false]) ∧ Below w.heap.size w w' := by
  have HV := hide hv
  have HG := hide hg
  have HS := hide hs
  obtain ⟨a, cap, rfl⟩ := hv.form
  clear hv hs hg
  go_enter Try.func21, Try.ntmps21
  go_wp2_with fail
  refine (impl_good _ k ts false _ HV.out HS.out (by rw [decide_eq_false_iff_not]; exact HG.out)).mono ?_
  rintro e w1 ⟨rfl, hb1⟩
  clear HV HS HG
  go_wp2
  go_ret2
  exact ⟨rfl, hb1⟩
end Go.Proofs.Ytkfnfgencaplfaa
