/-
  Whether two slots of one worker are at once (the program's noneAtOnce).
-/
import Derived.Test.YtlegbkafpfkjeaaSlotI
namespace Go.Proofs.Ytlegbkafpfkjeaa
open Go.ChangeShapes Go.WideShapes Go.ChangeAt Go.RowKit Go.Joins Go.Deep
open M
open Clk (upd upd_same upd_other)
open Go.Sort (grow)
namespace M
def sE (ts : Nat → Tk) (f : Nat → Int) (j : Nat) : Int := sF f j + (ts (sT f j).toNat).long
def Clash (ts : Nat → Tk) (f : Nat → Int) (i j : Nat) : Prop := sW f i = sW f j ∧ sF f i < sE ts f j ∧ sF f j < sE ts f i
instance (ts : Nat → Tk) (f : Nat → Int) (i j : Nat) : Decidable (Clash ts f i j) := by unfold Clash; infer_instance
def NoneTo (ts : Nat → Tk) (f : Nat → Int) (n : Nat) : Prop := ∀ i, i < n → ∀ j, j < i → ¬ Clash ts f i j
instance (ts : Nat → Tk) (f : Nat → Int) (n : Nat) : Decidable (NoneTo ts f n) := by unfold NoneTo; infer_instance
end M
set_option maxRecDepth 20000 in
set_option maxHeartbeats 4000000 in
theorem none_at_once (v : Value) (g0 k : Nat) (p : Int) (n : Nat) (f : Nat → Int) (ts : Nat → Tk) (b : Bool) (w : World) (hv : TasksOf w v k ts) (hB : Bnd k ts) (hu : SlotsOf w (.slice (some ⟨g0, 0, none⟩) n n) n f) (hn : n ≤ 30) (ho : OnceTo k p f n) (hb : decide (NoneTo ts f n) = b) :
    Calls Try.prog 63 #[v, .slice (some ⟨g0, 0, none⟩) n n] w fun e w' => e = .returned (.bool b) ∧ Below w.heap.size w w' := by
  have HV := hide hv
  have HBn := hide hB
  have HO := hide ho
  obtain ⟨a, cap, rfl⟩ := hv.form
  obtain ⟨_, _, e, hr⟩ := hu
  cases e
  have HR := hide hr
  have HB := hide hb
  clear hv hB hr hb ho
  go_enter Try.func63, Try.ntmps63
  go_wp2_with fail
  go_loopw [11] (fun y wr => ∃ i : Nat, i ≤ n ∧ y = .int .i64 i ∧ Hid (NoneTo ts f i) ∧ Below w.heap.size w wr) (fun y _ => n - (intOf y).toNat)
  case atStart => exact ⟨0, Nat.zero_le _, rfl, hide (fun i hi => by omega), Below.refl _ _⟩
  case round =>
    rename World => wo
    obtain ⟨i, hi, rfl, HN, hbw⟩ := hrel
    by_cases hlt : i < n
    · obtain ⟨bb, off, hq, hbb, hrow⟩ := HR.out (by omega)
      cases hq
      have HRow := hide hrow
      have c0 := (hbw.cell (p := ⟨g0, 0 + i * 3, none⟩) hbb).trans (hrow (i * 3) (by omega))
      have c1 := (hbw.cell (p := ⟨g0, 0 + (i * 3 + 1), none⟩) hbb).trans (hrow (i * 3 + 1) (by omega))
      have c2 := (hbw.cell (p := ⟨g0, 0 + (i * 3 + 2), none⟩) hbb).trans (hrow (i * 3 + 2) (by omega))
      simp only [Nat.zero_add] at c0 c1 c2
      have hi0 : (0 : Int) ≤ (i : Int) := by omega
      have hi1 : (i : Int) < (n : Int) := by omega
      have hi2 : (i : Int) ≤ (n : Int) := by omega
      have hbE := hbw.alloc hbw.size (.cells #[.int .i64 (f (i * 3)), .int .i64 (f (i * 3 + 1)), .int .i64 (f (i * 3 + 2))] 70)
      have HX := hide (Blk.fresh wo #[.int .i64 (f (i * 3)), .int .i64 (f (i * 3 + 1)), .int .i64 (f (i * 3 + 2))] 3 (iv fun q => f (i * 3 + q)) 70 rfl)
      have hbs := hbw.size
      clear hrow
      go_wp2_with fail
      generalize hWE : wo.alloc _ = wE at *
      have hsE : wE.heap.size = wo.heap.size + 1 := by rw [← hWE]; simp
      have HSE := hide hsE
      clear hWE hsE c0 c1 c2
      go_loopw [20] (fun y wr => ∃ j : Nat, j ≤ i ∧ y = .int .i64 j ∧ Hid (∀ j', j' < j → ¬ Clash ts f i j') ∧ Below wE.heap.size wE wr) (fun y _ => i - (intOf y).toNat)
      case atStart => exact ⟨0, Nat.zero_le _, rfl, hide (fun j hj => by omega), Below.refl _ _⟩
      case round =>
        rename World => wq
        obtain ⟨j, hj, rfl, HM, hbq⟩ := hrel
        by_cases hjl : j < i
        · have hbq2 := hbE.trans (hbq.mono hbE.size)
          have hgi := HO.out i hlt
          have hgj := HO.out j (by omega)
          obtain ⟨ti, hti⟩ := Int.eq_ofNat_of_zero_le hgi.1.1.1
          obtain ⟨tj, htj⟩ := Int.eq_ofNat_of_zero_le hgj.1.1.1
          have htik : ti < k := by have := hgi.1.1.2; omega
          have htjk : tj < k := by have := hgj.1.1.2; omega
          have hFi := hgi.1.2.2
          have hFj := hgj.1.2.2
          have hli := (HBn.out.2 ti htik).1
          have hlj := (HBn.out.2 tj htjk).1
          have hEi : sE ts f i = f (i * 3 + 2) + (ts ti).long := by unfold sE sF; rw [hti]; rfl
          have hEj : sE ts f j = f (j * 3 + 2) + (ts tj).long := by unfold sE sF; rw [htj]; rfl
          have c0 := (hbq2.cell (p := ⟨g0, 0 + j * 3, none⟩) hbb).trans (HRow.out (j * 3) (by omega))
          have c1 := (hbq2.cell (p := ⟨g0, 0 + (j * 3 + 1), none⟩) hbb).trans (HRow.out (j * 3 + 1) (by omega))
          have c2 := (hbq2.cell (p := ⟨g0, 0 + (j * 3 + 2), none⟩) hbb).trans (HRow.out (j * 3 + 2) (by omega))
          simp only [Nat.zero_add] at c0 c1 c2
          have htj' : f (j * 3) = (tj : Int) := htj
          have HTi := hide (show f (i * 3) = (ti : Int) from hti)
          rw [htj'] at c0
          have hj0 : (0 : Int) ≤ (j : Int) := by omega
          have hj1 : (j : Int) < (i : Int) := by omega
          have hj2 : (j : Int) < (n : Int) := by omega
          have hsq := hbq.size
          have hbq3 := hbq.alloc hbq.size (.cells #[.int .i64 (tj : Int), .int .i64 (f (j * 3 + 1)), .int .i64 (f (j * 3 + 2))] 70)
          have HXi := hide ((HX.out.down hbq).alloc (.cells #[.int .i64 (tj : Int), .int .i64 (f (j * 3 + 1)), .int .i64 (f (j * 3 + 2))] 70))
          have HXj := hide (Blk.fresh wq #[.int .i64 (tj : Int), .int .i64 (f (j * 3 + 1)), .int .i64 (f (j * 3 + 2))] 3 (iv fun q => if q = 0 then (tj : Int) else if q = 1 then f (j * 3 + 1) else f (j * 3 + 2)) 70 rfl)
          have hbq4 := hbE.trans (hbq3.mono hbE.size)
          have HTv := hide (HV.out.below hbq4)
          have HCl := hide (show Clash ts f i j ↔ (f (i * 3 + 1) = f (j * 3 + 1) ∧ f (i * 3 + 2) < f (j * 3 + 2) + (ts tj).long ∧ f (j * 3 + 2) < f (i * 3 + 2) + (ts ti).long) from by unfold Clash; rw [hEi, hEj]; rfl)
          have hFi' : 0 ≤ f (i * 3 + 2) ∧ f (i * 3 + 2) ≤ 1000000 := hFi
          have hFj' : 0 ≤ f (j * 3 + 2) ∧ f (j * 3 + 2) ≤ 1000000 := hFj
          clear hgi hgj hti htj hFi hFj hEi hEj htj'
          go_wp2_with fail
          generalize hW3 : wq.alloc _ = w3 at *
          clear hW3 c0 c1 c2
          have x0 := cell_regrown (HXi.out.cell_ints (show 0 < 3 by omega))
          have x1 := cell_regrown (HXi.out.cell_ints (show 1 < 3 by omega))
          have x2 := cell_regrown (HXi.out.cell_ints (show 2 < 3 by omega))
          have y0 := cell_regrown (HXj.out.cell_ints (show 0 < 3 by omega))
          have y1 := cell_regrown (HXj.out.cell_ints (show 1 < 3 by omega))
          have y2 := cell_regrown (HXj.out.cell_ints (show 2 < 3 by omega))
          simp only [Nat.add_zero, HTi.out, if_true, if_neg (show ¬ (1 = 0) by omega), if_neg (show ¬ (2 = 0) by omega), if_neg (show ¬ (2 = 1) by omega)] at x0 x1 x2 y0 y1 y2
          have HE1 := hide (show ∀ d os, Calls Try.prog 73 #[.slice a k cap, .agg #[.int .i64 (tj : Int), .int .i64 (f (j * 3 + 1)), .int .i64 (f (j * 3 + 2))]] (grow (redrawn w3 d) os) fun e w'' => e = .returned (.int .i64 (f (j * 3 + 2) + (ts tj).long)) ∧ ∃ p : Regrown, w'' = grow (redrawn w3 p.d) p.os from fun d os =>
            Calls.regrown_of (end_slot _ k ts tj _ _ _ (HTv.out.below (below_regrown w3 d os)) HBn.out htjk hFj'))
          have HE2 := hide (show ∀ d os, Calls Try.prog 73 #[.slice a k cap, .agg #[.int .i64 (ti : Int), .int .i64 (f (i * 3 + 1)), .int .i64 (f (i * 3 + 2))]] (grow (redrawn w3 d) os) fun e w'' => e = .returned (.int .i64 (f (i * 3 + 2) + (ts ti).long)) ∧ ∃ p : Regrown, w'' = grow (redrawn w3 p.d) p.os from fun d os =>
            Calls.regrown_of (end_slot _ k ts ti _ _ _ (HTv.out.below (below_regrown w3 d os)) HBn.out htik hFi'))
          clear HXi HXj HTv HX
          have HMs := hide (show ¬ Clash ts f i j → ∀ j', j' < j + 1 → ¬ Clash ts f i j' from fun h j' hj' => by
            rcases (show j' < j ∨ j' = j by omega) with h1 | h1
            · exact HM.out j' h1
            · subst h1; exact h)
          generalize (ts ti).long = li at *
          generalize (ts tj).long = lj at *
          by_cases hw : f (i * 3 + 1) = f (j * 3 + 1)
          · have hd : (f (i * 3 + 1) == f (j * 3 + 1)) = true := by simp [hw]
            have HWe := hide hw
            clear hw
            by_cases h1 : f (i * 3 + 2) < f (j * 3 + 2) + lj
            · have hd1 : decide (f (i * 3 + 2) < f (j * 3 + 2) + lj) = true := decide_eq_true h1
              by_cases h2 : f (j * 3 + 2) < f (i * 3 + 2) + li
              · have hd2 : decide (f (j * 3 + 2) < f (i * 3 + 2) + li) = true := decide_eq_true h2
                obtain rfl : b = false := by
                  rw [← HB.out, decide_eq_false_iff_not]
                  exact fun h => h i hlt j hjl (HCl.out.2 ⟨HWe.out, h1, h2⟩)
                clear HMs HCl HM HB
                refine wp_region_quiet_below (by kernel_rfl) (by kernel_rfl) ?_
                repeat (go_big_quiet_step (first | with_reducible exact HE1.out _ _ | with_reducible exact HE2.out _ _))
                refine wpQuiet_nil ?_
                intro _ hw'
                obtain ⟨⟨dq, osq⟩, hw''⟩ := hw'
                subst hw''
                have hbf := hbq4.trans ((below_regrown w3 dq osq).mono hbq4.size)
                go_wp2
                go_ret
                exact ⟨rfl, hbf⟩
              · have hd2 : decide (f (j * 3 + 2) < f (i * 3 + 2) + li) = false := decide_eq_false h2
                have HM2 := hide (HMs.out (fun h => h2 (HCl.out.1 h).2.2))
                clear HMs HCl HM
                refine wp_region_quiet_below (by kernel_rfl) (by kernel_rfl) ?_
                repeat (go_big_quiet_step (first | with_reducible exact HE1.out _ _ | with_reducible exact HE2.out _ _))
                refine wpQuiet_nil ?_
                intro _ hw'
                obtain ⟨⟨dq, osq⟩, hw''⟩ := hw'
                subst hw''
                have hbf := hbq3.trans ((below_regrown w3 dq osq).mono hbq3.size)
                go_wp2
                exact ⟨⟨j + 1, by omega, by go_num, HM2, hbf⟩, by simp [intOf]; omega⟩
            · have hd1 : decide (f (i * 3 + 2) < f (j * 3 + 2) + lj) = false := decide_eq_false h1
              have HM2 := hide (HMs.out (fun h => h1 (HCl.out.1 h).2.1))
              clear HMs HCl HM
              refine wp_region_quiet_below (by kernel_rfl) (by kernel_rfl) ?_
              repeat (go_big_quiet_step (first | with_reducible exact HE1.out _ _ | with_reducible exact HE2.out _ _))
              refine wpQuiet_nil ?_
              intro _ hw'
              obtain ⟨⟨dq, osq⟩, hw''⟩ := hw'
              subst hw''
              have hbf := hbq3.trans ((below_regrown w3 dq osq).mono hbq3.size)
              go_wp2
              exact ⟨⟨j + 1, by omega, by go_num, HM2, hbf⟩, by simp [intOf]; omega⟩
          · have hd : (f (i * 3 + 1) == f (j * 3 + 1)) = false := by simp [hw]
            have HM2 := hide (HMs.out (fun h => hw (HCl.out.1 h).1))
            clear HMs HCl HM
            refine wp_region_quiet_below (by kernel_rfl) (by kernel_rfl) ?_
            repeat (go_big_quiet_step (first | with_reducible exact HE1.out _ _ | with_reducible exact HE2.out _ _))
            refine wpQuiet_nil ?_
            intro _ hw'
            obtain ⟨⟨dq, osq⟩, hw''⟩ := hw'
            subst hw''
            have hbf := hbq3.trans ((below_regrown w3 dq osq).mono hbq3.size)
            go_wp2
            exact ⟨⟨j + 1, by omega, by go_num, HM2, hbf⟩, by simp [intOf]; omega⟩
        · obtain rfl : i = j := by omega
          have HN2 := hide (show NoneTo ts f (i + 1) from fun x hx j' hj' => by
            rcases (show x < i ∨ x = i by omega) with h | h
            · exact HN.out x h j' hj'
            · subst h; exact HM.out j' hj')
          have hbf := hbE.trans (hbq.mono hbE.size)
          clear HN HM HX HR HB
          go_wp2
          exact ⟨⟨i + 1, by omega, by go_num, HN2, hbf⟩, by simp [intOf]; omega⟩
    · obtain rfl : n = i := by omega
      obtain rfl : b = true := by rw [← HB.out, decide_eq_true_eq]; exact HN.out
      clear HN HB HR
      go_wp2
      go_ret
      exact ⟨rfl, hbw⟩
end Go.Proofs.Ytlegbkafpfkjeaa
