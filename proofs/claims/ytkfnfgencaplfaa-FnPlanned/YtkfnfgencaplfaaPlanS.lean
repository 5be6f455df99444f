/-
  The specification's order of tasks, its GoodPlan and OrderOf, at every list of tasks.
-/
import Derived.Test.YtkfnfgencaplfaaPlanC
namespace Go.Proofs.Ytkfnfgencaplfaa
open Go.RowKit M
open Clk (upd upd_same upd_other)
namespace M
theorem has_mem (l : List Nat) (n : Nat) : hasF (lv l) (n : Int) l.length = mem l n := by
  rw [Bool.eq_iff_iff, hasF_iff]
  unfold mem lv
  rw [decide_eq_true_eq]
  constructor
  · rintro ⟨j, h1, h2⟩
    have : l.getD j 0 = n := by omega
    rw [List.getD_eq_getElem?_getD, List.getElem?_eq_getElem h1] at this
    simp only [Option.getD_some] at this
    rw [← this]; exact List.getElem_mem h1
  · intro h
    obtain ⟨j, h1, h2⟩ := List.getElem_of_mem h
    exact ⟨j, h1, by rw [List.getD_eq_getElem?_getD, List.getElem?_eq_getElem h1]; simp [h2]⟩
def lenV : Value → Nat
  | .slice _ n _ => n
  | _ => 0
def L4A (ts : Nat → Tk) (k : Nat) (e : Ending) (w' : World) : Prop :=
  (Whole ts k ∧ ∃ r, e = .returned (.tuple #[r, .bool true]) ∧ IntsOf w' r k (lv (ord ts k k))) ∨ (¬ Whole ts k ∧ e = .returned (.tuple #[.slice none 0 0, .bool false]))
end M
set_option maxRecDepth 20000 in
set_option maxHeartbeats 2000000 in
theorem l4order (v : Value) (k : Nat) (ts : Nat → Tk) (w : World) (hv : TasksOf w v k ts) (hB : Bnd k ts) :
    Calls Try.prog 55 #[v] w fun e w' => L4A ts k e w' ∧ Below w.heap.size w w' := by
  obtain ⟨i0, hi, hz0, hz1, hz2⟩ := info_parts info_int
  obtain ⟨a, cap, rfl, hr⟩ := hv
  have HR := hide hr
  have HB := hide hB
  have hk := hB.1
  clear hr hB
  go_enter Try.func55, Try.ntmps55
  go_wp2
  go_loopw [4] (fun x wr => ∃ i : Nat, Run ts k i ∧ Hid (wr.ownsRow w.heap.size 3 1 x i (pv (ord ts k i))) ∧ Below w.heap.size w wr) (fun x _ => k - lenV x)
  case atStart => exact ⟨0, rfl, hide (World.ownsRow_nil _ _ _ _), Below.refl _ _⟩
  case round =>
    rename World => wo
    obtain ⟨i, hrun, HW, hbw⟩ := hrel
    have hik := hrun.le
    have hlen : (ord ts k i).length = i := hrun
    obtain ⟨ax, cx, rfl⟩ := own_form HW.out
    have hso := hbw.size
    by_cases hlt : i < k
    · have hlti : ((i : Int) < (k : Int)) := by omega
      have HIx := hide (show IntsOf wo (.slice ax i cx) i (lv (ord ts k i)) from by
        have := HW.out
        rw [pv_range, hlen] at this
        exact own_ints this)
      have HHas := hide (fun n : Nat => show hasF (lv (ord ts k i)) (n : Int) i = mem (ord ts k i) n from by have := has_mem (ord ts k i) n; rw [hlen] at this; exact this)
      go_wp2_with fail
      go_loopw [5, 18] (fun x5 y wr => ∃ j : Nat, j ≤ k ∧ y = .int .i64 j ∧ x5 = .int .i64 (-1) ∧ Hid (nx ts (mem (ord ts k i)) (mem (ord ts k i)) j = none) ∧ Below wo.heap.size wo wr) (fun _ y _ => k - (intOf y).toNat)
      case atStart => exact ⟨0, Nat.zero_le _, rfl, rfl, hide rfl, Below.refl _ _⟩
      case round =>
        rename World => wq
        obtain ⟨j, hj, rfl, rfl, HN, hbq⟩ := hrel
        by_cases hjl : j < k
        · obtain ⟨bb, off, rfl, hbb, hrow⟩ := HR.out (by omega)
          obtain ⟨y, q1, q2, i1⟩ := hrow j hjl
          obtain ⟨ay, cy, rfl, hry⟩ := i1
          have hbw2 := hbw.trans (hbq.mono hso)
          have c0 := (hbw2.cell (p := ⟨bb, off + j * 2, none⟩) hbb).trans q1
          have c1 := (hbw2.cell (p := ⟨bb, off + j * 2 + 1, none⟩) hbb).trans q2
          have hsq := hbq.size
          have hbA := hbq.alloc hsq (.cells #[.int .i64 (ts j).long, .slice ay (ts j).nn cy] 56)
          have hbW := hbw.trans (hbA.mono hso)
          have HY := hide hry
          have hnn := HB.out.len hjl
          clear hrow q1 q2 hry
          go_wp2_with fail
          generalize hW : wq.alloc _ = w3 at *
          refine (l1has _ i (lv (ord ts k i)) (j : Int) _ _ (HIx.out.below hbA) (by omega) (HHas.out j)).mono ?_
          rintro e w4 ⟨rfl, rfl⟩
          have hbx : w4.cell? ⟨wq.heap.size, 1, none⟩ = some (.slice ay (ts j).nn cy) := by
            rw [← hW]; exact (Blk.fresh wq _ 2 (p2 (.int .i64 (ts j).long) (.slice ay (ts j).nn cy)) 56 rfl).pair.2.1
          clear hW c0 c1
          go_wp2
          go_loopw [8, 30] (fun x y wr => ∃ t : Nat, t ≤ (ts j).nn ∧ y = .int .i64 t ∧ x = .bool (!mem (ord ts k i) j && allN (ts j) (mem (ord ts k i)) t) ∧ wr = w4) (fun _ y _ => (ts j).nn - (intOf y).toNat)
          case atStart => exact ⟨0, Nat.zero_le _, rfl, by simp [allN], rfl⟩
          case round =>
            obtain ⟨t, ht, rfl, rfl, rfl⟩ := hrel
            by_cases htl : t < (ts j).nn
            · obtain ⟨by_, oy, rfl, hby, hrowy⟩ := HY.out (by omega)
              obtain ⟨z, hz, hzk, hzn⟩ := HB.out.need hjl htl
              have e0 := (hbW.cell (p := ⟨by_, oy + t, none⟩) hby).trans (hrowy t htl)
              rw [hz] at e0
              have HAl := hide (show allN (ts j) (mem (ord ts k i)) (t + 1) = (allN (ts j) (mem (ord ts k i)) t && mem (ord ts k i) z) by simp only [allN, hzn])
              cases hc : (!mem (ord ts k i) j && allN (ts j) (mem (ord ts k i)) t) with
              | true =>
                have HE := hide (show (!mem (ord ts k i) j && allN (ts j) (mem (ord ts k i)) (t + 1)) = mem (ord ts k i) z by
                  rw [HAl.out, ← Bool.and_assoc, hc, Bool.true_and])
                clear hrowy HY hz hzn hc HAl HN HW HR
                go_wp2_with fail
                refine (l1has _ i (lv (ord ts k i)) (z : Int) _ _ (HIx.out.below hbA) (by omega) (HHas.out z)).mono ?_
                rintro e w5 ⟨rfl, rfl⟩
                go_wp2
                exact ⟨⟨t + 1, by omega, by go_num, by rw [HE.out], trivial⟩, by simp [intOf]; omega⟩
              | false =>
                have HE := hide (show (!mem (ord ts k i) j && allN (ts j) (mem (ord ts k i)) (t + 1)) = false by
                  rw [HAl.out, ← Bool.and_assoc, hc, Bool.false_and])
                clear hrowy HY hz hzn hc HAl HN HW HR
                go_wp2
                exact ⟨⟨t + 1, by omega, by go_num, by rw [HE.out], trivial⟩, by simp [intOf]; omega⟩
            · obtain rfl : t = (ts j).nn := by omega
              cases hc : (!mem (ord ts k i) j && allN (ts j) (mem (ord ts k i)) (ts j).nn) with
              | true =>
                have hnx := nx_stop HN.out (show rdy ts (mem (ord ts k i)) (mem (ord ts k i)) j = true from hc) k hjl
                obtain ⟨hrun2, hord⟩ := hrun.next hnx
                have hrow4 := owns_below HW.out hbA
                have hbE := (Below.refl wr.heap.size wr).alloc (Nat.le_refl _) (.cells #[.int .i64 (j : Int)] 3)
                have hrE := owns_below hrow4 hbE
                have hsw := hbW.size
                have hjn : ¬ ((j : Int) < 0) := by omega
                have HOrd := hide hord
                clear HY HN HW hc hnx hord hrow4 hbx HR
                go_wp2_with (at_builtin; refine wpList_append_own _ rfl _ _ 29 rfl w.heap.size 3 i0 _ 1 8 Try.underlying29 hi hz0 hz1 hz2 rfl (by decide) _ i _ rfl hrE ⟨wr.heap.size, 0, none⟩ 1 1 [.int .i64 (j : Int)] rfl rfl (news1 wr _ _) (by intro u hu; simp at hu; subst hu; rfl) (by unfold maxLen; omega) (by omega) (by simp; omega) ?_)
                intro v7 w7 hown7 hgrow7 _
                have hb7 : Below w.heap.size w w7 := (hbW.trans (hbE.mono hsw)).grown hgrow7 (by simp; omega) (fun q hq => (hrE.lt q hq).1)
                obtain ⟨a7, c7, rfl⟩ := own_form hown7
                have HW7 := hide (show w7.ownsRow w.heap.size 3 1 (.slice a7 (i + 1) c7) (i + 1) (pv (ord ts k (i + 1))) from by rw [HOrd.out, pv_snoc]; exact hown7)
                clear hgrow7 hown7 hrE hbE HOrd HIx HHas
                go_wp2
                exact ⟨⟨i + 1, hrun2, HW7, hb7⟩, by simp only [lenV]; omega⟩
              | false =>
                have HN2 := hide (nx_go HN.out (show rdy ts (mem (ord ts k i)) (mem (ord ts k i)) j = false from hc))
                clear HY HN HW hc hbx HR HIx HHas
                go_wp2
                exact ⟨⟨j + 1, by omega, by go_num, rfl, HN2, hbA⟩, by simp [intOf]; omega⟩
        · obtain rfl : j = k := by omega
          have HNo := hide (show ¬ Whole ts j from fun h => by have := (ord_end hrun HN.out).1 h; omega)
          have hbz := hbw.trans (hbq.mono hso)
          clear HR HW HN HIx HHas
          go_wp2
          go_ret2
          exact ⟨.inr ⟨HNo.out, rfl⟩, hbz⟩
    · obtain rfl : i = k := by omega
      have hnl : ¬ ((i : Int) < (i : Int)) := by omega
      have HA := hide (show IntsOf wo (.slice ax i cx) i (lv (ord ts i i)) from by
        have := HW.out
        rw [pv_range, hlen] at this
        exact own_ints this)
      clear HR HW
      go_wp2
      go_ret2
      exact ⟨.inl ⟨hrun, _, rfl, HA.out⟩, hbw⟩
set_option maxRecDepth 20000 in
set_option maxHeartbeats 1000000 in
theorem spec_good (v : Value) (k : Nat) (ts : Nat → Tk) (b : Bool) (w : World) (hv : TasksOf w v k ts) (hs : Short k ts) (hb : decide (GoodP k ts) = b) :
    Calls Try.prog 16 #[v] w fun e w' => e = .returned (.bool b) ∧ Below w.heap.size w w' := by
  have HV := hide hv
  obtain ⟨a, cap, rfl, hr⟩ := hv
  have HR := hide hr
  have HS := hide hs.2
  have HB := hide hb
  have hk := hs.1
  clear hr hs hb
  by_cases h30 : k ≤ 30
  · have hg30 : ¬ ((k : Int) > 30) := by omega
    go_enter Try.func16, Try.ntmps16
    go_wp2
    go_loopw [12] (fun i wr => ∃ j : Nat, j ≤ k ∧ i = .int .i64 j ∧ Hid (∀ q, q < j → BT k (ts q)) ∧ Below w.heap.size w wr) (fun i _ => k - (intOf i).toNat)
    case atStart => exact ⟨0, Nat.zero_le _, rfl, hide (fun q hq => absurd hq (by omega)), Below.refl _ _⟩
    case round =>
      rename World => wo
      obtain ⟨j, hj, rfl, HP, hbw⟩ := hrel
      by_cases hlt : j < k
      · obtain ⟨bb, off, rfl, hbb, hrow⟩ := HR.out (by omega)
        obtain ⟨y, q1, q2, i1⟩ := hrow j hlt
        obtain ⟨ay, cy, rfl⟩ := i1.form
        have c0 := (hbw.cell (p := ⟨bb, off + j * 2, none⟩) hbb).trans q1
        have c1 := (hbw.cell (p := ⟨bb, off + j * 2 + 1, none⟩) hbb).trans q2
        have hs := hbw.size
        have hbA := hbw.alloc hs (.cells #[.int .i64 (ts j).long, .slice ay (ts j).nn cy] 56)
        have I1 := hide (i1.below hbA)
        have HSj := hide (HS.out j hlt)
        have HNo := hide (show ¬ BT k (ts j) → b = false from fun h => by rw [← HB.out, decide_eq_false_iff_not]; exact fun H => h (H.1.2 j hlt))
        have HSelf := hide (show BT k (ts j) → hasF (ts j).fn (j : Int) (ts j).nn = true → b = false from fun _ h => by
          obtain ⟨q, h1, h2⟩ := (hasF_iff _ _ _).1 h
          rw [← HB.out, decide_eq_false_iff_not]
          exact fun H => self_not hlt h1 (by omega) H.2)
        have HYes := hide (show BT k (ts j) → ∀ q, q < j + 1 → BT k (ts q) from fun h q hq => by
          rcases (show q < j ∨ q = j by omega) with h1 | h1
          · exact HP.out q h1
          · subst h1; exact h)
        clear hrow HR q1 q2 i1 HP HS HB HV
        by_cases hl : 1 ≤ (ts j).long ∧ (ts j).long ≤ 100
        · have HW := hide (show decide (1 ≤ (ts j).long ∧ (ts j).long ≤ 100) = true by rw [decide_eq_true_eq]; exact hl)
          by_cases hr : Ris (ts j).nn (ts j).fn (k : Int)
          · have HRi := hide (show decide (Ris (ts j).nn (ts j).fn (k : Int)) = true by rw [decide_eq_true_eq]; exact hr)
            have HP2 := hide (HYes.out ⟨hl, hr⟩)
            have HS2 := hide (HSelf.out ⟨hl, hr⟩)
            clear hl hr HNo HYes HSelf
            go_wp2_with fail
            refine (l1in_to _ _ _ _ _ HW.out).mono ?_
            rintro e w2 ⟨rfl, rfl⟩
            go_wp2_with fail
            refine (l3list_to _ (ts j).nn (ts j).fn (k : Int) _ _ I1.out HSj.out (by omega) (by omega) HRi.out).mono ?_
            rintro e w3 ⟨rfl, rfl⟩
            go_wp2_with fail
            refine (l1has _ (ts j).nn (ts j).fn (j : Int) _ _ I1.out HSj.out rfl).mono ?_
            rintro e w4 ⟨rfl, rfl⟩
            cases hh : hasF (ts j).fn (j : Int) (ts j).nn with
            | true =>
              have eb := HS2.out hh
              subst eb
              clear hh HS2
              go_wp2
              go_ret
              exact ⟨rfl, hbA⟩
            | false =>
              clear hh HS2
              go_wp2
              exact ⟨⟨j + 1, by omega, by go_num, HP2, hbA⟩, by simp [intOf]; omega⟩
          · have HRi := hide (show decide (Ris (ts j).nn (ts j).fn (k : Int)) = false by rw [decide_eq_false_iff_not]; exact hr)
            have eb := HNo.out (fun H => hr H.2)
            subst eb
            clear hl hr HNo HYes HSelf
            go_wp2_with fail
            refine (l1in_to _ _ _ _ _ HW.out).mono ?_
            rintro e w2 ⟨rfl, rfl⟩
            go_wp2_with fail
            refine (l3list_to _ (ts j).nn (ts j).fn (k : Int) _ _ I1.out HSj.out (by omega) (by omega) HRi.out).mono ?_
            rintro e w3 ⟨rfl, rfl⟩
            go_wp2
            go_ret
            exact ⟨rfl, hbA⟩
        · have HW := hide (show decide (1 ≤ (ts j).long ∧ (ts j).long ≤ 100) = false by rw [decide_eq_false_iff_not]; exact hl)
          have eb := HNo.out (fun H => hl H.1)
          subst eb
          clear hl HNo HYes HSelf
          go_wp2_with fail
          refine (l1in_to _ _ _ _ _ HW.out).mono ?_
          rintro e w2 ⟨rfl, rfl⟩
          go_wp2
          go_ret
          exact ⟨rfl, hbA⟩
      · obtain rfl : j = k := by omega
        have hB : Bnd j ts := ⟨h30, HP.out⟩
        have HBn := hide hB
        have HEb := hide (show (Whole ts j → b = true) ∧ (¬ Whole ts j → b = false) from ⟨fun h => by rw [← HB.out, decide_eq_true_eq]; exact ⟨hB, h⟩, fun h => by rw [← HB.out, decide_eq_false_iff_not]; exact fun H => h H.2⟩)
        have hs := hbw.size
        clear HR HS HP hB HB
        go_wp2_with fail
        refine (l4order _ j ts _ (HV.out.below hbw) HBn.out).mono ?_
        rintro e w2 ⟨hL, hb2⟩
        have hb2' := hbw.trans (hb2.mono hs)
        rcases hL with ⟨hw, r, rfl, hr⟩ | ⟨hw, rfl⟩
        · have eb := HEb.out.1 hw
          subst eb
          obtain ⟨a2, c2, rfl⟩ := hr.form
          clear hr hb2 HBn HV HEb
          go_wp2
          go_ret
          exact ⟨rfl, hb2'⟩
        · have eb := HEb.out.2 hw
          subst eb
          clear hb2 HBn HV HEb
          go_wp2
          go_ret
          exact ⟨rfl, hb2'⟩
  · have hg30 : ((k : Int) > 30) := by omega
    have eb : b = false := by rw [← HB.out, decide_eq_false_iff_not]; exact fun H => h30 H.1.1
    subst eb
    clear HR HS HB HV
    go_enter Try.func16, Try.ntmps16
    go_wp2
    go_ret
    exact ⟨rfl, Below.refl _ _⟩
set_option maxHeartbeats 1000000 in
theorem spec_order (v : Value) (k : Nat) (ts : Nat → Tk) (w : World) (hv : TasksOf w v k ts) (hs : Short k ts) (hg : GoodP k ts) :
    Calls Try.prog 20 #[v] w fun e w' => (∃ r, e = .returned (.tuple #[r, .bool true]) ∧ IntsOf w' r k (lv (ord ts k k))) ∧ Below w.heap.size w w' := by
  have HV := hide hv
  have HG := hide hg
  have HS := hide hs
  obtain ⟨a, cap, rfl⟩ := hv.form
  clear hv hs hg
  go_enter Try.func20, Try.ntmps20
  go_wp2_with fail
  refine (spec_good _ k ts true _ HV.out HS.out (by rw [decide_eq_true_eq]; exact HG.out)).mono ?_
  rintro e w1 ⟨rfl, hb1⟩
  go_wp2_with fail
  refine (l4order _ k ts _ (HV.out.below hb1) HG.out.1).mono ?_
  rintro e w2 ⟨hL, hb2⟩
  have hb2' := hb1.trans (hb2.mono hb1.size)
  rcases hL with ⟨hw, r, rfl, hr⟩ | ⟨hw, rfl⟩
  · have HA := hide hr
    obtain ⟨a2, c2, rfl⟩ := hr.form
    clear hr hb2 HV HS HG
    go_wp2
    go_ret2
    exact ⟨⟨_, rfl, HA.out⟩, hb2'⟩
  · exact absurd HG.out.2 hw
set_option maxHeartbeats 1000000 in
theorem spec_order_no (v : Value) (k : Nat) (ts : Nat → Tk) (w : World) (hv : TasksOf w v k ts) (hs : Short k ts) (hg : ¬ GoodP k ts) :
    Calls Try.prog 20 #[v] w fun e w' => e = .returned (.tuple #[.slice none 0 0, .bool false]) ∧ Below w.heap.size w w' := by
  have HV := hide hv
  have HG := hide hg
  have HS := hide hs
  obtain ⟨a, cap, rfl⟩ := hv.form
  clear hv hs hg
  go_enter Try.func20, Try.ntmps20
  go_wp2_with fail
  refine (spec_good _ k ts false _ HV.out HS.out (by rw [decide_eq_false_iff_not]; exact HG.out)).mono ?_
  rintro e w1 ⟨rfl, hb1⟩
  clear HV HS HG
  go_wp2
  go_ret2
  exact ⟨rfl, hb1⟩
end Go.Proofs.Ytkfnfgencaplfaa
