/-
  IsSchedule: the specification's text, in one pass and another.
-/
import Derived.Test.YtlegbkafpfkjeaaSlotS
import Derived.Test.YtlegbkafpfkjeaaPlanS
namespace Go.Proofs.Ytlegbkafpfkjeaa
open Go.ChangeShapes Go.WideShapes Go.ChangeAt Go.RowKit Go.Joins Go.Deep
open M
open Clk (upd upd_same upd_other)
namespace M
theorem ends_at {k n : Nat} {p : Int} {ts : Nat → Tk} {f : Nat → Int} (h : OnceTo k p f n) {i z : Nat} (hi : i < n) (hz : sT f i = (z : Int)) : endsF ts f n z = atF f n z + (ts z).long := by
  have e : (sT f i).toNat = z := by omega
  have h1 := endsF_at (ts := ts) h n (Nat.le_refl _) hi
  have h2 := atF_at h n (Nat.le_refl _) hi
  rw [e] at h1 h2
  rw [h1, h2]; unfold sE; rw [e]
theorem atF_range {k n : Nat} {p : Int} {f : Nat → Int} (h : OnceTo k p f n) (x : Nat) : -1 ≤ atF f n x ∧ atF f n x ≤ 1000000 ∧ (0 ≤ atF f n x ↔ ∃ i, i < n ∧ sT f i = (x : Int)) := by
  by_cases hx : ∃ i, i < n ∧ sT f i = (x : Int)
  · obtain ⟨i, hi, e⟩ := hx
    have h1 := atF_at h n (Nat.le_refl _) hi
    have e' : (sT f i).toNat = x := by omega
    rw [e'] at h1
    have h2 := (h i hi).1.2.2
    unfold InB at h2
    rw [h1]
    exact ⟨by omega, by omega, fun _ => ⟨i, hi, e⟩, fun _ => h2.1⟩
  · have h1 := atF_no (f := f) (x := x) n (fun i hi e => hx ⟨i, hi, by have := (h i hi).1.1.1; omega⟩)
    rw [h1]
    exact ⟨by omega, by omega, fun h => by omega, fun h => absurd h hx⟩
/-- What the second pass asks of task x. -/
def AtOk (ts : Nat → Tk) (f : Nat → Int) (n x : Nat) : Prop := 0 ≤ atF f n x ∧ ∀ q, q < (ts x).nn → atF f n ((ts x).fn q).toNat + (ts ((ts x).fn q).toNat).long ≤ atF f n x
theorem sched_at {k n : Nat} {p : Int} {ts : Nat → Tk} {f : Nat → Int} (hB : Bnd k ts) (h : Sched k p ts f n) {x : Nat} (hx : x < k) : AtOk ts f n x := by
  obtain ⟨⟨ho, rfl⟩, hn, hv⟩ := h
  obtain ⟨j, hj, e⟩ := once_all ho hx
  have e' : (sT f j).toNat = x := by omega
  have h1 := atF_at ho n (Nat.le_refl _) hj
  rw [e'] at h1
  refine ⟨(atF_range ho x).2.2.2 ⟨j, hj, e⟩, fun q hq => ?_⟩
  obtain ⟨z, hz, hzk, hzt⟩ := hB.need hx hq
  obtain ⟨i, hi, ez⟩ := once_all ho hzk
  have h2 := hv j hj q (by rw [e']; exact hq)
  rw [e', hzt, ends_at ho hi ez] at h2
  rw [hzt, h1]; exact h2
theorem at_sched {k n : Nat} {p : Int} {ts : Nat → Tk} {f : Nat → Int} (hB : Bnd k ts) (ho : OnceTo k p f n) (hn : NoneTo ts f n) (ha : ∀ x, x < k → AtOk ts f n x) : Sched k p ts f n := by
  have hall : ∀ x, x < k → ∃ i, i < n ∧ sT f i = (x : Int) := fun x hx => (atF_range ho x).2.2.1 (ha x hx).1
  refine ⟨⟨ho, all_once ho hall⟩, hn, fun j hj q hq => ?_⟩
  have hg := (ho j hj).1.1
  obtain ⟨x, e⟩ := Int.eq_ofNat_of_zero_le hg.1
  have e' : (sT f j).toNat = x := by omega
  have hx : x < k := by have := hg.2; omega
  rw [e'] at hq ⊢
  obtain ⟨z, hz, hzk, hzt⟩ := hB.need hx hq
  obtain ⟨i, hi, ez⟩ := hall z hzk
  have h1 := atF_at ho n (Nat.le_refl _) hj
  rw [e'] at h1
  have h2 := (ha x hx).2 q hq
  rw [hzt] at h2 ⊢
  rw [ends_at ho hi ez, ← h1]; exact h2
end M
set_option maxRecDepth 20000 in
set_option maxHeartbeats 8000000 in
theorem spec_sched (v : Value) (g0 k : Nat) (p : Int) (n : Nat) (f : Nat → Int) (ts : Nat → Tk) (b1 b2 : Bool) (w : World) (hv : TasksOf w v k ts) (hs : Short k ts) (hu : SlotsOf w (sl g0 n) n f) (hn : n ≤ 1048576) (h2 : decide (SOk k p ts n) = b2) (h1 : decide (SOk k p ts n ∧ Sched k p ts f n) = b1) :
    Calls Try.prog 37 #[v, .int .i64 p, sl g0 n] w fun e w' => e = .returned (.tuple #[.bool b1, .bool b2]) ∧ Below w.heap.size w w' := by
  have HV := hide hv
  have HU := hide hu
  have HS := hide hs
  obtain ⟨a, cap, rfl, hrt⟩ := hv
  have HRt := hide hrt
  obtain ⟨_, _, e, hr⟩ := hu
  cases e
  have HR := hide hr
  clear hrt hr hs
  by_cases hg : GoodP k ts
  · have HG := hide (spec_good _ k ts true w HV.out HS.out (decide_eq_true hg))
    have HBn := hide hg.1
    by_cases hp : 1 ≤ p ∧ p ≤ 8
    · have HP := hide (decide_eq_true hp)
      by_cases h30 : n ≤ 30
      · have hd30 : decide ((30 : Int) < (n : Int)) = false := decide_eq_false (by omega)
        obtain rfl : b2 = true := by rw [← h2, decide_eq_true_eq]; exact ⟨hg, hp, h30⟩
        have H1 := hide (show decide (Sched k p ts f n) = b1 by rw [← h1, Bool.eq_iff_iff]; simp only [decide_eq_true_eq]; exact ⟨fun h => ⟨⟨hg, hp, h30⟩, h⟩, fun h => h.2⟩)
        have hk30 := hg.1.1
        have hmk := make_ints k (by omega)
        clear h1 h2 hg
        go_enter Try.func37, Try.ntmps37
        go_wp2_with fail
        refine HG.out.mono ?_
        rintro e w1 ⟨rfl, hb1⟩
        go_wp2_with fail
        refine (l1in_to p 1 8 true _ HP.out).mono ?_
        rintro e w1' ⟨rfl, rfl⟩
        have hs1 := hb1.size
        have hbA := hb1.alloc hs1 (.cells (cf k (iv fun _ => 0)) 3)
        have H0 := hide (Blk.new w1' k (iv fun _ => 0) 3)
        clear HG
        go_wp2_with fail
        clear hmk
        generalize hgA : w1'.heap.size = gA at *
        clear hgA
        generalize w1'.alloc _ = wA at *
        go_loopw [36] (fun y wr => ∃ j : Nat, j ≤ k ∧ y = .int .i64 j ∧ Hid (Blk wr gA k (iv (cp (fun _ => 0) (fun _ => -1) j)) 3) ∧ Below w.heap.size w wr) (fun y _ => k - (intOf y).toNat)
        case atStart => exact ⟨0, Nat.zero_le _, rfl, hide (by rw [cp_zero]; exact H0.out), hbA⟩
        case round =>
          rename World => wo
          obtain ⟨j, hj, rfl, HBk, hbw⟩ := hrel
          by_cases hlt : j < k
          · have d0 := HBk.out.cell_ints hlt
            have f0 := HBk.out.thaw j
            have HB2 := hide (HBk.out.set_int j (-1))
            rw [cp_succ (fun _ => 0) (fun _ => -1) j] at HB2
            have hb2 := hbw.setCell (p := ⟨gA, j, none⟩) hs1 (.int .i64 (-1))
            clear HBk
            go_wp2
            exact ⟨⟨j + 1, by omega, by go_num, HB2, hb2⟩, by simp [intOf]; omega⟩
          · obtain rfl : k = j := by omega
            have HB0 := hide (HBk.out.ext (f' := iv (atF f 0)) (fun i hi => by unfold iv cp atF; rw [if_pos hi]))
            clear HBk H0 hbA
            go_wp2_with fail
            go_loopw [45] (fun y wr => ∃ i : Nat, i ≤ n ∧ y = .int .i64 i ∧ Hid (OnceTo k p f i ∧ NoneTo ts f i) ∧ Hid (Blk wr gA k (iv (atF f i)) 3) ∧ Below w.heap.size w wr) (fun y _ => n - (intOf y).toNat)
            case atStart => exact ⟨0, Nat.zero_le _, rfl, hide ⟨fun j h => by omega, fun j h => by omega⟩, HB0, hbw⟩
            case round =>
              rename World => wp
              obtain ⟨i, hi, rfl, HO, HBk, hbp⟩ := hrel
              by_cases hlt : i < n
              · obtain ⟨bb, off, hq, hbb, hrow⟩ := HR.out (by omega)
                cases hq
                have HRow := hide hrow
                have c0 := (hbp.cell (p := ⟨g0, 0 + i * 3, none⟩) hbb).trans (hrow (i * 3) (by omega))
                have c1 := (hbp.cell (p := ⟨g0, 0 + (i * 3 + 1), none⟩) hbb).trans (hrow (i * 3 + 1) (by omega))
                have c2 := (hbp.cell (p := ⟨g0, 0 + (i * 3 + 2), none⟩) hbb).trans (hrow (i * 3 + 2) (by omega))
                simp only [Nat.zero_add] at c0 c1 c2
                have hi0 : (0 : Int) ≤ (i : Int) := by omega
                have hi1 : (i : Int) < (n : Int) := by omega
                have hi2 : (i : Int) ≤ (n : Int) := by omega
                have hdn := (Below.refl wp.heap.size wp).alloc (Nat.le_refl _) (.cells #[.int .i64 (f (i * 3)), .int .i64 (f (i * 3 + 1)), .int .i64 (f (i * 3 + 2))] 70)
                have hbE := hbp.trans (hdn.mono hbp.size)
                have HBE := hide (HBk.out.down hdn)
                have HX := hide (Blk.fresh wp #[.int .i64 (f (i * 3)), .int .i64 (f (i * 3 + 1)), .int .i64 (f (i * 3 + 2))] 3 (iv fun q => f (i * 3 + q)) 70 rfl)
                have HBad := hide (show ¬ (GoodSl k p f i ∧ ∀ j, j < i → sT f j ≠ sT f i) → b1 = false from fun h => by
                  rw [← H1.out, decide_eq_false_iff_not]
                  exact fun hh => h (hh.1.1 i hlt))
                clear hrow HBk
                go_wp2_with fail
                generalize hW3 : wp.alloc _ = w3 at *
                have hsx : wp.heap.size < w3.heap.size := by rw [← hW3]; simp
                clear hW3 c0 c1 c2 hdn
                have x0 := HX.out.cell_ints (show 0 < 3 by omega)
                have x1 := HX.out.cell_ints (show 1 < 3 by omega)
                have x2 := HX.out.cell_ints (show 2 < 3 by omega)
                simp only [Nat.add_zero] at x0
                by_cases hA : InB (f (i * 3)) 0 ((k : Int) - 1)
                · have HA := hide (show decide (0 ≤ f (i * 3) ∧ f (i * 3) ≤ (k : Int) - 1) = true from decide_eq_true hA)
                  by_cases hW : InB (f (i * 3 + 1)) 0 (p - 1)
                  · have HW := hide (show decide (0 ≤ f (i * 3 + 1) ∧ f (i * 3 + 1) ≤ p - 1) = true from decide_eq_true hW)
                    by_cases hF : InB (f (i * 3 + 2)) 0 1000000
                    · have HF := hide (show decide (0 ≤ f (i * 3 + 2) ∧ f (i * 3 + 2) ≤ 1000000) = true from decide_eq_true hF)
                      obtain ⟨t, htt⟩ := Int.eq_ofNat_of_zero_le hA.1
                      have htk : t < k := by have := hA.2; omega
                      have hgs : GoodSl k p f i := ⟨hA, hW, hF⟩
                      have hFr : 0 ≤ f (i * 3 + 2) ∧ f (i * 3 + 2) ≤ 1000000 := hF
                      have HTt := hide htt
                      have d0 := HBE.out.cell_ints (show t < k by omega)
                      have f0 := HBE.out.thaw t
                      have har := atF_range HO.out.1 t
                      have ht0 : (0 : Int) ≤ (t : Int) := by omega
                      have ht1 : (t : Int) < (k : Int) := by omega
                      rw [htt] at x0
                      by_cases hme : 0 ≤ atF f i t
                      · have hd0 : decide (0 ≤ atF f i t) = true := decide_eq_true hme
                        obtain rfl : b1 = false := HBad.out (fun h => by
                          obtain ⟨j, hj, e⟩ := har.2.2.1 hme
                          exact h.2 j hj (e.trans htt.symm))
                        clear HBad HO HX HBE HB0 H1 HRow HR hme har hgs hA hW hF HTt
                        go_wp2_with fail
                        refine (l1in_to _ _ _ true _ (by rw [← HA.out, htt])).mono ?_
                        rintro e w4 ⟨rfl, rfl⟩
                        go_wp2_with fail
                        refine (l1in_to _ _ _ true _ HW.out).mono ?_
                        rintro e w4' ⟨rfl, rfl⟩
                        go_wp2_with fail
                        refine (l1in_to _ _ _ true _ HF.out).mono ?_
                        rintro e w4'' ⟨rfl, rfl⟩
                        go_wp2
                        go_ret2
                        exact ⟨rfl, hbE⟩
                      · have hd0 : decide (0 ≤ atF f i t) = false := decide_eq_false hme
                        have HO2 := hide (show OnceTo k p f (i + 1) from fun j hj => by
                          rcases (show j < i ∨ j = i by omega) with h | h
                          · exact HO.out.1 j h
                          · subst h
                            exact ⟨hgs, fun j' hj' e => hme (har.2.2.2 ⟨j', hj', e.trans htt⟩)⟩)
                        have HB4 := hide (show ∀ W, W = w3.setCell ⟨gA, t, none⟩ (.int .i64 (f (i * 3 + 2))) → Blk W gA k (iv (atF f (i + 1))) 3 ∧ Below w.heap.size w W ∧ Blk W wp.heap.size 3 (iv fun q => f (i * 3 + q)) 70 ∧ wp.heap.size < W.heap.size from by
                          rintro W rfl
                          have e1 : atF f (i + 1) = upd (atF f i) t (f (i * 3 + 2)) := by simp only [atF]; unfold sT sF; rw [htt]; rfl
                          refine ⟨by rw [e1]; exact HBE.out.set_int _ _, hbE.setCell hs1 _, HX.out.set_other ?_ _ _, by rw [World.size_setCell]; exact hsx⟩
                          intro e
                          have := HBE.out
                          rw [← e] at this
                          have h5 := HX.out
                          unfold Blk at this h5
                          rw [this] at h5
                          simp at h5)
                        clear HBad HBE HB0 hme har hgs hA hW hF
                        go_wp2_with fail
                        refine (l1in_to _ _ _ true _ (by rw [← HA.out, htt])).mono ?_
                        rintro e w4 ⟨rfl, rfl⟩
                        go_wp2_with fail
                        refine (l1in_to _ _ _ true _ HW.out).mono ?_
                        rintro e w4' ⟨rfl, rfl⟩
                        go_wp2_with fail
                        refine (l1in_to _ _ _ true _ HF.out).mono ?_
                        rintro e w4'' ⟨rfl, rfl⟩
                        go_wp2_with fail
                        obtain ⟨hBk5, hb5, hX5, hs5⟩ := HB4.out _ rfl
                        generalize w4''.setCell _ _ = w5 at *
                        have HBk5 := hide hBk5
                        have HX5 := hide hX5
                        clear HB4 hBk5 hX5 x0 x1 x2 d0 f0 hbE HX hd0
                        go_loopw [89] (fun y wr => ∃ j : Nat, j ≤ i ∧ y = .int .i64 j ∧ Hid (∀ j', j' < j → ¬ Clash ts f i j') ∧ Below w5.heap.size w5 wr) (fun y _ => i - (intOf y).toNat)
                        case atStart => exact ⟨0, Nat.zero_le _, rfl, hide (fun j hj => by omega), Below.refl _ _⟩
                        case round =>
                          rename World => wq
                          obtain ⟨j, hj, rfl, HM, hbq⟩ := hrel
                          by_cases hjl : j < i
                          · have hbq2 := hb5.trans (hbq.mono hb5.size)
                            have hgj := HO2.out j (by omega)
                            obtain ⟨tj, htj⟩ := Int.eq_ofNat_of_zero_le hgj.1.1.1
                            have htjk : tj < k := by have := hgj.1.1.2; omega
                            have hFj := hgj.1.2.2
                            have hli := (HBn.out.2 t htk).1
                            have hlj := (HBn.out.2 tj htjk).1
                            have hEi : sE ts f i = f (i * 3 + 2) + (ts t).long := by unfold sE sF sT; rw [HTt.out]; rfl
                            have hEj : sE ts f j = f (j * 3 + 2) + (ts tj).long := by unfold sE sF; rw [htj]; rfl
                            have c0 := (hbq2.cell (p := ⟨g0, 0 + j * 3, none⟩) hbb).trans (HRow.out (j * 3) (by omega))
                            have c1 := (hbq2.cell (p := ⟨g0, 0 + (j * 3 + 1), none⟩) hbb).trans (HRow.out (j * 3 + 1) (by omega))
                            have c2 := (hbq2.cell (p := ⟨g0, 0 + (j * 3 + 2), none⟩) hbb).trans (HRow.out (j * 3 + 2) (by omega))
                            simp only [Nat.zero_add] at c0 c1 c2
                            have htj' : f (j * 3) = (tj : Int) := htj
                            rw [htj'] at c0
                            have hj0 : (0 : Int) ≤ (j : Int) := by omega
                            have hj1 : (j : Int) < (i : Int) := by omega
                            have hj2 : (j : Int) < (n : Int) := by omega
                            have hdn := (Below.refl wq.heap.size wq).alloc (Nat.le_refl _) (.cells #[.int .i64 (tj : Int), .int .i64 (f (j * 3 + 1)), .int .i64 (f (j * 3 + 2))] 70)
                            have hbq3 := hbq.trans (hdn.mono hbq.size)
                            have HXi := hide ((HX5.out.down hbq).down hdn)
                            have HXj := hide (Blk.fresh wq #[.int .i64 (tj : Int), .int .i64 (f (j * 3 + 1)), .int .i64 (f (j * 3 + 2))] 3 (iv fun q => if q = 0 then (tj : Int) else if q = 1 then f (j * 3 + 1) else f (j * 3 + 2)) 70 rfl)
                            have hbq4 := hbq2.trans (hdn.mono hbq2.size)
                            obtain ⟨bt, offt, rfl, hbt, hrowt⟩ := HRt.out (by omega)
                            obtain ⟨_, p1, _, _⟩ := hrowt t htk
                            obtain ⟨_, p2, _, _⟩ := hrowt tj htjk
                            have l1 := (hbq4.cell (p := ⟨bt, offt + t * 2, none⟩) hbt).trans p1
                            have l2 := (hbq4.cell (p := ⟨bt, offt + tj * 2, none⟩) hbt).trans p2
                            have HCl := hide (show Clash ts f i j ↔ (f (j * 3 + 1) = f (i * 3 + 1) ∧ f (j * 3 + 2) < f (i * 3 + 2) + (ts t).long ∧ f (i * 3 + 2) < f (j * 3 + 2) + (ts tj).long) from by
                              unfold Clash; rw [hEi, hEj]; unfold sW sF
                              exact ⟨fun h => ⟨h.1.symm, h.2.2, h.2.1⟩, fun h => ⟨h.1.symm, h.2.2, h.2.1⟩⟩)
                            have hFj' : 0 ≤ f (j * 3 + 2) ∧ f (j * 3 + 2) ≤ 1000000 := hFj
                            have htj0 : (0 : Int) ≤ (tj : Int) := by omega
                            have htj1 : (tj : Int) < (k : Int) := by omega
                            clear hgj htj hFj hEi hEj htj' hrowt p1 p2
                            go_wp2_with fail
                            generalize hW6 : wq.alloc _ = w6 at *
                            clear hW6 c0 c1 c2 hdn
                            have x0 := HXi.out.cell_ints (show 0 < 3 by omega)
                            have x1 := HXi.out.cell_ints (show 1 < 3 by omega)
                            have x2 := HXi.out.cell_ints (show 2 < 3 by omega)
                            have y0 := HXj.out.cell_ints (show 0 < 3 by omega)
                            have y1 := HXj.out.cell_ints (show 1 < 3 by omega)
                            have y2 := HXj.out.cell_ints (show 2 < 3 by omega)
                            simp only [Nat.add_zero, HTt.out, if_true, if_neg (show ¬ (1 = 0) by omega), if_neg (show ¬ (2 = 0) by omega), if_neg (show ¬ (2 = 1) by omega)] at x0 x1 x2 y0 y1 y2
                            clear HXi HXj
                            have HMs := hide (show ¬ Clash ts f i j → ∀ j', j' < j + 1 → ¬ Clash ts f i j' from fun h j' hj' => by
                              rcases (show j' < j ∨ j' = j by omega) with h1 | h1
                              · exact HM.out j' h1
                              · subst h1; exact h)
                            generalize (ts t).long = li at *
                            generalize (ts tj).long = lj at *
                            by_cases hw : f (j * 3 + 1) = f (i * 3 + 1)
                            · have hd : (f (j * 3 + 1) == f (i * 3 + 1)) = true := by simp [hw]
                              have HWe := hide hw
                              clear hw
                              by_cases h1 : f (j * 3 + 2) < f (i * 3 + 2) + li
                              · have hd1 : decide (f (j * 3 + 2) < f (i * 3 + 2) + li) = true := decide_eq_true h1
                                by_cases h2 : f (i * 3 + 2) < f (j * 3 + 2) + lj
                                · have hd2 : decide (f (i * 3 + 2) < f (j * 3 + 2) + lj) = true := decide_eq_true h2
                                  obtain rfl : b1 = false := by
                                    rw [← H1.out, decide_eq_false_iff_not]
                                    exact fun h => h.2.1 i hlt j hjl (HCl.out.2 ⟨HWe.out, h1, h2⟩)
                                  clear HMs HCl HM H1 HO HO2 HRow HR HWe
                                  go_big_quiet (fail)
                                  have hbf := below_drewN hbq4 nq
                                  go_wp2
                                  go_ret2
                                  exact ⟨rfl, hbf⟩
                                · have hd2 : decide (f (i * 3 + 2) < f (j * 3 + 2) + lj) = false := decide_eq_false h2
                                  have HM2 := hide (HMs.out (fun h => h2 (HCl.out.1 h).2.2))
                                  clear HMs HCl HM HWe
                                  go_big_quiet (fail)
                                  have hbf := below_drewN hbq3 nq
                                  go_wp2
                                  exact ⟨⟨j + 1, by omega, by go_num, HM2, hbf⟩, by simp [intOf]; omega⟩
                              · have hd1 : decide (f (j * 3 + 2) < f (i * 3 + 2) + li) = false := decide_eq_false h1
                                have HM2 := hide (HMs.out (fun h => h1 (HCl.out.1 h).2.1))
                                clear HMs HCl HM HWe
                                go_big_quiet (fail)
                                have hbf := below_drewN hbq3 nq
                                go_wp2
                                exact ⟨⟨j + 1, by omega, by go_num, HM2, hbf⟩, by simp [intOf]; omega⟩
                            · have hd : (f (j * 3 + 1) == f (i * 3 + 1)) = false := by simp [hw]
                              have HM2 := hide (HMs.out (fun h => hw (HCl.out.1 h).1))
                              clear HMs HCl HM
                              go_big_quiet (fail)
                              have hbf := below_drewN hbq3 nq
                              go_wp2
                              exact ⟨⟨j + 1, by omega, by go_num, HM2, hbf⟩, by simp [intOf]; omega⟩
                          · obtain rfl : i = j := by omega
                            have HN2 := hide (show OnceTo k p f (i + 1) ∧ NoneTo ts f (i + 1) from ⟨HO2.out, fun x hx j' hj' => by
                              rcases (show x < i ∨ x = i by omega) with h | h
                              · exact HO.out.2 x h j' hj'
                              · subst h; exact HM.out j' hj'⟩)
                            have hbf := hb5.trans (hbq.mono hb5.size)
                            have HBf := hide (HBk5.out.down hbq)
                            clear HO HO2 HM HX5 HBk5 HRow
                            go_wp2
                            exact ⟨⟨i + 1, by omega, by go_num, HN2, HBf, hbf⟩, by simp [intOf]; omega⟩
                    · have HF := hide (show decide (0 ≤ f (i * 3 + 2) ∧ f (i * 3 + 2) ≤ 1000000) = false from decide_eq_false hF)
                      obtain rfl : b1 = false := HBad.out (fun h => hF h.1.2.2)
                      clear HBad HO HX HBE HB0 H1 HRow HR hA hW hF
                      go_wp2_with fail
                      refine (l1in_to _ _ _ true _ HA.out).mono ?_
                      rintro e w4 ⟨rfl, rfl⟩
                      go_wp2_with fail
                      refine (l1in_to _ _ _ true _ HW.out).mono ?_
                      rintro e w4' ⟨rfl, rfl⟩
                      go_wp2_with fail
                      refine (l1in_to _ _ _ false _ HF.out).mono ?_
                      rintro e w4'' ⟨rfl, rfl⟩
                      go_wp2
                      go_ret2
                      exact ⟨rfl, hbE⟩
                  · have HW := hide (show decide (0 ≤ f (i * 3 + 1) ∧ f (i * 3 + 1) ≤ p - 1) = false from decide_eq_false hW)
                    obtain rfl : b1 = false := HBad.out (fun h => hW h.1.2.1)
                    clear HBad HO HX HBE HB0 H1 HRow HR hA hW
                    go_wp2_with fail
                    refine (l1in_to _ _ _ true _ HA.out).mono ?_
                    rintro e w4 ⟨rfl, rfl⟩
                    go_wp2_with fail
                    refine (l1in_to _ _ _ false _ HW.out).mono ?_
                    rintro e w4' ⟨rfl, rfl⟩
                    go_wp2
                    go_ret2
                    exact ⟨rfl, hbE⟩
                · have HA := hide (show decide (0 ≤ f (i * 3) ∧ f (i * 3) ≤ (k : Int) - 1) = false from decide_eq_false hA)
                  obtain rfl : b1 = false := HBad.out (fun h => hA h.1.1)
                  clear HBad HO HX HBE HB0 H1 HRow HR hA
                  go_wp2_with fail
                  refine (l1in_to _ _ _ false _ HA.out).mono ?_
                  rintro e w4 ⟨rfl, rfl⟩
                  go_wp2
                  go_ret2
                  exact ⟨rfl, hbE⟩
              · obtain rfl : n = i := by omega
                clear HB0 HR
                go_wp2_with fail
                go_loopw [130] (fun y wr => ∃ x : Nat, x ≤ k ∧ y = .int .i64 x ∧ Hid (∀ x', x' < x → AtOk ts f n x') ∧ Below wp.heap.size wp wr) (fun y _ => k - (intOf y).toNat)
                case atStart => exact ⟨0, Nat.zero_le _, rfl, hide (fun x hx => by omega), Below.refl _ _⟩
                case round =>
                  rename World => wq
                  obtain ⟨x, hx, rfl, HAt, hbq⟩ := hrel
                  have hbq2 := hbp.trans (hbq.mono hbp.size)
                  by_cases hxk : x < k
                  · obtain ⟨bt, offt, rfl, hbt, hrowt⟩ := HRt.out (by omega)
                    obtain ⟨y, p1, p2', i1⟩ := hrowt x hxk
                    have l1 := (hbq2.cell (p := ⟨bt, offt + x * 2, none⟩) hbt).trans p1
                    have l2 := (hbq2.cell (p := ⟨bt, offt + x * 2 + 1, none⟩) hbt).trans p2'
                    obtain ⟨ay, cy, rfl, hry⟩ := i1
                    have HRy := hide hry
                    have hx0 : (0 : Int) ≤ (x : Int) := by omega
                    have hx1 : (x : Int) < (k : Int) := by omega
                    have hdn := (Below.refl wq.heap.size wq).alloc (Nat.le_refl _) (.cells #[.int .i64 (ts x).long, .slice ay (ts x).nn cy] 53)
                    have hbE := hbq.trans (hdn.mono hbq.size)
                    have hbE2 := hbq2.trans (hdn.mono hbq2.size)
                    have HTk := hide (Blk.fresh wq #[.int .i64 (ts x).long, .slice ay (ts x).nn cy] 2 (p2 (.int .i64 (ts x).long) (.slice ay (ts x).nn cy)) 53 rfl)
                    have HBE := hide (HBk.out.down hbE)
                    have d0 := HBE.out.cell_ints hxk
                    have har := atF_range HO.out.1 x
                    have HBad := hide (show ¬ AtOk ts f n x → b1 = false from fun h => by
                      rw [← H1.out, decide_eq_false_iff_not]
                      exact fun hh => h (sched_at HBn.out hh hxk))
                    have HNd := hide (show ∀ q, q < (ts x).nn → ∃ z : Nat, (ts x).fn q = (z : Int) ∧ z < k ∧ ((ts x).fn q).toNat = z from fun q hq => HBn.out.need hxk hq)
                    have hln := HBn.out.len hxk
                    have HRt2 := hide hrowt
                    clear hrowt p1 p2' hry
                    by_cases hneg : atF f n x < 0
                    · have hdn0 : decide (atF f n x < 0) = true := decide_eq_true hneg
                      obtain rfl : b1 = false := HBad.out (fun h => by have := h.1; omega)
                      clear HBad HO HBE H1 HRy HTk HNd HAt HBk
                      go_wp2
                      go_ret2
                      exact ⟨rfl, hbE2⟩
                    · have hdn0 : decide (atF f n x < 0) = false := decide_eq_false hneg
                      obtain ⟨-, tk1, -, -⟩ := HTk.out.pair
                      go_wp2_with fail
                      generalize hW6 : wq.alloc _ = w6 at *
                      have hs6 : wq.heap.size < w6.heap.size := by rw [← hW6]; simp
                      clear hW6 l1 l2 d0 tk1 hdn
                      obtain ⟨nt, hnt⟩ : ∃ m, (ts x).nn = m := ⟨_, rfl⟩
                      have HNt := hide hnt
                      rw [hnt] at hln HRy HNd ⊢
                      clear hnt
                      go_loopw [143] (fun y wr => ∃ q : Nat, q ≤ nt ∧ y = .int .i64 q ∧ Hid (∀ q', q' < q → atF f n ((ts x).fn q').toNat + (ts ((ts x).fn q').toNat).long ≤ atF f n x) ∧ Below w6.heap.size w6 wr) (fun y _ => nt - (intOf y).toNat)
                      case atStart => exact ⟨0, Nat.zero_le _, rfl, hide (fun q h => by omega), Below.refl _ _⟩
                      case round =>
                        rename World => wr
                        obtain ⟨q, hq, rfl, HQ, hbr⟩ := hrel
                        have hbr2 := hbE2.trans (hbr.mono hbE2.size)
                        by_cases hql : q < nt
                        · obtain ⟨by', offy, rfl, hby, hrowy⟩ := HRy.out (by omega)
                          have c0 := (hbr2.cell (p := ⟨by', offy + q, none⟩) hby).trans (hrowy q hql)
                          obtain ⟨z, hz, hzk, hzt⟩ := HNd.out q hql
                          rw [hz] at c0
                          have e0 := (HBE.out.down hbr).cell_ints hzk
                          have e1 := (HBE.out.down hbr).cell_ints hxk
                          obtain ⟨_, p1, _, _⟩ := HRt2.out z hzk
                          have l1 := (hbr2.cell (p := ⟨bt, offt + z * 2, none⟩) hbt).trans p1
                          have hzr := atF_range HO.out.1 z
                          have hlz := (HBn.out.2 z hzk).1
                          have hz0 : (0 : Int) ≤ (z : Int) := by omega
                          have hz1 : (z : Int) < (k : Int) := by omega
                          have hq0 : (0 : Int) ≤ (q : Int) := by omega
                          have hq1 : (q : Int) < (nt : Int) := by omega
                          have HQz := hide (show atF f n ((ts x).fn q).toNat + (ts ((ts x).fn q).toNat).long = atF f n z + (ts z).long by rw [hzt])
                          have hzr1 := hzr.1
                          have hzr2 := hzr.2.1
                          have har1 := har.1
                          have har2 := har.2.1
                          clear hzr har hzt hz hrowy p1
                          by_cases hle : atF f n z + (ts z).long ≤ atF f n x
                          · have hd : decide (atF f n x < atF f n z + (ts z).long) = false := decide_eq_false (by omega)
                            have HQ2 := hide (show ∀ q', q' < q + 1 → atF f n ((ts x).fn q').toNat + (ts ((ts x).fn q').toNat).long ≤ atF f n x from fun q' hq' => by
                              rcases (show q' < q ∨ q' = q by omega) with h | h
                              · exact HQ.out q' h
                              · subst h; rw [HQz.out]; exact hle)
                            clear HQ hle HQz
                            generalize atF f n z = az at *
                            generalize (ts z).long = lz at *
                            go_wp2_with fail
                            go_big_quiet (fail)
                            have hbr3 := below_drewN hbr nq
                            go_wp2
                            exact ⟨⟨q + 1, by omega, by go_num, HQ2, hbr3⟩, by simp [intOf]; omega⟩
                          · have hd : decide (atF f n x < atF f n z + (ts z).long) = true := decide_eq_true (by omega)
                            obtain rfl : b1 = false := HBad.out (fun h => by
                              have := h.2 q (by rw [HNt.out]; exact hql)
                              rw [HQz.out] at this
                              exact hle this)
                            clear HQ hle HQz HBad HO H1 HAt HBE HBk HNd HRy HRt2 HNt
                            generalize atF f n z = az at *
                            generalize (ts z).long = lz at *
                            go_wp2_with fail
                            go_big_quiet (fail)
                            have hbr3 := below_drewN hbr2 nq
                            go_wp2
                            go_ret2
                            exact ⟨rfl, hbr3⟩
                        · obtain rfl : nt = q := by omega
                          have HA2 := hide (show ∀ x', x' < x + 1 → AtOk ts f n x' from fun x' hx' => by
                            rcases (show x' < x ∨ x' = x by omega) with h | h
                            · exact HAt.out x' h
                            · subst h; exact ⟨by omega, by rw [HNt.out]; exact HQ.out⟩)
                          have hbf := hbE.trans (hbr.mono hbE.size)
                          clear HAt HQ HBE HTk HNd HRy HNt HBad
                          go_wp2
                          exact ⟨⟨x + 1, by omega, by go_num, HA2, hbf⟩, by simp [intOf]; omega⟩
                  · obtain rfl : k = x := by omega
                    obtain rfl : b1 = true := by rw [← H1.out, decide_eq_true_eq]; exact at_sched HBn.out HO.out.1 HO.out.2 HAt.out
                    clear HAt HO H1 HBk
                    go_wp2
                    go_ret2
                    exact ⟨rfl, hbq2⟩
      · have hd30 : decide ((30 : Int) < (n : Int)) = true := decide_eq_true (by omega)
        obtain rfl : b2 = false := by rw [← h2, decide_eq_false_iff_not]; exact fun h => h30 h.2.2
        obtain rfl : b1 = false := by rw [← h1, decide_eq_false_iff_not]; exact fun h => h30 h.1.2.2
        clear h1 h2 hg
        go_enter Try.func37, Try.ntmps37
        go_wp2_with fail
        refine HG.out.mono ?_
        rintro e w1 ⟨rfl, hb1⟩
        go_wp2_with fail
        refine (l1in_to p 1 8 true _ HP.out).mono ?_
        rintro e w1' ⟨rfl, rfl⟩
        clear HG
        go_wp2
        go_ret2
        exact ⟨rfl, hb1⟩
    · have HP := hide (decide_eq_false hp)
      obtain rfl : b2 = false := by rw [← h2, decide_eq_false_iff_not]; exact fun h => hp h.2.1
      obtain rfl : b1 = false := by rw [← h1, decide_eq_false_iff_not]; exact fun h => hp h.1.2.1
      clear h1 h2 hg hp
      go_enter Try.func37, Try.ntmps37
      go_wp2_with fail
      refine HG.out.mono ?_
      rintro e w1 ⟨rfl, hb1⟩
      go_wp2_with fail
      refine (l1in_to p 1 8 false _ HP.out).mono ?_
      rintro e w1' ⟨rfl, rfl⟩
      clear HG
      go_wp2
      go_ret2
      exact ⟨rfl, hb1⟩
  · have HG := hide (spec_good _ k ts false w HV.out HS.out (decide_eq_false hg))
    obtain rfl : b2 = false := by rw [← h2, decide_eq_false_iff_not]; exact fun h => hg h.1
    obtain rfl : b1 = false := by rw [← h1, decide_eq_false_iff_not]; exact fun h => hg h.1.1
    clear h1 h2 hg
    go_enter Try.func37, Try.ntmps37
    go_wp2_with fail
    refine HG.out.mono ?_
    rintro e w1 ⟨rfl, hb1⟩
    clear HG
    go_wp2
    go_ret2
    exact ⟨rfl, hb1⟩
end Go.Proofs.Ytlegbkafpfkjeaa
