/-
  The specification's CutIsWhole, at all arguments.
-/
import Derived.Test.YtoholagamandpaaCutI
namespace Go.Proofs.Ytoholagamandpaa
open Go.RowKit M
open Clk (upd upd_same upd_other)
namespace M
def inF (l : Nat → Ac) (c : Nat → Int) (i : Nat) : Nat → Value := fun j => .bool (decide (j < i) && InB l c j)
theorem inF_zero (l : Nat → Ac) (c : Nat → Int) : inF l c 0 = fun _ => .bool false := by funext j; simp [inF]
theorem inF_succ (l : Nat → Ac) (c : Nat → Int) (i : Nat) : upd (inF l c i) i (.bool (InB l c i)) = inF l c (i + 1) := by
  funext j; unfold upd inF
  by_cases h : j = i
  · subst h; simp
  · rw [if_neg h]
    have : decide (j < i) = decide (j < i + 1) := by rw [Bool.eq_iff_iff]; simp; omega
    rw [this]
end M
set_option maxHeartbeats 2000000 in
theorem spec_cut_no (p : Int) (v u : Value) (m n : Nat) (l : Nat → Ac) (c : Nat → Int) (w : World) (hv : ActsOf w v n l) (hu : IntsOf w u m c) (hn : n ≤ 1048576) (hno : ¬ (GoodL p n l ∧ p = (m : Int))) (h1 : -9223372036854775808 ≤ p) (h2 : p ≤ 9223372036854775807) :
    Calls Try.prog 13 #[.int .i64 p, v, u] w fun e w' => e = .returned (.tuple #[.bool false, .bool false]) ∧ Below w.heap.size w w' := by
  have HV := hide hv
  obtain ⟨a, cap, rfl⟩ := hv.form
  obtain ⟨a2, cap2, rfl⟩ := hu.form
  clear hv hu
  by_cases hg : GoodL p n l
  · have HG := hide hg
    have hmm : ((m : Int) != p) = true := by
      have : ¬ p = (m : Int) := fun h => hno ⟨hg, h⟩
      simp; omega
    clear hno hg
    go_enter Try.func13, Try.ntmps13
    go_wp2_with fail
    refine (spec_good_yes p _ n l _ HV.out HG.out).mono ?_
    rintro e w1 ⟨rfl, hb1⟩
    go_wp2
    go_ret2
    exact ⟨rfl, hb1⟩
  · have HG := hide hg
    clear hno hg
    go_enter Try.func13, Try.ntmps13
    go_wp2_with fail
    refine (spec_good_no p _ n l _ HV.out hn HG.out h1 h2).mono ?_
    rintro e w1 ⟨rfl, hb1⟩
    go_wp2
    go_ret2
    exact ⟨rfl, hb1⟩
set_option maxHeartbeats 4000000 in
theorem spec_cut (v u : Value) (m n : Nat) (l : Nat → Ac) (c : Nat → Int) (b ok : Bool) (w : World) (hv : ActsOf w v n l) (hu : IntsOf w u m c) (hg : GoodL (m : Int) n l) (hok : ok = true ↔ CutOk m n l c) (hb1 : ok = true → (b = true ↔ WS n l c)) (hb0 : ok = false → b = false) :
    Calls Try.prog 13 #[.int .i64 (m : Int), v, u] w fun e w' => e = .returned (.tuple #[.bool b, .bool ok]) ∧ Below w.heap.size w w' := by
  have hn : n ≤ 60 := hg.2.1
  have hm6 : m ≤ 6 := by have := hg.1.2; omega
  have HV := hide hv
  have HG := hide hg
  have HB := hide (And.intro hok (And.intro hb1 hb0))
  obtain ⟨a, cap, rfl, hr⟩ := hv
  obtain ⟨a2, cap2, rfl, hr2⟩ := hu
  have HR := hide hr
  have HR2 := hide hr2
  have hmm : ((m : Int) != (m : Int)) = false := by simp
  have hmk := make_ints m (by omega)
  have hmk2 := make_bools n (by omega)
  clear hg hok hb1 hb0 hr hr2
  go_enter Try.func13, Try.ntmps13
  go_wp2_with fail
  refine (spec_good_yes _ _ n l _ HV.out HG.out).mono ?_
  rintro e w1 ⟨rfl, hb1⟩
  have hs1 := hb1.size
  go_wp2
  go_loopw [34] (fun y wr => ∃ i : Nat, i ≤ n ∧ y = .int .i64 i ∧ Hid (Blk wr w1.heap.size m (iv (Cf l i)) 3) ∧ Hid (Blk wr (w1.heap.size + 1) n (inF l c i) 4) ∧ Below w1.heap.size w1 wr) (fun y _ => n - (intOf y).toNat)
  case atStart =>
    refine ⟨0, Nat.zero_le _, rfl, hide ?_, hide ?_, ((Below.refl _ _).alloc (Nat.le_refl _) _).alloc (by simp) _⟩
    · rw [Cf_zero]; exact (Blk.new w1 m _ _).alloc _
    · have := Blk.new (w1.alloc (.cells (cf m (iv fun _ => 0)) 3)) n (fun _ => .bool false) 4
      rw [World.size_alloc] at this; rw [inF_zero]; exact this
  case round =>
    rename World => wo
    obtain ⟨i, hin, rfl, HC, HI, hbw⟩ := hrel
    have hbf := hb1.trans (hbw.mono hs1)
    by_cases hlt : i < n
    · obtain ⟨ba, off, rfl, hba, hrow⟩ := HR.out (by omega)
      obtain ⟨hP, hP6, hPm⟩ := good_P HG.out hlt
      have hPm2 : P l i < m := by omega
      obtain ⟨b2, off2, rfl, hb2, hrow2⟩ := HR2.out (by omega)
      have c0 := (hbf.cell (p := ⟨ba, off + i * 2, none⟩) hba).trans (hrow i hlt).1
      have c1 := (hbf.cell (p := ⟨ba, off + i * 2 + 1, none⟩) hba).trans (hrow i hlt).2
      have c2 := (hbf.cell (p := ⟨b2, off2 + P l i, none⟩) hb2).trans (hrow2 (P l i) hPm2)
      rw [hP] at c0
      have hsz := hbw.size
      have hlC := HC.out.lt
      have hlI := HI.out.lt
      have hCb := Cf_le l i (P l i)
      have hP0 : (0 : Int) ≤ ((P l i : Nat) : Int) := by omega
      have hP1 : ((P l i : Nat) : Int) < (m : Int) := by omega
      have hi0 : (0 : Int) ≤ (i : Int) := by omega
      have hi1 : (i : Int) < (n : Int) := by omega
      have hb2o : b2 < wo.heap.size := Nat.lt_of_lt_of_le hb2 hbf.size
      clear hrow hrow2 HR HR2
      go_wp2
      generalize hW : wo.alloc _ = w6
      have hb6 : Below wo.heap.size wo w6 := by rw [← hW]; exact (Below.refl _ _).alloc (Nat.le_refl _) _
      have hbA : Blk w6 wo.heap.size 2 (av fun _ => ⟨((P l i : Nat) : Int), (l i).frm⟩) 31 := by rw [← hW]; exact Blk.fresh wo _ 2 _ _ rfl
      have hbC := HC.out.down hb6
      have hbI := HI.out.down hb6
      have hbw6 := hbw.trans (hb6.mono hsz)
      have r0 := hbA.cell (show 0 < 2 by omega)
      have d1 := hbC.cell_ints hPm2
      have d2 := hbC.thaw (P l i)
      have d3 := hbI.cell hlt
      have d4 := hbI.thaw i
      have d5 := (hb6.cell (p := ⟨b2, off2 + P l i, none⟩) hb2o).trans c2
      simp only [show av (fun _ => (⟨((P l i : Nat) : Int), (l i).frm⟩ : Ac)) 0 = .int .i64 ((P l i : Nat) : Int) from rfl] at r0
      clear c0 c1 c2 hbA HC HI hW
      have n1 : wo.heap.size ≠ w1.heap.size := by omega
      have n2 : w1.heap.size ≠ wo.heap.size := by omega
      have n3 : wo.heap.size ≠ w1.heap.size + 1 := by omega
      have n4 : w1.heap.size + 1 ≠ wo.heap.size := by omega
      have HbC := hide hbC
      have HbI := hide hbI
      have HBe := hide (show InB l c i = decide (Cf l i (P l i) < c (P l i)) from rfl)
      clear hbC hbI
      go_region
      generalize hx : Cf l i (P l i) = x at *
      go_wp2
      refine ⟨⟨i + 1, by omega, by go_num, hide ?_, hide ?_, ?_⟩, by simp [intOf]; omega⟩
      · rw [← Cf_succ, hx]
        exact ((HbC.out.set_other (by omega) _ _).set_int (P l i) (x + 1)).drew
      · rw [← inF_succ, HBe.out]
        exact ((HbI.out.set i _).set_other (by omega) _ _).drew
      · exact ((hbw6.setCell (by simp) _).setCell (Nat.le_refl _) _).drew
    · obtain rfl : i = n := by omega
      clear HR
      go_wp2
      go_loopw [63] (fun y wr => ∃ q : Nat, q ≤ m ∧ y = .int .i64 q ∧ Hid (∀ j, j < q → 0 ≤ c j ∧ c j ≤ Cf l i j) ∧ Below wo.heap.size wo wr) (fun y _ => m - (intOf y).toNat)
      case atStart => exact ⟨0, Nat.zero_le _, rfl, hide (fun j hj => absurd hj (by omega)), Below.refl _ _⟩
      case round =>
        rename World => wq
        obtain ⟨q, hqm, rfl, HQ, hbq⟩ := hrel
        have hbfq := hbf.trans (hbq.mono hbf.size)
        by_cases hlt2 : q < m
        · obtain ⟨b2, off2, rfl, hb2, hrow2⟩ := HR2.out (by omega)
          have e0 := (hbfq.cell (p := ⟨b2, off2 + q, none⟩) hb2).trans (hrow2 q hlt2)
          have d1 := (HC.out.down hbq).cell_ints hlt2
          have hq0 : (0 : Int) ≤ (q : Int) := by omega
          have hq1 : (q : Int) < (m : Int) := by omega
          clear hrow2 HR2
          by_cases hokq : 0 ≤ c q ∧ c q ≤ Cf l i q
          · have HQ2 := hide (show ∀ j, j < q + 1 → 0 ≤ c j ∧ c j ≤ Cf l i j from fun j hj => by
              by_cases he : j = q
              · subst he; exact hokq
              · exact HQ.out j (by omega))
            have HK := hide hokq
            clear HQ hokq HC HI
            go_wp2_with fail
            refine (l1in_to _ _ _ true _ (decide_eq_true HK.out)).mono ?_
            rintro e w3 ⟨rfl, rfl⟩
            go_wp2
            go_roundw
            case rel => exact ⟨q + 1, by omega, by go_num, HQ2, hbq⟩
            case measure => simp [intOf]; omega
          · have HK := hide hokq
            have hbb : ok = false ∧ b = false := by
              have h1 : ok = false := by
                cases hbv : ok
                · rfl
                · exact absurd ((HB.out.1.1 hbv) q hlt2) hokq
              exact ⟨h1, HB.out.2.2 h1⟩
            obtain ⟨rfl, rfl⟩ := hbb
            clear HQ hokq HC HI
            go_wp2_with fail
            refine (l1in_to _ _ _ false _ (decide_eq_false HK.out)).mono ?_
            rintro e w3 ⟨rfl, rfl⟩
            go_wp2
            go_ret2
            exact ⟨rfl, hbfq⟩
        · obtain rfl : q = m := by omega
          have hok1 : ok = true := HB.out.1.2 HQ.out
          have HW := hide (HB.out.2.1 hok1)
          subst hok1
          have HIq := hide (HI.out.down hbq)
          clear HQ HR2 HC HI HB
          go_wp2_with fail
          refine (l2_ahead _ _ i l _ (HV.out.below hbfq) HG.out).mono ?_
          rintro e w8 ⟨⟨r, rfl, hT⟩, hb8⟩
          have hbf8 := hbfq.trans (hb8.mono hbfq.size)
          obtain ⟨ta, tc, rfl⟩ := hT.form
          have HT := hide hT
          have HI8 := hide (HIq.out.down hb8)
          clear hT hb8 HIq HV HG
          go_wp2
          go_loop [79] (fun y => ∃ j : Nat, j ≤ i ∧ y = .int .i64 j ∧ Hid (∀ i', i' < j → ∀ k, k < i' → ¬ (InB l c i' = true ∧ Ab l i' k = true ∧ InB l c k = false))) (fun y => i - (intOf y).toNat)
          case atStart => exact ⟨0, Nat.zero_le _, rfl, hide (fun j hj => absurd hj (by omega))⟩
          case round =>
            obtain ⟨j, hji, rfl, HJ⟩ := hrel
            by_cases hlt3 : j < i
            · obtain ⟨ob, oc, gs, hr', hBo, hob, hrd⟩ := HT.out.read (by omega)
              obtain ⟨rfl, rfl⟩ : ta = some ⟨ob, 0, none⟩ ∧ tc = oc := by simpa using hr'
              have o0 := (hrd j hlt3).1
              have HK := hide (hrd j hlt3).2.2
              clear hrd hr' HT
              have hj0 : (0 : Int) ≤ (j : Int) := by omega
              have hj1 : (j : Int) < (i : Int) := by omega
              go_wp2
              go_loop [16] (fun y => ∃ k : Nat, k ≤ j ∧ y = .int .i64 k ∧ Hid (∀ k', k' < k → ¬ (InB l c j = true ∧ Ab l j k' = true ∧ InB l c k' = false))) (fun y => j - (intOf y).toNat)
              case atStart => exact ⟨0, Nat.zero_le _, rfl, hide (fun j hj => absurd hj (by omega))⟩
              case round =>
                obtain ⟨k, hkj, rfl, HKK⟩ := hrel
                by_cases hlt4 : k < j
                · have x0 := HI8.out.cell hlt3
                  have x1 := HI8.out.cell (show k < i by omega)
                  have x2 := HK.out.cell (show k < i by omega)
                  simp only [inF, hlt3, show k < i by omega, decide_true, Bool.true_and] at x0 x1
                  by_cases hvi : InB l c j = true ∧ Ab l j k = true ∧ InB l c k = false
                  · obtain ⟨v1, v2, v3⟩ := hvi
                    have hbb : b = false := by
                      cases hbv : b
                      · rfl
                      · exact absurd ⟨v1, v2, v3⟩ ((HW.out.1 hbv) j hlt3 k hlt4)
                    subst hbb
                    rw [v1] at x0
                    rw [v3] at x1
                    rw [v2] at x2
                    clear HKK HJ v1 v2 v3
                    go_wp2
                    go_ret2
                    exact ⟨rfl, hbf8⟩
                  · have HK2 := hide (show ∀ k', k' < k + 1 → ¬ (InB l c j = true ∧ Ab l j k' = true ∧ InB l c k' = false) from fun k' hk' => by
                      by_cases he : k' = k
                      · subst he; exact hvi
                      · exact HKK.out k' (by omega))
                    clear HKK
                    rcases (show InB l c j = false ∨ InB l c j = true by cases InB l c j <;> simp) with v1 | v1
                    · rw [v1] at x0
                      clear hvi v1
                      go_wp2
                      go_round
                      case rel => exact ⟨k + 1, by omega, by go_num, HK2⟩
                      case measure => simp [intOf]; omega
                    · rcases (show Ab l j k = false ∨ Ab l j k = true by cases Ab l j k <;> simp) with v2 | v2
                      · rw [v1] at x0
                        rw [v2] at x2
                        clear hvi v1 v2
                        go_wp2
                        go_round
                        case rel => exact ⟨k + 1, by omega, by go_num, HK2⟩
                        case measure => simp [intOf]; omega
                      · have v3 : InB l c k = true := by
                          cases v3 : InB l c k
                          · exact absurd ⟨v1, v2, v3⟩ hvi
                          · rfl
                        rw [v1] at x0
                        rw [v2] at x2
                        rw [v3] at x1
                        clear hvi v1 v2 v3
                        go_wp2
                        go_round
                        case rel => exact ⟨k + 1, by omega, by go_num, HK2⟩
                        case measure => simp [intOf]; omega
                · obtain rfl : k = j := by omega
                  have HJ2 := hide (show ∀ i', i' < k + 1 → ∀ k', k' < i' → ¬ (InB l c i' = true ∧ Ab l i' k' = true ∧ InB l c k' = false) from fun i' hi' => by
                    by_cases he : i' = k
                    · subst he; exact HKK.out
                    · exact HJ.out i' (by omega))
                  clear HJ HKK
                  go_wp2
                  exact ⟨⟨k + 1, by omega, by go_num, HJ2⟩, by simp [intOf]; omega⟩
            · obtain rfl : j = i := by omega
              have hbb : b = true := HW.out.2 HJ.out
              subst hbb
              clear HJ HT HI8
              go_wp2
              go_ret2
              exact ⟨rfl, hbf8⟩
end Go.Proofs.Ytoholagamandpaa
