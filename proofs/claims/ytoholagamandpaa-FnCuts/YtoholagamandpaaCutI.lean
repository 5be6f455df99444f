/-
  The program's CutIsWhole, at all arguments.
-/
import Derived.Test.YtoholagamandpaaCutM
namespace Go.Proofs.Ytoholagamandpaa
open Go.RowKit M
open Clk (upd upd_same upd_other)
set_option maxHeartbeats 2000000 in
theorem good_cut (m n : Nat) (v u : Value) (l : Nat → Ac) (c : Nat → Int) (b : Bool) (w : World) (hv : ActsOf w v n l) (hu : IntsOf w u m c) (hg : GoodL (m : Int) n l) (hb : b = true ↔ CutOk m n l c) :
    Calls Try.prog 42 #[.int .i64 (m : Int), v, u] w fun e w' => e = .returned (.bool b) ∧ Below w.heap.size w w' := by
  have hn : n ≤ 60 := hg.2.1
  have hm6 : m ≤ 6 := by have := hg.1.2; omega
  obtain ⟨a, cap, rfl, hr⟩ := hv
  obtain ⟨a2, cap2, rfl, hr2⟩ := hu
  have HR := hide hr
  have HR2 := hide hr2
  have HG := hide hg
  have HB := hide hb
  have hmm : ((m : Int) != (m : Int)) = false := by simp
  clear hr hr2 hg hb
  go_enter Try.func42, Try.ntmps42
  go_wp2
  go_loopw [18] (fun y wr => ∃ i : Nat, i ≤ n ∧ y = .int .i64 i ∧ Hid (Blk wr w.heap.size 6 (iv (Cf l i)) 67) ∧ Below w.heap.size w wr) (fun y _ => n - (intOf y).toNat)
  case atStart => exact ⟨0, Nat.zero_le _, rfl, hide (by rw [Cf_zero]; exact Blk.fresh w _ 6 (iv fun _ => 0) _ rfl), (Below.refl _ _).alloc (Nat.le_refl _) _⟩
  case round =>
    rename World => wo
    obtain ⟨i, hin, rfl, HC, hbw⟩ := hrel
    by_cases hlt : i < n
    · obtain ⟨ba, off, rfl, hba, hrow⟩ := HR.out (by omega)
      obtain ⟨hP, hP6, _⟩ := good_P HG.out hlt
      have c0 := (hbw.cell (p := ⟨ba, off + i * 2, none⟩) hba).trans (hrow i hlt).1
      have c1 := (hbw.cell (p := ⟨ba, off + i * 2 + 1, none⟩) hba).trans (hrow i hlt).2
      rw [hP] at c0
      have hsz := hbw.size
      have hlC := HC.out.lt
      have d1 := HC.out.cell_ints hP6
      have d2 := HC.out.thaw (P l i)
      have hCb := Cf_le l i (P l i)
      have hP0 : (0 : Int) ≤ ((P l i : Nat) : Int) := by omega
      have hP1 : ((P l i : Nat) : Int) < 6 := by omega
      have n1 : wo.heap.size ≠ w.heap.size := by omega
      have n2 : w.heap.size ≠ wo.heap.size := by omega
      have H2 := hide (show ∀ (o : Obj) (x : Int), x = Cf l i (P l i) + 1 → Blk ((wo.setCell ⟨w.heap.size, P l i, none⟩ (.int .i64 x)).alloc o) w.heap.size 6 (iv (Cf l (i + 1))) 67 ∧ Below w.heap.size w ((wo.setCell ⟨w.heap.size, P l i, none⟩ (.int .i64 x)).alloc o) from fun o x hx => by
        subst hx
        refine ⟨Blk.alloc ?_ o, (hbw.setCell (Nat.le_refl _) _).alloc (by simpa using hsz) o⟩
        rw [← Cf_succ]; exact HC.out.set_int _ _)
      clear hrow HR HR2 HC
      generalize hx : Cf l i (P l i) = x at *
      go_wp2
      exact ⟨⟨i + 1, by omega, by go_num, hide (H2.out _ _ rfl).1, (H2.out _ _ rfl).2⟩, by simp [intOf]; omega⟩
    · obtain rfl : i = n := by omega
      clear HR
      go_wp2
      go_loopw [31] (fun y wr => ∃ q : Nat, q ≤ m ∧ y = .int .i64 q ∧ Hid (∀ j, j < q → 0 ≤ c j ∧ c j ≤ Cf l i j) ∧ Below wo.heap.size wo wr) (fun y _ => m - (intOf y).toNat)
      case atStart => exact ⟨0, Nat.zero_le _, rfl, hide (fun j hj => absurd hj (by omega)), Below.refl _ _⟩
      case round =>
        rename World => wq
        obtain ⟨q, hqm, rfl, HQ, hbq⟩ := hrel
        have hbf := hbw.trans (hbq.mono hbw.size)
        by_cases hlt2 : q < m
        · obtain ⟨b2, off2, rfl, hb2, hrow2⟩ := HR2.out (by omega)
          have e0 := (hbf.cell (p := ⟨b2, off2 + q, none⟩) hb2).trans (hrow2 q hlt2)
          have d1 := (HC.out.down hbq).cell_ints (show q < 6 by omega)
          have hq0 : (0 : Int) ≤ (q : Int) := by omega
          have hq1 : (q : Int) < 6 := by omega
          clear hrow2 HR2
          by_cases hok : 0 ≤ c q ∧ c q ≤ Cf l i q
          · have HQ2 := hide (show ∀ j, j < q + 1 → 0 ≤ c j ∧ c j ≤ Cf l i j from fun j hj => by
              by_cases he : j = q
              · subst he; exact hok
              · exact HQ.out j (by omega))
            have HK := hide hok
            clear HQ hok HC
            go_wp2_with fail
            refine (within_to _ _ _ true _ (decide_eq_true HK.out)).mono ?_
            rintro e w3 ⟨rfl, rfl⟩
            go_wp2
            go_roundw
            case rel => exact ⟨q + 1, by omega, by go_num, HQ2, hbq⟩
            case measure => simp [intOf]; omega
          · have HK := hide hok
            have hbb : b = false := by
              cases hbv : b
              · rfl
              · exact absurd ((HB.out.1 hbv) q hlt2) hok
            subst hbb
            clear HQ hok HC
            go_wp2_with fail
            refine (within_to _ _ _ false _ (decide_eq_false HK.out)).mono ?_
            rintro e w3 ⟨rfl, rfl⟩
            go_wp2
            go_ret
            exact ⟨rfl, hbf⟩
        · obtain rfl : q = m := by omega
          have hbb : b = true := HB.out.2 HQ.out
          subst hbb
          clear HQ HR2 HC
          go_wp2
          go_ret
          exact ⟨rfl, hbf⟩
set_option maxHeartbeats 2000000 in
theorem good_cut_no (p : Int) (m : Nat) (v u : Value) (w : World) (a a2 : Option Addr) (n cap cap2 : Nat) (hv : v = .slice a n cap) (hu : u = .slice a2 m cap2) (hp : p ≠ (m : Int)) :
    Calls Try.prog 42 #[.int .i64 p, v, u] w fun e w' => e = .returned (.bool false) ∧ Below w.heap.size w w' := by
  subst hv hu
  have hmm : ((m : Int) != p) = true := by simp; omega
  clear hp
  go_enter Try.func42, Try.ntmps42
  go_wp2
  go_ret
  exact ⟨rfl, Below.refl _ _⟩
/-- The arguments are as CutIsWhole wants them. -/
def Fine (p : Int) (m n : Nat) (l : Nat → Ac) (c : Nat → Int) : Prop := GoodL p n l ∧ p = (m : Int) ∧ CutOk m n l c
set_option maxHeartbeats 2000000 in
theorem impl_cut_no (p : Int) (v u : Value) (m n : Nat) (l : Nat → Ac) (c : Nat → Int) (w : World) (hv : ActsOf w v n l) (hu : IntsOf w u m c) (hn : n ≤ 1048576) (hno : ¬ Fine p m n l c) :
    Calls Try.prog 12 #[.int .i64 p, v, u] w fun e w' => e = .returned (.tuple #[.bool false, .bool false]) ∧ Below w.heap.size w w' := by
  have HV := hide hv
  have HU := hide hu
  obtain ⟨a, cap, rfl⟩ := hv.form
  obtain ⟨a2, cap2, rfl⟩ := hu.form
  clear hv hu
  by_cases hg : GoodL p n l
  · have HG := hide hg
    have HX := hide (show ∀ w1 : World, Below w.heap.size w w1 → Calls Try.prog 42 #[.int .i64 p, .slice a n cap, .slice a2 m cap2] w1 fun e w' => e = .returned (.bool false) ∧ Below w1.heap.size w1 w' from fun w1 hb => by
      by_cases hp : p = (m : Int)
      · subst hp
        exact good_cut m n _ _ l c false w1 (HV.out.below hb) (HU.out.below hb) hg ⟨fun h => (by cases h), fun h => absurd ⟨hg, rfl, h⟩ hno⟩
      · exact good_cut_no p m _ _ w1 a a2 n cap cap2 rfl rfl hp)
    clear hno hg
    go_enter Try.func12, Try.ntmps12
    go_wp2_with fail
    refine (impl_good_yes p _ n l _ HV.out HG.out).mono ?_
    rintro e w1 ⟨rfl, hb1⟩
    go_wp2_with fail
    refine (HX.out _ hb1).mono ?_
    rintro e w2 ⟨rfl, hb2⟩
    have hbf := hb1.trans (hb2.mono hb1.size)
    go_wp2
    go_ret2
    exact ⟨rfl, hbf⟩
  · have HG := hide hg
    clear hno hg
    go_enter Try.func12, Try.ntmps12
    go_wp2_with fail
    refine (impl_good_no p _ n l _ HV.out hn HG.out).mono ?_
    rintro e w1 ⟨rfl, hb1⟩
    go_wp2
    go_ret2
    exact ⟨rfl, hb1⟩
set_option maxHeartbeats 4000000 in
theorem impl_cut (v u : Value) (m n : Nat) (l : Nat → Ac) (c : Nat → Int) (b : Bool) (w : World) (hv : ActsOf w v n l) (hu : IntsOf w u m c) (hf : Fine (m : Int) m n l c) (hb : b = true ↔ WI m n l c) :
    Calls Try.prog 12 #[.int .i64 (m : Int), v, u] w fun e w' => e = .returned (.tuple #[.bool b, .bool true]) ∧ Below w.heap.size w w' := by
  obtain ⟨hg, -, hc⟩ := hf
  have hn : n ≤ 60 := hg.2.1
  have hm6 : m ≤ 6 := by have := hg.1.2; omega
  have HV := hide hv
  have HU := hide hu
  have HG := hide hg
  have HB := hide hb
  have HC := hide hc
  obtain ⟨a, cap, rfl, hr⟩ := hv
  obtain ⟨a2, cap2, rfl⟩ := hu.form
  have HR := hide hr
  clear hu hg hb hc hr
  go_enter Try.func12, Try.ntmps12
  go_wp2_with fail
  refine (impl_good_yes _ _ n l _ HV.out HG.out).mono ?_
  rintro e w1 ⟨rfl, hb1⟩
  go_wp2_with fail
  refine (good_cut m n _ _ l c true _ (HV.out.below hb1) (HU.out.below hb1) HG.out ⟨fun _ => HC.out, fun _ => rfl⟩).mono ?_
  rintro e w2 ⟨rfl, hb⟩
  have hb2 := hb1.trans (hb.mono hb1.size)
  clear hb hb1
  go_wp2_with fail
  refine (vector_of _ m c _ (HU.out.below hb2) hm6).mono ?_
  rintro e w3 ⟨rfl, hb⟩
  have hb3 := hb2.trans (hb.mono hb2.size)
  clear hb hb2
  have HE := hide (show ∀ w4, w3.alloc (.cells (cf 6 (iv (pad m c))) 67) = w4 → Blk w4 w3.heap.size 6 (iv (pad m c)) 67 ∧ Below w3.heap.size w3 w4 from by
    rintro w4 rfl
    exact ⟨Blk.new w3 6 _ _, (Below.refl _ _).alloc (Nat.le_refl _) _⟩)
  go_wp2_with fail
  generalize hW : w3.alloc _ = w4
  obtain ⟨hbe, hb4⟩ := HE.out w4 hW
  have hbw4 := hb3.trans (hb4.mono hb3.size)
  have HEd := hide hbe
  clear hW HE hbe hb4
  refine (act_vectors _ _ n l _ (HV.out.below hbw4) HG.out).mono ?_
  rintro e w5 ⟨⟨rfl, hV⟩, hb5⟩
  have hbw5 := hbw4.trans (hb5.mono hbw4.size)
  have HE5 := hide (HEd.out.down hb5)
  have HV5 := hide hV
  clear hb5 HEd hV HU HV
  go_wp2
  go_loopw [28] (fun y wr => ∃ i : Nat, i ≤ n ∧ y = .int .i64 i ∧ Hid (∀ j, j < i → ¬ (InB l c j = true ∧ vle (Vf l j) (pad m c) = false)) ∧ Below w5.heap.size w5 wr) (fun y _ => n - (intOf y).toNat)
  case atStart => exact ⟨0, Nat.zero_le _, rfl, hide (fun j hj => absurd hj (by omega)), Below.refl _ _⟩
  case round =>
    rename World => wo
    obtain ⟨i, hin, rfl, HI, hbw⟩ := hrel
    have hbf := hbw5.trans (hbw.mono hbw5.size)
    by_cases hlt : i < n
    · obtain ⟨ba, off, rfl, hba, hrow⟩ := HR.out (by omega)
      obtain ⟨hP, hP6, hPm⟩ := good_P HG.out hlt
      obtain ⟨⟨s0, s1, s2, s3, s4, s5⟩, -⟩ := (HV5.out.down hbw).row6 (k := i) (by omega)
      have HRi := hide (show ∀ w6, Below wo.heap.size wo w6 → w6.cell? ⟨ba, off + i * 2, none⟩ = some (.int .i64 ((P l i : Nat) : Int)) from fun w6 hb6 => by
        rw [← hP]; exact ((hbf.trans (hb6.mono hbf.size)).cell (p := ⟨ba, off + i * 2, none⟩) hba).trans (hrow i hlt).1)
      have HE6 := hide (HE5.out.down hbw)
      have HO := hide (own_in c HG.out rfl hlt)
      clear hrow HR
      go_wp2
      generalize hW : wo.alloc _ = w6
      have hb6 : Below wo.heap.size wo w6 := by rw [← hW]; exact (Below.refl _ _).alloc (Nat.le_refl _) _
      have hbv : Blk w6 wo.heap.size 6 (iv (Vf l i)) 67 := by rw [← hW]; exact Blk.fresh wo _ 6 (iv (Vf l i)) _ rfl
      have hbe := HE6.out.down hb6
      have hbf6 := hbf.trans (hb6.mono hbf.size)
      have r0 := HRi.out w6 hb6
      have r1 := hbv.cell_ints hP6
      have r2 := hbe.cell_ints hP6
      obtain ⟨c0, c1, c2, c3, c4, c5⟩ := hbv.six
      obtain ⟨d0, d1, d2, d3, d4, d5⟩ := hbe.six
      have hP0 : (0 : Int) ≤ ((P l i : Nat) : Int) := by omega
      have hP1 : ((P l i : Nat) : Int) < 6 := by omega
      have hi0 : (0 : Int) ≤ (i : Int) := by omega
      have hi1 : (i : Int) < (n : Int) := by omega
      clear hW hbv hbe HE6 HRi s0 s1 s2 s3 s4 s5
      cases hin2 : InB l c i
      · have e1 : decide (Vf l i (P l i) ≤ pad m c (P l i)) = false := by rw [HO.out]; exact hin2
        have HI2 := hide (show ∀ j, j < i + 1 → ¬ (InB l c j = true ∧ vle (Vf l j) (pad m c) = false) from fun j hj => by
          by_cases he : j = i
          · subst he; rintro ⟨h, _⟩; rw [hin2] at h; cases h
          · exact HI.out j (by omega))
        clear HI hin2 HO
        go_big_quiet (fail)
        go_wp2
        exact ⟨⟨i + 1, by omega, by go_num, HI2, below_drewN (hbw.trans (hb6.mono hbw.size)) _⟩, by simp [intOf]; omega⟩
      · have e1 : decide (Vf l i (P l i) ≤ pad m c (P l i)) = true := by rw [HO.out]; exact hin2
        cases hvl : vle (Vf l i) (pad m c)
        · have hbb : b = false := by
            cases hbv : b
            · rfl
            · exact absurd ⟨hin2, hvl⟩ ((HB.out.1 hbv) i hlt)
          subst hbb
          have HL := hide hvl
          clear HI hin2 HO hvl
          go_big_quiet (fail)
          go_wp2_with fail
          refine (at_most (Vf l i) (pad m c) _).mono ?_
          rintro e w7 ⟨rfl, hb7⟩
          have hbf7 := (below_drewN hbf6 nq).trans (hb7.mono (below_drewN hbf6 nq).size)
          rw [HL.out]
          clear hb7 c0 c1 c2 c3 c4 c5 d0 d1 d2 d3 d4 d5 r0 r1 r2
          go_wp2
          go_ret2
          exact ⟨rfl, hbf7⟩
        · have HI2 := hide (show ∀ j, j < i + 1 → ¬ (InB l c j = true ∧ vle (Vf l j) (pad m c) = false) from fun j hj => by
            by_cases he : j = i
            · subst he; rintro ⟨_, h⟩; rw [hvl] at h; cases h
            · exact HI.out j (by omega))
          have HL := hide hvl
          have hbw6 := hbw.trans (hb6.mono hbw.size)
          clear HI hin2 HO hvl
          go_big_quiet (fail)
          go_wp2_with fail
          refine (at_most (Vf l i) (pad m c) _).mono ?_
          rintro e w7 ⟨rfl, hb7⟩
          have hbw7 := (below_drewN hbw6 nq).trans (hb7.mono (below_drewN hbw6 nq).size)
          rw [HL.out]
          clear hb7 c0 c1 c2 c3 c4 c5 d0 d1 d2 d3 d4 d5 r0 r1 r2
          go_wp2
          exact ⟨⟨i + 1, by omega, by go_num, HI2, hbw7⟩, by simp [intOf]; omega⟩
    · obtain rfl : i = n := by omega
      have hbb : b = true := HB.out.2 HI.out
      subst hbb
      clear HI HE5 HV5 HR
      go_wp2
      go_ret2
      exact ⟨rfl, hbf⟩
end Go.Proofs.Ytoholagamandpaa
