/-
  GoodDiagram's law; Decide of both texts and its law.
-/
import Derived.Test.YtfiooclkefmijaaDoorBddLG
import Derived.Test.YtfiooclkefmijaaDoorBddSG
import Derived.Test.YtfiooclkefmijaaDoorBddX
namespace Go.Proofs.YtfiooclkefmijaaDoor
open Go.RowKit M
open Clk (upd upd_same upd_other)
theorem good_bool (l : List Bdd.Ch) (r : Int) : ∃ b : Bool, b = true ↔ Bdd.Good l r := by
  by_cases h : Bdd.Good l r
  · exact ⟨true, by simp [h]⟩
  · exact ⟨false, by simp [h]⟩
theorem bool_same {p : Prop} {b b' : Bool} (h : b = true ↔ p) (h' : b' = true ↔ p) : b' = b := by
  cases b <;> cases b' <;> simp_all
theorem impl_good_b (v : Value) (r : Int) (l : List Bdd.Ch) (b : Bool) (hb : b = true ↔ Bdd.Good l r) (w : World) (hv : ChsOf w v l) (hn : l.length ≤ 1048576) (ho : OV w) :
    Calls Tryd.prog 24 #[dgV v r] w fun e w' => e = .returned (.bool b) ∧ Below w.heap.size w w' := by
  refine (impl_good v r l w hv hn ho).mono ?_
  rintro e w' ⟨⟨b', rfl, h'⟩, hb'⟩
  exact ⟨by rw [bool_same hb h'], hb'⟩
theorem spec_good_b (v : Value) (r : Int) (l : List Bdd.Ch) (b : Bool) (hb : b = true ↔ Bdd.Good l r) (w : World) (hv : ChsOf w v l) (hn : l.length ≤ 1048576) :
    Calls Tryd.prog 22 #[dgV v r] w fun e w' => e = .returned (.bool b) ∧ Below w.heap.size w w' := by
  refine (spec_good v r l w hv hn).mono ?_
  rintro e w' ⟨⟨b', rfl, h'⟩, hb'⟩
  exact ⟨by rw [bool_same hb h'], hb'⟩
theorem l7_good_b (v : Value) (r : Int) (l : List Bdd.Ch) (b : Bool) (hb : b = true ↔ Bdd.Good l r) (w : World) (hv : ChsOf w v l) (hn : l.length ≤ 1048576) :
    Calls Tryd.prog 43 #[dgV v r] w fun e w' => (∃ x, e = .returned (.tuple #[uv x, .bool b]) ∧ (b = true → x = Bdd.dec l r)) ∧ Below w.heap.size w w' := by
  refine (l7_good v r l w hv hn).mono ?_
  rintro e w' ⟨⟨x, b', rfl, h', hx⟩, hb'⟩
  obtain rfl := bool_same hb h'
  exact ⟨⟨x, rfl, hx⟩, hb'⟩
theorem law_good (v : Value) (l : List Bdd.Ch) (r : Int) (w : World) (ho : OV w) (hv : ChsOf w v l) (hm : l.length ≤ maxLen) :
    Calls Tryd.prog 6 #[dgV v r] w fun e w' => e = .returned (.bool true) ∧ Below w.heap.size w w' := by
  obtain ⟨b, hb⟩ := good_bool l r
  exact law_GoodDiagram_run v l r w ho hv hm fun hn => ⟨b, fun u W h => spec_good_b u r l b hb W h hn, fun u W ho h => impl_good_b u r l b hb W h hn ho⟩
set_option maxRecDepth 20000 in
theorem impl_decide (v : Value) (r : Int) (l : List Bdd.Ch) (x : Int) (b : Bool) (hb : b = true ↔ Bdd.Good l r) (w : World) (hv : ChsOf w v l) (hn : l.length ≤ 1048576) (ho : OV w) :
    Calls Tryd.prog 26 #[dgV v r, .int .i64 x] w fun e w' => e = .returned (.tuple #[.bool (b && decide (0 ≤ x ∧ x ≤ 63) && Bdd.yes l r x.toNat), .bool (b && decide (0 ≤ x ∧ x ≤ 63))]) ∧ Below w.heap.size w w' := by
  have HV := hide hv
  obtain ⟨a, cap, rfl⟩ := hv.form
  have hd1 := (Below.refl w.heap.size w).alloc (Nat.le_refl _) (.cells #[.slice a l.length cap, .int .i64 r] 27)
  have hbx := Blk.fresh w #[.slice a l.length cap, .int .i64 r] 2 (q2 (.slice a l.length cap) (.int .i64 r)) 27 rfl
  have HD := hide hd1
  have HX := hide hbx
  have HG := hide (impl_good_b (.slice a l.length cap) r l b hb _ (hv.below hd1) hn (ho.below hd1))
  clear hv hd1 hbx ho
  cases b with
  | false =>
    clear hb
    go_enter Tryd.func26, Tryd.ntmps26
    go_wp2_with fail
    refine HG.out.mono ?_
    rintro e w2 ⟨rfl, hb2⟩
    have HB := hide (HD.out.trans (hb2.mono (by simp)))
    clear hb2 HD HX HV HG
    go_wp2
    go_ret2
    exact ⟨by simp, HB.out⟩
  | true =>
    have HE := hide (hb.1 rfl).1
    clear hb
    obtain ⟨c, hc⟩ : ∃ c, decide (0 ≤ x ∧ x ≤ 63) = c := ⟨_, rfl⟩
    have HW := hide (within_is x 0 63 c hc)
    have HC := hide hc
    rw [hc]
    cases c with
    | false =>
      clear hc
      go_enter Tryd.func26, Tryd.ntmps26
      go_wp2_with fail
      refine HG.out.mono ?_
      rintro e w2 ⟨rfl, hb2⟩
      have HB := hide (HD.out.trans (hb2.mono (by simp)))
      clear hb2 HD HX HV HG
      go_wp2_with (refine (HW.out _).mono ?_; rintro e w3 ⟨rfl, rfl⟩)
      go_ret2
      exact ⟨by simp, HB.out⟩
    | true =>
      obtain ⟨n, rfl⟩ : ∃ n : Nat, x = (n : Int) := ⟨x.toNat, by simp at hc; omega⟩
      obtain ⟨y, hy⟩ : ∃ y, Bdd.yes l r n = y := ⟨_, rfl⟩
      have HY := hide hy
      clear hc hy
      go_enter Tryd.func26, Tryd.ntmps26
      go_wp2_with fail
      refine HG.out.mono ?_
      rintro e w2 ⟨rfl, hb2⟩
      have HB := hide (HD.out.trans (hb2.mono (by simp)))
      obtain ⟨x0, x1, -, -⟩ := (HX.out.down hb2).two
      simp [q2] at x0 x1
      have HV2 := hide (HV.out.below HB.out)
      clear hb2 HD HX HV HG
      go_wp2_with fail
      refine (HW.out _).mono ?_
      rintro e w3 ⟨rfl, rfl⟩
      go_wp2_with fail
      refine (comes_to _ r l n _ HV2.out HE.out).mono ?_
      rintro e w4 ⟨rfl, hb4⟩
      have HB4 := hide (HB.out.trans (hb4.mono HB.out.size))
      rw [HY.out]
      clear hb4 HB HV2 HE HW
      go_wp2
      go_ret2
      exact ⟨by rw [Int.toNat_natCast, HY.out]; simp, HB4.out⟩
set_option maxRecDepth 20000 in
theorem spec_decide (v : Value) (r : Int) (l : List Bdd.Ch) (x : Int) (b : Bool) (hb : b = true ↔ Bdd.Good l r) (w : World) (hv : ChsOf w v l) (hn : l.length ≤ 1048576) :
    Calls Tryd.prog 25 #[dgV v r, .int .i64 x] w fun e w' => e = .returned (.tuple #[.bool (b && decide (0 ≤ x ∧ x ≤ 63) && Bdd.yes l r x.toNat), .bool (b && decide (0 ≤ x ∧ x ≤ 63))]) ∧ Below w.heap.size w w' := by
  have HV := hide hv
  obtain ⟨a, cap, rfl⟩ := hv.form
  have hd1 := (Below.refl w.heap.size w).alloc (Nat.le_refl _) (.cells #[.slice a l.length cap, .int .i64 r] 27)
  have HD := hide hd1
  have HG := hide (l7_good_b (.slice a l.length cap) r l b hb _ (hv.below hd1) hn)
  clear hv hd1 hb
  cases b with
  | false =>
    go_enter Tryd.func25, Tryd.ntmps25
    go_wp2_with fail
    refine HG.out.mono ?_
    rintro e w2 ⟨⟨t, rfl, ht⟩, hb2⟩
    have HB := hide (HD.out.trans (hb2.mono (by simp)))
    clear hb2 HD HV HG ht
    go_wp2
    go_ret2
    exact ⟨by simp, HB.out⟩
  | true =>
    obtain ⟨c, hc⟩ : ∃ c, decide (0 ≤ x ∧ x ≤ 63) = c := ⟨_, rfl⟩
    have HW := hide (l1_in x 0 63 c hc)
    rw [hc]
    cases c with
    | false =>
      clear hc
      go_enter Tryd.func25, Tryd.ntmps25
      go_wp2_with fail
      refine HG.out.mono ?_
      rintro e w2 ⟨⟨t, rfl, ht⟩, hb2⟩
      have HB := hide (HD.out.trans (hb2.mono (by simp)))
      clear hb2 HD HV HG ht
      go_wp2_with (refine (HW.out _).mono ?_; rintro e w3 ⟨rfl, rfl⟩)
      go_ret2
      exact ⟨by simp, HB.out⟩
    | true =>
      obtain ⟨n, rfl⟩ : ∃ n : Nat, x = (n : Int) := ⟨x.toNat, by simp at hc; omega⟩
      have hn64 : n < 64 := by simp at hc; omega
      have HN := hide hn64
      go_enter Tryd.func25, Tryd.ntmps25
      go_wp2_with fail
      refine HG.out.mono ?_
      rintro e w2 ⟨⟨t, rfl, ht⟩, hb2⟩
      have HB := hide (HD.out.trans (hb2.mono (by simp)))
      have hs := shr_at t n hn64 .u64
      have hl := low_bit t n
      have hw : IntKind.u64.wrap (n : Int) = (n : Int) := by rw [show IntKind.u64.wrap (n : Int) = (n : Int) % 18446744073709551616 from rfl]; omega
      obtain ⟨y, hy⟩ : ∃ y, t >>> n = y := ⟨_, rfl⟩
      rw [hy] at hs hl
      have HT := hide (show t.getLsbD n = Bdd.yes l r n from by rw [ht (by trivial), Bdd.dec_get l r hn64])
      clear hb2 HD HV HG ht hc hn64 hy
      cases hg : t.getLsbD n with
      | true =>
        rw [hg] at hl
        simp only [if_true] at hl
        have HY := hide (HT.out.symm.trans hg)
        clear hg HT
        go_wp2_with (refine (HW.out _).mono ?_; rintro e w3 ⟨rfl, rfl⟩)
        go_ret2
        exact ⟨by rw [Int.toNat_natCast, HY.out]; simp, HB.out⟩
      | false =>
        rw [hg] at hl
        simp only [Bool.false_eq_true, if_false] at hl
        have HY := hide (HT.out.symm.trans hg)
        clear hg HT
        go_wp2_with (refine (HW.out _).mono ?_; rintro e w3 ⟨rfl, rfl⟩)
        go_ret2
        exact ⟨by rw [Int.toNat_natCast, HY.out]; simp, HB.out⟩
theorem law_decide (v : Value) (l : List Bdd.Ch) (r : Int) (x : Int) (w : World) (ho : OV w) (hv : ChsOf w v l) (hm : l.length ≤ maxLen) :
    Calls Tryd.prog 7 #[dgV v r, .int .i64 x] w fun e w' => e = .returned (.bool true) ∧ Below w.heap.size w w' := by
  obtain ⟨b, hb⟩ := good_bool l r
  exact law_Decide_run v l r x w ho hv hm fun hn => ⟨_, _, fun u W h => spec_decide u r l x b hb W h hn, fun u W ho h => impl_decide u r l x b hb W h hn ho⟩
end Go.Proofs.YtfiooclkefmijaaDoor
