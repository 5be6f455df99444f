/-
  The program's FitsAt and NextAfter; their laws, at every cron and time.
-/
import Derived.Test.YtgpjggbcomeolaaCrFI
import Derived.Test.YtgpjggbcomeolaaCrFS
import Derived.Test.YtgpjggbcomeolaaCrLF
import Derived.Test.YtgpjggbcomeolaaCrLN
namespace Go.Proofs.Ytgpjggbcomeolaa
open Go.RowKit M
theorem good_time (t : Int) (b : Bool) (w : World) (h : decide (TimeOk t) = b) :
    Calls Try.prog 31 #[.int .i64 t] w fun e w' => e = .returned (.bool b) ∧ w' = w := by
  have HW := hide (show decide (0 ≤ t ∧ t ≤ 1000000) = b from h)
  clear h
  go_enter Try.func31, Try.ntmps31
  go_wp2_with fail
  refine (within_to _ _ _ _ _ HW.out).mono ?_
  rintro e w' ⟨rfl, rfl⟩
  go_wp2
  go_ret
  exact ⟨rfl, rfl⟩
set_option maxHeartbeats 1000000 in
theorem impl_fits_no (v0 v1 v2 : Value) (c : Crn) (t : Int) (w : World) (hv : CronOf w v0 v1 v2 c) (hs : ShortC c) (hno : ¬ (GoodC c ∧ TimeOk t)) :
    Calls Try.prog 14 #[.agg #[v0, v1, v2], .int .i64 t] w fun e w' => e = .returned (.tuple #[.bool false, .bool false]) ∧ Below w.heap.size w w' := by
  have hb0 := (Below.refl w.heap.size w).alloc (Nat.le_refl _) (.cells #[v0, v1, v2] 27)
  obtain ⟨a0, p0, rfl⟩ := hv.1.form
  obtain ⟨a1, p1, rfl⟩ := hv.2.1.form
  obtain ⟨a2, p2, rfl⟩ := hv.2.2.form
  have HV := hide hv
  have HS := hide hs
  have HNo := hide hno
  obtain ⟨b, hb⟩ : ∃ x, decide (GoodC c) = x := ⟨_, rfl⟩
  have HB := hide hb
  clear hv hs hb hno
  go_enter Try.func14, Try.ntmps14
  go_wp2_with fail
  refine (impl_good _ _ _ c b _ (HV.out.below hb0) HS.out HB.out).mono ?_
  rintro e w1 ⟨rfl, hb⟩
  have hb1 := hb0.trans (hb.mono hb0.size)
  clear hb hb0
  cases b with
  | false =>
    clear HV HS HB HNo
    go_wp2
    go_ret2
    exact ⟨rfl, hb1⟩
  | true =>
    have HT := hide (show decide (TimeOk t) = false from decide_eq_false fun h => HNo.out ⟨of_decide_eq_true HB.out, h⟩)
    clear HV HS HB HNo
    go_wp2_with fail
    refine (good_time _ _ _ HT.out).mono ?_
    rintro e w2 ⟨rfl, rfl⟩
    go_wp2
    go_ret2
    exact ⟨rfl, hb1⟩
set_option maxHeartbeats 1000000 in
theorem impl_next_no (v0 v1 v2 : Value) (c : Crn) (t : Int) (w : World) (hv : CronOf w v0 v1 v2 c) (hs : ShortC c) (hno : ¬ (GoodC c ∧ TimeOk t)) :
    Calls Try.prog 16 #[.agg #[v0, v1, v2], .int .i64 t] w fun e w' => e = .returned (.tuple #[.int .i64 0, .bool false]) ∧ Below w.heap.size w w' := by
  have hb0 := (Below.refl w.heap.size w).alloc (Nat.le_refl _) (.cells #[v0, v1, v2] 27)
  obtain ⟨a0, p0, rfl⟩ := hv.1.form
  obtain ⟨a1, p1, rfl⟩ := hv.2.1.form
  obtain ⟨a2, p2, rfl⟩ := hv.2.2.form
  have HV := hide hv
  have HS := hide hs
  have HNo := hide hno
  obtain ⟨b, hb⟩ : ∃ x, decide (GoodC c) = x := ⟨_, rfl⟩
  have HB := hide hb
  clear hv hs hb hno
  go_enter Try.func16, Try.ntmps16
  go_wp2_with fail
  refine (impl_good _ _ _ c b _ (HV.out.below hb0) HS.out HB.out).mono ?_
  rintro e w1 ⟨rfl, hb⟩
  have hb1 := hb0.trans (hb.mono hb0.size)
  clear hb hb0
  cases b with
  | false =>
    clear HV HS HB HNo
    go_wp2
    go_ret2
    exact ⟨rfl, hb1⟩
  | true =>
    have HT := hide (show decide (TimeOk t) = false from decide_eq_false fun h => HNo.out ⟨of_decide_eq_true HB.out, h⟩)
    clear HV HS HB HNo
    go_wp2_with fail
    refine (good_time _ _ _ HT.out).mono ?_
    rintro e w2 ⟨rfl, rfl⟩
    go_wp2
    go_ret2
    exact ⟨rfl, hb1⟩
set_option maxHeartbeats 1000000 in
theorem impl_fits (v0 v1 v2 : Value) (c : Crn) (t R : Nat) (b : Bool) (w : World) (hv : CronOf w v0 v1 v2 c) (hs : ShortC c) (hg : GoodC c) (ht : t ≤ 1000000) (hR : Lst c t R) (hb : ((R : Int) == (t : Int)) = b) :
    Calls Try.prog 14 #[.agg #[v0, v1, v2], .int .i64 (t : Int)] w fun e w' => e = .returned (.tuple #[.bool b, .bool true]) ∧ Below w.heap.size w w' := by
  have hb0 := (Below.refl w.heap.size w).alloc (Nat.le_refl _) (.cells #[v0, v1, v2] 27)
  have HN0 := hide (new3 w v0 v1 v2 27)
  obtain ⟨a0, p0, rfl⟩ := hv.1.form
  obtain ⟨a1, p1, rfl⟩ := hv.2.1.form
  obtain ⟨a2, p2, rfl⟩ := hv.2.2.form
  have HV := hide hv
  have HS := hide hs
  have HGG := hide hg
  have HG := hide (show decide (GoodC c) = true from decide_eq_true hg)
  have HT := hide (show decide (TimeOk (t : Int)) = true from decide_eq_true ⟨by omega, by omega⟩)
  have HR := hide hR
  have hRb : R ≤ 1050000 := by have := hR.2.1; omega
  clear hv hs hg hR
  go_enter Try.func14, Try.ntmps14
  go_wp2_with fail
  refine (impl_good _ _ _ c true _ (HV.out.below hb0) HS.out HG.out).mono ?_
  rintro e w1 ⟨rfl, hb⟩
  have hb1 := hb0.trans (hb.mono hb0.size)
  have HN1 := hide (HN0.out.down hb)
  clear hb hb0 HN0
  obtain ⟨⟨d0, d1, d2⟩, -⟩ := HN1.out.tri
  go_wp2_with fail
  refine (good_time _ _ _ HT.out).mono ?_
  rintro e w2 ⟨rfl, rfl⟩
  go_wp2_with fail
  refine (fitting _ _ _ c _ (HV.out.below hb1) HS.out HGG.out).mono ?_
  rintro e w3 ⟨⟨p, q, r, Bm, Bh, Bd, rfl, hF⟩, hb⟩
  have hb3 := hb1.trans (hb.mono hb1.size)
  have HF := hide hF
  clear hb hb1 HN1 hF d0 d1 d2 HV HS HG HT HGG
  go_wp2_with fail
  refine (fitting_in t R p q r Bm Bh Bd c _ HF.out (by omega) HR.out).mono ?_
  rintro e w4 ⟨rfl, hb⟩
  have hb4 := hb3.trans (hb.mono hb3.size)
  clear hb hb3 HF HR
  go_wp2
  go_ret2
  exact ⟨rfl, hb4⟩
set_option maxHeartbeats 1000000 in
theorem impl_next (v0 v1 v2 : Value) (c : Crn) (t R : Nat) (w : World) (hv : CronOf w v0 v1 v2 c) (hs : ShortC c) (hg : GoodC c) (ht : t ≤ 1000000) (hR : Lst c (t + 1) R) :
    Calls Try.prog 16 #[.agg #[v0, v1, v2], .int .i64 (t : Int)] w fun e w' => e = .returned (.tuple #[.int .i64 (R : Int), .bool true]) ∧ Below w.heap.size w w' := by
  have hb0 := (Below.refl w.heap.size w).alloc (Nat.le_refl _) (.cells #[v0, v1, v2] 27)
  have HN0 := hide (new3 w v0 v1 v2 27)
  obtain ⟨a0, p0, rfl⟩ := hv.1.form
  obtain ⟨a1, p1, rfl⟩ := hv.2.1.form
  obtain ⟨a2, p2, rfl⟩ := hv.2.2.form
  have HV := hide hv
  have HS := hide hs
  have HGG := hide hg
  have HG := hide (show decide (GoodC c) = true from decide_eq_true hg)
  have HT := hide (show decide (TimeOk (t : Int)) = true from decide_eq_true ⟨by omega, by omega⟩)
  have HR := hide hR
  have hRb : R ≤ 1050000 := by have := hR.2.1; omega
  clear hv hs hg hR
  go_enter Try.func16, Try.ntmps16
  go_wp2_with fail
  refine (impl_good _ _ _ c true _ (HV.out.below hb0) HS.out HG.out).mono ?_
  rintro e w1 ⟨rfl, hb⟩
  have hb1 := hb0.trans (hb.mono hb0.size)
  have HN1 := hide (HN0.out.down hb)
  clear hb hb0 HN0
  obtain ⟨⟨d0, d1, d2⟩, -⟩ := HN1.out.tri
  go_wp2_with fail
  refine (good_time _ _ _ HT.out).mono ?_
  rintro e w2 ⟨rfl, rfl⟩
  go_wp2_with fail
  refine (fitting _ _ _ c _ (HV.out.below hb1) HS.out HGG.out).mono ?_
  rintro e w3 ⟨⟨p, q, r, Bm, Bh, Bd, rfl, hF⟩, hb⟩
  have hb3 := hb1.trans (hb.mono hb1.size)
  have HF := hide hF
  clear hb hb1 HN1 hF d0 d1 d2 HV HS HG HT HGG
  have hw : IntKind.i64.wrap ((t : Int) + 1) = ((t + 1 : Nat) : Int) := by rw [IntKind.wrap_i64]; omega
  go_wp2_with fail
  refine (fitting_in (t + 1) R p q r Bm Bh Bd c _ HF.out (by omega) HR.out).mono ?_
  rintro e w4 ⟨rfl, hb⟩
  have hb4 := hb3.trans (hb.mono hb3.size)
  clear hb hb3 HF HR
  go_wp2
  go_ret2
  exact ⟨rfl, hb4⟩
theorem law_fitsat (v0 v1 v2 : Value) (c : Crn) (t : Int) (w : World) {P : Prop} (hv : CronOf w v0 v1 v2 c) (hl : LensC c) (_ : P) :
    Calls Try.prog 4 #[.agg #[v0, v1, v2], .int .i64 t] w fun e w' => e = .returned (.bool true) ∧ Below w.heap.size w w' := by
  refine law_FitsAt_run v0 v1 v2 c t w hv hl fun hs => ?_
  by_cases h : GoodC c ∧ TimeOk t
  · obtain ⟨hg, ht0, ht1⟩ := h
    obtain ⟨n, rfl⟩ : ∃ n : Nat, t = (n : Int) := ⟨t.toNat, by omega⟩
    obtain ⟨R, hR⟩ := ex_lst hg n
    have e : ((R : Int) == (n : Int)) = decide (Fits c n) := by
      rw [Bool.eq_iff_iff, beq_iff_eq, decide_eq_true_eq]
      constructor
      · intro h
        obtain rfl : R = n := by omega
        exact hR.2.2.1
      · intro h
        have := hR.same (Nat.le_refl _) h (fun j h1 h2 => by omega)
        omega
    exact ⟨decide (Fits c n), true, fun v0 v1 v2 w h => spec_fits v0 v1 v2 c n _ w h hs hg (by omega) rfl, fun v0 v1 v2 w h => impl_fits v0 v1 v2 c n R _ w h hs hg (by omega) hR e⟩
  · exact ⟨false, false, fun v0 v1 v2 w h' => spec_fits_no v0 v1 v2 c t w h' hs h, fun v0 v1 v2 w h' => impl_fits_no v0 v1 v2 c t w h' hs h⟩
theorem law_nextafter (v0 v1 v2 : Value) (c : Crn) (t : Int) (w : World) {P : Prop} (hv : CronOf w v0 v1 v2 c) (hl : LensC c) (_ : P) :
    Calls Try.prog 5 #[.agg #[v0, v1, v2], .int .i64 t] w fun e w' => e = .returned (.bool true) ∧ Below w.heap.size w w' := by
  refine law_NextAfter_run v0 v1 v2 c t w hv hl fun hs => ?_
  by_cases h : GoodC c ∧ TimeOk t
  · obtain ⟨hg, ht0, ht1⟩ := h
    obtain ⟨n, rfl⟩ : ∃ n : Nat, t = (n : Int) := ⟨t.toNat, by omega⟩
    obtain ⟨R, hR⟩ := ex_lst hg (n + 1)
    exact ⟨(R : Int), true, fun v0 v1 v2 w h => spec_next v0 v1 v2 c n R w h hs hg (by omega) hR, fun v0 v1 v2 w h => impl_next v0 v1 v2 c n R w h hs hg (by omega) hR⟩
  · exact ⟨0, false, fun v0 v1 v2 w h' => spec_next_no v0 v1 v2 c t w h' hs h, fun v0 v1 v2 w h' => impl_next_no v0 v1 v2 c t w h' hs h⟩
end Go.Proofs.Ytgpjggbcomeolaa
