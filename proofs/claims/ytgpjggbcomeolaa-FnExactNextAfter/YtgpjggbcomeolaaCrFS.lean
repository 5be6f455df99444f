/-
  The specification's FitsAt and NextAfter.
-/
import Derived.Test.YtgpjggbcomeolaaCrG
namespace Go.Proofs.Ytgpjggbcomeolaa
open Go.RowKit M
set_option maxHeartbeats 600000 in
theorem l1has (v : Value) (n : Nat) (f : Nat → Int) (z : Int) (b : Bool) (w : World) (hv : IntsOf w v n f) (hn : n ≤ 1048576) (hb : decide (Has n f z) = b) :
    Calls Try.prog 35 #[v, .int .i64 z] w fun e w' => e = .returned (.bool b) ∧ w' = w := by
  obtain ⟨a, cap, rfl, hr⟩ := hv
  have HR := hide hr
  have HB := hide hb
  clear hr hb
  go_enter Try.func35, Try.ntmps35
  go_wp2
  go_loop [9] (fun i => ∃ k : Nat, k ≤ n ∧ i = .int .i64 k ∧ Hid (∀ j, j < k → f j ≠ z)) (fun i => n - (intOf i).toNat)
  case atStart => exact ⟨0, Nat.zero_le _, rfl, hide (fun j h => absurd h (by omega))⟩
  case round =>
    obtain ⟨k, hk, rfl, HP⟩ := hrel
    by_cases hlt : k < n
    · obtain ⟨bb, off, rfl, hbb, hrow⟩ := HR.out (by omega)
      have c0 := hrow k hlt
      by_cases he : f k = z
      · have eb : b = true := by rw [← HB.out, decide_eq_true_eq]; exact ⟨k, hlt, he⟩
        subst eb
        have hd : (f k == z) = true := by simp [he]
        clear HR hrow HP HB he
        go_wp2
        go_ret
        exact ⟨rfl, rfl⟩
      · have hd : (f k == z) = false := by simp [he]
        have HP2 := hide (show ∀ j, j < k + 1 → f j ≠ z from fun j hj => by
          rcases (show j < k ∨ j = k by omega) with h | h
          · exact HP.out j h
          · subst h; exact he)
        clear HR hrow HP HB he
        go_wp2
        go_round
        case rel => exact ⟨k + 1, by omega, by go_num, HP2⟩
        case measure => simp [intOf]; omega
    · obtain rfl : k = n := by omega
      have eb : b = false := by
        cases hbb : b with
        | false => rfl
        | true => obtain ⟨j, h1, h2⟩ := of_decide_eq_true (HB.out.trans hbb); exact absurd h2 (HP.out j h1)
      subst eb
      clear HR HP HB
      go_wp2
      go_ret
      exact ⟨rfl, rfl⟩

set_option maxHeartbeats 1000000 in
theorem l6_fits (v0 v1 v2 : Value) (c : Crn) (t : Nat) (b : Bool) (w : World) (hv : CronOf w v0 v1 v2 c) (hs : ShortC c) (ht : t ≤ 1100000) (hb : decide (Fits c t) = b) :
    Calls Try.prog 30 #[.agg #[v0, v1, v2], .int .i64 (t : Int)] w fun e w' => e = .returned (.bool b) ∧ Below w.heap.size w w' := by
  have hbw := (Below.refl w.heap.size w).alloc (Nat.le_refl _) (.cells #[v0, v1, v2] 27)
  obtain ⟨a0, c0, rfl⟩ := hv.1.form
  obtain ⟨a1, c1, rfl⟩ := hv.2.1.form
  obtain ⟨a2, c2, rfl⟩ := hv.2.2.form
  have HV := hide (hv.below hbw)
  have HS := hide hs
  obtain ⟨m, hm⟩ : ∃ m, t % 60 = m := ⟨_, rfl⟩
  obtain ⟨q, hq⟩ : ∃ q, t / 60 = q := ⟨_, rfl⟩
  obtain ⟨h, hh⟩ : ∃ h, q % 24 = h := ⟨_, rfl⟩
  obtain ⟨y, hy⟩ : ∃ y, t / 1440 = y := ⟨_, rfl⟩
  obtain ⟨d, hd⟩ : ∃ d, y % 7 = d := ⟨_, rfl⟩
  obtain ⟨b0, hb0⟩ : ∃ x, decide (Has c.nm c.fm (m : Int)) = x := ⟨_, rfl⟩
  obtain ⟨b1, hb1⟩ : ∃ x, decide (Has c.nh c.fh (h : Int)) = x := ⟨_, rfl⟩
  obtain ⟨b2, hb2⟩ : ∃ x, decide (Has c.nd c.fd (d : Int)) = x := ⟨_, rfl⟩
  have eb : b = (b0 && (b1 && b2)) := by
    rw [← hb, ← hb0, ← hb1, ← hb2, Bool.eq_iff_iff]; simp only [Bool.and_eq_true, decide_eq_true_eq]
    unfold Fits; rw [hm, hq, hh, hy, hd]
  have B0 := hide hb0
  have B1 := hide hb1
  have B2 := hide hb2
  subst eb
  have e0 : (t : Int).tmod 60 = (m : Int) := by rw [Int.tmod_eq_emod_of_nonneg (by omega)]; omega
  have e1 : IntKind.i64.wrap ((t : Int) / 60) = (q : Int) := by rw [IntKind.wrap_i64]; omega
  have e2 : (q : Int).tmod 24 = (h : Int) := by rw [Int.tmod_eq_emod_of_nonneg (by omega)]; omega
  have e3 : IntKind.i64.wrap ((t : Int) / 1440) = (y : Int) := by rw [IntKind.wrap_i64]; omega
  have e4 : (y : Int).tmod 7 = (d : Int) := by rw [Int.tmod_eq_emod_of_nonneg (by omega)]; omega
  clear hv hs hb hb0 hb1 hb2 hm hq hh hy hd
  go_enter Try.func30, Try.ntmps30
  go_wp2_with fail
  refine (l1has _ _ _ (m : Int) b0 _ HV.out.1 HS.out.1 B0.out).mono ?_
  rintro e w1 ⟨rfl, rfl⟩
  cases b0 with
  | false =>
    clear HV HS B0 B1 B2
    go_wp2
    go_ret
    exact ⟨rfl, hbw⟩
  | true =>
    go_wp2_with fail
    refine (l1has _ _ _ (h : Int) b1 _ HV.out.2.1 HS.out.2.1 B1.out).mono ?_
    rintro e w2 ⟨rfl, rfl⟩
    cases b1 with
    | false =>
      clear HV HS B0 B1 B2
      go_wp2
      go_ret
      exact ⟨rfl, hbw⟩
    | true =>
      go_wp2_with fail
      refine (l1has _ _ _ (d : Int) b2 _ HV.out.2.2 HS.out.2.2 B2.out).mono ?_
      rintro e w3 ⟨rfl, rfl⟩
      clear HV HS B0 B1 B2
      go_wp2
      go_ret
      exact ⟨rfl, hbw⟩
namespace M
/-- A time of a cron. -/
def TimeOk (t : Int) : Prop := 0 ≤ t ∧ t ≤ 1000000
instance (t : Int) : Decidable (TimeOk t) := by unfold TimeOk; infer_instance
def fitB (c : Crn) (t : Int) : Bool := decide (GoodC c) && decide (TimeOk t) && decide (Fits c t.toNat)
def okB (c : Crn) (t : Int) : Bool := decide (GoodC c) && decide (TimeOk t)
end M
set_option maxHeartbeats 1000000 in
theorem spec_fits_no (v0 v1 v2 : Value) (c : Crn) (t : Int) (w : World) (hv : CronOf w v0 v1 v2 c) (hs : ShortC c) (hno : ¬ (GoodC c ∧ TimeOk t)) :
    Calls Try.prog 13 #[.agg #[v0, v1, v2], .int .i64 t] w fun e w' => e = .returned (.tuple #[.bool false, .bool false]) ∧ Below w.heap.size w w' := by
  have hb0 := (Below.refl w.heap.size w).alloc (Nat.le_refl _) (.cells #[v0, v1, v2] 27)
  obtain ⟨a0, p0, rfl⟩ := hv.1.form
  obtain ⟨a1, p1, rfl⟩ := hv.2.1.form
  obtain ⟨a2, p2, rfl⟩ := hv.2.2.form
  have HV := hide hv
  have HS := hide hs
  have HNo := hide hno
  obtain ⟨b, hb⟩ : ∃ x, decide (GoodC c) = x := ⟨_, rfl⟩
  have HB := hide hb
  clear hv hs hb hno
  go_enter Try.func13, Try.ntmps13
  go_wp2_with fail
  refine (spec_good _ _ _ c b _ (HV.out.below hb0) HS.out HB.out).mono ?_
  rintro e w1 ⟨rfl, hb⟩
  have hb1 := hb0.trans (hb.mono hb0.size)
  clear hb hb0
  cases b with
  | false =>
    clear HV HS HB HNo
    go_wp2
    go_ret2
    exact ⟨rfl, hb1⟩
  | true =>
    have HT := hide (show decide (0 ≤ t ∧ t ≤ 1000000) = false from decide_eq_false fun h => HNo.out ⟨of_decide_eq_true HB.out, h⟩)
    clear HV HS HB HNo
    go_wp2_with fail
    refine (l1in_to _ _ _ _ _ HT.out).mono ?_
    rintro e w2 ⟨rfl, rfl⟩
    go_wp2
    go_ret2
    exact ⟨rfl, hb1⟩
set_option maxHeartbeats 1000000 in
theorem spec_next_no (v0 v1 v2 : Value) (c : Crn) (t : Int) (w : World) (hv : CronOf w v0 v1 v2 c) (hs : ShortC c) (hno : ¬ (GoodC c ∧ TimeOk t)) :
    Calls Try.prog 15 #[.agg #[v0, v1, v2], .int .i64 t] w fun e w' => e = .returned (.tuple #[.int .i64 0, .bool false]) ∧ Below w.heap.size w w' := by
  have hb0 := (Below.refl w.heap.size w).alloc (Nat.le_refl _) (.cells #[v0, v1, v2] 27)
  obtain ⟨a0, p0, rfl⟩ := hv.1.form
  obtain ⟨a1, p1, rfl⟩ := hv.2.1.form
  obtain ⟨a2, p2, rfl⟩ := hv.2.2.form
  have HV := hide hv
  have HS := hide hs
  have HNo := hide hno
  obtain ⟨b, hb⟩ : ∃ x, decide (GoodC c) = x := ⟨_, rfl⟩
  have HB := hide hb
  clear hv hs hb hno
  go_enter Try.func15, Try.ntmps15
  go_wp2_with fail
  refine (spec_good _ _ _ c b _ (HV.out.below hb0) HS.out HB.out).mono ?_
  rintro e w1 ⟨rfl, hb⟩
  have hb1 := hb0.trans (hb.mono hb0.size)
  clear hb hb0
  cases b with
  | false =>
    clear HV HS HB HNo
    go_wp2
    go_ret2
    exact ⟨rfl, hb1⟩
  | true =>
    have HT := hide (show decide (0 ≤ t ∧ t ≤ 1000000) = false from decide_eq_false fun h => HNo.out ⟨of_decide_eq_true HB.out, h⟩)
    clear HV HS HB HNo
    go_wp2_with fail
    refine (l1in_to _ _ _ _ _ HT.out).mono ?_
    rintro e w2 ⟨rfl, rfl⟩
    go_wp2
    go_ret2
    exact ⟨rfl, hb1⟩
set_option maxHeartbeats 1000000 in
theorem spec_fits (v0 v1 v2 : Value) (c : Crn) (t : Nat) (b : Bool) (w : World) (hv : CronOf w v0 v1 v2 c) (hs : ShortC c) (hg : GoodC c) (ht : t ≤ 1000000) (hb : decide (Fits c t) = b) :
    Calls Try.prog 13 #[.agg #[v0, v1, v2], .int .i64 (t : Int)] w fun e w' => e = .returned (.tuple #[.bool b, .bool true]) ∧ Below w.heap.size w w' := by
  have hb0 := (Below.refl w.heap.size w).alloc (Nat.le_refl _) (.cells #[v0, v1, v2] 27)
  have HN0 := hide (new3 w v0 v1 v2 27)
  obtain ⟨a0, p0, rfl⟩ := hv.1.form
  obtain ⟨a1, p1, rfl⟩ := hv.2.1.form
  obtain ⟨a2, p2, rfl⟩ := hv.2.2.form
  have HV := hide hv
  have HS := hide hs
  have HG := hide (show decide (GoodC c) = true from decide_eq_true hg)
  have HT := hide (show decide ((0 : Int) ≤ (t : Int) ∧ (t : Int) ≤ 1000000) = true from decide_eq_true ⟨by omega, by omega⟩)
  have HB := hide hb
  clear hv hs hg hb
  go_enter Try.func13, Try.ntmps13
  go_wp2_with fail
  refine (spec_good _ _ _ c true _ (HV.out.below hb0) HS.out HG.out).mono ?_
  rintro e w1 ⟨rfl, hb⟩
  have hb1 := hb0.trans (hb.mono hb0.size)
  have HN1 := hide (HN0.out.down hb)
  clear hb hb0 HN0
  obtain ⟨⟨d0, d1, d2⟩, -⟩ := HN1.out.tri
  go_wp2_with fail
  refine (l1in_to _ _ _ _ _ HT.out).mono ?_
  rintro e w2 ⟨rfl, rfl⟩
  go_wp2_with fail
  refine (l6_fits _ _ _ c t b _ (HV.out.below hb1) HS.out (by omega) HB.out).mono ?_
  rintro e w3 ⟨rfl, hb⟩
  have hb3 := hb1.trans (hb.mono hb1.size)
  clear hb hb1 HN1 d0 d1 d2 HV HS HG HT HB
  go_wp2
  go_ret2
  exact ⟨rfl, hb3⟩
set_option maxHeartbeats 1000000 in
theorem spec_next (v0 v1 v2 : Value) (c : Crn) (t r : Nat) (w : World) (hv : CronOf w v0 v1 v2 c) (hs : ShortC c) (hg : GoodC c) (ht : t ≤ 1000000) (hr : Lst c (t + 1) r) :
    Calls Try.prog 15 #[.agg #[v0, v1, v2], .int .i64 (t : Int)] w fun e w' => e = .returned (.tuple #[.int .i64 (r : Int), .bool true]) ∧ Below w.heap.size w w' := by
  have hb0 := (Below.refl w.heap.size w).alloc (Nat.le_refl _) (.cells #[v0, v1, v2] 27)
  have HN0 := hide (new3 w v0 v1 v2 27)
  obtain ⟨a0, p0, rfl⟩ := hv.1.form
  obtain ⟨a1, p1, rfl⟩ := hv.2.1.form
  obtain ⟨a2, p2, rfl⟩ := hv.2.2.form
  have HV := hide hv
  have HS := hide hs
  have HG := hide (show decide (GoodC c) = true from decide_eq_true hg)
  have HT := hide (show decide ((0 : Int) ≤ (t : Int) ∧ (t : Int) ≤ 1000000) = true from decide_eq_true ⟨by omega, by omega⟩)
  have HR := hide hr
  have hrb : r ≤ 1050000 := by have := hr.2.1; omega
  clear hv hs hg hr
  go_enter Try.func15, Try.ntmps15
  go_wp2_with fail
  refine (spec_good _ _ _ c true _ (HV.out.below hb0) HS.out HG.out).mono ?_
  rintro e w1 ⟨rfl, hb⟩
  have hb1 := hb0.trans (hb.mono hb0.size)
  have HN1 := hide (HN0.out.down hb)
  clear hb hb0 HN0
  go_wp2_with fail
  refine (l1in_to _ _ _ _ _ HT.out).mono ?_
  rintro e w2 ⟨rfl, rfl⟩
  have hw : IntKind.i64.wrap ((t : Int) + 1) = ((t + 1 : Nat) : Int) := by rw [IntKind.wrap_i64]; omega
  go_wp2_with fail
  go_loopw [1] (fun x wr => ∃ s : Nat, x = .int .i64 (s : Int) ∧ t + 1 ≤ s ∧ s ≤ r ∧ Hid (∀ j, t + 1 ≤ j → j < s → ¬ Fits c j) ∧ Hid (Below w2.heap.size w2 wr)) (fun x _ => r - (intOf x).toNat)
  case atStart => exact ⟨t + 1, by first | rfl | go_num, Nat.le_refl _, HR.out.1, hide (fun j h1 h2 => by omega), hide (Below.refl _ _)⟩
  case round =>
    rename World => wo
    obtain ⟨s, rfl, hs1, hs2, HP, HBo⟩ := hrel
    have hbo := hb1.trans (HBo.out.mono hb1.size)
    obtain ⟨⟨d0, d1, d2⟩, -⟩ := (HN1.out.down HBo.out).tri
    by_cases hf : Fits c s
    · have HF := hide (show decide (Fits c s) = true from decide_eq_true hf)
      have HE := hide (HR.out.same hs1 hf HP.out)
      go_wp2_with fail
      refine (l6_fits _ _ _ c s true _ (HV.out.below hbo) HS.out (by omega) HF.out).mono ?_
      rintro e w3 ⟨rfl, hb⟩
      have hb3 := hbo.trans (hb.mono hbo.size)
      clear hb hbo HN1 d0 d1 d2 HV HS HG HT HF HR HP HBo hf hb1
      go_wp2
      go_ret2
      exact ⟨by rw [← HE.out]; rfl, hb3⟩
    · have HF := hide (show decide (Fits c s) = false from decide_eq_false hf)
      have hlt := HR.out.lt hs1 HP.out hf
      have HP2 := hide (show ∀ j, t + 1 ≤ j → j < s + 1 → ¬ Fits c j from fun j h1 h2 => by
        rcases (show j < s ∨ j = s by omega) with h | h
        · exact HP.out j h1 h
        · subst h; exact hf)
      go_wp2_with fail
      refine (l6_fits _ _ _ c s false _ (HV.out.below hbo) HS.out (by omega) HF.out).mono ?_
      rintro e w3 ⟨rfl, hb⟩
      have HB3 := hide (HBo.out.trans (hb.mono HBo.out.size))
      clear hb hbo HN1 d0 d1 d2 HV HS HG HT HF HR HP HBo hf
      go_wp2
      exact ⟨⟨s + 1, by go_num, by omega, by omega, HP2, HB3⟩, by simp [intOf]; omega⟩
end Go.Proofs.Ytgpjggbcomeolaa
