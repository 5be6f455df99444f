/-
  Waits in both texts: the next one, the one behind a try, all of them and their sum.
-/
import Derived.Test.YtegbfmdilmbpmaaRtB
namespace Go.Proofs.Ytegbfmdilmbpmaa
open Go.RowKit M
open Clk (upd upd_same upd_other)
set_option maxHeartbeats 1000000 in
theorem next_wait (p : Po) (x y : Int) (w : World) (h0 : 1 ≤ x * p.t) (h1 : x * p.t ≤ 10000000) (hy : y = min (x * p.t) p.m) :
    Calls Try.prog 51 #[.agg #[.int .i64 p.f, .int .i64 p.t, .int .i64 p.m, .int .i64 p.n], .int .i64 x] w fun e w' => e = .returned (.int .i64 y) ∧ Below w.heap.size w w' := by
  have hbw := (Below.refl w.heap.size w).alloc (Nat.le_refl _) (.cells #[.int .i64 p.f, .int .i64 p.t, .int .i64 p.m, .int .i64 p.n] 25)
  have HY := hide hy
  have hw : IntKind.i64.wrap (x * p.t) = x * p.t := by rw [IntKind.wrap_i64]; omega
  clear hy
  go_enter Try.func51, Try.ntmps51
  go_wp2
  all_goals go_ret
  all_goals exact ⟨ret_int (by have := HY.out; omega), hbw⟩
set_option maxHeartbeats 2000000 in
theorem impl_wait (p : Po) (x : Int) (b : Bool) (r : Int) (w : World) (hb : decide (GPo p ∧ 1 ≤ x ∧ x ≤ p.n) = b) (hr : (if b = true then wt p (x.toNat - 1) else 0) = r) :
    Calls Try.prog 17 #[.agg #[.int .i64 p.f, .int .i64 p.t, .int .i64 p.m, .int .i64 p.n], .int .i64 x] w fun e w' => e = .returned (.tuple #[.int .i64 r, .bool b]) ∧ Below w.heap.size w w' := by
  obtain ⟨bp, hbp⟩ : ∃ z, decide (GPo p) = z := ⟨_, rfl⟩
  obtain ⟨bx, hbx⟩ : ∃ z, decide (1 ≤ x ∧ x ≤ p.n) = z := ⟨_, rfl⟩
  have eb : b = (bp && bx) := by rw [← hb, ← hbp, ← hbx, Bool.eq_iff_iff]; simp only [Bool.and_eq_true, decide_eq_true_eq]
  have hb0 := (Below.refl w.heap.size w).alloc (Nat.le_refl _) (.cells #[.int .i64 p.f, .int .i64 p.t, .int .i64 p.m, .int .i64 p.n] 25)
  have HL0 := hide (new4 w (.int .i64 p.f) (.int .i64 p.t) (.int .i64 p.m) (.int .i64 p.n) 25)
  have BP := hide hbp
  have BX := hide hbx
  have HR := hide hr
  subst eb
  clear hb hr hbp hbx
  go_enter Try.func17, Try.ntmps17
  go_wp2_with fail
  refine (impl_policy p bp _ BP.out).mono ?_
  rintro e w1 ⟨rfl, hb⟩
  have hb1 := hb0.trans (hb.mono hb0.size)
  have HL1 := hide (HL0.out.down hb)
  clear hb hb0 HL0
  cases bp with
  | false =>
    clear BP BX HL1
    go_wp2
    go_ret2
    exact ⟨by rw [← HR.out]; rfl, hb1⟩
  | true =>
    obtain ⟨⟨d0, d1, d2, d3⟩, -⟩ := HL1.out.quad
    go_wp2_with fail
    refine (within_to _ _ _ bx _ BX.out).mono ?_
    rintro e w2 ⟨rfl, rfl⟩
    cases bx with
    | false =>
      clear BP BX HL1
      go_wp2
      go_ret2
      exact ⟨by rw [← HR.out]; rfl, hb1⟩
    | true =>
      have hG := of_decide_eq_true BP.out
      have hX := of_decide_eq_true BX.out
      have hN := hG.2.2.2.2
      obtain ⟨m, rfl⟩ : ∃ m : Nat, x = (m : Int) + 1 := ⟨(x - 1).toNat, by omega⟩
      have hm : m < 40 := by omega
      have HG := hide hG
      have HE := hide (show wt p m = r by have := HR.out; rwa [show ((m : Int) + 1).toNat - 1 = m by omega, if_pos (by rfl)] at this)
      clear BP BX hG hX hN HR
      go_wp2
      clear d0 d1 d2 d3
      go_loopw [6, 21] (fun y i wr => ∃ j : Nat, j ≤ m ∧ i = .int .i64 j ∧ y = .int .i64 (wt p j) ∧ Hid (Blk wr w.heap.size 4 (q4 (.int .i64 p.f) (.int .i64 p.t) (.int .i64 p.m) (.int .i64 p.n)) 25 ∧ Below w.heap.size w wr)) (fun _ i _ => m - (intOf i).toNat)
      case atStart => exact ⟨0, Nat.zero_le _, rfl, rfl, hide ⟨HL1.out, hb1⟩⟩
      case round =>
        rename World => wo
        obtain ⟨j, hj, rfl, rfl, HP⟩ := hrel
        by_cases hlt : j < m
        · obtain ⟨⟨d0, d1, d2, d3⟩, -⟩ := HP.out.1.quad
          have hwm := wt_mul HG.out j
          go_wp2_with fail
          refine (next_wait p (wt p j) (wt p (j + 1)) _ hwm.1 hwm.2 rfl).mono ?_
          rintro e w3 ⟨rfl, hb⟩
          have HP3 := hide (And.intro (HP.out.1.down hb) (HP.out.2.trans (hb.mono HP.out.2.size)))
          clear hb HP d0 d1 d2 d3 hwm
          go_wp2
          exact ⟨⟨j + 1, by omega, by go_num, rfl, HP3⟩, by simp [intOf]; omega⟩
        · obtain rfl : j = m := by omega
          go_wp2
          go_ret2
          exact ⟨by rw [HE.out]; rfl, HP.out.2⟩
set_option maxHeartbeats 2000000 in
theorem spec_wait1 (p : Po) (m : Nat) (w : World) (hG : GPo p) (hm : m < 40) :
    Calls Try.prog 50 #[.agg #[.int .i64 p.f, .int .i64 p.t, .int .i64 p.m, .int .i64 p.n], .int .i64 ((m : Int) + 1)] w fun e w' => e = .returned (.int .i64 (wt p m)) ∧ Below w.heap.size w w' := by
  have hb0 := (Below.refl w.heap.size w).alloc (Nat.le_refl _) (.cells #[.int .i64 p.f, .int .i64 p.t, .int .i64 p.m, .int .i64 p.n] 25)
  have HL0 := hide (new4 w (.int .i64 p.f) (.int .i64 p.t) (.int .i64 p.m) (.int .i64 p.n) 25)
  have HG := hide hG
  clear hG
  go_enter Try.func50, Try.ntmps50
  go_wp2
  go_loopw [1, 5] (fun i y wr => ∃ j : Nat, j ≤ m ∧ i = .int .i64 (((m - j : Nat) : Int) + 1) ∧ y = .int .i64 (wt p j) ∧ Hid (Blk wr w.heap.size 4 (q4 (.int .i64 p.f) (.int .i64 p.t) (.int .i64 p.m) (.int .i64 p.n)) 25 ∧ Below w.heap.size w wr)) (fun i _ _ => (intOf i).toNat)
  case atStart => exact ⟨0, Nat.zero_le _, by simp, rfl, hide ⟨HL0.out, hb0⟩⟩
  case round =>
    rename World => wo
    obtain ⟨j, hj, rfl, rfl, HP⟩ := hrel
    by_cases hlt : j < m
    · obtain ⟨⟨d0, d1, d2, d3⟩, -⟩ := HP.out.1.quad
      obtain ⟨hw0, hw1⟩ := wt_mul HG.out j
      have hw : IntKind.i64.wrap (wt p j * p.t) = wt p j * p.t := by rw [IntKind.wrap_i64]; omega
      obtain ⟨q, hq⟩ : ∃ q, m - j = q + 1 := ⟨m - j - 1, by omega⟩
      have HQ := hide (show m - (j + 1) = q by omega)
      rw [hq]
      have hq40 : q < 40 := by omega
      clear hq
      by_cases hgt : wt p j * p.t > p.m
      · have HF := hide (show wt p m = p.m by
          have h1 : wt p (j + 1) = p.m := by show min (wt p j * p.t) p.m = p.m; omega
          have h2 := wt_full HG.out h1 (m - (j + 1))
          rwa [show j + 1 + (m - (j + 1)) = m by omega] at h2)
        clear HG HQ
        go_wp2
        go_ret
        exact ⟨ret_int HF.out.symm, HP.out.2⟩
      · have HF := hide (show wt p (j + 1) = wt p j * p.t by show min (wt p j * p.t) p.m = _; omega)
        clear HG
        go_wp2
        exact ⟨⟨j + 1, by omega, by rw [HQ.out], by rw [HF.out], HP⟩, by simp [intOf]; omega⟩
    · obtain rfl : j = m := by omega
      have hz : j - j = 0 := by omega
      rw [hz]
      clear hz
      go_wp2
      go_ret
      exact ⟨rfl, HP.out.2⟩
set_option maxHeartbeats 2000000 in
theorem spec_wait (p : Po) (x : Int) (b : Bool) (r : Int) (w : World) (hb : decide (GPo p ∧ 1 ≤ x ∧ x ≤ p.n) = b) (hr : (if b = true then wt p (x.toNat - 1) else 0) = r) :
    Calls Try.prog 16 #[.agg #[.int .i64 p.f, .int .i64 p.t, .int .i64 p.m, .int .i64 p.n], .int .i64 x] w fun e w' => e = .returned (.tuple #[.int .i64 r, .bool b]) ∧ Below w.heap.size w w' := by
  obtain ⟨bp, hbp⟩ : ∃ z, decide (GPo p) = z := ⟨_, rfl⟩
  obtain ⟨bx, hbx⟩ : ∃ z, decide (1 ≤ x ∧ x ≤ p.n) = z := ⟨_, rfl⟩
  have eb : b = (bp && bx) := by rw [← hb, ← hbp, ← hbx, Bool.eq_iff_iff]; simp only [Bool.and_eq_true, decide_eq_true_eq]
  have hb0 := (Below.refl w.heap.size w).alloc (Nat.le_refl _) (.cells #[.int .i64 p.f, .int .i64 p.t, .int .i64 p.m, .int .i64 p.n] 25)
  have HL0 := hide (new4 w (.int .i64 p.f) (.int .i64 p.t) (.int .i64 p.m) (.int .i64 p.n) 25)
  have BP := hide hbp
  have BX := hide hbx
  have HR := hide hr
  subst eb
  clear hb hr hbp hbx
  go_enter Try.func16, Try.ntmps16
  go_wp2_with fail
  refine (spec_policy p bp _ BP.out).mono ?_
  rintro e w1 ⟨rfl, hb⟩
  have hb1 := hb0.trans (hb.mono hb0.size)
  have HL1 := hide (HL0.out.down hb)
  clear hb hb0 HL0
  cases bp with
  | false =>
    clear BP BX HL1
    go_wp2
    go_ret2
    exact ⟨by rw [← HR.out]; rfl, hb1⟩
  | true =>
    obtain ⟨⟨d0, d1, d2, d3⟩, -⟩ := HL1.out.quad
    go_wp2_with fail
    refine (l1in_to _ _ _ bx _ BX.out).mono ?_
    rintro e w2 ⟨rfl, rfl⟩
    cases bx with
    | false =>
      clear BP BX HL1
      go_wp2
      go_ret2
      exact ⟨by rw [← HR.out]; rfl, hb1⟩
    | true =>
      have hG := of_decide_eq_true BP.out
      have hX := of_decide_eq_true BX.out
      have hN := hG.2.2.2.2
      obtain ⟨m, rfl⟩ : ∃ m : Nat, x = (m : Int) + 1 := ⟨(x - 1).toNat, by omega⟩
      have hm : m < 40 := by omega
      have HE := hide (show wt p m = r by have := HR.out; rwa [show ((m : Int) + 1).toNat - 1 = m by omega, if_pos (by rfl)] at this)
      have HC := hide (fun W => spec_wait1 p m W hG hm)
      clear BP BX hG hX hN HR
      go_wp2_with fail
      refine (HC.out _).mono ?_
      rintro e w3 ⟨rfl, hb⟩
      have hb3 := hb1.trans (hb.mono hb1.size)
      clear hb hb1 d0 d1 d2 d3 HL1 HC
      go_wp2
      go_ret2
      exact ⟨by rw [HE.out]; rfl, hb3⟩
end Go.Proofs.Ytegbfmdilmbpmaa
