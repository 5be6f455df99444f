/-
  Both texts of GoodSaga.
-/
import Derived.Test.YtmpedadjikmnhaaSgF
namespace Go.Proofs.Ytmpedadjikmnhaa
open Go.RowKit M
open Clk (upd upd_same upd_other)
open Go.Sort (grow)
namespace M
theorem CapOk.cut {w : World} {a : Option Addr} {n c : Nat} {f : Nat → Int} (h : MovesOf w (.slice a n c) n f) {d : Nat} (hd : d ≤ n) (c' : Nat) : MovesOf w (.slice a d c') d f := by
  obtain ⟨a', c'', e, hr⟩ := h
  cases e
  refine ⟨a, c', rfl, fun hp => ?_⟩
  obtain ⟨b, off, ha, hb, hrow⟩ := hr (by omega)
  exact ⟨b, off, ha, hb, fun q hq => hrow q (by omega)⟩
def Good1 (s : Sg) : Prop := (1 ≤ (s.na : Int) ∧ (s.na : Int) ≤ 8) ∧ Acc s.na s.fa
def Good2 (s : Sg) : Prop := s.nm ≤ 20 ∧ ∀ i, i < s.nm → GMz (s.na : Int) (s.fm i)
theorem good_parts {s : Sg} : GoodS s ↔ Good1 s ∧ Good2 s ∧ (0 ≤ s.dn ∧ s.dn ≤ s.nm) ∧ Und s.fm s.dn.toNat s.fa := by
  constructor
  · intro h; exact ⟨⟨⟨by have := h.na1; omega, by have := h.na8; omega⟩, h.acc⟩, ⟨h.nm, h.mv⟩, ⟨h.dn0, h.dn1⟩, h.und⟩
  · rintro ⟨⟨⟨h1, h2⟩, h3⟩, ⟨h4, h5⟩, ⟨h6, h7⟩, h8⟩; exact ⟨by omega, by omega, h3, h4, h5, h6, h7, h8⟩
abbrev sgv (v0 v1 : Value) (s : Sg) : Value := .agg #[v0, v1, .int .i64 s.dn, .bool s.un]
end M
open Classical in
set_option maxRecDepth 20000 in
set_option maxHeartbeats 4000000 in
theorem impl_good (v0 v1 : Value) (s : Sg) (b : Bool) (w : World) (hv : SagC w v0 v1 s.na s.fa s.nm (fl s.fm)) (hs : ShortS s.na s.nm) (hb : b = true ↔ GoodS s) :
    Calls Try.prog 26 #[sgv v0 v1 s] w fun e w' => e = .returned (.bool b) ∧ Below w.heap.size w w' := by
  rw [good_parts] at hb
  obtain ⟨b0, hb0⟩ : ∃ x, decide (Good1 s) = x := ⟨_, rfl⟩
  obtain ⟨b1, hb1⟩ : ∃ x, decide (Good2 s) = x := ⟨_, rfl⟩
  obtain ⟨b2, hb2⟩ : ∃ x, decide (0 ≤ s.dn ∧ s.dn ≤ (s.nm : Int)) = x := ⟨_, rfl⟩
  obtain ⟨b3, hb3⟩ : ∃ x, decide (Und s.fm s.dn.toNat s.fa) = x := ⟨_, rfl⟩
  have eb : b = (b0 && (b1 && (b2 && b3))) := by rw [Bool.eq_iff_iff, hb, ← hb0, ← hb1, ← hb2, ← hb3]; simp only [Bool.and_eq_true, decide_eq_true_eq]
  subst eb
  obtain ⟨⟨hI, hM⟩, a1, c1, rfl, hcap⟩ := hv
  obtain ⟨a0, c0, rfl⟩ := hI.form
  have hbA := (Below.refl w.heap.size w).alloc (Nat.le_refl _) (.cells #[.slice a0 s.na c0, .slice a1 s.nm c1, .int .i64 s.dn, .bool s.un] 27)
  have HN := new4 w (.slice a0 s.na c0) (.slice a1 s.nm c1) (.int .i64 s.dn) (.bool s.un) 27
  obtain ⟨⟨x0, x1, x2, -⟩, -⟩ := HN.quad
  obtain ⟨W, hW⟩ : ∃ W, w.alloc (.cells #[.slice a0 s.na c0, .slice a1 s.nm c1, .int .i64 s.dn, .bool s.un] 27) = W := ⟨_, rfl⟩
  have hI' := hI.below hbA
  have hM' := hM.below hbA
  rw [hW] at x0 x1 x2 hbA hI' hM'
  have y0 := cell_regrown x0
  have y1 := cell_regrown x1
  have y2 := cell_regrown x2
  have HE0 := hide (show ∀ dd os, Calls Try.prog 51 #[.slice a0 s.na c0] (grow (redrawn W dd) os) fun e w'' => e = .returned (.bool b0) ∧ ∃ p : Regrown, w'' = grow (redrawn W p.d) p.os from fun dd os => by
    refine Calls.regrown_of ((good_accounts _ s.na s.fa b0 _ (hI'.below (below_regrown W dd os)) hs.1 (by rw [← hb0, decide_eq_true_eq]; exact Iff.rfl)).mono ?_)
    rintro e w' ⟨rfl, rfl⟩
    exact ⟨rfl, Below.refl _ _⟩)
  have HE1 := hide (show ∀ dd os, Calls Try.prog 52 #[.slice a1 s.nm c1, .int .i64 (s.na : Int)] (grow (redrawn W dd) os) fun e w'' => e = .returned (.bool b1) ∧ ∃ p : Regrown, w'' = grow (redrawn W p.d) p.os from fun dd os =>
    Calls.regrown_of (good_moves _ s.nm s.fm (s.na : Int) b1 _ (hM'.below (below_regrown W dd os)) hs.2 (by omega) (by have := hs.1; omega) (by rw [← hb1, decide_eq_true_eq]; exact Iff.rfl)))
  have HE2 := hide (show ∀ dd os, Calls Try.prog 53 #[.int .i64 s.dn, .int .i64 0, .int .i64 (s.nm : Int)] (grow (redrawn W dd) os) fun e w'' => e = .returned (.bool b2) ∧ ∃ p : Regrown, w'' = grow (redrawn W p.d) p.os from fun dd os => by
    refine Calls.regrown_of ((within_to s.dn 0 (s.nm : Int) b2 _ hb2).mono ?_)
    rintro e w' ⟨rfl, rfl⟩
    exact ⟨rfl, Below.refl _ _⟩)
  have HE3 := hide (show b0 = true → b1 = true → b2 = true → ∃ d : Nat, s.dn = (d : Int) ∧ d ≤ s.nm ∧ ∀ dd os, Calls Try.prog 54 #[.slice a0 s.na c0, .slice a1 d c1] (grow (redrawn W dd) os) fun e w'' => e = .returned (.bool b3) ∧ ∃ p : Regrown, w'' = grow (redrawn W p.d) p.os from fun e0 e1 e2 => by
    rw [← hb0, decide_eq_true_eq] at e0
    rw [← hb1, decide_eq_true_eq] at e1
    rw [← hb2, decide_eq_true_eq] at e2
    refine ⟨s.dn.toNat, by omega, by omega, fun dd os => Calls.regrown_of (can_undo _ _ s.na s.dn.toNat s.fa s.fm b3 _ (hI'.below (below_regrown W dd os)) (CapOk.cut (hM'.below (below_regrown W dd os)) (by omega) c1) ⟨by have := e0.1.1; omega, by have := e0.1.2; omega⟩ (by have := e1.1; omega) e0.2 (fun i hi => e1.2 i (by omega)) (by rw [← hb3, decide_eq_true_eq]))⟩)
  have hn1 : s.nm ≤ 1048576 := hs.2
  have hn0 : s.na ≤ 1048576 := hs.1
  have HW := hide hW
  clear hb hb0 hb1 hb2 hb3 hI hM HN hW hI' hM' hs
  obtain ⟨na, fa, nm, fm, dn, un⟩ := s
  simp only at *
  cases b0 with
  | false =>
    clear HE1 HE2 HE3
    go_enter Try.func26, Try.ntmps26
    go_wp2
    rw [HW.out]
    refine wp_region_quiet_below (by kernel_rfl) (by kernel_rfl) ?_
    repeat (go_big_quiet_step (exact HE0.out _ _))
    refine wpQuiet_nil ?_
    rintro _ ⟨⟨dq, osq⟩, rfl⟩
    have hbz := hbA.trans ((below_regrown W dq osq).mono hbA.size)
    go_wp2
    go_ret
    exact ⟨rfl, hbz⟩
  | true =>
    cases b1 with
    | false =>
      clear HE2 HE3
      go_enter Try.func26, Try.ntmps26
      go_wp2
      rw [HW.out]
      refine wp_region_quiet_below (by kernel_rfl) (by kernel_rfl) ?_
      repeat (go_big_quiet_step (first | with_reducible exact HE0.out _ _ | with_reducible exact HE1.out _ _))
      refine wpQuiet_nil ?_
      rintro _ ⟨⟨dq, osq⟩, rfl⟩
      have hbz := hbA.trans ((below_regrown W dq osq).mono hbA.size)
      go_wp2
      go_ret
      exact ⟨rfl, hbz⟩
    | true =>
      cases b2 with
      | false =>
        clear HE3
        go_enter Try.func26, Try.ntmps26
        go_wp2
        rw [HW.out]
        refine wp_region_quiet_below (by kernel_rfl) (by kernel_rfl) ?_
        repeat (go_big_quiet_step (first | with_reducible exact HE0.out _ _ | with_reducible exact HE1.out _ _ | with_reducible exact HE2.out _ _))
        refine wpQuiet_nil ?_
        rintro _ ⟨⟨dq, osq⟩, rfl⟩
        have hbz := hbA.trans ((below_regrown W dq osq).mono hbA.size)
        go_wp2
        go_ret
        exact ⟨rfl, hbz⟩
      | true =>
        obtain ⟨d, hd, hdn, hE⟩ := HE3.out rfl rfl rfl
        subst hd
        have HE4 := hide hE
        have hd0 : (0 : Int) ≤ (d : Int) := by omega
        have hd1 : (d : Int) ≤ (c1 : Int) := by omega
        have hd2 : d ≤ c1 := by omega
        clear HE3 hE
        go_enter Try.func26, Try.ntmps26
        go_wp2
        rw [HW.out]
        refine wp_region_quiet_below (by kernel_rfl) (by kernel_rfl) ?_
        repeat (go_big_quiet_step (first | with_reducible exact HE0.out _ _ | with_reducible exact HE1.out _ _ | with_reducible exact HE2.out _ _ | with_reducible exact HE4.out _ _))
        refine wpQuiet_nil ?_
        rintro _ ⟨⟨dq, osq⟩, rfl⟩
        have hbz := hbA.trans ((below_regrown W dq osq).mono hbA.size)
        go_wp2
        go_ret
        exact ⟨rfl, hbz⟩
end Go.Proofs.Ytmpedadjikmnhaa
