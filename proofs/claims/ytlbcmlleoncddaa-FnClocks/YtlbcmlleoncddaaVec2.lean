/-
  Two vectors held against each other: the same, or at most.
-/
import Derived.Test.YtlbcmlleoncddaaVec
namespace Go.Proofs.Ytlbcmlleoncddaa
open Go.RowKit M
open Go.Sort (grow)
namespace M
def veq (v u : Nat → Int) : Bool := (v 0 == u 0) && ((v 1 == u 1) && ((v 2 == u 2) && ((v 3 == u 3) && ((v 4 == u 4) && (v 5 == u 5)))))
end M
theorem eq6 (v u : Nat → Int) (w : World) : (Op.equalIn 10000 72 (vecV v) (vecV u)).run Try.prog w = .ok (veq v u) w := by
  have hu : Try.prog.underlying 72 = some (.array 6 3) := Try.underlying72
  have hi : Try.prog.underlying 3 = some (.int .i64) := Try.underlying3
  have he : ∀ (a b : Int) (w : World), (Op.equalIn 9999 3 (.int .i64 a) (.int .i64 b)).run Try.prog w = .ok (a == b) w := fun a b w => run_equalIn_int w 9998 3 .i64 .i64 a b hi
  have hsz : ∀ w : World, (sizeOf 3).run Try.prog w = .ok 1 w := fun w => by obtain ⟨i, hi, hz0, hz1, hz2⟩ := info_parts info_int; simp [sizeOf, typeInfo, go_sem, hi, hz1]
  rw [Op.equalIn]
  simp only [Sem.run_bind, run_underlying hu, Result.andThen_ok, hsz]
  rw [Std.Legacy.Range.forIn_eq_forIn_range']
  simp [List.range', part, he, go_sem]
  unfold veq
  by_cases h0 : v 0 = u 0 <;> by_cases h1 : v 1 = u 1 <;> by_cases h2 : v 2 = u 2 <;> by_cases h3 : v 3 = u 3 <;> by_cases h4 : v 4 = u 4 <;> by_cases h5 : v 5 = u 5 <;> simp [h0, h1, h2, h3, h4, h5]
namespace M
def vle (v u : Nat → Int) : Bool := decide (v 0 ≤ u 0) && (decide (v 1 ≤ u 1) && (decide (v 2 ≤ u 2) && (decide (v 3 ≤ u 3) && (decide (v 4 ≤ u 4) && decide (v 5 ≤ u 5)))))
theorem vle_mx (v u : Nat → Int) : veq (mxf v u) u = vle v u := by
  have h : ∀ a b : Int, (max a b == b) = decide (a ≤ b) := fun a b => by
    by_cases hab : a ≤ b
    · simp [hab, Int.max_eq_right hab]
    · have : max a b ≠ b := by omega
      simp [hab, this]
  unfold veq vle mxf
  simp only [h]
theorem veq_iff (v u : Nat → Int) : veq v u = true ↔ ∀ q, q < 6 → v q = u q := by
  unfold veq
  simp only [Bool.and_eq_true, beq_iff_eq]
  constructor
  · rintro ⟨h0, h1, h2, h3, h4, h5⟩ q hq
    match q, hq with
    | 0, _ => exact h0
    | 1, _ => exact h1
    | 2, _ => exact h2
    | 3, _ => exact h3
    | 4, _ => exact h4
    | 5, _ => exact h5
  · intro h
    exact ⟨h 0 (by omega), h 1 (by omega), h 2 (by omega), h 3 (by omega), h 4 (by omega), h 5 (by omega)⟩
theorem vle_iff (v u : Nat → Int) : vle v u = true ↔ ∀ q, q < 6 → v q ≤ u q := by
  unfold vle
  simp only [Bool.and_eq_true, decide_eq_true_eq]
  constructor
  · rintro ⟨h0, h1, h2, h3, h4, h5⟩ q hq
    match q, hq with
    | 0, _ => exact h0
    | 1, _ => exact h1
    | 2, _ => exact h2
    | 3, _ => exact h3
    | 4, _ => exact h4
    | 5, _ => exact h5
  · intro h
    exact ⟨h 0 (by omega), h 1 (by omega), h 2 (by omega), h 3 (by omega), h 4 (by omega), h 5 (by omega)⟩
end M
set_option maxHeartbeats 1000000 in
theorem at_most (v u : Nat → Int) (w : World) :
    Calls Try.prog 54 #[vecV v, vecV u] w fun e w' => e = .returned (.bool (vle v u)) ∧ Below w.heap.size w w' := by
  rw [← vle_mx]
  have hA : ∀ w2, (w.alloc (.cells (cf 6 (iv v)) 72)).alloc (.cells (cf 6 (iv u)) 72) = w2 → Blk w2 w.heap.size 6 (iv v) 72 ∧ Blk w2 (w.heap.size + 1) 6 (iv u) 72 ∧ Below w.heap.size w w2 := by
    rintro w2 rfl
    refine ⟨(Blk.new w 6 _ _).alloc _, ?_, ((Below.refl _ _).alloc (Nat.le_refl _) _).alloc (by simp) _⟩
    have := Blk.new (w.alloc (.cells (cf 6 (iv v)) 72)) 6 (iv u) 72
    rw [World.size_alloc] at this; exact this
  go_enter Try.func54, Try.ntmps54
  go_wp2_with fail
  generalize hW : (w.alloc _).alloc _ = w2
  obtain ⟨b1, b2, hb2⟩ := hA w2 hW
  clear hA hW
  obtain ⟨c0, c1, c2, c3, c4, c5⟩ := b1.six
  obtain ⟨d0, d1, d2, d3, d4, d5⟩ := b2.six
  have k0 := cell_regrown c0
  have k1 := cell_regrown c1
  have k2 := cell_regrown c2
  have k3 := cell_regrown c3
  have k4 := cell_regrown c4
  have k5 := cell_regrown c5
  have l0 := cell_regrown d0
  have l1 := cell_regrown d1
  have l2 := cell_regrown d2
  have l3 := cell_regrown d3
  have l4 := cell_regrown d4
  have l5 := cell_regrown d5
  have HE := hide (show ∀ d os, Calls Try.prog 55 #[vecV v, vecV u] (grow (redrawn w2 d) os) fun e w'' => e = .returned (vecV (mxf v u)) ∧ ∃ p : Regrown, w'' = grow (redrawn w2 p.d) p.os from fun d os => Calls.regrown_of (join_vec v u _))
  have hE := eq6 (mxf v u) u
  clear b1 b2 c0 c1 c2 c3 c4 c5 d0 d1 d2 d3 d4 d5
  refine wp_region_quiet_below (by kernel_rfl) (by kernel_rfl) ?_
  repeat (quiet_step (exact HE.out _ _))
  refine wpQuiet_nil ?_
  intro _ hw'
  obtain ⟨⟨dq, osq⟩, hw''⟩ := hw'
  subst hw''
  have hbw2 := hb2.trans ((below_regrown w2 dq osq).mono hb2.size)
  go_wp2
  go_ret
  exact ⟨rfl, hbw2⟩
end Go.Proofs.Ytlbcmlleoncddaa
