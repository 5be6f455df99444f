/-
  Rows of vectors in memory, six cells each: what their cells hold, what a store of one vector leaves.
-/
import Derived.Test.YtlbcmlleoncddaaClkL
import Derived.Test.YtlbcmlleoncddaaVec2
import Derived.Test.YtlbcmlleoncddaaGoodB
namespace Go.Proofs.Ytlbcmlleoncddaa
open Go.RowKit M
open Clk (upd upd_same upd_other)
namespace M
def vv (f : Nat → Nat → Int) : Nat → Value := fun j => .int .i64 (f (j / 6) (j % 6))
theorem vv_at (f : Nat → Nat → Int) (k q : Nat) (hq : q < 6) : vv f (k * 6 + q) = .int .i64 (f k q) := by
  unfold vv; rw [show (k * 6 + q) / 6 = k by omega, show (k * 6 + q) % 6 = q by omega]
theorem vv_upd (f : Nat → Nat → Int) (k : Nat) (x : Nat → Int) :
    upd (upd (upd (upd (upd (upd (vv f) (k * 6) (.int .i64 (x 0))) (k * 6 + 1) (.int .i64 (x 1))) (k * 6 + 2) (.int .i64 (x 2))) (k * 6 + 3) (.int .i64 (x 3))) (k * 6 + 4) (.int .i64 (x 4))) (k * 6 + 5) (.int .i64 (x 5)) = vv (upd f k x) := by
  funext j
  by_cases hj : j / 6 = k
  · have hjk : j = k * 6 + j % 6 := by omega
    have hm : j % 6 < 6 := by omega
    have hr : vv (upd f k x) j = .int .i64 (x (j % 6)) := by unfold vv; rw [hj, upd_same]
    rw [hr]
    generalize j % 6 = q at *
    subst hjk
    clear hr hj
    unfold upd
    match q, hm with
    | 0, _ => simp
    | 1, _ => simp
    | 2, _ => simp
    | 3, _ => simp
    | 4, _ => simp
    | 5, _ => simp
  · rw [upd_other _ _ _ _ (by omega), upd_other _ _ _ _ (by omega), upd_other _ _ _ _ (by omega), upd_other _ _ _ _ (by omega), upd_other _ _ _ _ (by omega), upd_other _ _ _ _ (by omega)]
    unfold vv; rw [upd_other _ _ _ _ hj]
def s6 (w : World) (g o : Nat) (x : Nat → Int) : World :=
  (((((w.setCell ⟨g, o, none⟩ (.int .i64 (x 0))).setCell ⟨g, o + 1, none⟩ (.int .i64 (x 1))).setCell ⟨g, o + 2, none⟩ (.int .i64 (x 2))).setCell ⟨g, o + 3, none⟩ (.int .i64 (x 3))).setCell ⟨g, o + 4, none⟩ (.int .i64 (x 4))).setCell ⟨g, o + 5, none⟩ (.int .i64 (x 5))
theorem Blk.s6 {w : World} {g m k : Nat} {f : Nat → Nat → Int} {t : TypeId} (h : Blk w g m (vv f) t) (x : Nat → Int) : Blk (M.s6 w g (k * 6) x) g m (vv (upd f k x)) t := by
  rw [← vv_upd]
  exact (((((h.set _ _).set _ _).set _ _).set _ _).set _ _).set _ _
theorem Blk.s6_other {w : World} {g g' m o : Nat} {f : Nat → Value} {t : TypeId} (h : Blk w g m f t) (hne : g ≠ g') (x : Nat → Int) : Blk (M.s6 w g' o x) g m f t :=
  (((((h.set_other hne _ _).set_other hne _ _).set_other hne _ _).set_other hne _ _).set_other hne _ _).set_other hne _ _
theorem below_s6 {B : Nat} {a w : World} (h : Below B a w) {g o : Nat} (hg : B ≤ g) (x : Nat → Int) : Below B a (s6 w g o x) :=
  (((((h.setCell hg _).setCell hg _).setCell hg _).setCell hg _).setCell hg _).setCell hg _
theorem Blk.s6_own {w : World} {g : Nat} {f : Nat → Int} {t : TypeId} (h : Blk w g 6 (iv f) t) (x : Nat → Int) : Blk (M.s6 w g 0 x) g 6 (iv x) t := by
  refine Blk.ext ((((((h.set _ _).set _ _).set _ _).set _ _).set _ _).set _ _) ?_
  intro i hi
  match i, hi with
  | 0, _ => rfl
  | 1, _ => rfl
  | 2, _ => rfl
  | 3, _ => rfl
  | 4, _ => rfl
  | 5, _ => rfl
theorem Blk.row6 {w : World} {g m k : Nat} {f : Nat → Nat → Int} {t : TypeId} (h : Blk w g m (vv f) t) (hk : k * 6 + 6 ≤ m) :
    (w.cell? ⟨g, k * 6, none⟩ = some (.int .i64 (f k 0)) ∧ w.cell? ⟨g, k * 6 + 1, none⟩ = some (.int .i64 (f k 1)) ∧ w.cell? ⟨g, k * 6 + 2, none⟩ = some (.int .i64 (f k 2)) ∧ w.cell? ⟨g, k * 6 + 3, none⟩ = some (.int .i64 (f k 3)) ∧ w.cell? ⟨g, k * 6 + 4, none⟩ = some (.int .i64 (f k 4)) ∧ w.cell? ⟨g, k * 6 + 5, none⟩ = some (.int .i64 (f k 5))) ∧
    w.frozen? ⟨g, k * 6, none⟩ = false ∧ w.frozen? ⟨g, k * 6 + 1, none⟩ = false ∧ w.frozen? ⟨g, k * 6 + 2, none⟩ = false ∧ w.frozen? ⟨g, k * 6 + 3, none⟩ = false ∧ w.frozen? ⟨g, k * 6 + 4, none⟩ = false ∧ w.frozen? ⟨g, k * 6 + 5, none⟩ = false := by
  have q : ∀ j, j < 6 → w.cell? ⟨g, k * 6 + j, none⟩ = some (.int .i64 (f k j)) := fun j hj => by rw [← vv_at f k j hj]; exact h.cell (by omega)
  exact ⟨⟨q 0 (by omega), q 1 (by omega), q 2 (by omega), q 3 (by omega), q 4 (by omega), q 5 (by omega)⟩, h.thaw _, h.thaw _, h.thaw _, h.thaw _, h.thaw _, h.thaw _⟩
theorem Blk.thaw6 {w : World} {g m : Nat} {f : Nat → Value} {t : TypeId} (h : Blk w g m f t) : w.frozen? ⟨g, 0, none⟩ = false ∧ w.frozen? ⟨g, 1, none⟩ = false ∧ w.frozen? ⟨g, 2, none⟩ = false ∧ w.frozen? ⟨g, 3, none⟩ = false ∧ w.frozen? ⟨g, 4, none⟩ = false ∧ w.frozen? ⟨g, 5, none⟩ = false :=
  ⟨h.thaw _, h.thaw _, h.thaw _, h.thaw _, h.thaw _, h.thaw _⟩
theorem madeV (n : Nat) : madeCells #[.int .i64 0, .int .i64 0, .int .i64 0, .int .i64 0, .int .i64 0, .int .i64 0] (n * 6) = cf (n * 6) (vv fun _ _ => 0) := by
  apply Array.ext_getElem?
  intro j
  by_cases hj : j < n * 6
  · rw [cf_get _ hj]
    have h1 : (madeCells #[.int .i64 0, .int .i64 0, .int .i64 0, .int .i64 0, .int .i64 0, .int .i64 0] (n * 6))[j]? = some (#[(.int .i64 0 : Value), .int .i64 0, .int .i64 0, .int .i64 0, .int .i64 0, .int .i64 0][j % 6]!) := by simp [madeCells, hj]
    rw [h1]
    unfold vv
    rcases (show j % 6 = 0 ∨ j % 6 = 1 ∨ j % 6 = 2 ∨ j % 6 = 3 ∨ j % 6 = 4 ∨ j % 6 = 5 by omega) with h | h | h | h | h | h <;> rw [h] <;> rfl
  · rw [Array.getElem?_eq_none (by rw [size_madeCells]; omega), Array.getElem?_eq_none (by rw [cf_size]; omega)]
theorem cf36 : #[(.int .i64 0 : Value), .int .i64 0, .int .i64 0, .int .i64 0, .int .i64 0, .int .i64 0, .int .i64 0, .int .i64 0, .int .i64 0, .int .i64 0, .int .i64 0, .int .i64 0, .int .i64 0, .int .i64 0, .int .i64 0, .int .i64 0, .int .i64 0, .int .i64 0, .int .i64 0, .int .i64 0, .int .i64 0, .int .i64 0, .int .i64 0, .int .i64 0, .int .i64 0, .int .i64 0, .int .i64 0, .int .i64 0, .int .i64 0, .int .i64 0, .int .i64 0, .int .i64 0, .int .i64 0, .int .i64 0, .int .i64 0, .int .i64 0] = cf 36 (vv fun _ _ => 0) := rfl
/-- The walk stands still ahead of the operation that fills slot d; what is known of the world is R. -/
theorem stop_at {P : Program} {ops : Array Oper} {Q : Exit → Act → World → Prop} {o : Oper} {rest : List Oper} {a : Act} {w : World} (d : Option Nat) (_ : o.dst = d) (R : World → Prop) (hw : Hid (R w)) (h : ∀ w', R w' → wpList P ops Q (o :: rest) a w') : wpList P ops Q (o :: rest) a w := h w hw.out
def Vf (l : Nat → Ac) : Nat → Nat → Int := fun i q => ((Clk.V (P l) (F l) i q : Nat) : Int)
def Laf (l : Nat → Ac) (i : Nat) : Nat → Nat → Int := fun p q => ((Clk.Lat (P l) (F l) i p q : Nat) : Int)
def cpV (l : Nat → Ac) (i : Nat) : Nat → Nat → Int := fun k q => if k < i then Vf l k q else 0
theorem Laf_zero (l : Nat → Ac) : Laf l 0 = fun _ _ => 0 := by funext p q; rfl
theorem Laf_succ (l : Nat → Ac) (i : Nat) : upd (Laf l i) (P l i) (Vf l i) = Laf l (i + 1) := by
  funext p q; unfold Laf Vf upd
  rw [Clk.Lat_succ]
  split <;> rfl
theorem cpV_zero (l : Nat → Ac) : cpV l 0 = fun _ _ => 0 := by funext p q; simp [cpV]
theorem cpV_succ (l : Nat → Ac) (i : Nat) : upd (cpV l i) i (Vf l i) = cpV l (i + 1) := by
  funext k q; unfold upd cpV
  by_cases h : k = i
  · subst h; simp
  · rw [if_neg h]
    by_cases h2 : k < i
    · rw [if_pos h2, if_pos (by omega)]
    · rw [if_neg h2, if_neg (by omega)]
theorem V_none_upd (l : Nat → Ac) (i : Nat) (h : F l i = none) : upd (Laf l i (P l i)) (P l i) (Laf l i (P l i) (P l i) + 1) = Vf l i := by
  funext q; unfold Vf Laf upd
  rw [Clk.V_none (P l) (F l) i q h]
  split
  next hq => subst hq; rfl
  next => dsimp only; omega
theorem V_some_upd (l : Nat → Ac) (i k : Nat) (h : F l i = some k) : upd (mxf (Laf l i (P l i)) (Vf l k)) (P l i) (mxf (Laf l i (P l i)) (Vf l k) (P l i) + 1) = Vf l i := by
  funext q; unfold Vf Laf upd mxf
  rw [Clk.V_some (P l) (F l) (F_lt l) i q k h]
  split
  next hq => subst hq; dsimp only; omega
  next => dsimp only; omega
theorem mxf_le {a b : Nat → Int} {q : Nat} {m : Int} (h1 : a q ≤ m) (h2 : b q ≤ m) : mxf a b q ≤ m := by unfold mxf; omega
end M
theorem info_vec : (Try.prog.info? 72).map (fun i => (i.zero, i.size, i.bytes)) = some (some (.agg #[.int .i64 0, .int .i64 0, .int .i64 0, .int .i64 0, .int .i64 0, .int .i64 0]), 6, 48) := by kernel_rfl
theorem make_vecs (n : Nat) (h : n ≤ 1048576) (w : World) : (Instr.makeSlice 70 (.int .i64 (n : Int)) (.int .i64 (n : Int))).run Try.prog w = .ok (.slice (some ⟨w.heap.size, 0, none⟩) n n) (w.alloc (.cells (cf (n * 6) (vv fun _ _ => 0)) 72)) := by
  obtain ⟨i, hi, hz0, hz1, hz2⟩ := info_parts info_vec
  have hr := run_make (P := Try.prog) w 70 72 i _ Try.underlying70 hi hz0 .i64 .i64 (n : Int) (n : Int) (by omega) (Int.le_refl _) (by rw [hz2]; omega) (by omega)
  rw [hr, hz1]
  simp only [Int.toNat_natCast]
  rw [← madeV]
  rfl
end Go.Proofs.Ytlbcmlleoncddaa
