/-
  Blocks of two, four and five cells, by name.
-/
import Derived.Test.YtegbfmdilmbpmaaRtA
namespace Go.Proofs.Ytegbfmdilmbpmaa
open Go.RowKit M
open Clk (upd upd_same upd_other)
namespace M
def q2 (a b : Value) : Nat → Value := fun i => if i = 0 then a else b
theorem Blk.duo {w : World} {g : Nat} {a b : Value} {t : TypeId} (h : Blk w g 2 (q2 a b) t) : (w.cell? ⟨g, 0, none⟩ = some a ∧ w.cell? ⟨g, 1, none⟩ = some b) ∧ w.frozen? ⟨g, 0, none⟩ = false ∧ w.frozen? ⟨g, 1, none⟩ = false :=
  ⟨⟨h.cell (show 0 < 2 by omega), h.cell (show 1 < 2 by omega)⟩, h.thaw 0, h.thaw 1⟩
theorem new2 (w : World) (a b : Value) (t : TypeId) : Blk (w.alloc (.cells #[a, b] t)) w.heap.size 2 (q2 a b) t := Blk.fresh w _ 2 _ t rfl
theorem Blk.duo0 {w : World} {g : Nat} {a b : Value} {t : TypeId} (h : Blk w g 2 (q2 a b) t) (u : Value) : Blk (w.setCell ⟨g, 0, none⟩ u) g 2 (q2 u b) t :=
  (h.set 0 u).ext fun i hi => by match i, hi with
                                | 0, _ => rfl
                                | 1, _ => rfl
theorem Blk.duo1 {w : World} {g : Nat} {a b : Value} {t : TypeId} (h : Blk w g 2 (q2 a b) t) (u : Value) : Blk (w.setCell ⟨g, 1, none⟩ u) g 2 (q2 a u) t :=
  (h.set 1 u).ext fun i hi => by match i, hi with
                                | 0, _ => rfl
                                | 1, _ => rfl
theorem put2 {w W : World} {g : Nat} {a b : Value} {t : TypeId} (h : Blk W g 2 (q2 a b) t) (hb : Below w.heap.size w W) (hg : w.heap.size ≤ g) (x0 x1 : Value) : ∀ WZ, ((W.setCell ⟨g, 0, none⟩ x0).setCell ⟨g, 1, none⟩ x1) = WZ →
    Blk WZ g 2 (q2 x0 x1) t ∧ Below w.heap.size w WZ := by
  rintro WZ rfl
  exact ⟨((h.duo0 _).duo1 _), ((hb.setCell (p := ⟨g, 0, none⟩) hg _).setCell (p := ⟨g, 1, none⟩) hg _)⟩
def q4 (a b c d : Value) : Nat → Value := fun i => if i = 0 then a else if i = 1 then b else if i = 2 then c else d
theorem Blk.quad {w : World} {g : Nat} {a b c d : Value} {t : TypeId} (h : Blk w g 4 (q4 a b c d) t) : (w.cell? ⟨g, 0, none⟩ = some a ∧ w.cell? ⟨g, 1, none⟩ = some b ∧ w.cell? ⟨g, 2, none⟩ = some c ∧ w.cell? ⟨g, 3, none⟩ = some d) ∧ w.frozen? ⟨g, 0, none⟩ = false ∧ w.frozen? ⟨g, 1, none⟩ = false ∧ w.frozen? ⟨g, 2, none⟩ = false ∧ w.frozen? ⟨g, 3, none⟩ = false :=
  ⟨⟨h.cell (show 0 < 4 by omega), h.cell (show 1 < 4 by omega), h.cell (show 2 < 4 by omega), h.cell (show 3 < 4 by omega)⟩, h.thaw 0, h.thaw 1, h.thaw 2, h.thaw 3⟩
theorem new4 (w : World) (a b c d : Value) (t : TypeId) : Blk (w.alloc (.cells #[a, b, c, d] t)) w.heap.size 4 (q4 a b c d) t := Blk.fresh w _ 4 _ t rfl
theorem Blk.quad0 {w : World} {g : Nat} {a b c d : Value} {t : TypeId} (h : Blk w g 4 (q4 a b c d) t) (u : Value) : Blk (w.setCell ⟨g, 0, none⟩ u) g 4 (q4 u b c d) t :=
  (h.set 0 u).ext fun i hi => by match i, hi with
                                | 0, _ => rfl
                                | 1, _ => rfl
                                | 2, _ => rfl
                                | 3, _ => rfl
theorem Blk.quad1 {w : World} {g : Nat} {a b c d : Value} {t : TypeId} (h : Blk w g 4 (q4 a b c d) t) (u : Value) : Blk (w.setCell ⟨g, 1, none⟩ u) g 4 (q4 a u c d) t :=
  (h.set 1 u).ext fun i hi => by match i, hi with
                                | 0, _ => rfl
                                | 1, _ => rfl
                                | 2, _ => rfl
                                | 3, _ => rfl
theorem Blk.quad2 {w : World} {g : Nat} {a b c d : Value} {t : TypeId} (h : Blk w g 4 (q4 a b c d) t) (u : Value) : Blk (w.setCell ⟨g, 2, none⟩ u) g 4 (q4 a b u d) t :=
  (h.set 2 u).ext fun i hi => by match i, hi with
                                | 0, _ => rfl
                                | 1, _ => rfl
                                | 2, _ => rfl
                                | 3, _ => rfl
theorem Blk.quad3 {w : World} {g : Nat} {a b c d : Value} {t : TypeId} (h : Blk w g 4 (q4 a b c d) t) (u : Value) : Blk (w.setCell ⟨g, 3, none⟩ u) g 4 (q4 a b c u) t :=
  (h.set 3 u).ext fun i hi => by match i, hi with
                                | 0, _ => rfl
                                | 1, _ => rfl
                                | 2, _ => rfl
                                | 3, _ => rfl
theorem put4 {w W : World} {g : Nat} {a b c d : Value} {t : TypeId} (h : Blk W g 4 (q4 a b c d) t) (hb : Below w.heap.size w W) (hg : w.heap.size ≤ g) (x0 x1 x2 x3 : Value) : ∀ WZ, ((((W.setCell ⟨g, 0, none⟩ x0).setCell ⟨g, 1, none⟩ x1).setCell ⟨g, 2, none⟩ x2).setCell ⟨g, 3, none⟩ x3) = WZ →
    Blk WZ g 4 (q4 x0 x1 x2 x3) t ∧ Below w.heap.size w WZ := by
  rintro WZ rfl
  exact ⟨((((h.quad0 _).quad1 _).quad2 _).quad3 _), ((((hb.setCell (p := ⟨g, 0, none⟩) hg _).setCell (p := ⟨g, 1, none⟩) hg _).setCell (p := ⟨g, 2, none⟩) hg _).setCell (p := ⟨g, 3, none⟩) hg _)⟩
def q5 (a b c d e : Value) : Nat → Value := fun i => if i = 0 then a else if i = 1 then b else if i = 2 then c else if i = 3 then d else e
theorem Blk.five {w : World} {g : Nat} {a b c d e : Value} {t : TypeId} (h : Blk w g 5 (q5 a b c d e) t) : (w.cell? ⟨g, 0, none⟩ = some a ∧ w.cell? ⟨g, 1, none⟩ = some b ∧ w.cell? ⟨g, 2, none⟩ = some c ∧ w.cell? ⟨g, 3, none⟩ = some d ∧ w.cell? ⟨g, 4, none⟩ = some e) ∧ w.frozen? ⟨g, 0, none⟩ = false ∧ w.frozen? ⟨g, 1, none⟩ = false ∧ w.frozen? ⟨g, 2, none⟩ = false ∧ w.frozen? ⟨g, 3, none⟩ = false ∧ w.frozen? ⟨g, 4, none⟩ = false :=
  ⟨⟨h.cell (show 0 < 5 by omega), h.cell (show 1 < 5 by omega), h.cell (show 2 < 5 by omega), h.cell (show 3 < 5 by omega), h.cell (show 4 < 5 by omega)⟩, h.thaw 0, h.thaw 1, h.thaw 2, h.thaw 3, h.thaw 4⟩
theorem new5 (w : World) (a b c d e : Value) (t : TypeId) : Blk (w.alloc (.cells #[a, b, c, d, e] t)) w.heap.size 5 (q5 a b c d e) t := Blk.fresh w _ 5 _ t rfl
theorem Blk.five0 {w : World} {g : Nat} {a b c d e : Value} {t : TypeId} (h : Blk w g 5 (q5 a b c d e) t) (u : Value) : Blk (w.setCell ⟨g, 0, none⟩ u) g 5 (q5 u b c d e) t :=
  (h.set 0 u).ext fun i hi => by match i, hi with
                                | 0, _ => rfl
                                | 1, _ => rfl
                                | 2, _ => rfl
                                | 3, _ => rfl
                                | 4, _ => rfl
theorem Blk.five1 {w : World} {g : Nat} {a b c d e : Value} {t : TypeId} (h : Blk w g 5 (q5 a b c d e) t) (u : Value) : Blk (w.setCell ⟨g, 1, none⟩ u) g 5 (q5 a u c d e) t :=
  (h.set 1 u).ext fun i hi => by match i, hi with
                                | 0, _ => rfl
                                | 1, _ => rfl
                                | 2, _ => rfl
                                | 3, _ => rfl
                                | 4, _ => rfl
theorem Blk.five2 {w : World} {g : Nat} {a b c d e : Value} {t : TypeId} (h : Blk w g 5 (q5 a b c d e) t) (u : Value) : Blk (w.setCell ⟨g, 2, none⟩ u) g 5 (q5 a b u d e) t :=
  (h.set 2 u).ext fun i hi => by match i, hi with
                                | 0, _ => rfl
                                | 1, _ => rfl
                                | 2, _ => rfl
                                | 3, _ => rfl
                                | 4, _ => rfl
theorem Blk.five3 {w : World} {g : Nat} {a b c d e : Value} {t : TypeId} (h : Blk w g 5 (q5 a b c d e) t) (u : Value) : Blk (w.setCell ⟨g, 3, none⟩ u) g 5 (q5 a b c u e) t :=
  (h.set 3 u).ext fun i hi => by match i, hi with
                                | 0, _ => rfl
                                | 1, _ => rfl
                                | 2, _ => rfl
                                | 3, _ => rfl
                                | 4, _ => rfl
theorem Blk.five4 {w : World} {g : Nat} {a b c d e : Value} {t : TypeId} (h : Blk w g 5 (q5 a b c d e) t) (u : Value) : Blk (w.setCell ⟨g, 4, none⟩ u) g 5 (q5 a b c d u) t :=
  (h.set 4 u).ext fun i hi => by match i, hi with
                                | 0, _ => rfl
                                | 1, _ => rfl
                                | 2, _ => rfl
                                | 3, _ => rfl
                                | 4, _ => rfl
theorem put5 {w W : World} {g : Nat} {a b c d e : Value} {t : TypeId} (h : Blk W g 5 (q5 a b c d e) t) (hb : Below w.heap.size w W) (hg : w.heap.size ≤ g) (x0 x1 x2 x3 x4 : Value) : ∀ WZ, (((((W.setCell ⟨g, 0, none⟩ x0).setCell ⟨g, 1, none⟩ x1).setCell ⟨g, 2, none⟩ x2).setCell ⟨g, 3, none⟩ x3).setCell ⟨g, 4, none⟩ x4) = WZ →
    Blk WZ g 5 (q5 x0 x1 x2 x3 x4) t ∧ Below w.heap.size w WZ := by
  rintro WZ rfl
  exact ⟨(((((h.five0 _).five1 _).five2 _).five3 _).five4 _), (((((hb.setCell (p := ⟨g, 0, none⟩) hg _).setCell (p := ⟨g, 1, none⟩) hg _).setCell (p := ⟨g, 2, none⟩) hg _).setCell (p := ⟨g, 3, none⟩) hg _).setCell (p := ⟨g, 4, none⟩) hg _)⟩
end M
end Go.Proofs.Ytegbfmdilmbpmaa
