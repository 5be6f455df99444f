/-
  A box of three cells that holds a domain.
-/
import Derived.Test.YtgccoognklolbaaDmA
namespace Go.Proofs.Ytgccoognklolbaa
open Go.RowKit M
open Clk (upd upd_same upd_other)
namespace M
def q3 (a b c : Value) : Nat → Value := fun i => if i = 0 then a else if i = 1 then b else c
theorem new3 (w : World) (a b c : Value) (t : TypeId) : Blk (w.alloc (.cells #[a, b, c] t)) w.heap.size 3 (q3 a b c) t := Blk.fresh _ _ _ _ _ rfl
theorem Blk.tri {w : World} {g : Nat} {a b c : Value} {t : TypeId} (h : Blk w g 3 (q3 a b c) t) :
    (w.cell? ⟨g, 0, none⟩ = some a ∧ w.cell? ⟨g, 1, none⟩ = some b ∧ w.cell? ⟨g, 2, none⟩ = some c) ∧ w.frozen? ⟨g, 0, none⟩ = false ∧ w.frozen? ⟨g, 1, none⟩ = false ∧ w.frozen? ⟨g, 2, none⟩ = false :=
  ⟨⟨h.cell (i := 0) (by omega), h.cell (i := 1) (by omega), h.cell (i := 2) (by omega)⟩, h.thaw 0, h.thaw 1, h.thaw 2⟩
theorem Blk.put3 {w : World} {g : Nat} {a b c : Value} {t : TypeId} (h : Blk w g 3 (q3 a b c) t) (x y z : Value) :
    Blk (((w.setCell ⟨g, 0, none⟩ x).setCell ⟨g, 1, none⟩ y).setCell ⟨g, 2, none⟩ z) g 3 (q3 x y z) t := by
  refine (((h.set 0 x).set 1 y).set 2 z).ext fun i hi => ?_
  rcases (show i = 0 ∨ i = 1 ∨ i = 2 by omega) with e | e | e
  · subst e; rfl
  · subst e; rfl
  · subst e; rfl
abbrev qd (d : Dm) : Nat → Value := q3 (.string d.nm) (.int .i64 d.ver) (.string d.nt)
/-- Behind w, from block p on: p is a box that holds a domain. -/
structure BX (w W : World) (p : Nat) (d : Dm) : Prop where
  at_ : w.heap.size ≤ p
  low : Below w.heap.size w W
  box : Blk W p 3 (qd d) 58
theorem BX.down {w W W' : World} {p : Nat} {d : Dm} (h : BX w W p d) (hb : Below W.heap.size W W') : BX w W' p d :=
  ⟨h.at_, h.low.trans (hb.mono h.low.size), h.box.down hb⟩
theorem BX.new (w : World) (d : Dm) : BX w (w.alloc (.cells #[.string d.nm, .int .i64 d.ver, .string d.nt] 58)) w.heap.size d :=
  ⟨Nat.le_refl _, (Below.refl _ w).alloc (Nat.le_refl _) _, new3 w _ _ _ _⟩
theorem BX.put {w W : World} {p : Nat} {d : Dm} (h : BX w W p d) (e : Dm) : BX w (((W.setCell ⟨p, 0, none⟩ (.string e.nm)).setCell ⟨p, 1, none⟩ (.int .i64 e.ver)).setCell ⟨p, 2, none⟩ (.string e.nt)) p e :=
  ⟨h.at_, ((h.low.setCell (p := ⟨p, 0, none⟩) h.at_ _).setCell (p := ⟨p, 1, none⟩) h.at_ _).setCell (p := ⟨p, 2, none⟩) h.at_ _, h.box.put3 _ _ _⟩
theorem BX.cells {w W : World} {p : Nat} {d : Dm} (h : BX w W p d) : W.cell? ⟨p, 0, none⟩ = some (.string d.nm) ∧ W.cell? ⟨p, 1, none⟩ = some (.int .i64 d.ver) ∧ W.cell? ⟨p, 2, none⟩ = some (.string d.nt) := h.box.tri.1
theorem BX.thaw {w W : World} {p : Nat} {d : Dm} (h : BX w W p d) : W.frozen? ⟨p, 0, none⟩ = false ∧ W.frozen? ⟨p, 1, none⟩ = false ∧ W.frozen? ⟨p, 2, none⟩ = false := h.box.tri.2
end M
end Go.Proofs.Ytgccoognklolbaa
