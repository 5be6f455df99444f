/-
  The specification's reader of choices: a plan.
-/
import Derived.Test.YtkfnfgencaplfaaPlA
namespace Go.Proofs.Ytkfnfgencaplfaa
open Go.RowKit M
open Clk (upd upd_same upd_other)
namespace M
/-- While a plan is drawn: the row of tasks, what they need, the reader. -/
structure PD (w W : World) (B cb N : Nat) (v : Value) (R : List Rw) : Prop where
  o : W.ownsRow w.heap.size 56 2 v R.length (cellsR R)
  d : Bods W w.heap.size R
  c : CurAt W B cb N
  b : But cb w W
section
variable {w W W' : World} {B cb N N' : Nat} {v : Value} {R : List Rw}
theorem PD.draw (h : PD w W B cb N v R) (hl : cb < w.heap.size) (hc : CurAt W' B cb N') (hb : But cb W W') : PD w W' B cb N' v R :=
  ⟨hb.owns h.o hl, h.d.but hb hl, hc, h.b.trans hb⟩
theorem PD.down (h : PD w W B cb N v R) (hb : Below W.heap.size W W') : PD w W' B cb N v R :=
  ⟨owns_below h.o hb, h.d.below hb, h.c.below hb, h.b.trans (But.of_below hb)⟩
theorem PD.more (h : PD w W B cb N v R) (hN : N ≤ N') : PD w W B cb N' v R := ⟨h.o, h.d, h.c.more hN, h.b⟩
/-- A task that is drawn: its box, from block g on, and the row of what it needs, behind it. -/
structure PT (w W : World) (B cb N g : Nat) (v : Value) (R : List Rw) (x : Int) (u : Value) (l : List Int) : Prop where
  p : PD w W B cb N v R
  x : Blk W g 2 (q2 (.int .i64 x) u) 56
  u : W.ownsRow (g + 1) 3 1 u l.length (ivs l)
  lv : ∀ q, v.ownBlock = some q → q < g
  lr : ∀ r ∈ R, ∀ q, r.bd.ownBlock = some q → q < g
  lc : cb < g
  lw : w.heap.size ≤ g
variable {g : Nat} {x : Int} {u : Value} {l : List Int}
theorem PT.draw (h : PT w W B cb N g v R x u l) (hl : cb < w.heap.size) (hc : CurAt W' B cb N') (hb : But cb W W') : PT w W' B cb N' g v R x u l :=
  ⟨h.p.draw hl hc hb, hb.blk h.x (by have := h.lc; omega), hb.owns h.u (by have := h.lc; omega), h.lv, h.lr, h.lc, h.lw⟩
theorem PT.more (h : PT w W B cb N g v R x u l) (hN : N ≤ N') : PT w W B cb N' g v R x u l := ⟨h.p.more hN, h.x, h.u, h.lv, h.lr, h.lc, h.lw⟩
theorem PD.task (h : PD w W B cb N v R) (x : Int) : PT w (W.alloc (.cells #[.int .i64 x, .slice none 0 0] 56)) B cb N W.heap.size v R x (.slice none 0 0) [] :=
  ⟨h.down ((Below.refl _ W).alloc (Nat.le_refl _) _), new2 W _ _ _, World.ownsRow_nil _ _ _ _, fun q hq => (h.o.lt q hq).2, fun r hr q hq => ((h.d r hr).2.lt q hq).2, by have := h.c.lt; omega, h.b.size⟩
/-- One more that it needs: the row grew, and its slice is laid in the box. -/
theorem PT.add (h : PT w W B cb N g v R x u l) {u' : Value} {l' : List Int} (hg : W.grownBy W' u.ownBlock) (ho : W'.ownsRow (g + 1) 3 1 u' l'.length (ivs l')) : PT w (W'.setCell ⟨g, 1, none⟩ u') B cb N g v R x u' l' := by
  have hlc := h.lc
  have hlw := h.lw
  have hug : u.ownBlock ≠ some g := own_ne_blk h.u h.x (by decide)
  have hx := blk_gb h.x hg hug
  have h1 : ∀ q, v.ownBlock = some q → some q ≠ u.ownBlock := fun q hq e => by have := h.lv q hq; have := (h.u.lt q e.symm).1; omega
  have h2 : ∀ r ∈ R, ∀ q, r.bd.ownBlock = some q → some q ≠ u.ownBlock := fun r hr q hq e => by have := h.lr r hr q hq; have := (h.u.lt q e.symm).1; omega
  have hb1 : But cb w W' := h.p.b.grown hg (fun k hk => by have := (h.u.lt k hk).1; omega)
  have hc1 : CurAt W' B cb N := h.p.c.grown h.u (by omega) hg
  have hs := gb_set W' g 1 u'
  exact ⟨⟨owns_other (owns_other h.p.o hg h1) hs (fun q hq e => by have := h.lv q hq; simp at e; omega), (h.p.d.apart hg h2).apart hs (fun r hr q hq e => by have := h.lr r hr q hq; simp at e; omega), hc1.set (by omega) (by have := h.p.c.base; omega) 1 u', hb1.set hlw 1 u'⟩,
    hx.duo1 u', owns_other ho hs (fun q hq e => by have := (ho.lt q hq).1; simp at e; omega), h.lv, h.lr, h.lc, h.lw⟩
theorem PT.down (h : PT w W B cb N g v R x u l) (hb : Below W.heap.size W W') : PT w W' B cb N g v R x u l :=
  ⟨h.p.down hb, h.x.down hb, owns_below h.u hb, h.lv, h.lr, h.lc, h.lw⟩
/-- The task joins the row. -/
theorem PT.push (h : PT w W B cb N g v R x u l) (hl : cb < w.heap.size) (h4 : l.length ≤ 4) {v' : Value} (hg : W.grownBy W' v.ownBlock) (ho : W'.ownsRow w.heap.size 56 2 v' (R.length + 1) (cellsR R ++ [.int .i64 x, u])) : PD w W' B cb N v' (R ++ [⟨x, u, l⟩]) :=
  ⟨by rw [cellsR_snoc, List.length_append]; exact ho, (h.p.d.snoc (r := ⟨x, u, l⟩) h4 (owns_mono h.u (by have := h.lw; omega))).grown h.p.o hg, h.p.c.grown h.p.o hl hg, h.p.b.grown hg (fun k hk => (h.p.o.lt k hk).1)⟩
/-- Another slice of what the first one needs. -/
theorem PD.need {r : Rw} {o : Addr} {k c : Nat} (h : PD w W B cb N (.slice (some o) k c) (r :: R)) (hl : cb < w.heap.size) {u : Value} {l : List Int} (h4 : l.length ≤ 4) (hu : W.ownsRow w.heap.size 3 1 u l.length (ivs l)) {W2 : World} (hst : W2.ownsRow w.heap.size 56 2 (.slice (some o) k c) (R.length + 1) (cellsR (⟨r.hd, u, l⟩ :: R))) (hg : W.grownBy W2 (Value.slice (some o) k c).ownBlock) : PD w W2 B cb N (.slice (some o) k c) (⟨r.hd, u, l⟩ :: R) := by
  refine ⟨hst, fun a ha => ?_, h.c.grown h.o hl hg, h.b.grown hg (fun k hk => (h.o.lt k hk).1)⟩
  rcases List.mem_cons.1 ha with rfl | ha
  · exact ⟨h4, owns_other hu hg (owns_apart hu h.o (by decide))⟩
  · exact (h.d.grown h.o hg) a (List.mem_cons_of_mem _ ha)
/-- Another length of the first one. -/
theorem PD.long {r : Rw} {o : Addr} {k c : Nat} (h : PD w W B cb N (.slice (some o) k c) (r :: R)) (hl : cb < w.heap.size) {z : Int} {W2 : World} (hst : W2.ownsRow w.heap.size 56 2 (.slice (some o) k c) (R.length + 1) (cellsR (⟨z, r.bd, r.xs⟩ :: R))) (hg : W.grownBy W2 (Value.slice (some o) k c).ownBlock) : PD w W2 B cb N (.slice (some o) k c) (⟨z, r.bd, r.xs⟩ :: R) := by
  refine ⟨hst, fun a ha => ?_, h.c.grown h.o hl hg, h.b.grown hg (fun k hk => (h.o.lt k hk).1)⟩
  have hd := h.d.grown h.o hg
  rcases List.mem_cons.1 ha with rfl | ha
  · exact hd r (List.mem_cons_self ..)
  · exact hd a (List.mem_cons_of_mem _ ha)
end
end M
end Go.Proofs.Ytkfnfgencaplfaa
