/-
  Boxes of three cells and of two, a region's value and a word's.
-/
import Derived.Test.YtjgopjnkkhkcnaaGreatDoorRgM
import Derived.Test.YtjgopjnkkhkcnaaGreatDoorBrB
namespace Go.Proofs.YtjgopjnkkhkcnaaGreatDoor
open Go.RowKit M
open Clk (upd upd_same upd_other)
namespace M
/-- A region's value, a word's. -/
abbrev rv (id ver : Int) (v : Value) : Value := .agg #[.int .i64 id, .int .i64 ver, v]
abbrev wv (ver : Int) (v : Value) : Value := .agg #[.int .i64 ver, v]
def q3 (a b c : Value) : Nat → Value := fun i => if i = 0 then a else if i = 1 then b else c
theorem new3 (w : World) (a b c : Value) (t : TypeId) : Blk (w.alloc (.cells #[a, b, c] t)) w.heap.size 3 (q3 a b c) t := Blk.fresh _ _ _ _ _ rfl
theorem Blk.tri {w : World} {g : Nat} {a b c : Value} {t : TypeId} (h : Blk w g 3 (q3 a b c) t) :
    (w.cell? ⟨g, 0, none⟩ = some a ∧ w.cell? ⟨g, 1, none⟩ = some b ∧ w.cell? ⟨g, 2, none⟩ = some c) ∧ w.frozen? ⟨g, 0, none⟩ = false ∧ w.frozen? ⟨g, 1, none⟩ = false ∧ w.frozen? ⟨g, 2, none⟩ = false :=
  ⟨⟨h.cell (i := 0) (by omega), h.cell (i := 1) (by omega), h.cell (i := 2) (by omega)⟩, h.thaw 0, h.thaw 1, h.thaw 2⟩
theorem Blk.put3 {w : World} {g : Nat} {a b c : Value} {t : TypeId} (h : Blk w g 3 (q3 a b c) t) (x y z : Value) :
    Blk (((w.setCell ⟨g, 0, none⟩ x).setCell ⟨g, 1, none⟩ y).setCell ⟨g, 2, none⟩ z) g 3 (q3 x y z) t := by
  refine (((h.set 0 x).set 1 y).set 2 z).ext fun i hi => ?_
  rcases (show i = 0 ∨ i = 1 ∨ i = 2 by omega) with e | e | e
  · subst e; rfl
  · subst e; rfl
  · subst e; rfl
theorem Blk.tri0 {w : World} {g : Nat} {a b c : Value} {t : TypeId} (h : Blk w g 3 (q3 a b c) t) (x : Value) : Blk (w.setCell ⟨g, 0, none⟩ x) g 3 (q3 x b c) t := by
  refine (h.set 0 x).ext fun i hi => ?_
  rcases (show i = 0 ∨ i = 1 ∨ i = 2 by omega) with e | e | e
  · subst e; rfl
  · subst e; rfl
  · subst e; rfl
theorem Blk.tri1 {w : World} {g : Nat} {a b c : Value} {t : TypeId} (h : Blk w g 3 (q3 a b c) t) (x : Value) : Blk (w.setCell ⟨g, 1, none⟩ x) g 3 (q3 a x c) t := by
  refine (h.set 1 x).ext fun i hi => ?_
  rcases (show i = 0 ∨ i = 1 ∨ i = 2 by omega) with e | e | e
  · subst e; rfl
  · subst e; rfl
  · subst e; rfl
theorem Blk.tri2 {w : World} {g : Nat} {a b c : Value} {t : TypeId} (h : Blk w g 3 (q3 a b c) t) (x : Value) : Blk (w.setCell ⟨g, 2, none⟩ x) g 3 (q3 a b x) t := by
  refine (h.set 2 x).ext fun i hi => ?_
  rcases (show i = 0 ∨ i = 1 ∨ i = 2 by omega) with e | e | e
  · subst e; rfl
  · subst e; rfl
  · subst e; rfl
def q2 (a b : Value) : Nat → Value := fun i => if i = 0 then a else b
theorem new2 (w : World) (a b : Value) (t : TypeId) : Blk (w.alloc (.cells #[a, b] t)) w.heap.size 2 (q2 a b) t := Blk.fresh _ _ _ _ _ rfl
theorem Blk.duo {w : World} {g : Nat} {a b : Value} {t : TypeId} (h : Blk w g 2 (q2 a b) t) :
    (w.cell? ⟨g, 0, none⟩ = some a ∧ w.cell? ⟨g, 1, none⟩ = some b) ∧ w.frozen? ⟨g, 0, none⟩ = false ∧ w.frozen? ⟨g, 1, none⟩ = false :=
  ⟨⟨h.cell (i := 0) (by omega), h.cell (i := 1) (by omega)⟩, h.thaw 0, h.thaw 1⟩
theorem Blk.duo1 {w : World} {g : Nat} {a b : Value} {t : TypeId} (h : Blk w g 2 (q2 a b) t) (x : Value) : Blk (w.setCell ⟨g, 1, none⟩ x) g 2 (q2 a x) t := by
  refine (h.set 1 x).ext fun i hi => ?_
  rcases (show i = 0 ∨ i = 1 by omega) with e | e
  · subst e; rfl
  · subst e; rfl
theorem Blk.put2 {w : World} {g : Nat} {a b : Value} {t : TypeId} (h : Blk w g 2 (q2 a b) t) (x y : Value) :
    Blk ((w.setCell ⟨g, 0, none⟩ x).setCell ⟨g, 1, none⟩ y) g 2 (q2 x y) t := by
  refine ((h.set 0 x).set 1 y).ext fun i hi => ?_
  rcases (show i = 0 ∨ i = 1 by omega) with e | e
  · subst e; rfl
  · subst e; rfl
theorem Blk.off {w : World} {g g' n i : Nat} {f : Nat → Value} {t : TypeId} (h : Blk w g n f t) (hne : g ≠ g') (x : Value) : Blk (w.setCell ⟨g', i, none⟩ x) g n f t :=
  h.gb (gbT_set (gbT_refl w (some g'))) (fun e => hne (by simpa using e))
/-- A function's boxes: the region that came in, the region that is answered. -/
structure R2 (w W : World) (id ver : Int) (v : Value) : Prop where
  low : Below w.heap.size w W
  arg : Blk W w.heap.size 3 (q3 (.int .i64 id) (.int .i64 ver) v) 32
  res : Blk W (w.heap.size + 1) 3 (q3 (.int .i64 0) (.int .i64 0) (.slice none 0 0)) 32
  big : w.heap.size + 2 ≤ W.heap.size
theorem R2.down {w W W' : World} {id ver : Int} {v : Value} (h : R2 w W id ver v) (hb : Below W.heap.size W W') : R2 w W' id ver v :=
  ⟨h.low.trans (hb.mono h.low.size), h.arg.down hb, h.res.down hb, Nat.le_trans h.big hb.size⟩
theorem R2.new (w : World) (id ver : Int) (v : Value) : R2 w ((w.alloc (.cells #[.int .i64 id, .int .i64 ver, v] 32)).alloc (.cells #[.int .i64 0, .int .i64 0, .slice none 0 0] 32)) id ver v := by
  refine ⟨((Below.refl _ w).alloc (Nat.le_refl _) _).alloc (by simp) _, (new3 w _ _ _ 32).alloc _, ?_, by simp⟩
  have := new3 (w.alloc (.cells #[.int .i64 id, .int .i64 ver, v] 32)) (.int .i64 0) (.int .i64 0) (.slice none 0 0) 32
  rw [World.size_alloc] at this; exact this
theorem R2.fin {w W : World} {id ver : Int} {v : Value} (h : R2 w W id ver v) (x y z : Value) : ∀ WZ, ((W.setCell ⟨w.heap.size + 1, 0, none⟩ x).setCell ⟨w.heap.size + 1, 1, none⟩ y).setCell ⟨w.heap.size + 1, 2, none⟩ z = WZ →
    Blk WZ (w.heap.size + 1) 3 (q3 x y z) 32 ∧ Below w.heap.size w WZ ∧ ∀ (B : Nat) (u : Value) (ps : Prs), OwnP W B u ps → w.heap.size + 2 ≤ B → OwnP WZ w.heap.size u ps := by
  intro WZ hWZ
  subst hWZ
  exact ⟨h.res.put3 _ _ _, ((h.low.setCell (p := ⟨w.heap.size + 1, 0, none⟩) (Nat.le_succ _) _).setCell (p := ⟨w.heap.size + 1, 1, none⟩) (Nat.le_succ _) _).setCell (p := ⟨w.heap.size + 1, 2, none⟩) (Nat.le_succ _) _, fun B u ps ho hB => (((ho.set_low (by omega) _).set_low (by omega) _).set_low (by omega) _).mono (by omega)⟩
/-- The same, a word answered. -/
structure R2W (w W : World) (id ver : Int) (v : Value) : Prop where
  low : Below w.heap.size w W
  arg : Blk W w.heap.size 3 (q3 (.int .i64 id) (.int .i64 ver) v) 32
  res : Blk W (w.heap.size + 1) 2 (q2 (.int .i64 0) (.slice none 0 0)) 43
  big : w.heap.size + 2 ≤ W.heap.size
theorem R2W.down {w W W' : World} {id ver : Int} {v : Value} (h : R2W w W id ver v) (hb : Below W.heap.size W W') : R2W w W' id ver v :=
  ⟨h.low.trans (hb.mono h.low.size), h.arg.down hb, h.res.down hb, Nat.le_trans h.big hb.size⟩
theorem R2W.new (w : World) (id ver : Int) (v : Value) : R2W w ((w.alloc (.cells #[.int .i64 id, .int .i64 ver, v] 32)).alloc (.cells #[.int .i64 0, .slice none 0 0] 43)) id ver v := by
  refine ⟨((Below.refl _ w).alloc (Nat.le_refl _) _).alloc (by simp) _, (new3 w _ _ _ 32).alloc _, ?_, by simp⟩
  have := new2 (w.alloc (.cells #[.int .i64 id, .int .i64 ver, v] 32)) (.int .i64 0) (.slice none 0 0) 43
  rw [World.size_alloc] at this; exact this
theorem R2W.fin {w W : World} {id ver : Int} {v : Value} (h : R2W w W id ver v) (x y : Value) : ∀ WZ, (W.setCell ⟨w.heap.size + 1, 0, none⟩ x).setCell ⟨w.heap.size + 1, 1, none⟩ y = WZ →
    Blk WZ (w.heap.size + 1) 2 (q2 x y) 43 ∧ Below w.heap.size w WZ ∧ ∀ (B : Nat) (u : Value) (ps : Prs), OwnP W B u ps → w.heap.size + 2 ≤ B → OwnP WZ w.heap.size u ps := by
  intro WZ hWZ
  subst hWZ
  exact ⟨h.res.put2 _ _, (h.low.setCell (p := ⟨w.heap.size + 1, 0, none⟩) (Nat.le_succ _) _).setCell (p := ⟨w.heap.size + 1, 1, none⟩) (Nat.le_succ _) _, fun B u ps ho hB => ((ho.set_low (by omega) _).set_low (by omega) _).mono (by omega)⟩
theorem low1 (w : World) (o : Obj) : Below w.heap.size w (w.alloc o) := (Below.refl w.heap.size w).alloc (Nat.le_refl _) o
end M
end Go.Proofs.YtjgopjnkkhkcnaaGreatDoor
