/-
  States in memory: blocks of six cells; what the law does with states: how much is left, copies in new memory, two that are told alike, marks that are written and found again.
-/
import Derived.Test.YtfkeokglifpkoaaDoorJoin12
namespace Go.Proofs.YtfkeokglifpkoaaDoor
open Go.RowKit M
open Clk (upd upd_same upd_other)
open Go.Sort (grow)
namespace M
def q6 (a b c d e f : Value) : Nat → Value := fun i => if i = 0 then a else if i = 1 then b else if i = 2 then c else if i = 3 then d else if i = 4 then e else f
theorem Blk.hex {w : World} {g : Nat} {a b c d e f : Value} {t : TypeId} (h : Blk w g 6 (q6 a b c d e f) t) : (w.cell? ⟨g, 0, none⟩ = some a ∧ w.cell? ⟨g, 1, none⟩ = some b ∧ w.cell? ⟨g, 2, none⟩ = some c ∧ w.cell? ⟨g, 3, none⟩ = some d ∧ w.cell? ⟨g, 4, none⟩ = some e ∧ w.cell? ⟨g, 5, none⟩ = some f) ∧ w.frozen? ⟨g, 0, none⟩ = false ∧ w.frozen? ⟨g, 1, none⟩ = false ∧ w.frozen? ⟨g, 2, none⟩ = false ∧ w.frozen? ⟨g, 3, none⟩ = false ∧ w.frozen? ⟨g, 4, none⟩ = false ∧ w.frozen? ⟨g, 5, none⟩ = false :=
  ⟨⟨h.cell (show 0 < 6 by omega), h.cell (show 1 < 6 by omega), h.cell (show 2 < 6 by omega), h.cell (show 3 < 6 by omega), h.cell (show 4 < 6 by omega), h.cell (show 5 < 6 by omega)⟩, h.thaw 0, h.thaw 1, h.thaw 2, h.thaw 3, h.thaw 4, h.thaw 5⟩
theorem new6 (w : World) (a b c d e f : Value) (t : TypeId) : Blk (w.alloc (.cells #[a, b, c, d, e, f] t)) w.heap.size 6 (q6 a b c d e f) t := Blk.fresh w _ 6 _ t rfl
theorem Blk.hex0 {w : World} {g : Nat} {a b c d e f : Value} {t : TypeId} (h : Blk w g 6 (q6 a b c d e f) t) (u : Value) : Blk (w.setCell ⟨g, 0, none⟩ u) g 6 (q6 u b c d e f) t :=
  (h.set 0 u).ext fun i hi => by match i, hi with
                                | 0, _ => rfl
                                | 1, _ => rfl
                                | 2, _ => rfl
                                | 3, _ => rfl
                                | 4, _ => rfl
                                | 5, _ => rfl
theorem Blk.hex1 {w : World} {g : Nat} {a b c d e f : Value} {t : TypeId} (h : Blk w g 6 (q6 a b c d e f) t) (u : Value) : Blk (w.setCell ⟨g, 1, none⟩ u) g 6 (q6 a u c d e f) t :=
  (h.set 1 u).ext fun i hi => by match i, hi with
                                | 0, _ => rfl
                                | 1, _ => rfl
                                | 2, _ => rfl
                                | 3, _ => rfl
                                | 4, _ => rfl
                                | 5, _ => rfl
theorem Blk.hex2 {w : World} {g : Nat} {a b c d e f : Value} {t : TypeId} (h : Blk w g 6 (q6 a b c d e f) t) (u : Value) : Blk (w.setCell ⟨g, 2, none⟩ u) g 6 (q6 a b u d e f) t :=
  (h.set 2 u).ext fun i hi => by match i, hi with
                                | 0, _ => rfl
                                | 1, _ => rfl
                                | 2, _ => rfl
                                | 3, _ => rfl
                                | 4, _ => rfl
                                | 5, _ => rfl
theorem Blk.hex3 {w : World} {g : Nat} {a b c d e f : Value} {t : TypeId} (h : Blk w g 6 (q6 a b c d e f) t) (u : Value) : Blk (w.setCell ⟨g, 3, none⟩ u) g 6 (q6 a b c u e f) t :=
  (h.set 3 u).ext fun i hi => by match i, hi with
                                | 0, _ => rfl
                                | 1, _ => rfl
                                | 2, _ => rfl
                                | 3, _ => rfl
                                | 4, _ => rfl
                                | 5, _ => rfl
theorem Blk.hex4 {w : World} {g : Nat} {a b c d e f : Value} {t : TypeId} (h : Blk w g 6 (q6 a b c d e f) t) (u : Value) : Blk (w.setCell ⟨g, 4, none⟩ u) g 6 (q6 a b c d u f) t :=
  (h.set 4 u).ext fun i hi => by match i, hi with
                                | 0, _ => rfl
                                | 1, _ => rfl
                                | 2, _ => rfl
                                | 3, _ => rfl
                                | 4, _ => rfl
                                | 5, _ => rfl
theorem Blk.hex5 {w : World} {g : Nat} {a b c d e f : Value} {t : TypeId} (h : Blk w g 6 (q6 a b c d e f) t) (u : Value) : Blk (w.setCell ⟨g, 5, none⟩ u) g 6 (q6 a b c d e u) t :=
  (h.set 5 u).ext fun i hi => by match i, hi with
                                | 0, _ => rfl
                                | 1, _ => rfl
                                | 2, _ => rfl
                                | 3, _ => rfl
                                | 4, _ => rfl
                                | 5, _ => rfl
theorem put6 {w W : World} {g : Nat} {a b c d e f : Value} {t : TypeId} (h : Blk W g 6 (q6 a b c d e f) t) (hb : Below w.heap.size w W) (hg : w.heap.size ≤ g) (x0 x1 x2 x3 x4 x5 : Value) : ∀ WZ, ((((((W.setCell ⟨g, 0, none⟩ x0).setCell ⟨g, 1, none⟩ x1).setCell ⟨g, 2, none⟩ x2).setCell ⟨g, 3, none⟩ x3).setCell ⟨g, 4, none⟩ x4).setCell ⟨g, 5, none⟩ x5) = WZ →
    Blk WZ g 6 (q6 x0 x1 x2 x3 x4 x5) t ∧ Below w.heap.size w WZ ∧ W.grownBy WZ (some g) := by
  rintro WZ rfl
  exact ⟨((((((h.hex0 _).hex1 _).hex2 _).hex3 _).hex4 _).hex5 _), ((((((hb.setCell (p := ⟨g, 0, none⟩) hg _).setCell (p := ⟨g, 1, none⟩) hg _).setCell (p := ⟨g, 2, none⟩) hg _).setCell (p := ⟨g, 3, none⟩) hg _).setCell (p := ⟨g, 4, none⟩) hg _).setCell (p := ⟨g, 5, none⟩) hg _), (gbT_set (o := 5) (v := x5) (gbT_set (o := 4) (v := x4) (gbT_set (o := 3) (v := x3) (gbT_set (o := 2) (v := x2) (gbT_set (o := 1) (v := x1) (gbT_set (o := 0) (v := x0) (gbT_refl W (some g))))))))⟩
theorem Blk.gb {w w' : World} {g n : Nat} {f : Nat → Value} {t : TypeId} {row : Option Nat} (h : Blk w g n f t) (hg : w.grownBy w' row) (hne : some g ≠ row) : Blk w' g n f t := by
  unfold Blk; rw [hg.block g h.lt hne]; exact h
theorem gbT_low {w w' : World} {B : Nat} {row : Option Nat} (h : w.grownBy w' row) (hB : ∀ g, row = some g → B ≤ g) (hs : B ≤ w.heap.size) : Below B w w' :=
  ⟨h.os, h.tape, h.output, h.size, fun k hk => h.block k (by omega) (fun e => by have := hB k e.symm; omega)⟩
theorem OwnT.set_other {w : World} {B : Nat} {v : Value} {l : Txs} (h : OwnT w B v l) {g : Nat} (hne : g < B) (o : Nat) (u : Value) : OwnT (w.setCell ⟨g, o, none⟩ u) B v l :=
  h.other (gbT_set (gbT_refl w (some g))) (fun g' hg' e => by
    have := (h.lt hg').1
    simp only [Option.some.injEq] at e
    omega)
/-- A state as a value, its lists as v0 and v1. -/
abbrev stv (v0 v1 : Value) (s : St) : Value := .agg #[.int .i64 s.st, .int .i64 s.nx, .bool s.ca, .int .i64 s.dn, v0, v1]
abbrev sq (v0 v1 : Value) (s : St) : Nat → Value := q6 (.int .i64 s.st) (.int .i64 s.nx) (.bool s.ca) (.int .i64 s.dn) v0 v1
abbrev sarr (v0 v1 : Value) (s : St) : Array Value := #[.int .i64 s.st, .int .i64 s.nx, .bool s.ca, .int .i64 s.dn, v0, v1]
/-- A state's lists, read; within their capacities, too. -/
def StQ (w : World) (v0 v1 : Value) (s : St) : Prop := TxsOf w v0 s.sg ∧ TxsOf w v1 s.tm
def StC (w : World) (v0 v1 : Value) (s : St) : Prop := TxC w v0 s.sg ∧ TxC w v1 s.tm
theorem StQ.below {w w' : World} {v0 v1 : Value} {s : St} (h : StQ w v0 v1 s) (hb : Below w.heap.size w w') : StQ w' v0 v1 s := ⟨h.1.below hb, h.2.below hb⟩
theorem StC.below {w w' : World} {v0 v1 : Value} {s : St} (h : StC w v0 v1 s) (hb : Below w.heap.size w w') : StC w' v0 v1 s := ⟨h.1.below hb, h.2.below hb⟩
theorem StC.q {w : World} {v0 v1 : Value} {s : St} (h : StC w v0 v1 s) : StQ w v0 v1 s := ⟨h.1.1, h.2.1⟩
def LensT (s : St) : Prop := (s.sg.length ≤ maxLen ∧ ∀ x ∈ s.sg, x.size ≤ maxLen) ∧ (s.tm.length ≤ maxLen ∧ ∀ x ∈ s.tm, x.size ≤ maxLen)
def ShortT (s : St) : Prop := s.sg.length ≤ 1048576 ∧ s.tm.length ≤ 1048576
def NmT (s : St) : Prop := (∀ x ∈ s.sg, x.size ≤ maxLen) ∧ ∀ x ∈ s.tm, x.size ≤ maxLen
/-- Two slices in unlike blocks. -/
def Apart (v0 v1 : Value) : Prop := ∀ g, v0.ownBlock = some g → v1.ownBlock ≠ some g
/-- A state's lists in memory of the call's own, from block lo up to hi, apart from each other. -/
structure AnsL (w : World) (lo hi : Nat) (v0 v1 : Value) (l0 l1 : Txs) : Prop where
  o0 : OwnT w lo v0 l0
  o1 : OwnT w lo v1 l1
  ap : Apart v0 v1
  h0 : ∀ g, v0.ownBlock = some g → g < hi
  h1 : ∀ g, v1.ownBlock = some g → g < hi
theorem AnsL.down {w w' : World} {lo hi : Nat} {v0 v1 : Value} {l0 l1 : Txs} (h : AnsL w lo hi v0 v1 l0 l1) (hb : Below w.heap.size w w') : AnsL w' lo hi v0 v1 l0 l1 := ⟨h.o0.down hb, h.o1.down hb, h.ap, h.h0, h.h1⟩
theorem AnsL.mono {w : World} {lo hi lo' hi' : Nat} {v0 v1 : Value} {l0 l1 : Txs} (h : AnsL w lo hi v0 v1 l0 l1) (hl : lo' ≤ lo) (hh : hi ≤ hi') : AnsL w lo' hi' v0 v1 l0 l1 :=
  ⟨h.o0.mono hl, h.o1.mono hl, h.ap, fun g hg => by have := h.h0 g hg; omega, fun g hg => by have := h.h1 g hg; omega⟩
theorem AnsL.of {w : World} {lo : Nat} {v0 v1 : Value} {l0 l1 : Txs} (h0 : OwnT w lo v0 l0) (h1 : OwnT w lo v1 l1) (ha : Apart v0 v1) : AnsL w lo w.heap.size v0 v1 l0 l1 :=
  ⟨h0, h1, ha, fun _ hg => (h0.lt hg).2, fun _ hg => (h1.lt hg).2⟩
theorem AnsL.c {w : World} {lo hi : Nat} {v0 v1 : Value} {s : St} (h : AnsL w lo hi v0 v1 s.sg s.tm) : StC w v0 v1 s := ⟨h.o0.c, h.o1.c⟩
theorem AnsL.q {w : World} {lo hi : Nat} {v0 v1 : Value} {s : St} (h : AnsL w lo hi v0 v1 s.sg s.tm) : StQ w v0 v1 s := h.c.q
/-- Only blocks from lo to hi may have turned, of those that were there. -/
structure KeptB (lo hi : Nat) (w w' : World) : Prop where
  os : w'.os = w.os
  tape : w'.tape = w.tape
  output : w'.output = w.output
  size : w.heap.size ≤ w'.heap.size
  block : ∀ k, k < w.heap.size → k < lo ∨ hi ≤ k → w'.heap[k]? = w.heap[k]?
theorem KeptB.refl (lo hi : Nat) (w : World) : KeptB lo hi w w := ⟨rfl, rfl, rfl, Nat.le_refl _, fun _ _ _ => rfl⟩
theorem KeptB.trans {lo hi : Nat} {a b c : World} (h : KeptB lo hi a b) (h2 : KeptB lo hi b c) : KeptB lo hi a c :=
  ⟨h2.os.trans h.os, h2.tape.trans h.tape, h2.output.trans h.output, Nat.le_trans h.size h2.size, fun k hk hl => (h2.block k (Nat.lt_of_lt_of_le hk h.size) hl).trans (h.block k hk hl)⟩
theorem Below.keptB {w w1 : World} (h : Below w.heap.size w w1) (lo hi : Nat) : KeptB lo hi w w1 := ⟨h.os, h.tape, h.output, h.size, fun k hk _ => h.block k hk⟩
theorem KeptB.of {w w' : World} {row : Option Nat} {lo hi : Nat} (h : w.grownBy w' row) (hr : ∀ g, row = some g → lo ≤ g ∧ g < hi) : KeptB lo hi w w' :=
  ⟨h.os, h.tape, h.output, h.size, fun k hk hl => h.block k hk (fun e => by have := hr k e.symm; omega)⟩
theorem KeptB.below {lo hi B : Nat} {w w' : World} (h : KeptB lo hi w w') (h1 : B ≤ lo) (h2 : B ≤ w.heap.size) : Below B w w' :=
  ⟨h.os, h.tape, h.output, h.size, fun k hk => h.block k (by omega) (.inl (by omega))⟩
theorem KeptB.blk {lo hi : Nat} {w w' : World} (h : KeptB lo hi w w') {g n : Nat} {f : Nat → Value} {t : TypeId} (hb : Blk w g n f t) (hg : g < lo ∨ hi ≤ g) : Blk w' g n f t := by
  unfold Blk; rw [h.block g hb.lt hg]; exact hb
theorem OwnT.keptB {lo hi : Nat} {w w' : World} {B : Nat} {v : Value} {l : Txs} (h : OwnT w B v l) (hk : KeptB lo hi w w') (hB : hi ≤ B) : OwnT w' B v l := by
  refine ⟨h.1, ?_⟩
  rcases h.2 with h0 | ⟨g, cap, cur, hv, hBg, hb, r⟩
  · exact .inl h0
  · refine .inr ⟨g, cap, cur, hv, hBg, ?_, r⟩
    rw [hk.block g ?_ (.inr (by omega))]
    · exact hb
    · rcases Nat.lt_or_ge g w.heap.size with h' | h'
      · exact h'
      · rw [Array.getElem?_eq_none h'] at hb; cases hb
theorem AnsL.kept {w w' : World} {lo hi lo' hi' : Nat} {v0 v1 : Value} {l0 l1 : Txs} (h : AnsL w lo hi v0 v1 l0 l1) (hk : KeptB lo' hi' w w') (hB : hi' ≤ lo) : AnsL w' lo hi v0 v1 l0 l1 :=
  ⟨h.o0.keptB hk hB, h.o1.keptB hk hB, h.ap, h.h0, h.h1⟩
end M
end Go.Proofs.YtfkeokglifpkoaaDoor
