/-
  Which blocks a call leaves as they are, and slices of texts that lie apart.
-/
import Derived.Test.YtfjdbenbiakbbaaJoin4
namespace Go.Proofs.Ytfjdbenbiakbbaa
open Go.RowKit M
namespace M
theorem Blk.gb {w w' : World} {g n : Nat} {f : Nat → Value} {t : TypeId} {row : Option Nat} (h : Blk w g n f t) (hg : w.grownBy w' row) (hne : some g ≠ row) : Blk w' g n f t := by
  unfold Blk; rw [hg.block g h.lt hne]; exact h
theorem gbT_low {w w' : World} {B : Nat} {row : Option Nat} (h : w.grownBy w' row) (hB : ∀ g, row = some g → B ≤ g) (hs : B ≤ w.heap.size) : Below B w w' :=
  ⟨h.os, h.tape, h.output, h.size, fun k hk => h.block k (by omega) (fun e => by have := hB k e.symm; omega)⟩
theorem OwnT.set_other {w : World} {B : Nat} {v : Value} {l : Txs} (h : OwnT w B v l) {g : Nat} (hne : g < B) (o : Nat) (u : Value) : OwnT (w.setCell ⟨g, o, none⟩ u) B v l :=
  h.other (gbT_set (gbT_refl w (some g))) (fun g' hg' e => by
    have := (h.lt hg').1
    simp only [Option.some.injEq] at e
    omega)
/-- Two slices in unlike blocks. -/
def Apart (v0 v1 : Value) : Prop := ∀ g, v0.ownBlock = some g → v1.ownBlock ≠ some g
theorem Apart.symm {v0 v1 : Value} (h : Apart v0 v1) : Apart v1 v0 := fun g h1 h0 => h g h0 h1
/-- Only blocks from lo to hi may have turned, of those that were there. -/
structure KeptB (lo hi : Nat) (w w' : World) : Prop where
  os : w'.os = w.os
  tape : w'.tape = w.tape
  output : w'.output = w.output
  size : w.heap.size ≤ w'.heap.size
  block : ∀ k, k < w.heap.size → k < lo ∨ hi ≤ k → w'.heap[k]? = w.heap[k]?
theorem KeptB.refl (lo hi : Nat) (w : World) : KeptB lo hi w w := ⟨rfl, rfl, rfl, Nat.le_refl _, fun _ _ _ => rfl⟩
theorem KeptB.trans {lo hi : Nat} {a b c : World} (h : KeptB lo hi a b) (h2 : KeptB lo hi b c) : KeptB lo hi a c :=
  ⟨h2.os.trans h.os, h2.tape.trans h.tape, h2.output.trans h.output, Nat.le_trans h.size h2.size, fun k hk hl => (h2.block k (Nat.lt_of_lt_of_le hk h.size) hl).trans (h.block k hk hl)⟩
theorem Below.keptB {w w1 : World} (h : Below w.heap.size w w1) (lo hi : Nat) : KeptB lo hi w w1 := ⟨h.os, h.tape, h.output, h.size, fun k hk _ => h.block k hk⟩
theorem KeptB.of {w w' : World} {row : Option Nat} {lo hi : Nat} (h : w.grownBy w' row) (hr : ∀ g, row = some g → lo ≤ g ∧ g < hi) : KeptB lo hi w w' :=
  ⟨h.os, h.tape, h.output, h.size, fun k hk hl => h.block k hk (fun e => by have := hr k e.symm; omega)⟩
theorem KeptB.below {lo hi B : Nat} {w w' : World} (h : KeptB lo hi w w') (h1 : B ≤ lo) (h2 : B ≤ w.heap.size) : Below B w w' :=
  ⟨h.os, h.tape, h.output, h.size, fun k hk => h.block k (by omega) (.inl (by omega))⟩
theorem KeptB.blk {lo hi : Nat} {w w' : World} (h : KeptB lo hi w w') {g n : Nat} {f : Nat → Value} {t : TypeId} (hb : Blk w g n f t) (hg : g < lo ∨ hi ≤ g) : Blk w' g n f t := by
  unfold Blk; rw [h.block g hb.lt hg]; exact hb
theorem KeptB.mono {lo hi lo' hi' : Nat} {w w' : World} (h : KeptB lo hi w w') (h1 : lo' ≤ lo) (h2 : hi ≤ hi') : KeptB lo' hi' w w' :=
  ⟨h.os, h.tape, h.output, h.size, fun k hk hl => h.block k hk (by omega)⟩
theorem owns_keptB {lo hi : Nat} {w w' : World} {B e s n : Nat} {v : Value} {l : List Value} (h : w.ownsRow B e s v n l) (hk : KeptB lo hi w w') (hB : hi ≤ B) : w'.ownsRow B e s v n l := by
  refine ⟨h.1, ?_⟩
  rcases h.2 with h0 | ⟨g, cap, cur, hv, hBg, hb, r⟩
  · exact .inl h0
  · refine .inr ⟨g, cap, cur, hv, hBg, ?_, r⟩
    rw [hk.block g ?_ (.inr (by omega))]
    · exact hb
    · rcases Nat.lt_or_ge g w.heap.size with h' | h'
      · exact h'
      · rw [Array.getElem?_eq_none h'] at hb; cases hb
theorem OwnT.keptB {lo hi : Nat} {w w' : World} {B : Nat} {v : Value} {l : Txs} (h : OwnT w B v l) (hk : KeptB lo hi w w') (hB : hi ≤ B) : OwnT w' B v l := owns_keptB h hk hB
end M
end Go.Proofs.Ytfjdbenbiakbbaa
