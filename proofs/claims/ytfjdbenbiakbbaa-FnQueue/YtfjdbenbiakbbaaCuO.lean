/-
  Only one block may have turned.
-/
import Derived.Test.YtfjdbenbiakbbaaTxA
import Derived.WalkSmall
namespace Go.Proofs.Ytfjdbenbiakbbaa
open Go.RowKit M
namespace M
/-- Only block g may have turned. -/
structure Only (g : Nat) (w w' : World) : Prop where
  os : w'.os = w.os
  tape : w'.tape = w.tape
  output : w'.output = w.output
  size : w'.heap.size = w.heap.size
  block : ∀ k, k ≠ g → w'.heap[k]? = w.heap[k]?
theorem Only.refl (g : Nat) (w : World) : Only g w w := ⟨rfl, rfl, rfl, rfl, fun _ _ => rfl⟩
theorem Only.set {g : Nat} {w w' : World} (h : Only g w w') (i : Nat) (v : Value) : Only g w (w'.setCell ⟨g, i, none⟩ v) :=
  have hb := (Below.refl g w').setCell (p := ⟨g, i, none⟩) (Nat.le_refl _) v
  ⟨hb.os.trans h.os, hb.tape.trans h.tape, hb.output.trans h.output, by rw [World.size_setCell]; exact h.size, fun k hk => by rw [Below.heap_setCell _ _ _ _ hk]; exact h.block k hk⟩
theorem Only.below {g B : Nat} {w w' : World} (h : Only g w w') (hB : B ≤ g) : Below B w w' :=
  ⟨h.os, h.tape, h.output, by rw [h.size]; exact Nat.le_refl _, fun k hk => h.block k (by omega)⟩
theorem Only.blk {g : Nat} {w w' : World} (h : Only g w w') {g' n : Nat} {f : Nat → Value} {t : TypeId} (hb : Blk w g' n f t) (hne : g' ≠ g) : Blk w' g' n f t := by
  unfold Blk; rw [h.block g' hne]; exact hb
end M
end Go.Proofs.Ytfjdbenbiakbbaa
