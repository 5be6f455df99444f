/-
  Plain mathematics of chapter 1's sum: Fletcher's two sums over a list of bytes. No conditions.
-/
import Derived.WalkKit
namespace Go.Proofs.Ytfjdbenbiakbbaa.M

def step (p : Nat × Nat) (c : UInt8) : Nat × Nat := ((p.1 + c.toNat) % 255, (p.2 + (p.1 + c.toNat) % 255) % 255)
def fl (l : List UInt8) : Nat × Nat := l.foldl step (0, 0)
def sumOf (l : List UInt8) : Nat := 256 * (fl l).2 + (fl l).1

theorem fl_snoc (l : List UInt8) (c : UInt8) : fl (l ++ [c]) = step (fl l) c := by
  unfold fl; rw [List.foldl_append]; rfl

theorem fl_bd (l : List UInt8) : (fl l).1 < 255 ∧ (fl l).2 < 255 := by
  suffices h : ∀ (l : List UInt8) (p : Nat × Nat), p.1 < 255 ∧ p.2 < 255 → (l.foldl step p).1 < 255 ∧ (l.foldl step p).2 < 255 from
    h l (0, 0) ⟨by decide, by decide⟩
  intro l
  induction l with
  | nil => intro p h; exact h
  | cons c r ih => intro p _; rw [List.foldl_cons]; exact ih _ ⟨Nat.mod_lt _ (by decide), Nat.mod_lt _ (by decide)⟩

theorem sumOf_bd (l : List UInt8) : sumOf l < 65536 := by
  have := fl_bd l; unfold sumOf; omega

theorem take_snoc (s : ByteArray) (k : Nat) (h : k < s.size) : s.data.toList.take (k + 1) = s.data.toList.take k ++ [s[k]] := by
  rw [List.take_succ_eq_append_getElem (by simpa using h)]; rfl

theorem fl_take_succ (s : ByteArray) (k a b : Nat) (h : k < s.size) (e : fl (s.data.toList.take k) = (a, b)) :
    fl (s.data.toList.take (k + 1)) = ((a + s[k].toNat) % 255, (b + (a + s[k].toNat) % 255) % 255) := by
  rw [take_snoc s k h, fl_snoc, e]; rfl

open Go.RowKit in
theorem hide {p : Prop} (h : p) : Hid p := h
theorem ret_int {k : IntKind} {a b : Int} (h : a = b) : Ending.returned (.int k a) = .returned (.int k b) := by rw [h]
end Go.Proofs.Ytfjdbenbiakbbaa.M
