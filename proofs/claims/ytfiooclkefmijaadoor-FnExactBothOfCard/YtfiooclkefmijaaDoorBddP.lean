/-
  Forms read from the front: what is told of the form that begins at a place, and where it ends. Plain mathematics.
-/
import Derived.Test.YtfiooclkefmijaaDoorBddM
import Derived.Lib.Strings
namespace Go.Proofs.YtfiooclkefmijaaDoor
namespace M
namespace Bdd
def byte (s : ByteArray) (p : Nat) : Nat := if h : p < s.size then s[p].toNat else 0
theorem byte_lt (s : ByteArray) (p : Nat) : byte s p < 256 := by
  unfold byte; split
  · exact UInt8.toNat_lt _
  · omega
def opT (c : Nat) (x y : T) : Option T := if c = 38 then some (x &&& y) else if c = 124 then some (x ||| y) else if c = 94 then some (x ^^^ y) else none
/-- Behind a bracket. -/
def par (F : Nat → Option (T × Nat)) (s : ByteArray) (p : Nat) : Option (T × Nat) :=
  match F p with
  | none => none
  | some (x, q) =>
    if q < s.size then
      match F (q + 1) with
      | none => none
      | some (y, r) => if r < s.size ∧ byte s r = 41 then (opT (byte s q) x y).map fun t => (t, r + 1) else none
    else none
def one (F : Nat → Option (T × Nat)) (s : ByteArray) (c p : Nat) : Option (T × Nat) :=
  if c = 48 then some (0, p + 1) else if c = 49 then some (all1, p + 1) else if 97 ≤ c ∧ c < 103 then some (vt (c - 97), p + 1)
  else if c = 33 then (F (p + 1)).map fun o => (~~~o.1, o.2) else if c = 40 then par F s (p + 1) else none
def prs (s : ByteArray) : Nat → Nat → Option (T × Nat)
  | 0, _ => none
  | f + 1, p => if p < s.size then one (prs s f) s (byte s p) p else none
theorem prs_pos (s : ByteArray) : ∀ (f p : Nat) (x : T) (q : Nat), prs s f p = some (x, q) → p < q ∧ q ≤ s.size := by
  intro f
  induction f with
  | zero => intro p x q h; simp [prs] at h
  | succ f ih =>
    intro p x q h
    rw [prs] at h
    split at h
    next hp =>
      unfold one at h
      split at h
      · simp at h; omega
      split at h
      · simp at h; omega
      split at h
      · simp at h; omega
      split at h
      · cases ho : prs s f (p + 1) with
        | none => rw [ho] at h; simp at h
        | some o =>
          rw [ho] at h
          simp only [Option.map_some, Option.some.injEq, Prod.mk.injEq] at h
          have := ih (p + 1) o.1 o.2 ho
          omega
      split at h
      · unfold par at h
        cases ho : prs s f (p + 1) with
        | none => rw [ho] at h; simp at h
        | some o =>
          obtain ⟨x1, q1⟩ := o
          rw [ho] at h
          simp only at h
          split at h
          next hq =>
            cases ho2 : prs s f (q1 + 1) with
            | none => rw [ho2] at h; simp at h
            | some o2 =>
              obtain ⟨y1, r1⟩ := o2
              rw [ho2] at h
              simp only at h
              split at h
              next hr =>
                simp only [Option.map_eq_some_iff, Prod.mk.injEq] at h
                obtain ⟨t, _, _, e⟩ := h
                have := ih _ _ _ ho
                have := ih _ _ _ ho2
                omega
              next => cases h
          next => cases h
      · cases h
    next => cases h
/-- The table of a whole text. -/
def formT (s : ByteArray) : Option T :=
  if s.size ≤ 60 then
    match prs s (s.size + 1) 0 with
    | none => none
    | some (x, q) => if q = s.size then some x else none
  else none
end Bdd
end M
end Go.Proofs.YtfiooclkefmijaaDoor
