/-
  The mathematics of two regions and what is said between them: which worlds are good.
-/
import Derived.Test.YtjgopjnkkhkcnaaGreatDoorRgM
namespace Go.Proofs.YtjgopjnkkhkcnaaGreatDoor
open Go.RowKit M
namespace M
structure Wd where
  rs : List Rg
  ln : List Rg
/-- What is said to one is good. -/
def GdS (s : Rg) : Prop := (0 ≤ s.id ∧ s.id ≤ 1) ∧ GdW s.ver s.bs
def GdWd (W : Wd) : Prop := W.rs.length = 2 ∧ W.ln.length ≤ 20 ∧ (∀ (i : Nat) r, W.rs[i]? = some r → r.id = (i : Int) ∧ GdW r.ver r.bs) ∧ ∀ s ∈ W.ln, GdS s
end M
end Go.Proofs.YtjgopjnkkhkcnaaGreatDoor
