/-
  The next version: plain mathematics.
-/
import Derived.Test.YtjgopjnkkhkcnaaGreatDoorStN
namespace Go.Proofs.YtjgopjnkkhkcnaaGreatDoor
open Go.RowKit M
namespace M
def nx (v r : Int) : Int := if v - v % 10 + r ≤ v then v - v % 10 + r + 10 else v - v % 10 + r
theorem nx_gt {v r : Int} (hr : 0 ≤ r) (hr2 : r ≤ 9) : v < nx v r ∧ nx v r ≤ v + 10 := by
  unfold nx; split <;> omega
end M
end Go.Proofs.YtjgopjnkkhkcnaaGreatDoor
