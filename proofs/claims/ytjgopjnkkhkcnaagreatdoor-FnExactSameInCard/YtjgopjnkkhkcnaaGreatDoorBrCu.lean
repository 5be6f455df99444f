/-
  The history that counts, and the names that it lacks: plain mathematics.
-/
import Derived.Test.YtjgopjnkkhkcnaaGreatDoorBrN
namespace Go.Proofs.YtjgopjnkkhkcnaaGreatDoor
open Go.RowKit M
namespace M
def curB (bs : Brs) : Evs := bs.getD (cur bs bs.length) []
theorem cur_at {bs : Brs} {k : Nat} (hk : k ≤ bs.length) (hp : 0 < bs.length) : ∃ o, bs[cur bs k]? = some o := by
  cases k with
  | zero => exact ⟨bs[0], List.getElem?_eq_getElem hp⟩
  | succ k =>
    have := cur_lt bs k
    exact ⟨bs[cur bs (k + 1)]'(by omega), List.getElem?_eq_getElem _⟩
theorem cur_one (bs : Brs) : cur bs 1 = 0 := Nat.le_zero.1 (cur_lt bs 0)
theorem cur_b {bs : Brs} (hp : 0 < bs.length) : bs[cur bs bs.length]? = some (curB bs) := by
  obtain ⟨o, ho⟩ := cur_at (Nat.le_refl bs.length) hp
  rw [ho]; unfold curB; rw [getD_at ho]
def sgB (es : Evs) : Txs := (sk es es.length).sg
def cB (bs : Brs) : Evs := if bs = [] then [] else curB bs
def keptOf (bs : Brs) : Txs := sgB (cB bs)
def allS : Brs → Txs
  | [] => []
  | b :: r => sgB b ++ allS r
theorem allS_app : ∀ a b : Brs, allS (a ++ b) = allS a ++ allS b
  | [], b => rfl
  | x :: a, b => by simp [allS, allS_app a b]
theorem gat_len (k a : Txs) : (gat k a).length ≤ a.length := List.length_filter_le _ _
theorem gat_in {k : Txs} {y : ByteArray} (h : y ∈ k) : gat k [y] = [] := by simp [gat, has_iff.2 h]
theorem gat_out {k : Txs} {y : ByteArray} (h : ¬ y ∈ k) : gat k [y] = [y] := by
  have : has k y = false := by
    cases hb : has k y with
    | false => rfl
    | true => exact absurd (has_iff.1 hb) h
  simp [gat, this]
theorem gat_app (k a b : Txs) : gat k (a ++ b) = gat k a ++ gat k b := by simp [gat]
def lsl (bs : Brs) : Txs := lst (keptOf bs) (allS bs) []
theorem lsl_is (bs : Brs) : fnl (gat (keptOf bs) (allS bs)) = lsl bs := fnl_is
end M
end Go.Proofs.YtjgopjnkkhkcnaaGreatDoor
