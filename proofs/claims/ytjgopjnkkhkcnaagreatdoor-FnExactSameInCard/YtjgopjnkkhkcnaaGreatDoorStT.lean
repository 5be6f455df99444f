/-
  What happens to a state in its box, kind by kind: it is taken where it may come, and then the box holds what it makes of the state.
-/
import Derived.Test.YtjgopjnkkhkcnaaGreatDoorStK
import Derived.Deep.RegionWith
import Derived.Deep.RegionLaw
import Derived.Deep.AppendLies
import Derived.Deep.Cut
namespace Go.Proofs.YtjgopjnkkhkcnaaGreatDoor
open Go.RowKit M
open Clk (upd upd_same upd_other)
open Go.Sort (grow)
namespace M
theorem SM.nil5 {w : World} {B g : Nat} {v0 v1 : Value} {s : St} (h : SM w B g v0 v1 s) : SM (w.setCell ⟨g, 5, none⟩ (.slice none 0 0)) B g v0 (.slice none 0 0) ⟨s.st, s.nx, s.ca, s.dn, s.sg, []⟩ :=
  ⟨h.box.hex5 _, (h.rows _ _).1, OwnT.nil _ _, fun g' _ e => (by cases e), h.lo⟩
theorem nm12 {r : Bool} {l : Txs} (h : Nms r l) : ∀ x ∈ l, x.size ≤ maxLen := fun x hx => by
  have := h.size x hx
  unfold maxLen; omega
theorem tog_mem {l : Txs} {x y : ByteArray} (h : y ∈ tog l x) : y = x ∨ y ∈ l := by
  unfold tog at h
  split at h
  · rcases List.mem_append.1 h with h | h
    · exact .inr (List.mem_of_mem_take h)
    · exact .inr (List.mem_of_mem_drop h)
  · rcases List.mem_append.1 h with h | h
    · exact .inr (List.mem_of_mem_take h)
    · rcases List.mem_cons.1 h with h | h
      · exact .inl h
      · exact .inr (List.mem_of_mem_drop h)
theorem news1' (w : World) (vb : Nat) (c : Value) (t : TypeId) (h : w.heap[vb]? = some (.cells #[c] t (0, 0))) : ∀ (j : Nat) u, [c][j]? = some u → w.cell? ((⟨vb, 0, none⟩ : Addr).add j) = some u := by
  intro j u hj
  match j, hj with
  | 0, hj => simp at hj; subst hj; simp [Addr.add, World.cell?, h]
theorem owns_same {w w' : World} {B e size n : Nat} {v : Value} {xs : List Value} (h : w.ownsRow B e size v n xs) (hh : w'.heap = w.heap) : w'.ownsRow B e size v n xs := ⟨h.1, by rw [hh]; exact h.2⟩
theorem gN_max {x : ByteArray} (h : gN x = true) : x.size ≤ maxLen := by
  have := gN_size h
  unfold maxLen; omega
theorem tog_nm {l : Txs} {x : ByteArray} (h : Nms true l) (hx : gN x = true) : ∀ y ∈ tog l x, y.size ≤ maxLen := fun y hy => by
  rcases tog_mem hy with hh | hh
  · rw [hh]; exact gN_max hx
  · exact nm12 h y hh
theorem snoc_nm {l : Txs} {x : ByteArray} (h : Nms false l) (hx : gN x = true) : ∀ y ∈ l ++ [x], y.size ≤ maxLen := fun y hy => by
  rcases List.mem_append.1 hy with hh | hh
  · exact nm12 h y hh
  · simp at hh; rw [hh]; exact gN_max hx
end M
end Go.Proofs.YtjgopjnkkhkcnaaGreatDoor
