/-
  Events copied in the specification's text, whatever they are.
-/
import Derived.Test.YtjgopjnkkhkcnaaGreatDoorBrX
namespace Go.Proofs.YtjgopjnkkhkcnaaGreatDoor
open Go.RowKit M
open Go.Sort (grow)
set_option maxHeartbeats 1000000 in
theorem own_evs0 (a : Option Addr) (c : Nat) (w : World) :
    Calls Tryz.prog 114 #[.slice a 0 c] w fun e w' => (∃ a n c, e = .returned (.slice a n c) ∧ OwnE w' w.heap.size (.slice a n c) []) ∧ Below w.heap.size w w' := by
  have hal := (Below.refl w.heap.size w).alloc (Nat.le_refl _) (.cells #[] 150)
  have HO := hide (OwnE.lit0 w)
  go_enter Tryz.func114, Tryz.ntmps114
  cases a with
  | none =>
    go_wp2
    go_ret
    exact ⟨⟨_, _, _, rfl, HO.out⟩, hal⟩
  | some a =>
    go_wp2
    go_ret
    exact ⟨⟨_, _, _, rfl, HO.out⟩, hal⟩
theorem own_evsG (v : Value) (es : Evs) (w : World) (hv : SliceOf w v es) (hlen : es.length ≤ 1048576) :
    Calls Tryz.prog 114 #[v] w fun e w' => (∃ a n c, e = .returned (.slice a n c) ∧ OwnE w' w.heap.size (.slice a n c) es) ∧ Below w.heap.size w w' := by
  by_cases h0 : es = []
  · subst h0
    obtain ⟨a, c, rfl, -⟩ := hv
    exact own_evs0 a c w
  · exact own_evs v es w hv hlen h0
end Go.Proofs.YtjgopjnkkhkcnaaGreatDoor
