/-
  The specification's l12Apply at whatever event, and its ApplyEvent.
-/
import Derived.Test.YtjgopjnkkhkcnaaGreatDoorStV1
import Derived.Test.YtjgopjnkkhkcnaaGreatDoorStV2
import Derived.Test.YtjgopjnkkhkcnaaGreatDoorStV3
import Derived.Test.YtjgopjnkkhkcnaaGreatDoorStV4
import Derived.Test.YtjgopjnkkhkcnaaGreatDoorStV5
import Derived.Test.YtjgopjnkkhkcnaaGreatDoorStV6
namespace Go.Proofs.YtjgopjnkkhkcnaaGreatDoor
open Go.RowKit M
open Clk (upd upd_same upd_other)
open Go.Sort (grow)
theorem spec_l12 (v0 v1 : Value) (s : St) (e : Ev) (b : Bool) (w : World) (hv : StC w v0 v1 s) (hg : GoodSt s) (hen : e.name.size ≤ maxLen) (hb : BP b (May s e)) :
    Calls Tryz.prog 112 #[stv v0 v1 s, ev e.id e.ver e.kind e.name] w fun e' w' => L12 w w' e' s (raw s e) b ∧ Below w.heap.size w w' := by
  by_cases h : e.gd = true ∧ e.id = s.nx ∧ s.st = (if e.kind = 1 then 0 else 1)
  case neg =>
    obtain rfl : b = false := hb.no (fun hm => h ⟨hm.1, hm.2.1, hm.2.2.1⟩)
    exact l12_no v0 v1 s (raw s e) e w hv hg hen h
  obtain ⟨h1, h2, h3⟩ := h
  have hb' : BP b ((e.kind = 5 → s.ca = false) ∧ GoodSt (raw s e)) := ⟨fun q => (hb.1 q).2.2.2, fun q => hb.2 ⟨h1, h2, h3, q⟩⟩
  clear hb
  obtain ⟨-, -, hk, -⟩ := gd_parts h1
  obtain ⟨I, V, k, x⟩ := e
  simp only at *
  rcases (show k = 1 ∨ k = 2 ∨ k = 3 ∨ k = 4 ∨ k = 5 ∨ k = 6 by omega) with rfl | rfl | rfl | rfl | rfl | rfl
  · exact l12_1 v0 v1 s I V x b w hv hg h1 h2 h3 ⟨fun q => (hb'.1 q).2, fun q => hb'.2 ⟨fun c => absurd c (by simp), q⟩⟩
  · exact l12_2 v0 v1 s I V x b w hv hg h1 h2 h3 ⟨fun q => (hb'.1 q).2, fun q => hb'.2 ⟨fun c => absurd c (by simp), q⟩⟩
  · exact l12_3 v0 v1 s I V x b w hv hg h1 h2 h3 ⟨fun q => (hb'.1 q).2, fun q => hb'.2 ⟨fun c => absurd c (by simp), q⟩⟩
  · exact l12_4 v0 v1 s I V x b w hv hg h1 h2 h3 ⟨fun q => (hb'.1 q).2, fun q => hb'.2 ⟨fun c => absurd c (by simp), q⟩⟩
  · exact l12_5 v0 v1 s I V x b w hv hg h1 h2 h3 ⟨fun q => ⟨(hb'.1 q).1 rfl, (hb'.1 q).2⟩, fun q => hb'.2 ⟨fun _ => q.1, q.2⟩⟩
  · exact l12_6 v0 v1 s I V x b w hv hg h1 h2 h3 ⟨fun q => (hb'.1 q).2, fun q => hb'.2 ⟨fun c => absurd c (by simp), q⟩⟩
namespace M
theorem ApA.down {w W W' : World} {e' : Ending} {r : St} {b : Bool} (h : ApA w W e' r b) (hb : Below W.heap.size W W') : ApA w W' e' r b := by
  obtain ⟨u0, u1, he, hA⟩ := h
  exact ⟨u0, u1, he, (hA.down hb).mono (Nat.le_refl _) hb.size⟩
end M
end Go.Proofs.YtjgopjnkkhkcnaaGreatDoor
