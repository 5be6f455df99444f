/-
  The law's own helpers on one event: how many letters are left, and the event handed on as it is.
-/
import Derived.Test.YtjgopjnkkhkcnaaGreatDoorGood
namespace Go.Proofs.YtjgopjnkkhkcnaaGreatDoor
open Go.RowKit M

theorem sz_yes (id ver kind : Int) (name : ByteArray) (left : Int) (w : World) (h0 : 0 ≤ left) (h1 : left ≤ 1048576) (hn : (name.size : Int) ≤ left) :
    Calls Tryz.prog 249 #[ev id ver kind name, .int .i64 left] w fun e w' => e = .returned (.int .i64 (left - name.size)) ∧ Below w.heap.size w w' := by
  have hge : ¬ (left - (name.size : Int) < 0) := by omega
  go_enter Tryz.func249, Tryz.ntmps249
  go_wp2
  go_ret
  exact ⟨rfl, (Below.refl _ _).alloc (Nat.le_refl _) _⟩

theorem sz_no (id ver kind : Int) (name : ByteArray) (left : Int) (w : World) (hs : name.size ≤ maxLen) (h0 : 0 ≤ left) (h1 : left ≤ 1048576) (hn : left < (name.size : Int)) :
    Calls Tryz.prog 249 #[ev id ver kind name, .int .i64 left] w fun e w' => e = .returned (.int .i64 (-1)) ∧ Below w.heap.size w w' := by
  unfold maxLen at hs
  have hge : (left - (name.size : Int) < 0) := by omega
  go_enter Tryz.func249, Tryz.ntmps249
  go_wp2
  go_ret
  exact ⟨rfl, (Below.refl _ _).alloc (Nat.le_refl _) _⟩

theorem to_event (id ver kind : Int) (name : ByteArray) (w : World) :
    Calls Tryz.prog 250 #[ev id ver kind name] w fun e w' => e = .returned (ev id ver kind name) ∧ Below w.heap.size w w' := by
  go_enter Tryz.func250, Tryz.ntmps250
  go_wp2
  exact bodyPost_ret (v := ev id ver kind name) (by simp [results, Tryz.results250, go_sem]) rfl ⟨rfl, (((Below.refl _ _).alloc (Nat.le_refl _) _).alloc (by simp) _).alloc (by simp; omega) _⟩
end Go.Proofs.YtjgopjnkkhkcnaaGreatDoor
