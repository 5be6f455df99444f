/-
  NewState in both texts, and its law, walked: it returns true and turns nothing that was there.
-/
import Derived.Test.YtjgopjnkkhkcnaaGreatDoorStA
namespace Go.Proofs.YtjgopjnkkhkcnaaGreatDoor
open Go.RowKit M
open Clk (upd upd_same upd_other)
namespace M
abbrev nil2 : Value := .slice none 0 0
theorem ans0 (w : World) (lo hi : Nat) : AnsL w lo hi nil2 nil2 [] [] := ⟨OwnT.nil _ _, OwnT.nil _ _, fun g h => (by cases h), fun g h => (by cases h), fun g h => (by cases h)⟩
end M
theorem spec_new (w : World) : Calls Tryz.prog 165 #[] w fun e w' => e = .returned (stv nil2 nil2 st0) ∧ Below w.heap.size w w' := by
  have hb := (Below.refl w.heap.size w).alloc (Nat.le_refl _) (.cells #[.int .i64 0, .int .i64 1, .bool false, .int .i64 0, .slice none 0 0, .slice none 0 0] 154)
  go_enter Tryz.func165, Tryz.ntmps165
  go_wp2
  exact bodyPost_ret (v := stv nil2 nil2 st0) (by simp [results, Tryz.results165, go_sem, st0]) rfl ⟨rfl, hb⟩
theorem impl_new (w : World) : Calls Tryz.prog 174 #[] w fun e w' => e = .returned (stv nil2 nil2 st0) ∧ Below w.heap.size w w' := by
  have hb := (Below.refl w.heap.size w).alloc (Nat.le_refl _) (.cells #[.int .i64 0, .int .i64 1, .bool false, .int .i64 0, .slice none 0 0, .slice none 0 0] 154)
  go_enter Tryz.func174, Tryz.ntmps174
  go_wp2
  exact bodyPost_ret (v := stv nil2 nil2 st0) (by simp [results, Tryz.results174, go_sem, st0]) rfl ⟨rfl, hb⟩
end Go.Proofs.YtjgopjnkkhkcnaaGreatDoor
