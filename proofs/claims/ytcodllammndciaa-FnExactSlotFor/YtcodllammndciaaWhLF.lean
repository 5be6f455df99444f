/-
  The law of SlotFor, walked: it returns true and turns nothing that was there.
-/
import Derived.Test.YtcodllammndciaaWhF
namespace Go.Proofs.Ytcodllammndciaa
open Go.RowKit M
set_option maxHeartbeats 1000000 in
theorem law_slot {p q : Prop} (now tm : Int) (w : World) (_ : p) (_ : q) :
    Calls Try.prog 10 #[.int .i64 now, .int .i64 tm] w fun e w' => e = .returned (.bool true) ∧ Below w.heap.size w w' := by
  have HS := hide (spec_slot now tm w)
  have HI := hide (show ∀ w, _ from fun w => impl_slot now tm w)
  generalize (slotA now tm).1 = x at *
  generalize (slotA now tm).2 = b at *
  have hx : (x != x) = false := by simp
  have hb : (b != b) = false := by cases b <;> rfl
  go_enter Try.func10, Try.ntmps10
  go_wp2_with fail
  refine HS.out.mono ?_
  rintro e w1 ⟨rfl, hb1⟩
  go_wp2_with fail
  refine (HI.out _).mono ?_
  rintro e w2 ⟨rfl, m, rfl⟩
  cases b with
  | true =>
    go_wp2
    go_ret
    exact ⟨rfl, below_drewN hb1 m⟩
  | false =>
    go_wp2
    go_ret
    exact ⟨rfl, below_drewN hb1 m⟩
end Go.Proofs.Ytcodllammndciaa
