/-
  Where the goal does not follow: what the four calls of the law answer.
-/
import Derived.Test.YtpabnncfcklnpaaHoCm
namespace Go.Proofs.Ytpabnncfcklnpaa
open Go.RowKit M
open Clk (upd upd_same upd_other)
open Ho
theorem not_why (k m : Nat) (ts : Nat → Tk) (c : Nat → Int) (x : Int) (hs : Short k ts) (hm : m ≤ 1048576) (hN : ¬ ∃ y : Nat, x = (y : Int) ∧ y < 40 ∧ Okay k m ts c ∧ (fin (rls ts) k (nf c) m).inn y = true) :
    ∃ b : Bool, ∀ (v u : Value) (W : World), TasksOf W v k ts → IntsOf W u m c →
      (Calls Try.prog 28 #[v, u, .int .i64 x] W fun e w' => e = .returned (.tuple #[.slice none 0 0, .bool false]) ∧ Below W.heap.size W w') ∧
      (Calls Try.prog 27 #[v, u, .int .i64 x] W fun e w' => e = .returned (.tuple #[.slice none 0 0, .bool false]) ∧ Below W.heap.size W w') ∧
      (Calls Try.prog 26 #[v, u, .int .i64 x] W fun e w' => e = .returned (.tuple #[.bool false, .bool b]) ∧ Below W.heap.size W w') ∧
      (Calls Try.prog 25 #[v, u, .int .i64 x] W fun e w' => e = .returned (.tuple #[.bool false, .bool b]) ∧ Below W.heap.size W w') := by
  by_cases hO : Okay k m ts c ∧ (0 ≤ x ∧ x ≤ 39)
  · obtain ⟨y, rfl⟩ : ∃ y : Nat, x = (y : Int) := ⟨x.toNat, by omega⟩
    have hy : y < 40 := by omega
    have hin : (fin (rls ts) k (nf c) m).inn y = false := by
      rw [← Bool.not_eq_true]; intro h; exact hN ⟨y, rfl, hy, hO.1, h⟩
    have hfi : (fi k m ts c).inn y = false := by unfold fi; exact hin
    refine ⟨true, fun v u W hv hu => ⟨impl_why_out v u k m ts c y W hv hs hu hm hO.1 hy hin, spec_why_out v u k m ts c y W hv hs hu hm hO.1 hy hin, ?_, ?_⟩⟩
    · exact (impl_follows v u k m ts c y W hv hs hu hm hO.1 hy).mono fun e w' h => ⟨by rw [h.1, hfi], h.2⟩
    · exact (spec_follows v u k m ts c y W hv hs hu hm hO.1 hy).mono fun e w' h => ⟨by rw [h.1, hfi], h.2⟩
  · exact ⟨false, fun v u W hv hu => ⟨impl_why_no v u k m ts c x W hv hs hu hm hO, spec_why_no v u k m ts c x W hv hs hu hm hO, impl_follows_no v u k m ts c x W hv hs hu hm hO, spec_follows_no v u k m ts c x W hv hs hu hm hO⟩⟩
/-- What is used of a reason. -/
structure WF (k m : Nat) (ts : Nat → Tk) (c : Nat → Int) (y : Nat) (L : List Nat) : Prop where
  lt : ∀ i, i ∈ L → i < k
  body : ∀ i A B, L = A ++ i :: B → ∀ b, b < (ts i).nn → (ts i).fn b ∈ IL m c ts A
  goal : (y : Int) ∈ IL m c ts L
  okay : ∀ i A B, L = A ++ i :: B → Okay (A ++ B).length m (tsL ts (A ++ B)) c
  rest : ∀ i A B, L = A ++ i :: B → (fi (A ++ B).length m (tsL ts (A ++ B)) c).inn y = false
theorem wf_of {k m : Nat} {ts : Nat → Tk} {c : Nat → Int} {y : Nat} (hO : Okay k m ts c) (hin : (fin (rls ts) k (nf c) m).inn y = true) : WF k m ts c y (whyL k m ts c y) where
  lt := fun _ h => whyL_lt hO h
  body := fun _ _ _ h _ hb => whyL_body hO h hb
  goal := whyL_goal hO hin
  okay := fun _ _ _ h => (whyL_rest hO h).1
  rest := fun _ _ _ h => (whyL_rest hO h).2
end Go.Proofs.Ytpabnncfcklnpaa
