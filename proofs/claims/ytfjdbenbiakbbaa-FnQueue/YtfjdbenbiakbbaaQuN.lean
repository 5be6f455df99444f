/-
  New queues, in both texts.
-/
import Derived.Test.YtfjdbenbiakbbaaQuG
namespace Go.Proofs.Ytfjdbenbiakbbaa
open Go.RowKit M
namespace M
def newO (n : Int) : Qu := if inB n 1 10 = true then newQ n else qu0
theorem newO_empty (n : Int) : (newO n).sent = [] ∧ (newO n).got = [] ∧ (newO n).line = [] := by unfold newO; split <;> exact ⟨rfl, rfl, rfl⟩
end M
set_option maxHeartbeats 1000000 in
theorem impl_new (n : Int) (w : World) :
    Calls Try.prog 54 #[.int .i64 n] w fun e w' => e = .returned (.tuple #[qv (.slice none 0 0) (.slice none 0 0) (.slice none 0 0) (newO n), .bool (inB n 1 10)]) ∧ Below w.heap.size w w' := by
  have hbA := (Below.refl w.heap.size w).alloc (Nat.le_refl _) (.cells #[.int .i64 0, .slice none 0 0, .int .i64 0, .slice none 0 0, .slice none 0 0] 32)
  have hbB := (Below.refl w.heap.size w).alloc (Nat.le_refl _) (.cells #[.int .i64 n, .slice none 0 0, .int .i64 0, .slice none 0 0, .slice none 0 0] 32)
  cases h : inB n 1 10 with
  | false =>
    have e : newO n = qu0 := by unfold newO; rw [h]; rfl
    rw [e]
    go_enter Try.func54, Try.ntmps54
    go_wp2_with (go_at_call 60; refine (impl_window _ _).mono ?_; rintro e w' ⟨rfl, rfl⟩; rw [h])
    exact bodyPost_ret (v := .tuple #[qv (.slice none 0 0) (.slice none 0 0) (.slice none 0 0) qu0, .bool false]) (by simp [results, Try.results54, go_sem, qu0]) rfl ⟨rfl, hbA⟩
  | true =>
    have e : newO n = newQ n := by unfold newO; rw [h]; rfl
    rw [e]
    go_enter Try.func54, Try.ntmps54
    go_wp2_with (go_at_call 60; refine (impl_window _ _).mono ?_; rintro e w' ⟨rfl, rfl⟩; rw [h])
    exact bodyPost_ret (v := .tuple #[qv (.slice none 0 0) (.slice none 0 0) (.slice none 0 0) (newQ n), .bool true]) (by simp [results, Try.results54, go_sem, newQ]) rfl ⟨rfl, hbB⟩
set_option maxHeartbeats 1000000 in
theorem spec_new (n : Int) (w : World) :
    Calls Try.prog 53 #[.int .i64 n] w fun e w' => e = .returned (.tuple #[qv (.slice none 0 0) (.slice none 0 0) (.slice none 0 0) (newO n), .bool (inB n 1 10)]) ∧ Below w.heap.size w w' := by
  have hbA := (Below.refl w.heap.size w).alloc (Nat.le_refl _) (.cells #[.int .i64 0, .slice none 0 0, .int .i64 0, .slice none 0 0, .slice none 0 0] 32)
  have hbB := (Below.refl w.heap.size w).alloc (Nat.le_refl _) (.cells #[.int .i64 n, .slice none 0 0, .int .i64 0, .slice none 0 0, .slice none 0 0] 32)
  cases h : inB n 1 10 with
  | false =>
    have e : newO n = qu0 := by unfold newO; rw [h]; rfl
    rw [e]
    go_enter Try.func53, Try.ntmps53
    go_wp2_with (go_at_call 68; refine (spec_in _ _ _ _).mono ?_; rintro e w' ⟨rfl, rfl⟩; rw [h])
    exact bodyPost_ret (v := .tuple #[qv (.slice none 0 0) (.slice none 0 0) (.slice none 0 0) qu0, .bool false]) (by simp [results, Try.results53, go_sem, qu0]) rfl ⟨rfl, hbA⟩
  | true =>
    have e : newO n = newQ n := by unfold newO; rw [h]; rfl
    rw [e]
    go_enter Try.func53, Try.ntmps53
    go_wp2_with (go_at_call 68; refine (spec_in _ _ _ _).mono ?_; rintro e w' ⟨rfl, rfl⟩; rw [h])
    exact bodyPost_ret (v := .tuple #[qv (.slice none 0 0) (.slice none 0 0) (.slice none 0 0) (newQ n), .bool true]) (by simp [results, Try.results53, go_sem, newQ]) rfl ⟨rfl, hbB⟩
end Go.Proofs.Ytfjdbenbiakbbaa
