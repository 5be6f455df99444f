/-
  The program's tokenIn: one token, in one place.
-/
import Derived.Test.YthilapalgakhhaaNetMet
namespace Go.Proofs.Ythilapalgakhhaa
open Go.RowKit M
namespace M
def tok (q : Nat) : Nat → Int := fun j => if j = q then 1 else 0
end M
set_option maxHeartbeats 1000000 in
theorem token_in (q : Nat) (w : World) (hq : q < 8) :
    Calls Try.prog 70 #[.int .i64 (q : Int)] w fun e w' => e = .returned (mkV (tok q)) ∧ Below w.heap.size w w' := by
  go_enter Try.func70, Try.ntmps70
  match q, hq with
  | 0, _ =>
    go_wp2
    exact bodyPost_ret (v := mkV (tok 0)) (by simp [results, Try.results70, go_sem, tok]) rfl ⟨rfl, ((Below.refl _ _).alloc (Nat.le_refl _) _).alloc (by simp) _⟩
  | 1, _ =>
    go_wp2
    exact bodyPost_ret (v := mkV (tok 1)) (by simp [results, Try.results70, go_sem, tok]) rfl ⟨rfl, ((Below.refl _ _).alloc (Nat.le_refl _) _).alloc (by simp) _⟩
  | 2, _ =>
    go_wp2
    exact bodyPost_ret (v := mkV (tok 2)) (by simp [results, Try.results70, go_sem, tok]) rfl ⟨rfl, ((Below.refl _ _).alloc (Nat.le_refl _) _).alloc (by simp) _⟩
  | 3, _ =>
    go_wp2
    exact bodyPost_ret (v := mkV (tok 3)) (by simp [results, Try.results70, go_sem, tok]) rfl ⟨rfl, ((Below.refl _ _).alloc (Nat.le_refl _) _).alloc (by simp) _⟩
  | 4, _ =>
    go_wp2
    exact bodyPost_ret (v := mkV (tok 4)) (by simp [results, Try.results70, go_sem, tok]) rfl ⟨rfl, ((Below.refl _ _).alloc (Nat.le_refl _) _).alloc (by simp) _⟩
  | 5, _ =>
    go_wp2
    exact bodyPost_ret (v := mkV (tok 5)) (by simp [results, Try.results70, go_sem, tok]) rfl ⟨rfl, ((Below.refl _ _).alloc (Nat.le_refl _) _).alloc (by simp) _⟩
  | 6, _ =>
    go_wp2
    exact bodyPost_ret (v := mkV (tok 6)) (by simp [results, Try.results70, go_sem, tok]) rfl ⟨rfl, ((Below.refl _ _).alloc (Nat.le_refl _) _).alloc (by simp) _⟩
  | 7, _ =>
    go_wp2
    exact bodyPost_ret (v := mkV (tok 7)) (by simp [results, Try.results70, go_sem, tok]) rfl ⟨rfl, ((Below.refl _ _).alloc (Nat.le_refl _) _).alloc (by simp) _⟩
end Go.Proofs.Ythilapalgakhhaa
