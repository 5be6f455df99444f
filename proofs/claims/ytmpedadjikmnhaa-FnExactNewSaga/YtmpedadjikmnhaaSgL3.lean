/-
  The law of NewSaga, at every accounts and moves.
-/
import Derived.Test.YtmpedadjikmnhaaSgL1
import Derived.Test.YtmpedadjikmnhaaSgLN
namespace Go.Proofs.Ytmpedadjikmnhaa
open Go.RowKit M
open Classical in
theorem law_new (v0 : Value) (n0 : Nat) (f0 : Nat → Int) (v1 : Value) (n1 : Nat) (f1 : Nat → Int) (w : World) (h0 : IntsOf w v0 n0 f0) (l0 : n0 ≤ maxLen) (h1 : MovesOf w v1 n1 f1) (l1 : n1 ≤ maxLen) :
    Calls Try.prog 3 #[v0, v1] w fun e w' => e = .returned (.bool true) ∧ Below w.heap.size w w' := by
  have hv : SagQ w v0 v1 n0 f0 n1 (fl (mvs f1)) := ⟨h0, by rw [fl_mvs]; exact h1⟩
  exact law_NewSaga_run v0 v1 ⟨n0, f0, n1, mvs f1, 0, false⟩ w hv ⟨l0, l1⟩ fun hs => ⟨if decide (GoodS ⟨n0, f0, n1, mvs f1, 0, false⟩) = true then ⟨n0, f0, n1, mvs f1, 0, false⟩ else zeroS, decide (GoodS ⟨n0, f0, n1, mvs f1, 0, false⟩), short_of hs rfl rfl, fun v0 v1 w h => spec_new v0 v1 ⟨n0, f0, n1, mvs f1, 0, false⟩ _ w h hs ⟨rfl, rfl⟩ (decide_eq_true_iff) _ rfl, fun v0 v1 w h => impl_new v0 v1 ⟨n0, f0, n1, mvs f1, 0, false⟩ _ w h hs ⟨rfl, rfl⟩ (decide_eq_true_iff) _ rfl⟩
end Go.Proofs.Ytmpedadjikmnhaa
