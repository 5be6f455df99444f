/-
  The laws of GoodSaga, IsOver, SumIn, StepSaga and FailSaga, at every saga.
-/
import Derived.Test.YtmpedadjikmnhaaSgLG
import Derived.Test.YtmpedadjikmnhaaSgLO
import Derived.Test.YtmpedadjikmnhaaSgLS
import Derived.Test.YtmpedadjikmnhaaSgLP
import Derived.Test.YtmpedadjikmnhaaSgLF
import Derived.Test.YtmpedadjikmnhaaSgI
import Derived.Test.YtmpedadjikmnhaaSgX
namespace Go.Proofs.Ytmpedadjikmnhaa
open Go.RowKit M
open Classical in
theorem law_good (v0 v1 : Value) (s : Sg) (w : World) (hv : SagQ w v0 v1 s.na s.fa s.nm (fl s.fm)) (hl : LensS s.na s.nm) :
    Calls Try.prog 4 #[sgv v0 v1 s] w fun e w' => e = .returned (.bool true) ∧ Below w.heap.size w w' :=
  law_GoodSaga_run v0 v1 s w hv hl fun hs => ⟨decide (GoodS s), fun v0 v1 w h => spec_good v0 v1 s _ w h hs (decide_eq_true_iff), fun v0 v1 w h => impl_good v0 v1 s _ w h hs (decide_eq_true_iff)⟩
open Classical in
theorem law_over (v0 v1 : Value) (s : Sg) (w : World) (hv : SagQ w v0 v1 s.na s.fa s.nm (fl s.fm)) (hl : LensS s.na s.nm) :
    Calls Try.prog 8 #[sgv v0 v1 s] w fun e w' => e = .returned (.bool true) ∧ Below w.heap.size w w' :=
  law_IsOver_run v0 v1 s w hv hl fun hs => ⟨_, _, decide (GoodS s), fun v0 v1 w h => spec_over v0 v1 s _ _ _ w h hs (decide_eq_true_iff) rfl rfl, fun v0 v1 w h => impl_over v0 v1 s _ _ _ w h hs (decide_eq_true_iff) rfl rfl⟩
open Classical in
theorem law_sum (v0 v1 : Value) (s : Sg) (w : World) (hv : SagQ w v0 v1 s.na s.fa s.nm (fl s.fm)) (hl : LensS s.na s.nm) :
    Calls Try.prog 9 #[sgv v0 v1 s] w fun e w' => e = .returned (.bool true) ∧ Below w.heap.size w w' :=
  law_SumIn_run v0 v1 s w hv hl fun hs => ⟨_, decide (GoodS s), fun v0 v1 w h => spec_sum v0 v1 s _ _ w h hs (decide_eq_true_iff) rfl, fun v0 v1 w h => impl_sum v0 v1 s _ _ w h hs (decide_eq_true_iff) rfl⟩
theorem short_of {s : Sg} {b : Bool} {t : Sg} (hs : ShortS s.na s.nm) (h1 : t.na = s.na) (h2 : t.nm = s.nm) : ShortS (if b = true then t else zeroS).na (if b = true then t else zeroS).nm := by
  cases b
  · exact ⟨Nat.zero_le _, Nat.zero_le _⟩
  · simp only [if_true]; rw [h1, h2]; exact hs
theorem step_na (s : Sg) : (stepS s).na = s.na ∧ (stepS s).nm = s.nm := by
  unfold stepS; split
  · exact ⟨rfl, rfl⟩
  · split <;> exact ⟨rfl, rfl⟩
open Classical in
theorem law_step (v0 v1 : Value) (s : Sg) (w : World) (hv : SagQ w v0 v1 s.na s.fa s.nm (fl s.fm)) (hl : LensS s.na s.nm) :
    Calls Try.prog 5 #[sgv v0 v1 s] w fun e w' => e = .returned (.bool true) ∧ Below w.heap.size w w' :=
  law_StepSaga_run v0 v1 s w hv hl fun hs => ⟨if decide (GoodS s ∧ canS s) = true then stepS s else zeroS, decide (GoodS s ∧ canS s), short_of hs (step_na s).1 (step_na s).2, fun v0 v1 w h => spec_step v0 v1 s _ w h hs (decide_eq_true_iff) _ rfl, fun v0 v1 w h => impl_step v0 v1 s _ w h hs (decide_eq_true_iff) _ rfl⟩
open Classical in
theorem law_fail (v0 v1 : Value) (s : Sg) (w : World) (hv : SagQ w v0 v1 s.na s.fa s.nm (fl s.fm)) (hl : LensS s.na s.nm) :
    Calls Try.prog 6 #[sgv v0 v1 s] w fun e w' => e = .returned (.bool true) ∧ Below w.heap.size w w' :=
  law_FailSaga_run v0 v1 s w hv hl fun hs => ⟨if decide (GoodS s ∧ canD s) = true then failS s else zeroS, decide (GoodS s ∧ canD s), short_of hs rfl rfl, fun v0 v1 w h => spec_fail v0 v1 s _ w h hs (decide_eq_true_iff) _ rfl, fun v0 v1 w h => impl_fail v0 v1 s _ w h hs (decide_eq_true_iff) _ rfl⟩
end Go.Proofs.Ytmpedadjikmnhaa
