/-
  The law of RunSaga, at every saga and step.
-/
import Derived.Test.YtmpedadjikmnhaaSgL1
import Derived.Test.YtmpedadjikmnhaaSgLR
import Derived.Test.YtmpedadjikmnhaaSgKs
namespace Go.Proofs.Ytmpedadjikmnhaa
open Go.RowKit M
open Classical in
theorem law_run {Q : Prop} (v0 v1 : Value) (s : Sg) (t0 : Int) (w : World) (hv : SagQ w v0 v1 s.na s.fa s.nm (fl s.fm)) (hl : LensS s.na s.nm) (_ : Q) :
    Calls Try.prog 7 #[sgv v0 v1 s, .int .i64 t0] w fun e w' => e = .returned (.bool true) ∧ Below w.heap.size w w' :=
  law_RunSaga_run v0 v1 s t0 w hv hl fun hs => ⟨if decide (GoodS s) = true then (fin s 0 t0).s else zeroS, if decide (GoodS s) = true then ((fin s 0 t0).n : Int) else 0, decide (GoodS s), short_of hs (fin_na s 0 t0).1 (fin_na s 0 t0).2.1, fun v0 v1 w h => spec_run v0 v1 s t0 _ w h hs (decide_eq_true_iff) _ _ rfl rfl, fun v0 v1 w h => impl_run v0 v1 s t0 _ w h hs (decide_eq_true_iff) _ _ rfl rfl⟩
end Go.Proofs.Ytmpedadjikmnhaa
