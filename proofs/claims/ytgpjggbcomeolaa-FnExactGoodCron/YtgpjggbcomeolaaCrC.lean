/-
  The laws of GoodCron and ManyIn, at every cron.
-/
import Derived.Test.YtgpjggbcomeolaaCrLG
import Derived.Test.YtgpjggbcomeolaaCrLM
import Derived.Test.YtgpjggbcomeolaaCrMany
namespace Go.Proofs.Ytgpjggbcomeolaa
open Go.RowKit M
theorem law_goodcron (v0 v1 v2 : Value) (c : Crn) (w : World) (hv : CronOf w v0 v1 v2 c) (hl : LensC c) :
    Calls Try.prog 3 #[.agg #[v0, v1, v2]] w fun e w' => e = .returned (.bool true) ∧ Below w.heap.size w w' :=
  law_GoodCron_run v0 v1 v2 c w hv hl fun hs => ⟨decide (GoodC c), fun v0 v1 v2 w h => spec_good v0 v1 v2 c _ w h hs rfl, fun v0 v1 v2 w h => impl_good v0 v1 v2 c _ w h hs rfl⟩
theorem law_manyin (v0 v1 v2 : Value) (c : Crn) (w : World) (hv : CronOf w v0 v1 v2 c) (hl : LensC c) :
    Calls Try.prog 7 #[.agg #[v0, v1, v2]] w fun e w' => e = .returned (.bool true) ∧ Below w.heap.size w w' :=
  law_ManyIn_run v0 v1 v2 c w hv hl fun hs => ⟨manyC c, decide (GoodC c), fun v0 v1 v2 w h => spec_many v0 v1 v2 c _ w h hs rfl, fun v0 v1 v2 w h => impl_many v0 v1 v2 c _ w h hs rfl⟩
end Go.Proofs.Ytgpjggbcomeolaa
