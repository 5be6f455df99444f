/-
  The law of CronText, walked, at every cron.
-/
import Derived.Test.YtgpjggbcomeolaaDoorCrLT
import Derived.Test.YtgpjggbcomeolaaDoorCrTI
namespace Go.Proofs.YtgpjggbcomeolaaDoor
open Go.RowKit M
theorem law_crontext (v0 v1 v2 : Value) (c : Crn) (w : World) (hv : CronOf w v0 v1 v2 c) (hl : LensC c) :
    Calls Tryd.prog 4 #[.agg #[v0, v1, v2]] w fun e w' => e = .returned (.bool true) ∧ Below w.heap.size w w' := by
  refine law_CronText_run v0 v1 v2 c w hv hl fun hs => ?_
  by_cases h : GoodC c
  · exact ⟨ct c, true, fun v0 v1 v2 w h' => spec_text v0 v1 v2 c w h' hs h, fun v0 v1 v2 w h' => impl_text v0 v1 v2 c w h' hs h⟩
  · exact ⟨⟨#[]⟩, false, fun v0 v1 v2 w h' => spec_text_no v0 v1 v2 c w h' hs h, fun v0 v1 v2 w h' => impl_text_no v0 v1 v2 c w h' hs h⟩
end Go.Proofs.YtgpjggbcomeolaaDoor
