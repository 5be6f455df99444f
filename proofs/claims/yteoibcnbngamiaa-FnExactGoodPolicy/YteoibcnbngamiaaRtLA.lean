/-
  The laws of GoodPolicy and WaitOf, at every argument.
-/
import Derived.Test.YteoibcnbngamiaaRtL
import Derived.Test.YteoibcnbngamiaaRtW
namespace Go.Proofs.Yteoibcnbngamiaa
open Go.RowKit M
theorem law_policy (p : Po) (w : World) :
    Calls Try.prog 3 #[pov p] w fun e w' => e = .returned (.bool true) ∧ Below w.heap.size w w' :=
  law_policy_run p _ w (fun W => spec_policy p _ W rfl) (fun W => impl_policy p _ W rfl)
theorem law_wait (p : Po) (x : Int) (w : World) :
    Calls Try.prog 4 #[pov p, .int .i64 x] w fun e w' => e = .returned (.bool true) ∧ Below w.heap.size w w' :=
  law_wait_run p x _ _ w (fun W => spec_wait p x _ _ W rfl rfl) (fun W => impl_wait p x _ _ W rfl rfl)
end Go.Proofs.Yteoibcnbngamiaa
