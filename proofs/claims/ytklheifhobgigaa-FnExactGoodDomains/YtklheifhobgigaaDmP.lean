/-
  The law of GoodDomains, walked.
-/
import Derived.Test.YtklheifhobgigaaDmG
import Derived.Test.YtklheifhobgigaaDmL
namespace Go.Proofs.Ytklheifhobgigaa
open Go.RowKit M
theorem law_good (v : Value) (l : Dms) (w : World) (hv : DomsOf w v l) (hl : LenD l) :
    Calls Try.prog 6 #[v] w fun e w' => e = .returned (.bool true) ∧ Below w.heap.size w w' :=
  law_good_run v l (gdB l) w hv hl (fun u W hn hu => spec_gdoms u l W hu hn hl) (fun u W hn hu => impl_gdoms u l W hu hn hl)
end Go.Proofs.Ytklheifhobgigaa
