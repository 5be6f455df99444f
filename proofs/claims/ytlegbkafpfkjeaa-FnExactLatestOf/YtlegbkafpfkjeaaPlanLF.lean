/-
  The law of LatestOf, walked, at every list of tasks.
-/
import Derived.Test.YtlegbkafpfkjeaaPlanWF
import Derived.Test.YtlegbkafpfkjeaaPlanFI
import Derived.Test.YtlegbkafpfkjeaaPlanFS
namespace Go.Proofs.Ytlegbkafpfkjeaa
open Go.RowKit M
theorem law_late (v : Value) (k : Nat) (ts : Nat → Tk) (w : World) (hv : TasksOf w v k ts) (hl : Lens k ts) :
    Calls Try.prog 6 #[v] w fun e w' => e = .returned (.bool true) ∧ Below w.heap.size w w' := by
  refine law_latestOf_run v k ts w hv hl (fun hs => ?_)
  by_cases hg : GoodP k ts
  · exact ⟨k, _, true, hs.1, fun v w h => spec_late v k ts w h hs hg, fun v w h => impl_late v k ts w h hs hg⟩
  · exact ⟨0, fun _ => 0, false, by omega, fun v w h => (spec_late_no v k ts w h hs hg).mono fun _ _ ⟨he, hb⟩ => ⟨⟨_, he, none, 0, rfl, fun h => absurd h (Nat.lt_irrefl _)⟩, hb⟩,
      fun v w h => (impl_late_no v k ts w h hs hg).mono fun _ _ ⟨he, hb⟩ => ⟨⟨_, he, .inl ⟨rfl, rfl⟩⟩, hb⟩⟩
end Go.Proofs.Ytlegbkafpfkjeaa
