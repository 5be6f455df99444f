/-
  The law of SlackOf, walked, at every list of tasks.
-/
import Derived.Test.YtlegbkafpfkjeaaPlanWK
import Derived.Test.YtlegbkafpfkjeaaPlanK
namespace Go.Proofs.Ytlegbkafpfkjeaa
open Go.RowKit M
theorem law_slack (v : Value) (k : Nat) (ts : Nat → Tk) (w : World) (hv : TasksOf w v k ts) (hl : Lens k ts) :
    Calls Try.prog 7 #[v] w fun e w' => e = .returned (.bool true) ∧ Below w.heap.size w w' := by
  refine law_slackOf_run v k ts w hv hl (fun hs => ?_)
  by_cases hg : GoodP k ts
  · exact ⟨k, _, true, hs.1, fun v w h => spec_slack v k ts w h hs hg, fun v w h => impl_slack v k ts w h hs hg⟩
  · exact ⟨0, fun _ => 0, false, by omega, fun v w h => (spec_slack_no v k ts w h hs hg).mono fun _ _ ⟨he, hb⟩ => ⟨⟨_, he, none, 0, rfl, fun h => absurd h (Nat.lt_irrefl _)⟩, hb⟩,
      fun v w h => (impl_slack_no v k ts w h hs hg).mono fun _ _ ⟨he, hb⟩ => ⟨⟨_, he, .inl ⟨rfl, rfl⟩⟩, hb⟩⟩
end Go.Proofs.Ytlegbkafpfkjeaa
