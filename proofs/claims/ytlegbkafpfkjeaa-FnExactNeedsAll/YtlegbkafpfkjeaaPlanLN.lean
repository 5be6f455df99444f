/-
  The law of NeedsAll, walked, at every list of tasks and every task.
-/
import Derived.Test.YtlegbkafpfkjeaaPlanWN
import Derived.Test.YtlegbkafpfkjeaaPlanNI
import Derived.Test.YtlegbkafpfkjeaaPlanNS
namespace Go.Proofs.Ytlegbkafpfkjeaa
open Go.RowKit M
theorem law_needs (v : Value) (k : Nat) (ts : Nat → Tk) (x : Int) (w : World) (hv : TasksOf w v k ts) (hl : Lens k ts) (_ : (Lit.int .i64 x).wf = true) :
    Calls Try.prog 11 #[v, .int .i64 x] w fun e w' => e = .returned (.bool true) ∧ Below w.heap.size w w' := by
  refine law_needsAll_run v k ts x w hv hl (fun hs => ?_)
  by_cases hg : GoodP k ts ∧ 0 ≤ x ∧ x < k
  · obtain ⟨hg1, h0, h1⟩ := hg
    obtain ⟨t, rfl⟩ := Int.eq_ofNat_of_zero_le h0
    have ht : t < k := by omega
    have hk := hg1.1.1
    have hn := sel_len (nds ts t (ord ts k k).reverse) k
    exact ⟨_, _, true, by omega, fun v w h => spec_needs v k ts t w h hs hg1 ht, fun v w h => impl_needs v k ts t w h hs hg1 ht⟩
  · exact ⟨0, fun _ => 0, false, by omega, fun v w h => (spec_needs_no v k ts x w h hs hg).mono fun _ _ ⟨he, hb⟩ => ⟨⟨_, he, none, 0, rfl, fun h => absurd h (Nat.lt_irrefl _)⟩, hb⟩,
      fun v w h => (impl_needs_no v k ts x w h hs hg).mono fun _ _ ⟨he, hb⟩ => ⟨⟨_, he, .inl ⟨rfl, rfl⟩⟩, hb⟩⟩
end Go.Proofs.Ytlegbkafpfkjeaa
