/-
  The law of CriticalOf, walked, at every list of tasks.
-/
import Derived.Test.YtlegbkafpfkjeaaPlanWX
import Derived.Test.YtlegbkafpfkjeaaPlanXI
import Derived.Test.YtlegbkafpfkjeaaPlanXS
import Derived.Test.YtlegbkafpfkjeaaPlanXN
namespace Go.Proofs.Ytlegbkafpfkjeaa
open Go.RowKit M
theorem M.cw_len (ts : Nat → Tk) (k : Nat) (L : Nat → Int) : ∀ i, (cw ts k L i).1.length ≤ i
  | 0 => by simp [cw]
  | i + 1 => by
    have ih := cw_len ts k L i
    cases h : fst (pC ts L (cw ts k L i).1 (cw ts k L i).2) k with
    | none => simp only [cw, h]; omega
    | some x => simp only [cw, h, List.length_append, List.length_cons, List.length_nil]; omega
theorem law_crit (v : Value) (k : Nat) (ts : Nat → Tk) (w : World) (hv : TasksOf w v k ts) (hl : Lens k ts) :
    Calls Try.prog 8 #[v] w fun e w' => e = .returned (.bool true) ∧ Below w.heap.size w w' := by
  refine law_criticalOf_run v k ts w hv hl (fun hs => ?_)
  by_cases hg : GoodP k ts
  · have hea : eal ts (ord ts k k) ≤ 93000 := by
      obtain ⟨-, -, h⟩ := est_in hg.1 (ord ts k k) (fun x hx => ord_lt ts k k x hx)
      have := hg.1.1
      rw [show (ord ts k k).length = k from hg.2] at h; omega
    have hn := cw_len ts k (lat ts (eal ts (ord ts k k)) (ord ts k k).reverse) (eal ts (ord ts k k)).toNat
    exact ⟨_, _, true, by omega, fun v w h => spec_crit v k ts w h hs hg, fun v w h => impl_crit v k ts w h hs hg⟩
  · exact ⟨0, fun _ => 0, false, by omega, fun v w h => (spec_crit_no v k ts w h hs hg).mono fun _ _ ⟨he, hb⟩ => ⟨⟨_, he, none, 0, rfl, fun h => absurd h (Nat.lt_irrefl _)⟩, hb⟩,
      fun v w h => (impl_crit_no v k ts w h hs hg).mono fun _ _ ⟨he, hb⟩ => ⟨⟨_, he, .inl ⟨rfl, rfl⟩⟩, hb⟩⟩
end Go.Proofs.Ytlegbkafpfkjeaa
