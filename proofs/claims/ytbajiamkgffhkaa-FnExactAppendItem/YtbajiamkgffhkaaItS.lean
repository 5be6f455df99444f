/-
  The law of AppendItem, at every argument.
-/
import Derived.Test.YtbajiamkgffhkaaItR
import Derived.Test.YtbajiamkgffhkaaItQ
namespace Go.Proofs.Ytbajiamkgffhkaa
open Go.RowKit M
open Clk (upd upd_same upd_other)
theorem law_append (v : Value) (n : Nat) (l : Nat → Im) (id x : Int) (w : World) (hv : ItemsOf w v n l) (hl : n ≤ maxLen) :
    Calls Try.prog 6 #[v, .int .i64 id, .int .i64 x] w fun e w' => e = .returned (.bool true) ∧ Below w.heap.size w w' := by
  refine law_append_run v n l id x w hv hl (fun hn => ?_)
  by_cases hp : GoodP n l id x
  · have h20 := hp.1.1
    have hk := kpt_le n l x
    refine ⟨kpt n l x + 1, apL n l id x, true, by omega, fun u W hu => (spec_append u n l id x W hu hn).mono ?_, fun b W hu => (impl_append _ n n l id x W hu (Nat.le_refl _) hn).mono ?_⟩
    · rintro e w' ⟨⟨-, r, he, hA⟩ | ⟨h, -⟩, hb⟩
      · exact ⟨⟨r, he, hA.items⟩, hb⟩
      · exact absurd hp h
    · rintro e w' ⟨⟨-, r, he, hA⟩ | ⟨h, -⟩, hb⟩
      · exact ⟨⟨r, he, hA⟩, hb⟩
      · exact absurd hp h
  · refine ⟨0, l, false, by omega, fun u W hu => (spec_append u n l id x W hu hn).mono ?_, fun b W hu => (impl_append _ n n l id x W hu (Nat.le_refl _) hn).mono ?_⟩
    · rintro e w' ⟨⟨h, -⟩ | ⟨-, he⟩, hb⟩
      · exact absurd h hp
      · exact ⟨⟨_, he, .nil _ _ _ _⟩, hb⟩
    · rintro e w' ⟨⟨h, -⟩ | ⟨-, he⟩, hb⟩
      · exact absurd h hp
      · exact ⟨⟨_, he, .inl ⟨rfl, rfl⟩⟩, hb⟩
end Go.Proofs.Ytbajiamkgffhkaa
