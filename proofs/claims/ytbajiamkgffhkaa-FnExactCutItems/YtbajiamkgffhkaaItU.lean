/-
  The law of CutItems, at every argument.
-/
import Derived.Test.YtbajiamkgffhkaaItR
import Derived.Test.YtbajiamkgffhkaaItT
namespace Go.Proofs.Ytbajiamkgffhkaa
open Go.RowKit M
open Clk (upd upd_same upd_other)
theorem law_cut (v : Value) (n : Nat) (l : Nat → Im) (x : Int) (w : World) (hv : ItemsOf w v n l) (hl : n ≤ maxLen) :
    Calls Try.prog 8 #[v, .int .i64 x] w fun e w' => e = .returned (.bool true) ∧ Below w.heap.size w w' := by
  refine law_cut_run v n l x w hv hl (fun hn => ?_)
  rcases Classical.em (CutOk n l x) with hp | hp
  · have h20 := hp.1.1
    obtain ⟨c, hc⟩ := beg_ex l x n
    have hk := hc.1
    refine ⟨c, cutL l x c, true, by omega, fun u W hu => (spec_cut u n l x W hu hn).mono ?_, fun b W hu => (impl_cut _ n n l x W hu (Nat.le_refl _) hn).mono ?_⟩
    · rintro e w' ⟨⟨-, r, c', he, hc', hA⟩ | ⟨h, -⟩, hb⟩
      · obtain rfl : c' = c := hc'.uniq hc
        exact ⟨⟨r, he, hA.items⟩, hb⟩
      · exact absurd hp h
    · rintro e w' ⟨⟨-, r, c', he, hc', hA⟩ | ⟨h, -⟩, hb⟩
      · obtain rfl : c' = c := hc'.uniq hc
        exact ⟨⟨r, he, hA⟩, hb⟩
      · exact absurd hp h
  · refine ⟨0, l, false, by omega, fun u W hu => (spec_cut u n l x W hu hn).mono ?_, fun b W hu => (impl_cut _ n n l x W hu (Nat.le_refl _) hn).mono ?_⟩
    · rintro e w' ⟨⟨h, -⟩ | ⟨-, he⟩, hb⟩
      · exact absurd h hp
      · exact ⟨⟨_, he, .nil _ _ _ _⟩, hb⟩
    · rintro e w' ⟨⟨h, -⟩ | ⟨-, he⟩, hb⟩
      · exact absurd h hp
      · exact ⟨⟨_, he, .inl ⟨rfl, rfl⟩⟩, hb⟩
end Go.Proofs.Ytbajiamkgffhkaa
