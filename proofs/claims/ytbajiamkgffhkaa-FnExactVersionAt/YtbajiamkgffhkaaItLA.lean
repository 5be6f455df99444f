/-
  The laws of GoodItems, VersionAt and LastOf, at every argument.
-/
import Derived.Test.YtbajiamkgffhkaaItL
import Derived.Test.YtbajiamkgffhkaaItF
namespace Go.Proofs.Ytbajiamkgffhkaa
open Go.RowKit M
theorem law_goodItems (v : Value) (n : Nat) (l : Nat → Im) (w : World) (hv : ItemsOf w v n l) (hl : n ≤ maxLen) :
    Calls Try.prog 3 #[v] w fun e w' => e = .returned (.bool true) ∧ Below w.heap.size w w' :=
  law_goodItems_run v n l _ w hv hl (fun u W h hu => spec_goodI u n l W hu h) (fun u W h hu => impl_goodI u n l W hu h)
theorem law_versionAt (v : Value) (n : Nat) (l : Nat → Im) (x : Int) (w : World) (hv : ItemsOf w v n l) (hl : n ≤ maxLen) :
    Calls Try.prog 4 #[v, .int .i64 x] w fun e w' => e = .returned (.bool true) ∧ Below w.heap.size w w' := by
  have hR : ∃ r0 r1, atR n l x = .tuple #[.int .i64 r0, .bool r1] := by
    unfold atR
    split
    · exact ⟨_, _, rfl⟩
    · exact ⟨_, _, rfl⟩
  obtain ⟨r0, r1, hR⟩ := hR
  exact law_versionAt_run v n l x r0 r1 w hv hl (fun u W h hu => by rw [← hR]; exact spec_versionAt u n l x W hu h) (fun u W h hu => by rw [← hR]; exact impl_versionAt u n l x W hu h)
theorem law_lastOf (v : Value) (n : Nat) (l : Nat → Im) (w : World) (hv : ItemsOf w v n l) (hl : n ≤ maxLen) :
    Calls Try.prog 5 #[v] w fun e w' => e = .returned (.bool true) ∧ Below w.heap.size w w' :=
  law_lastOf_run v n l _ _ _ w hv hl (fun u W h hu => spec_lastOf u n l W hu h) (fun u W h hu => impl_lastOf u n l W hu h)
end Go.Proofs.Ytbajiamkgffhkaa
