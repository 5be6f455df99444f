/-
  A list of numbers that came in.
-/
import Derived.Test.YtpabnncfcklnpaaRulA
namespace Go.Proofs.Ytpabnncfcklnpaa
open Go.RowKit M Go.ChangeShapes Go.WideShapes Go.ChangeAt
theorem open_nums {H : Type} {enc : TypeId × Value → H} {W : World} {b0 : Nat} {v : Value} {d : DataW H} {p : List MemPlace}
    (hv : Value.okWide Try.prog W .any b0 29 v) (h : DataW.Trod enc Try.prog W 0 (fun _ => true) true 29 v d p) :
    ∃ n f, IntsOf W v n f ∧ n ≤ maxLen := by
  obtain ⟨a0, len0, cap0, rfl⟩ := okWide_slice Try.underlying29 hv
  obtain ⟨fuel, hf⟩ := h
  exact trod_nums hf
end Go.Proofs.Ytpabnncfcklnpaa
