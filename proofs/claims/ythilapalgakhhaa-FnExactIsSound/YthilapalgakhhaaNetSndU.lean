/-
  The law of IsSound, at every net.
-/
import Derived.Test.YthilapalgakhhaaNetSndK
namespace Go.Proofs.Ythilapalgakhhaa
open Go.RowKit M
theorem law_sound {P : Prop} (p : Int) (v : Value) (k : Nat) (st : Nat → Sp) (w : World) (h : P) (hv : StepsOf w v k st) (hl : Lens k st) :
    Calls Try.prog 11 #[netV p v] w fun e w' => e = .returned (.bool true) ∧ Below w.heap.size w w' :=
  law_sound_of all_come p v k st w h hv hl
end Go.Proofs.Ythilapalgakhhaa
