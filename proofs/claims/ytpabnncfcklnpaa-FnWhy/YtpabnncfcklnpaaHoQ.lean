/-
  The laws of IsModel, StepOnce and Closure, at all arguments.
-/
import Derived.Test.YtpabnncfcklnpaaHoC
import Derived.Test.YtpabnncfcklnpaaHoLI
import Derived.Test.YtpabnncfcklnpaaHoLS
import Derived.Test.YtpabnncfcklnpaaHoLC
namespace Go.Proofs.Ytpabnncfcklnpaa
open Go.RowKit M
open Ho
theorem none_ints (w : World) : IntsOf w (.slice none 0 0) 0 (fun _ => 0) := ⟨none, 0, rfl, fun h => absurd h (Nat.lt_irrefl _)⟩
theorem own_lst {w : World} {B : Nat} {r : Value} {L : List Nat} (h : w.ownsRow B 3 1 r L.length (L.map nv)) : w.ownsRow B 3 1 r L.length ((List.range L.length).map (iv (at' L))) := by rw [← nv_range]; exact h
theorem law_model (v : Value) (k : Nat) (ts : Nat → Tk) (u : Value) (n : Nat) (f : Nat → Int) (w : World) (hv : TasksOf w v k ts) (hl : Lens k ts) (hu : IntsOf w u n f) (hn : n ≤ maxLen) :
    Calls Try.prog 5 #[v, u] w fun e w' => e = .returned (.bool true) ∧ Below w.heap.size w w' := by
  refine law_isModel_run v u k n ts f w hv hl hu hn (fun hs hn => ?_)
  by_cases hO : Okay k n ts f
  · exact ⟨_, _, fun v u w hv hu => spec_model v u k n ts f w hv hs hu hn hO, fun v u w hv hu => impl_model v u k n ts f w hv hs hu hn hO⟩
  · exact ⟨_, _, fun v u w hv hu => spec_model_no v u k n ts f w hv hs hu hn hO, fun v u w hv hu => impl_model_no v u k n ts f w hv hs hu hn hO⟩
theorem law_once (v : Value) (k : Nat) (ts : Nat → Tk) (u : Value) (n : Nat) (f : Nat → Int) (w : World) (hv : TasksOf w v k ts) (hl : Lens k ts) (hu : IntsOf w u n f) (hn : n ≤ maxLen) :
    Calls Try.prog 8 #[v, u] w fun e w' => e = .returned (.bool true) ∧ Below w.heap.size w w' := by
  refine law_stepOnce_run v u k n ts f w hv hl hu hn (fun hs hn => ?_)
  by_cases hO : Okay k n ts f
  · exact ⟨(lst (stp (rls ts) (sof f n) k) 40).length, at' (lst (stp (rls ts) (sof f n) k) 40), true, by have := lst_len (stp (rls ts) (sof f n) k) 40; omega,
      fun v u w hv hu => (spec_once v u k n ts f w hv hs hu hn hO).mono fun _ _ ⟨⟨r, he, ho⟩, hb⟩ => ⟨⟨r, he, own_ints (own_lst ho)⟩, hb⟩,
      fun v u w hv hu => (impl_once v u k n ts f w hv hs hu hn hO).mono fun _ _ ⟨⟨r, he, ho⟩, hb⟩ => ⟨⟨r, he, own_ansC (own_lst ho)⟩, hb⟩⟩
  · exact ⟨0, fun _ => 0, false, by omega, fun v u w hv hu => (spec_once_no v u k n ts f w hv hs hu hn hO).mono fun _ _ ⟨he, hb⟩ => ⟨⟨_, he, none_ints _⟩, hb⟩,
      fun v u w hv hu => (impl_once_no v u k n ts f w hv hs hu hn hO).mono fun _ _ ⟨he, hb⟩ => ⟨⟨_, he, .inl ⟨rfl, rfl⟩⟩, hb⟩⟩
theorem law_close (v : Value) (k : Nat) (ts : Nat → Tk) (u : Value) (n : Nat) (f : Nat → Int) (w : World) (hv : TasksOf w v k ts) (hl : Lens k ts) (hu : IntsOf w u n f) (hn : n ≤ maxLen) :
    Calls Try.prog 9 #[v, u] w fun e w' => e = .returned (.bool true) ∧ Below w.heap.size w w' := by
  refine law_closure_run v u k n ts f w hv hl hu hn (fun hs hn => ?_)
  by_cases hO : Okay k n ts f
  · exact ⟨(lst (cls k ts (sof f n)) 40).length, at' (lst (cls k ts (sof f n)) 40), true, by have := lst_len (cls k ts (sof f n)) 40; omega,
      fun v u w hv hu => spec_close v u k n ts f w hv hs hu hn hO,
      fun v u w hv hu => (impl_close v u k n ts f w hv hs hu hn hO).mono fun _ _ ⟨⟨r, he, ho⟩, hb⟩ => ⟨⟨r, he, own_ansC (own_lst ho)⟩, hb⟩⟩
  · exact ⟨0, fun _ => 0, false, by omega, fun v u w hv hu => (spec_close_no v u k n ts f w hv hs hu hn hO).mono fun _ _ ⟨he, hb⟩ => ⟨⟨_, he, none_ints _⟩, hb⟩,
      fun v u w hv hu => (impl_close_no v u k n ts f w hv hs hu hn hO).mono fun _ _ ⟨he, hb⟩ => ⟨⟨_, he, .inl ⟨rfl, rfl⟩⟩, hb⟩⟩
end Go.Proofs.Ytpabnncfcklnpaa
