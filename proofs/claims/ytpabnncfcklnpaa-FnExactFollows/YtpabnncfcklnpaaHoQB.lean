/-
  The laws of LeastModel and Follows, at all arguments.
-/
import Derived.Test.YtpabnncfcklnpaaHoE
import Derived.Test.YtpabnncfcklnpaaHoQ
import Derived.Test.YtpabnncfcklnpaaHoLL
import Derived.Test.YtpabnncfcklnpaaHoLF
namespace Go.Proofs.Ytpabnncfcklnpaa
open Go.RowKit M
open Ho
theorem law_least (v : Value) (k : Nat) (ts : Nat → Tk) (u : Value) (n : Nat) (f : Nat → Int) (w : World) (hv : TasksOf w v k ts) (hl : Lens k ts) (hu : IntsOf w u n f) (hn : n ≤ maxLen) :
    Calls Try.prog 4 #[v, u] w fun e w' => e = .returned (.bool true) ∧ Below w.heap.size w w' := by
  refine law_leastModel_run v u k n ts f w hv hl hu hn (fun hs hn => ?_)
  by_cases hO : Okay k n ts f
  · exact ⟨(lst (fi k n ts f).inn 40).length, at' (lst (fi k n ts f).inn 40), _, true, by have := lst_len (fi k n ts f).inn 40; omega,
      fun v u w hv hu => (spec_least v u k n ts f w hv hs hu hn hO).mono fun _ _ ⟨⟨r, he, ho⟩, hb⟩ => ⟨⟨r, he, own_ints (own_lst ho)⟩, hb⟩,
      fun v u w hv hu => (impl_least v u k n ts f w hv hs hu hn hO).mono fun _ _ ⟨⟨r, he, ho⟩, hb⟩ => ⟨⟨r, he, own_ansC (own_lst ho)⟩, hb⟩⟩
  · exact ⟨0, fun _ => 0, 0, false, by omega, fun v u w hv hu => (spec_least_no v u k n ts f w hv hs hu hn hO).mono fun _ _ ⟨he, hb⟩ => ⟨⟨_, he, none_ints _⟩, hb⟩,
      fun v u w hv hu => (impl_least_no v u k n ts f w hv hs hu hn hO).mono fun _ _ ⟨he, hb⟩ => ⟨⟨_, he, .inl ⟨rfl, rfl⟩⟩, hb⟩⟩
theorem law_follow (v : Value) (k : Nat) (ts : Nat → Tk) (u : Value) (n : Nat) (f : Nat → Int) (x : Int) (w : World) (hv : TasksOf w v k ts) (hl : Lens k ts) (hu : IntsOf w u n f) (hn : n ≤ maxLen) :
    Calls Try.prog 6 #[v, u, .int .i64 x] w fun e w' => e = .returned (.bool true) ∧ Below w.heap.size w w' := by
  refine law_follows_run v u k n ts f x w hv hl hu hn (fun hs hn => ?_)
  by_cases hO : Okay k n ts f ∧ (0 ≤ x ∧ x ≤ 39)
  · obtain ⟨y, rfl⟩ : ∃ y : Nat, x = (y : Int) := ⟨x.toNat, by omega⟩
    have hy : y < 40 := by omega
    exact ⟨_, _, fun v u w hv hu => spec_follows v u k n ts f y w hv hs hu hn hO.1 hy, fun v u w hv hu => impl_follows v u k n ts f y w hv hs hu hn hO.1 hy⟩
  · exact ⟨_, _, fun v u w hv hu => spec_follows_no v u k n ts f x w hv hs hu hn hO, fun v u w hv hu => impl_follows_no v u k n ts f x w hv hs hu hn hO⟩
end Go.Proofs.Ytpabnncfcklnpaa
