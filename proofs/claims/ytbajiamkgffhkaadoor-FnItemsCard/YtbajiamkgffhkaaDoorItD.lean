/-
  LcaOf, IsAhead and NewerOf in both texts.
-/
import Derived.Test.YtbajiamkgffhkaaDoorItC
import Derived.Test.YtbajiamkgffhkaaDoorItF
namespace Go.Proofs.YtbajiamkgffhkaaDoor
open Go.RowKit M
open Clk (upd upd_same upd_other)
namespace M
theorem same_ex (a b : Nat → Im) : ∀ k : Nat, ∃ i, i ≤ k ∧ (∀ j, j < i → a j = b j) ∧ (i < k → a i ≠ b i)
  | 0 => ⟨0, Nat.le_refl _, fun j h => absurd h (by omega), fun h => absurd h (by omega)⟩
  | k + 1 => by
    obtain ⟨i, h1, h2, h3⟩ := same_ex a b k
    by_cases e : i < k
    · exact ⟨i, by omega, h2, fun _ => h3 e⟩
    · obtain rfl : i = k := by omega
      rcases Classical.em (a i = b i) with q | q
      · exact ⟨i + 1, by omega, fun j hj => by
          by_cases e : j = i
          · subst e; exact q
          · exact h2 j (by omega), fun h => absurd h (by omega)⟩
      · exact ⟨i, by omega, h2, fun _ => q⟩
theorem com_ex {n m : Nat} {a b : Nat → Im} (ha : Ris n a) (hb : Ris m b) : ∃ c, Com n a m b c := by
  obtain ⟨i, h1, h2, h3⟩ := same_ex a b (min n m)
  have hn : i ≤ n := by omega
  have hm : i ≤ m := by omega
  by_cases e : i < n ∧ i < m
  · have h4 := h3 (by omega)
    by_cases hv : (a i).v = (b i).v
    · exact ⟨_, com_part ha hb e.1 e.2 h2 hv (fun hu => h4 (Im.ext2 hu hv))⟩
    · exact ⟨_, com_diff ha hb hn hm h2 (fun _ _ => hv)⟩
  · exact ⟨_, com_diff ha hb hn hm h2 (fun x y => absurd ⟨x, y⟩ e)⟩
/-- What LcaOf tells. -/
def RL (n : Nat) (a : Nat → Im) (m : Nat) (b : Nat → Im) (c : Im) (ok : Bool) : Prop :=
  (GoodI n a ∧ GoodI m b ∧ Com n a m b c ∧ ok = decide (c.u > 0)) ∨ (¬ (GoodI n a ∧ GoodI m b) ∧ c = im0 ∧ ok = false)
theorem rl_ex (n : Nat) (a : Nat → Im) (m : Nat) (b : Nat → Im) : ∃ c ok, RL n a m b c ok := by
  by_cases h : GoodI n a ∧ GoodI m b
  · obtain ⟨c, hc⟩ := com_ex h.1.2 h.2.2
    exact ⟨c, _, .inl ⟨h.1, h.2, hc, rfl⟩⟩
  · exact ⟨im0, false, .inr ⟨h, rfl, rfl⟩⟩
/-- What IsAhead tells. -/
def RA (n : Nat) (a : Nat → Im) (m : Nat) (b : Nat → Im) (r ok : Bool) : Prop :=
  (GoodI n a ∧ GoodI m b ∧ (∃ c, Com n a m b c ∧ r = (c.u == ah a n)) ∧ ok = true) ∨ (¬ (GoodI n a ∧ GoodI m b) ∧ r = false ∧ ok = false)
theorem ra_ex (n : Nat) (a : Nat → Im) (m : Nat) (b : Nat → Im) : ∃ r ok, RA n a m b r ok := by
  by_cases h : GoodI n a ∧ GoodI m b
  · obtain ⟨c, hc⟩ := com_ex h.1.2 h.2.2
    exact ⟨_, _, .inl ⟨h.1, h.2, ⟨c, hc, rfl⟩, rfl⟩⟩
  · exact ⟨false, false, .inr ⟨h, rfl, rfl⟩⟩
/-- What NewerOf tells. -/
def nwR (n : Nat) (a : Nat → Im) (m : Nat) (b : Nat → Im) : Int := if (lst a n).v > (lst b m).v then 1 else if (lst b m).v > (lst a n).v then 2 else 0
end M
end Go.Proofs.YtbajiamkgffhkaaDoor
