/-
  An answer that owns its memory: nil, or a block that the call has made; the law's marks on it.
-/
import Derived.Test.YtkfnfgencaplfaaIntAid
namespace Go.Proofs.Ytkfnfgencaplfaa
open Go.RowKit M
namespace M
/-- A slice of numbers in memory of its own, at block B or behind it. -/
def AnsI (w : World) (B : Nat) (r : Value) (n : Nat) (f : Nat → Int) : Prop :=
  (r = .slice none 0 0 ∧ n = 0) ∨ ∃ b cap, r = .slice (some ⟨b, 0, none⟩) n cap ∧ B ≤ b ∧ Blk w b n (iv f) 3
theorem AnsI.ints {w : World} {B n : Nat} {r : Value} {f : Nat → Int} (h : AnsI w B r n f) : IntsOf w r n f := by
  rcases h with ⟨rfl, rfl⟩ | ⟨b, cap, rfl, _, hb⟩
  · exact ⟨none, 0, rfl, fun h => absurd h (Nat.lt_irrefl _)⟩
  · exact hb.ints
theorem AnsI.form {w : World} {B n : Nat} {r : Value} {f : Nat → Int} (h : AnsI w B r n f) : ∃ a cap, r = .slice a n cap := h.ints.form
theorem AnsI.below {w w' : World} {B n : Nat} {r : Value} {f : Nat → Int} (h : AnsI w B r n f) (hb : Below w.heap.size w w') : AnsI w' B r n f := by
  rcases h with h | ⟨b, cap, hr, hB, hk⟩
  · exact .inl h
  · exact .inr ⟨b, cap, hr, hB, hk.down hb⟩
theorem AnsI.only {w w' : World} {B n g : Nat} {r : Value} {f : Nat → Int} (h : AnsI w B r n f) (ho : Only g w w') (hg : g < B) : AnsI w' B r n f := by
  rcases h with h | ⟨b, cap, hr, hB, hk⟩
  · exact .inl h
  · exact .inr ⟨b, cap, hr, hB, ho.blk hk (by omega)⟩
theorem AnsI.mono {w : World} {B B' n : Nat} {r : Value} {f : Nat → Int} (h : AnsI w B r n f) (hB : B' ≤ B) : AnsI w B' r n f := by
  rcases h with h | ⟨b, cap, hr, hB2, hk⟩
  · exact .inl h
  · exact .inr ⟨b, cap, hr, by omega, hk⟩
def mk1 (k0 : Nat) : Nat → Int := fun i => ((k0 + i : Nat) : Int)
end M
theorem mark_ans (B n k0 : Nat) (r : Value) (f : Nat → Int) (w : World) (h : AnsI w B r n f) (hn : n ≤ 1048576) (hk0 : k0 ≤ 1000000000) :
    Calls Try.prog 24 #[r, .int .i64 (k0 : Nat)] w fun e w' => e = .returned (.int .i64 ((k0 + n : Nat) : Int)) ∧ AnsI w' B r n (mk1 k0) ∧ Below B w w' ∧ w'.heap.size = w.heap.size := by
  rcases h with ⟨rfl, rfl⟩ | ⟨b, cap, rfl, hB, hk⟩
  · refine (mark_nil (k0 : Nat) w).mono ?_
    rintro e w' ⟨rfl, rfl⟩
    exact ⟨rfl, .inl ⟨rfl, rfl⟩, Below.refl _ _, rfl⟩
  · refine (mark_ints b n cap k0 f w hk hn hk0).mono ?_
    rintro e w' ⟨rfl, hk', ho⟩
    exact ⟨rfl, .inr ⟨b, cap, rfl, hB, hk'⟩, ho.below hB, ho.size⟩
end Go.Proofs.Ytkfnfgencaplfaa
