/-
  Cuts of good acts: when one is well formed, and what makes it whole, for both texts.
-/
import Derived.Test.YtoholagamandpaaAheadB
namespace Go.Proofs.Ytoholagamandpaa
open Go.RowKit
namespace M
def Cf (l : Nat → Ac) (i : Nat) : Nat → Int := fun q => ((Clk.C (P l) i q : Nat) : Int)
theorem Cf_zero (l : Nat → Ac) : Cf l 0 = fun _ => 0 := by funext q; rfl
theorem Cf_succ (l : Nat → Ac) (i : Nat) : Clk.upd (Cf l i) (P l i) (Cf l i (P l i) + 1) = Cf l (i + 1) := by
  funext q; unfold Cf Clk.upd
  simp only [Clk.C]
  by_cases h : q = P l i
  · subst h; simp
  · simp [h]
theorem Cf_le (l : Nat → Ac) (i q : Nat) : 0 ≤ Cf l i q ∧ Cf l i q ≤ i := by
  have := Clk.C_le (P l) i q
  unfold Cf; omega
def InB (l : Nat → Ac) (c : Nat → Int) (i : Nat) : Bool := decide (Cf l i (P l i) < c (P l i))
def CutOk (m n : Nat) (l : Nat → Ac) (c : Nat → Int) : Prop := ∀ q, q < m → 0 ≤ c q ∧ c q ≤ Cf l n q
def WS (n : Nat) (l : Nat → Ac) (c : Nat → Int) : Prop := ∀ i, i < n → ∀ k, k < i → ¬ (InB l c i = true ∧ Ab l i k = true ∧ InB l c k = false)
def WI (m n : Nat) (l : Nat → Ac) (c : Nat → Int) : Prop := ∀ i, i < n → ¬ (InB l c i = true ∧ vle (Vf l i) (pad m c) = false)
theorem InB_iff {m : Nat} {l : Nat → Ac} {c : Nat → Int} {i : Nat} (hP : P l i < m) (hc : 0 ≤ c (P l i)) : InB l c i = true ↔ Clk.In (P l) (fun q => (pad m c q).toNat) i := by
  unfold InB Clk.In Cf pad
  rw [decide_eq_true_eq]
  dsimp only
  rw [if_pos hP]
  omega
theorem WS_iff {p : Int} {m n : Nat} {l : Nat → Ac} {c : Nat → Int} (hg : GoodL p n l) (hp : p = (m : Int)) (hc : CutOk m n l c) : WS n l c ↔ Clk.Whole (P l) (F l) (fun q => (pad m c q).toNat) n := by
  have hP : ∀ k, k < n → P l k < m := fun k hk => by have := (good_P hg hk).2.2; omega
  have hI : ∀ k, k < n → (InB l c k = true ↔ Clk.In (P l) (fun q => (pad m c q).toNat) k) := fun k hk => InB_iff (hP k hk) (hc _ (hP k hk)).1
  constructor
  · intro h i hi hin k hA
    have hk : k < i := hA.1
    rw [← hI i hi] at hin
    rw [← hI k (by omega)]
    cases hk2 : InB l c k
    · exact absurd ⟨hin, by unfold Ab; exact decide_eq_true hA, hk2⟩ (h i hi k hk)
    · rfl
  · rintro h i hi k hk ⟨h1, h2, h3⟩
    rw [hI i hi] at h1
    have := h i hi h1 k (by unfold Ab at h2; exact of_decide_eq_true h2)
    rw [← hI k (by omega)] at this
    rw [h3] at this; cases this
theorem WI_iff {p : Int} {m n : Nat} {l : Nat → Ac} {c : Nat → Int} (hg : GoodL p n l) (hp : p = (m : Int)) (hc : CutOk m n l c) : WI m n l c ↔ Clk.Whole (P l) (F l) (fun q => (pad m c q).toNat) n := by
  have hP : ∀ k, k < n → P l k < m := fun k hk => by have := (good_P hg hk).2.2; omega
  have hm6 : m ≤ 6 := by have := hg.1.2; omega
  have hI : ∀ k, k < n → (InB l c k = true ↔ Clk.In (P l) (fun q => (pad m c q).toNat) k) := fun k hk => InB_iff (hP k hk) (hc _ (hP k hk)).1
  have hpad : ∀ q, 0 ≤ pad m c q := fun q => by
    unfold pad
    by_cases h : q < m
    · rw [if_pos h]; exact (hc q h).1
    · rw [if_neg h]; omega
  rw [Clk.whole_iff (P l) (F l) (F_lt l) _ n 6 (fun k hk => (good_P hg hk).2.1)]
  have hv : ∀ i, (vle (Vf l i) (pad m c) = true ↔ ∀ q, q < 6 → Clk.V (P l) (F l) i q ≤ (pad m c q).toNat) := fun i => by
    rw [vle_iff]
    constructor
    · intro h q hq; have := h q hq; have := hpad q; unfold Vf at *; omega
    · intro h q hq; have := h q hq; have := hpad q; unfold Vf; omega
  constructor
  · intro h i hi hin
    rw [← hI i hi] at hin
    rw [← hv i]
    cases hk2 : vle (Vf l i) (pad m c)
    · exact absurd ⟨hin, hk2⟩ (h i hi)
    · rfl
  · rintro h i hi ⟨h1, h2⟩
    rw [hI i hi] at h1
    have := (hv i).2 (h i hi h1)
    rw [h2] at this; cases this
theorem own_in {p : Int} {m n : Nat} {l : Nat → Ac} (c : Nat → Int) (hg : GoodL p n l) (hp : p = (m : Int)) {i : Nat} (hi : i < n) : decide (Vf l i (P l i) ≤ pad m c (P l i)) = InB l c i := by
  have hP : P l i < m := by have := (good_P hg hi).2.2; omega
  have := Clk.V_own (P l) (F l) (F_lt l) i
  unfold InB Vf Cf pad
  rw [if_pos hP, Bool.eq_iff_iff, decide_eq_true_eq, decide_eq_true_eq]
  omega
end M
end Go.Proofs.Ytoholagamandpaa
