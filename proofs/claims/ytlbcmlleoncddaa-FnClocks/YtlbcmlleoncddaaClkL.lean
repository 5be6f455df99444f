/-
  The clocks of a list of good acts: processes, sources, and the table of who is ahead of whom as it is filled.
-/
import Derived.Test.YtlbcmlleoncddaaGoodA
namespace Go.Proofs.Ytlbcmlleoncddaa
open Go.RowKit
namespace M
def P (l : Nat → Ac) (i : Nat) : Nat := (l i).proc.toNat
def F (l : Nat → Ac) (i : Nat) : Option Nat := if 0 ≤ (l i).frm ∧ (l i).frm ≤ (i : Int) - 1 then some (l i).frm.toNat else none
theorem F_lt (l : Nat → Ac) : ∀ i k, F l i = some k → k < i := by
  intro i k h
  unfold F at h
  split at h
  next hc => simp at h; omega
  next => cases h
theorem good_P {p : Int} {n : Nat} {l : Nat → Ac} (hg : GoodL p n l) {i : Nat} (hi : i < n) : (l i).proc = ((P l i : Nat) : Int) ∧ P l i < 6 ∧ ((P l i : Nat) : Int) < p := by
  obtain ⟨⟨h1, h2⟩, _, h⟩ := hg
  have := (h i hi).1
  unfold P; omega
theorem good_F {p : Int} {n : Nat} {l : Nat → Ac} (hg : GoodL p n l) {i : Nat} (hi : i < n) : ((l i).frm = -1 ∧ F l i = none) ∨ ∃ k, k < i ∧ (l i).frm = (k : Int) ∧ F l i = some k := by
  obtain ⟨_, _, h⟩ := hg
  rcases (h i hi).2 with h1 | ⟨⟨h1, h2⟩, _⟩
  · exact .inl ⟨h1, by unfold F; rw [if_neg (by omega)]⟩
  · exact .inr ⟨(l i).frm.toNat, by omega, by omega, by unfold F; rw [if_pos ⟨h1, h2⟩]⟩
def Ab (l : Nat → Ac) (i j : Nat) : Bool := decide (Clk.A (P l) (F l) i j)
def dirB (l : Nat → Ac) (i k : Nat) : Bool := decide (P l k = P l i) || decide (F l i = some k)
def Xb (l : Nat → Ac) (i : Nat) : Nat → Nat → Bool
  | 0, _ => false
  | k + 1, j => Xb l i k j || (dirB l i k && (j == k || Ab l k j))
theorem Xb_iff (l : Nat → Ac) (i j : Nat) : ∀ k, Xb l i k j = true ↔ ∃ d, d < k ∧ dirB l i d = true ∧ (j = d ∨ Clk.A (P l) (F l) d j)
  | 0 => by simp [Xb]
  | k + 1 => by
    simp only [Xb, Bool.or_eq_true, Bool.and_eq_true, Xb_iff l i j k, beq_iff_eq, Ab, decide_eq_true_eq]
    constructor
    · rintro (⟨d, hd, h⟩ | ⟨h1, h2⟩)
      · exact ⟨d, by omega, h⟩
      · exact ⟨k, by omega, h1, h2⟩
    · rintro ⟨d, hd, h1, h2⟩
      by_cases he : d = k
      · subst he; exact .inr ⟨h1, h2⟩
      · exact .inl ⟨d, by omega, h1, h2⟩
theorem Xb_all (l : Nat → Ac) (i j : Nat) : Xb l i i j = Ab l i j := by
  rw [Bool.eq_iff_iff, Xb_iff]
  unfold Ab
  rw [decide_eq_true_eq, Clk.A_iff _ _ (F_lt l)]
  constructor
  · rintro ⟨d, hd, h1, h2⟩
    unfold dirB at h1
    simp only [Bool.or_eq_true, decide_eq_true_eq] at h1
    exact ⟨d, ⟨hd, h1⟩, h2⟩
  · rintro ⟨d, ⟨hd, h1⟩, h2⟩
    exact ⟨d, hd, by unfold dirB; simp only [Bool.or_eq_true, decide_eq_true_eq]; exact h1, h2⟩
theorem Ab_lt {l : Nat → Ac} {i j : Nat} (h : Ab l i j = true) : j < i := by
  unfold Ab at h; rw [decide_eq_true_eq] at h; exact h.1
/-- The row of act i while the acts ahead of act k are laid over it, up to place t. -/
def Yb (l : Nat → Ac) (i k t m : Nat) : Bool := Xb l i k m || (m == k || (decide (m < t) && Ab l k m))
theorem Yb_zero (l : Nat → Ac) (i k : Nat) : (fun m => Value.bool (Yb l i k 0 m)) = Clk.upd (fun m => Value.bool (Xb l i k m)) k (.bool true) := by
  funext m; unfold Yb Clk.upd
  by_cases h : m = k
  · subst h; simp
  · simp [h]
theorem Yb_succ (l : Nat → Ac) (i k t : Nat) (b : Bool) (hb : b = (Yb l i k t t || Ab l k t)) : Clk.upd (fun m => Value.bool (Yb l i k t m)) t (.bool b) = fun m => Value.bool (Yb l i k (t + 1) m) := by
  subst hb
  funext m; unfold Clk.upd
  by_cases h : m = t
  · subst h; simp [Yb, Bool.or_assoc]
  · rw [if_neg h]; unfold Yb
    have : decide (m < t) = decide (m < t + 1) := by rw [Bool.eq_iff_iff]; simp; omega
    simp only [this]
theorem Yb_all (l : Nat → Ac) (i k m : Nat) (hd : dirB l i k = true) : Yb l i k k m = Xb l i (k + 1) m := by
  unfold Yb
  simp only [Xb, hd, Bool.true_and]
  congr 2
  cases h : Ab l k m
  · simp
  · have := Ab_lt h; simp [this]
theorem Xb_skip (l : Nat → Ac) (i k m : Nat) (hd : dirB l i k = false) : Xb l i (k + 1) m = Xb l i k m := by simp [Xb, hd]
theorem dirB_same {l : Nat → Ac} {i k : Nat} (h : (l k).proc = (l i).proc) : dirB l i k = true := by
  unfold dirB P; rw [h]; simp
theorem dirB_from {p : Int} {n : Nat} {l : Nat → Ac} {i k : Nat} (hg : GoodL p n l) (hi : i < n) (h : (k : Int) = (l i).frm) : dirB l i k = true := by
  unfold dirB
  rcases good_F hg hi with ⟨h1, _⟩ | ⟨k', _, h1, h2⟩
  · omega
  · have : k' = k := by omega
    subst this; simp [h2]
theorem dirB_no {p : Int} {n : Nat} {l : Nat → Ac} {i k : Nat} (hg : GoodL p n l) (hi : i < n) (hk : k < n) (h1 : (l k).proc ≠ (l i).proc) (h2 : (k : Int) ≠ (l i).frm) : dirB l i k = false := by
  unfold dirB
  rw [Bool.or_eq_false_iff, decide_eq_false_iff_not, decide_eq_false_iff_not]
  constructor
  · intro h
    have a := (good_P hg hi).1
    have b := (good_P hg hk).1
    rw [h] at b; omega
  · intro h
    rcases good_F hg hi with ⟨_, h3⟩ | ⟨k', _, h3, h4⟩
    · rw [h3] at h; cases h
    · rw [h4] at h; simp at h; omega
theorem Blk.grown {w w' : World} {g n B e s m : Nat} {f : Nat → Value} {t : TypeId} {v : Value} {xs : List Value} (h : Blk w g n f t) (hown : w.ownsRow B e s v m xs) (ht : t ≠ e) (hg : w.grownBy w' v.ownBlock) : Blk w' g n f t := by
  unfold Blk
  rw [hg.block g h.lt]
  · exact h
  · rcases hown.2 with ⟨rfl, _⟩ | ⟨g', cap, cur, rfl, _, hb, _⟩
    · simp [Value.ownBlock]
    · simp only [Value.ownBlock]
      intro he
      have he' : g = g' := by simpa using he
      subst he'
      unfold Blk at h
      rw [h] at hb
      simp only [Option.some.injEq, Obj.cells.injEq] at hb
      exact ht hb.2.1
end M
end Go.Proofs.Ytlbcmlleoncddaa
