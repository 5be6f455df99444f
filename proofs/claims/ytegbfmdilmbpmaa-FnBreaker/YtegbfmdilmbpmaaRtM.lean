/-
  Trying again: the mathematics of waits that are held to a bound, and of breakers that open, cool and let one call decide.
-/
import Derived.Test.YtegbfmdilmbpmaaClock
namespace Go.Proofs.Ytegbfmdilmbpmaa
namespace M
structure Po where
  f : Int
  t : Int
  m : Int
  n : Int
structure Br where
  l : Int
  c : Int
  s : Int
  k : Int
  o : Int
structure Cl where
  w : Int
  y : Bool
abbrev pov (p : Po) : Value := .agg #[.int .i64 p.f, .int .i64 p.t, .int .i64 p.m, .int .i64 p.n]
abbrev brv (b : Br) : Value := .agg #[.int .i64 b.l, .int .i64 b.c, .int .i64 b.s, .int .i64 b.k, .int .i64 b.o]
abbrev clv (c : Cl) : Value := .agg #[.int .i64 c.w, .bool c.y]
def GPo (p : Po) : Prop := (1 ≤ p.f ∧ p.f ≤ 1000) ∧ (1 ≤ p.t ∧ p.t ≤ 10) ∧ (p.f ≤ p.m ∧ p.m ≤ 1000000) ∧ (1 ≤ p.n ∧ p.n ≤ 40)
instance (p : Po) : Decidable (GPo p) := by unfold GPo; infer_instance
def wt (p : Po) : Nat → Int
  | 0 => p.f
  | k + 1 => min (wt p k * p.t) p.m
theorem mul_le (a b c d : Int) (h0 : 1 ≤ a) (h1 : a ≤ c) (h2 : 1 ≤ b) (h3 : b ≤ d) : 1 ≤ a * b ∧ a ≤ a * b ∧ a * b ≤ c * d := by
  have e1 : a * 1 ≤ a * b := Int.mul_le_mul_of_nonneg_left h2 (by omega)
  have e2 : a * b ≤ c * b := Int.mul_le_mul_of_nonneg_right h1 (by omega)
  have e3 : c * b ≤ c * d := Int.mul_le_mul_of_nonneg_left h3 (by omega)
  rw [Int.mul_one] at e1
  exact ⟨by omega, e1, by omega⟩
theorem wt_in {p : Po} (h : GPo p) (k : Nat) : 1 ≤ wt p k ∧ wt p k ≤ p.m := by
  obtain ⟨h1, h2, h3, h4⟩ := h
  induction k with
  | zero => exact ⟨h1.1, h3.1⟩
  | succ k ih =>
    have := mul_le (wt p k) p.t p.m 10 ih.1 ih.2 h2.1 h2.2
    show 1 ≤ min _ _ ∧ min _ _ ≤ p.m
    omega
theorem wt_mul {p : Po} (h : GPo p) (k : Nat) : 1 ≤ wt p k * p.t ∧ wt p k * p.t ≤ 10000000 := by
  have h0 := wt_in h k
  obtain ⟨h1, h2, h3, h4⟩ := h
  have := mul_le (wt p k) p.t 1000000 10 h0.1 (by omega) h2.1 h2.2
  exact ⟨this.1, by omega⟩
theorem wt_full {p : Po} (h : GPo p) {j : Nat} (hj : wt p j = p.m) (i : Nat) : wt p (j + i) = p.m := by
  induction i with
  | zero => exact hj
  | succ i ih =>
    have h0 := wt_in h (j + i)
    obtain ⟨h1, h2, h3, h4⟩ := h
    have := mul_le (wt p (j + i)) p.t p.m 10 h0.1 h0.2 h2.1 h2.2
    show min (wt p (j + i) * p.t) p.m = p.m
    rw [ih] at this ⊢
    omega
def sm (p : Po) : Nat → Int
  | 0 => 0
  | k + 1 => sm p k + wt p k
theorem sm_in {p : Po} (h : GPo p) (k : Nat) : 0 ≤ sm p k ∧ sm p k ≤ (k : Int) * 1000000 := by
  induction k with
  | zero => exact ⟨Int.le_refl _, by simp [sm]⟩
  | succ k ih =>
    have h0 := wt_in h k
    have h3 := h.2.2.1.2
    show 0 ≤ sm p k + wt p k ∧ sm p k + wt p k ≤ _
    omega
def GBd (l c : Int) : Prop := (1 ≤ l ∧ l ≤ 20) ∧ (1 ≤ c ∧ c ≤ 10000)
instance (l c : Int) : Decidable (GBd l c) := by unfold GBd; infer_instance
def GT (n : Int) : Prop := 0 ≤ n ∧ n ≤ 1000000
instance (n : Int) : Decidable (GT n) := by unfold GT; infer_instance
def GBr (b : Br) : Prop := GBd b.l b.c ∧ ((b.s = 0 ∧ (0 ≤ b.k ∧ b.k ≤ b.l - 1) ∧ b.o = 0) ∨ ((b.s = 1 ∨ b.s = 2) ∧ b.k = b.l ∧ GT b.o))
instance (b : Br) : Decidable (GBr b) := by unfold GBr; infer_instance
/-- Whether a call at a time is let through. -/
def lt (b : Br) (n : Int) : Bool := !(decide (b.s = 1) && decide (n < b.o + b.c))
def fresh (l c : Int) : Br := ⟨l, c, 0, 0, 0⟩
def flr (b : Br) (n : Int) : Br := if b.s = 0 then (if b.k + 1 = b.l then ⟨b.l, b.c, 1, b.k + 1, n⟩ else ⟨b.l, b.c, b.s, b.k + 1, b.o⟩) else ⟨b.l, b.c, 1, b.k, n⟩
/-- What a call makes of a breaker. -/
def cal (b : Br) (c : Cl) : Br := if lt b c.w = true then (if c.y = true then fresh b.l b.c else flr b c.w) else b
theorem flr_good {b : Br} (h : GBr b) {n : Int} (hn : GT n) : GBr (flr b n) := by
  obtain ⟨hb, h⟩ := h
  unfold GBd at hb
  unfold GT at hn
  unfold flr
  split
  · split
    · exact ⟨hb, .inr ⟨.inl rfl, by simpa using (by assumption), hn⟩⟩
    · rcases h with ⟨h1, h2, h3⟩ | ⟨h1, h2, h3⟩
      · exact ⟨hb, .inl ⟨h1, ⟨by show 0 ≤ b.k + 1; omega, by show b.k + 1 ≤ b.l - 1; omega⟩, h3⟩⟩
      · omega
  · rcases h with ⟨h1, h2, h3⟩ | ⟨h1, h2, h3⟩
    · contradiction
    · exact ⟨hb, .inr ⟨.inl rfl, h2, hn⟩⟩
theorem fresh_good {l c : Int} (h : GBd l c) : GBr (fresh l c) := ⟨h, .inl ⟨rfl, ⟨Int.le_refl _, by show (0 : Int) ≤ l - 1; unfold GBd at h; omega⟩, rfl⟩⟩
theorem cal_good {b : Br} (h : GBr b) {c : Cl} (hn : GT c.w) : GBr (cal b c) := by
  unfold cal
  split
  · split
    · exact fresh_good h.1
    · exact flr_good h hn
  · exact h
/-- A breaker behind the first calls of a row. -/
def ply (l c : Int) (cs : Nat → Cl) : Nat → Br
  | 0 => fresh l c
  | i + 1 => cal (ply l c cs i) (cs i)
def thr (l c : Int) (cs : Nat → Cl) (i : Nat) : Bool := lt (ply l c cs i) (cs i).w
theorem ply_good {l c : Int} (h : GBd l c) {cs : Nat → Cl} : ∀ {i : Nat}, (∀ j, j < i → GT (cs j).w) → GBr (ply l c cs i)
  | 0, _ => fresh_good h
  | i + 1, hj => cal_good (ply_good h (fun j hh => hj j (by omega))) (hj i (by omega))
/-- Calls of good times, none of an earlier one than the one ahead. -/
def wh (cs : Nat → Cl) : Nat → Int
  | 0 => 0
  | i + 1 => (cs i).w
def GCs (n : Nat) (cs : Nat → Cl) : Prop := ∀ i, i < n → wh cs i ≤ (cs i).w ∧ (cs i).w ≤ 1000000
theorem GCs.gt {n : Nat} {cs : Nat → Cl} (h : GCs n cs) : ∀ i, i < n → GT (cs i).w
  | 0, hi => ⟨(h 0 hi).1, (h 0 hi).2⟩
  | i + 1, hi => by
    have h1 := GCs.gt h i (by omega)
    have h2 := h (i + 1) hi
    unfold GT at h1 ⊢
    simp only [wh] at h2
    omega
end M
end Go.Proofs.Ytegbfmdilmbpmaa
