/-
  Nets of places and tokens: good lists, good nets, markings, what a step makes of one. Plain mathematics.
-/
import Derived.Test.YthilapalgakhhaaClock
namespace Go.Proofs.Ythilapalgakhhaa
namespace M
open Clk (upd upd_same upd_other)
/-- A step: its two lists. -/
structure Sp where
  ni : Nat
  fi : Nat → Int
  no : Nat
  fo : Nat → Int
def RisAt (f : Nat → Int) (p : Int) (i : Nat) : Prop := (0 ≤ f i ∧ f i ≤ p - 1) ∧ (0 < i → f (i - 1) < f i)
def Ris (n : Nat) (f : Nat → Int) (p : Int) : Prop := ∀ i, i < n → RisAt f p i
def GoodS (p : Int) (s : Sp) : Prop := Ris s.ni s.fi p ∧ Ris s.no s.fo p
def GoodN (p : Int) (k : Nat) (st : Nat → Sp) : Prop := (1 ≤ p ∧ p ≤ 8) ∧ k ≤ 12 ∧ ∀ i, i < k → GoodS p (st i)
instance (f : Nat → Int) (p : Int) (i : Nat) : Decidable (RisAt f p i) := by unfold RisAt; infer_instance
instance (n : Nat) (f : Nat → Int) (p : Int) : Decidable (Ris n f p) := by unfold Ris; infer_instance
instance (p : Int) (s : Sp) : Decidable (GoodS p s) := by unfold GoodS; infer_instance
instance (p : Int) (k : Nat) (st : Nat → Sp) : Decidable (GoodN p k st) := by unfold GoodN; infer_instance
def least (f : Nat → Int) (i : Nat) : Int := if i = 0 then 0 else f (i - 1) + 1
theorem least_zero (f : Nat → Int) : least f 0 = 0 := rfl
theorem least_succ (f : Nat → Int) (i : Nat) : least f (i + 1) = f i + 1 := by simp [least]
/-- Under the earlier ones the impl's test and RisAt are one. -/
theorem ris_least {f : Nat → Int} {p : Int} {i : Nat} (h : ∀ j, j < i → RisAt f p j) : (least f i ≤ f i ∧ f i ≤ p - 1) ↔ RisAt f p i := by
  unfold least RisAt
  by_cases h0 : i = 0
  · subst h0; simp
  · have := (h (i - 1) (by omega)).1.1
    rw [if_neg h0]
    constructor
    · rintro ⟨a, b⟩; exact ⟨⟨by omega, b⟩, fun _ => by omega⟩
    · rintro ⟨⟨a, b⟩, c⟩; exact ⟨by have := c (by omega); omega, b⟩
theorem ris_split {n : Nat} {f : Nat → Int} {p : Int} (k : Nat) (hk : k < n) (h : ¬ RisAt f p k) : ¬ Ris n f p := fun H => h (H k hk)
/-- A list that rises within 0..7 has at most 8 numbers. -/
theorem ris_ge {n : Nat} {f : Nat → Int} {p : Int} (h : Ris n f p) : ∀ i, i < n → (i : Int) ≤ f i
  | 0, hi => by have := (h 0 hi).1.1; omega
  | i + 1, hi => by
    have h1 := ris_ge h i (by omega)
    have h2 := (h (i + 1) hi).2 (by omega)
    simp only [Nat.add_sub_cancel] at h2
    omega
theorem ris_len {n : Nat} {f : Nat → Int} {p : Int} (h : Ris n f p) (hp : 0 ≤ p) : (n : Int) ≤ p := by
  rcases Nat.eq_zero_or_pos n with h0 | h0
  · omega
  · have h1 := ris_ge h (n - 1) (by omega)
    have h2 := (h (n - 1) (by omega)).1.2
    omega
def takes (f : Nat → Int) (m : Nat → Int) : Nat → Option (Nat → Int)
  | 0 => some m
  | j + 1 => match takes f m j with
    | none => none
    | some c => if c (f j).toNat = 0 then none else some (upd c (f j).toNat (c (f j).toNat - 1))
def gives (f : Nat → Int) (m : Nat → Int) : Nat → Option (Nat → Int)
  | 0 => some m
  | j + 1 => match gives f m j with
    | none => none
    | some c => if c (f j).toNat = 9 then none else some (upd c (f j).toNat (c (f j).toNat + 1))
def fire (s : Sp) (m : Nat → Int) : Option (Nat → Int) :=
  match takes s.fi m s.ni with
  | none => none
  | some c => gives s.fo c s.no
theorem takes_none {f m : Nat → Int} {j : Nat} (h : takes f m j = none) : ∀ n, j ≤ n → takes f m n = none
  | 0, hn => by obtain rfl : j = 0 := by omega
                exact h
  | n + 1, hn => by
    by_cases e : j = n + 1
    · subst e; exact h
    · simp only [takes, takes_none h n (by omega)]
theorem gives_none {f m : Nat → Int} {j : Nat} (h : gives f m j = none) : ∀ n, j ≤ n → gives f m n = none
  | 0, hn => by obtain rfl : j = 0 := by omega
                exact h
  | n + 1, hn => by
    by_cases e : j = n + 1
    · subst e; exact h
    · simp only [gives, gives_none h n (by omega)]
theorem takes_go {f m c : Nat → Int} {j : Nat} (h : takes f m j = some c) (h0 : ¬ c (f j).toNat = 0) : takes f m (j + 1) = some (upd c (f j).toNat (c (f j).toNat - 1)) := by
  simp only [takes, h, if_neg h0]
theorem takes_stop {f m c : Nat → Int} {j n : Nat} (h : takes f m j = some c) (h0 : c (f j).toNat = 0) (hn : j < n) : takes f m n = none :=
  takes_none (j := j + 1) (by simp only [takes, h, if_pos h0]) n hn
theorem gives_go {f m c : Nat → Int} {j : Nat} (h : gives f m j = some c) (h0 : ¬ c (f j).toNat = 9) : gives f m (j + 1) = some (upd c (f j).toNat (c (f j).toNat + 1)) := by
  simp only [gives, h, if_neg h0]
theorem gives_stop {f m c : Nat → Int} {j n : Nat} (h : gives f m j = some c) (h0 : c (f j).toNat = 9) (hn : j < n) : gives f m n = none :=
  gives_none (j := j + 1) (by simp only [gives, h, if_pos h0]) n hn
/-- A marking of p places: numbers in 0..9, none beyond. -/
def Mk (p : Nat) (m : Nat → Int) : Prop := (∀ q, 0 ≤ m q ∧ m q ≤ 9) ∧ ∀ q, p ≤ q → m q = 0
theorem Mk.upd {p : Nat} {m : Nat → Int} (h : Mk p m) {i : Nat} {x : Int} (hi : i < p) (h0 : 0 ≤ x) (h9 : x ≤ 9) : Mk p (upd m i x) := by
  refine ⟨fun q => ?_, fun q hq => ?_⟩
  · unfold Clk.upd; split
    · exact ⟨h0, h9⟩
    · exact h.1 q
  · rw [upd_other _ _ _ _ (by omega)]; exact h.2 q hq
theorem takes_mk {p : Nat} {n : Nat} {f m : Nat → Int} (hr : Ris n f p) (h : Mk p m) : ∀ {j : Nat} {c : Nat → Int}, j ≤ n → takes f m j = some c → Mk p c
  | 0, c, _, e => by simp [takes] at e; subst e; exact h
  | j + 1, c, hj, e => by
    cases e1 : takes f m j with
    | none => simp [takes, e1] at e
    | some c1 =>
      have hc := takes_mk hr h (by omega) e1
      by_cases h0 : c1 (f j).toNat = 0
      · simp [takes, e1, h0] at e
      · simp [takes, e1, h0] at e
        subst e
        have := (hr j (by omega)).1
        have h3 := hc.1 (f j).toNat
        exact hc.upd (by omega) (by omega) (by omega)
theorem gives_mk {p : Nat} {n : Nat} {f m : Nat → Int} (hr : Ris n f p) (h : Mk p m) : ∀ {j : Nat} {c : Nat → Int}, j ≤ n → gives f m j = some c → Mk p c
  | 0, c, _, e => by simp [gives] at e; subst e; exact h
  | j + 1, c, hj, e => by
    cases e1 : gives f m j with
    | none => simp [gives, e1] at e
    | some c1 =>
      have hc := gives_mk hr h (by omega) e1
      by_cases h0 : c1 (f j).toNat = 9
      · simp [gives, e1, h0] at e
      · simp [gives, e1, h0] at e
        subst e
        have := (hr j (by omega)).1
        have h3 := hc.1 (f j).toNat
        exact hc.upd (by omega) (by omega) (by omega)
theorem fire_mk {p : Nat} {s : Sp} {m c : Nat → Int} (hg : GoodS p s) (h : Mk p m) (e : fire s m = some c) : Mk p c := by
  unfold fire at e
  cases e1 : takes s.fi m s.ni with
  | none => rw [e1] at e; cases e
  | some c1 =>
    rw [e1] at e
    exact gives_mk hg.2 (takes_mk hg.1 h (Nat.le_refl _) e1) (Nat.le_refl _) e
theorem fire_takes {s : Sp} {m : Nat → Int} (h : takes s.fi m s.ni = none) : fire s m = none := by unfold fire; rw [h]
theorem fire_gives {s : Sp} {m c : Nat → Int} (h : takes s.fi m s.ni = some c) : fire s m = gives s.fo c s.no := by unfold fire; rw [h]
/-- All numbers of a list lie between two. -/
def All (n : Nat) (f : Nat → Int) (lo hi : Int) : Prop := ∀ i, i < n → lo ≤ f i ∧ f i ≤ hi
instance (n : Nat) (f : Nat → Int) (lo hi : Int) : Decidable (All n f lo hi) := by unfold All; infer_instance
theorem pad_mk {p : Nat} {f : Nat → Int} (h : All p f 0 9) : Mk p (fun j => if j < p then f j else 0) := by
  refine ⟨fun q => ?_, fun q hq => ?_⟩
  · by_cases hq : q < p
    · simp only [if_pos hq]; exact h q hq
    · simp only [if_neg hq]; omega
  · simp only [if_neg (show ¬ q < p by omega)]
end M
end Go.Proofs.Ythilapalgakhhaa
