/-
  All markings that come of one, in the order in which they are come to: the plain mathematics of both texts' search.
-/
import Derived.Test.YthilapalgakhhaaNetMap
namespace Go.Proofs.Ythilapalgakhhaa
namespace M
open Clk (upd upd_same upd_other)
/-- What has been found: how many markings, which, out of which one each, by which step. -/
structure Bs where
  c : Nat
  M : Nat → Nat → Int
  fr : Nat → Nat
  st : Nat → Nat
def kn (K : Nat → Nat → Int) (x : Nat → Int) : Nat → Bool
  | 0 => false
  | n + 1 => kn K x n || veq8 x (K n)
theorem kn_false {K : Nat → Nat → Int} {x : Nat → Int} : ∀ {n : Nat}, kn K x n = false ↔ NoKey n K x
  | 0 => by simp [kn, NoKey]
  | n + 1 => by
    simp only [kn, Bool.or_eq_false_iff, kn_false (n := n)]
    constructor
    · rintro ⟨h1, h2⟩ j hj
      rcases (show j < n ∨ j = n by omega) with h | h
      · exact h1 j h
      · subst h; exact h2
    · intro h; exact ⟨fun j hj => h j (by omega), h n (by omega)⟩
theorem kn_true {K : Nat → Nat → Int} {x : Nat → Int} : ∀ {n : Nat}, kn K x n = true → ∃ d, d < n ∧ NoKey d K x ∧ veq8 x (K d) = true
  | 0, h => by simp [kn] at h
  | n + 1, h => by
    cases e : kn K x n with
    | true => obtain ⟨d, hd, h1, h2⟩ := kn_true e; exact ⟨d, by omega, h1, h2⟩
    | false => simp [kn, e] at h; exact ⟨n, by omega, kn_false.1 e, h⟩
def Bs.add (s : Bs) (x : Nat → Int) (i t : Nat) : Bs := ⟨s.c + 1, upd s.M s.c x, upd s.fr s.c i, upd s.st s.c t⟩
def stepB (s : Bs) (i t : Nat) (sp : Sp) : Option Bs :=
  match fire sp (s.M i) with
  | none => some s
  | some x => if kn s.M x s.c = true then some s else if s.c = 400 then none else some (s.add x i t)
def rowB (st : Nat → Sp) (s : Bs) (i : Nat) : Nat → Option Bs
  | 0 => some s
  | t + 1 => match rowB st s i t with
    | none => none
    | some s' => stepB s' i t (st t)
def allB (st : Nat → Sp) (k : Nat) (m : Nat → Int) : Nat → Option Bs
  | 0 => some ⟨1, fun _ => m, fun _ => 0, fun _ => 0⟩
  | i + 1 => match allB st k m i with
    | none => none
    | some s => if i < s.c then rowB st s i k else some s
/-- What is known of what has been found. -/
structure BOk (p k : Nat) (s : Bs) : Prop where
  pos : 1 ≤ s.c
  most : s.c ≤ 400
  mark : ∀ j, j < s.c → Mk p (s.M j)
  new : ∀ j, j < s.c → NoKey j s.M (s.M j)
  back : ∀ j, 0 < j → j < s.c → s.fr j < j
  by_ : ∀ j, 0 < j → j < s.c → s.st j < k
theorem NoKey.upd {n : Nat} {K : Nat → Nat → Int} {v : Nat → Int} (h : NoKey n K v) {c : Nat} (hc : n ≤ c) (x : Nat → Int) : NoKey n (upd K c x) v := fun j hj => by
  rw [upd_other _ _ _ _ (by omega)]; exact h j hj
theorem BOk.add {p k : Nat} {s : Bs} (h : BOk p k s) {x : Nat → Int} {i t : Nat} (hx : Mk p x) (hk : kn s.M x s.c = false) (h4 : s.c ≠ 400) (hi : i < s.c) (ht : t < k) : BOk p k (s.add x i t) := by
  have hc := h.most
  refine ⟨by show 1 ≤ s.c + 1; omega, by show s.c + 1 ≤ 400; omega, fun j hj => ?_, fun j hj => ?_, fun j h0 hj => ?_, fun j h0 hj => ?_⟩
  all_goals
    have hj' : j < s.c + 1 := hj
    rcases (show j < s.c ∨ j = s.c by omega) with h1 | h1
  · show Mk p (Clk.upd s.M s.c x j); rw [upd_other _ _ _ _ (by omega)]; exact h.mark j h1
  · subst h1; show Mk p (Clk.upd s.M s.c x s.c); rw [upd_same]; exact hx
  · show NoKey j (Clk.upd s.M s.c x) (Clk.upd s.M s.c x j); rw [upd_other _ _ _ _ (by omega)]; exact (h.new j h1).upd (by omega) x
  · subst h1; show NoKey s.c (Clk.upd s.M s.c x) (Clk.upd s.M s.c x s.c); rw [upd_same]; exact (kn_false.1 hk).upd (Nat.le_refl _) x
  · show Clk.upd s.fr s.c i j < j; rw [upd_other _ _ _ _ (by omega)]; exact h.back j h0 h1
  · subst h1; show Clk.upd s.fr s.c i s.c < s.c; rw [upd_same]; exact hi
  · show Clk.upd s.st s.c t j < k; rw [upd_other _ _ _ _ (by omega)]; exact h.by_ j h0 h1
  · subst h1; show Clk.upd s.st s.c t s.c < k; rw [upd_same]; exact ht
/-- A step of the search keeps what was found and what is known. -/
theorem stepB_ok {p k : Nat} {s s' : Bs} {i t : Nat} {sp : Sp} (hg : GoodS p sp) (h : BOk p k s) (hi : i < s.c) (ht : t < k) (e : stepB s i t sp = some s') : BOk p k s' ∧ s.c ≤ s'.c := by
  unfold stepB at e
  cases hf : fire sp (s.M i) with
  | none => rw [hf] at e; cases e; exact ⟨h, Nat.le_refl _⟩
  | some x =>
    rw [hf] at e
    simp only at e
    split at e
    · cases e; exact ⟨h, Nat.le_refl _⟩
    · rename_i hk
      split at e
      · cases e
      · rename_i h4
        cases e
        exact ⟨h.add (fire_mk hg (h.mark i hi) hf) (by simpa using hk) h4 hi ht, Nat.le_succ _⟩
theorem rowB_ok {p k : Nat} {st : Nat → Sp} {s : Bs} {i : Nat} (hg : ∀ t, t < k → GoodS p (st t)) (h : BOk p k s) (hi : i < s.c) : ∀ {t : Nat} {s' : Bs}, t ≤ k → rowB st s i t = some s' → BOk p k s' ∧ s.c ≤ s'.c
  | 0, s', _, e => by simp [rowB] at e; subst e; exact ⟨h, Nat.le_refl _⟩
  | t + 1, s', ht, e => by
    cases e1 : rowB st s i t with
    | none => simp [rowB, e1] at e
    | some s1 =>
      simp only [rowB, e1] at e
      obtain ⟨h1, h2⟩ := rowB_ok hg h hi (by omega) e1
      obtain ⟨h3, h4⟩ := stepB_ok (hg t (by omega)) h1 (by omega) (by omega) e
      exact ⟨h3, by omega⟩
theorem rowB_none {st : Nat → Sp} {s : Bs} {i t : Nat} (h : rowB st s i t = none) : ∀ n, t ≤ n → rowB st s i n = none
  | 0, hn => by obtain rfl : t = 0 := by omega
                exact h
  | n + 1, hn => by
    by_cases e : t = n + 1
    · subst e; exact h
    · simp only [rowB, rowB_none h n (by omega)]
theorem allB_none {st : Nat → Sp} {k i : Nat} {m : Nat → Int} (h : allB st k m i = none) : ∀ n, i ≤ n → allB st k m n = none
  | 0, hn => by obtain rfl : i = 0 := by omega
                exact h
  | n + 1, hn => by
    by_cases e : i = n + 1
    · subst e; exact h
    · simp only [allB, allB_none h n (by omega)]
theorem allB_done {st : Nat → Sp} {k i : Nat} {m : Nat → Int} {s : Bs} (h : allB st k m i = some s) (hi : s.c ≤ i) : ∀ n, i ≤ n → allB st k m n = some s
  | 0, hn => by obtain rfl : i = 0 := by omega
                exact h
  | n + 1, hn => by
    by_cases e : i = n + 1
    · subst e; exact h
    · simp only [allB, allB_done h hi n (by omega)]
      rw [if_neg (by omega)]
theorem allB_ok {p k : Nat} {st : Nat → Sp} {m : Nat → Int} (hg : ∀ t, t < k → GoodS p (st t)) (hm : Mk p m) : ∀ {i : Nat} {s : Bs}, allB st k m i = some s → BOk p k s
  | 0, s, e => by
    simp only [allB, Option.some.injEq] at e
    subst e
    exact ⟨Nat.le_refl _, by show (1 : Nat) ≤ 400; omega, fun j _ => hm, fun j hj q hq => by have : j < 1 := hj; omega, fun j h0 hj => by have : j < 1 := hj; omega, fun j h0 hj => by have : j < 1 := hj; omega⟩
  | i + 1, s, e => by
    cases e1 : allB st k m i with
    | none => simp [allB, e1] at e
    | some s1 =>
      have h1 := allB_ok hg hm e1
      simp only [allB, e1] at e
      by_cases hi : i < s1.c
      · rw [if_pos hi] at e; exact (rowB_ok hg h1 hi (Nat.le_refl _) e).1
      · rw [if_neg hi] at e; cases e; exact h1
/-- The search's end: none where there are too many. -/
def foundB (st : Nat → Sp) (k : Nat) (m : Nat → Int) : Option Bs := allB st k m 400
theorem found_of_done {st : Nat → Sp} {k i : Nat} {m : Nat → Int} {s : Bs} (h : allB st k m i = some s) (hi : s.c ≤ i) (h4 : i ≤ 400) : foundB st k m = some s := allB_done h hi 400 h4
theorem found_of_stop {st : Nat → Sp} {k i t : Nat} {m : Nat → Int} {s : Bs} (h : allB st k m i = some s) (hi : i < s.c) (h4 : i < 400) (ht : t ≤ k) (hr : rowB st s i t = none) : foundB st k m = none := by
  refine allB_none (i := i + 1) ?_ 400 h4
  simp only [allB, h, if_pos hi]
  exact rowB_none hr k ht
end M
end Go.Proofs.Ythilapalgakhhaa
