/-
  Rules that follow: sets, steps, their closure. Plain mathematics.
-/
import Derived.Test.YtpabnncfcklnpaaClock
namespace Go.Proofs.Ytpabnncfcklnpaa
namespace M
namespace Ho
open Clk (upd upd_same upd_other)
/-- A rule: its head, how many its body has, which. -/
structure Rl where
  hd : Nat
  nb : Nat
  bd : Nat → Nat
def has (S : Nat → Bool) (r : Rl) : Bool := (List.range r.nb).all fun j => S (r.bd j)
theorem has_iff {S : Nat → Bool} {r : Rl} : has S r = true ↔ ∀ j, j < r.nb → S (r.bd j) = true := by
  simp [has]
/-- The set and the heads of the first i rules whose body is in it. -/
def stp (l : Nat → Rl) (S : Nat → Bool) : Nat → Nat → Bool
  | 0 => S
  | i + 1 => if has S (l i) then upd (stp l S i) (l i).hd true else stp l S i
theorem stp_ge {l : Nat → Rl} {S : Nat → Bool} {x : Nat} (h : S x = true) : ∀ i, stp l S i x = true
  | 0 => h
  | i + 1 => by
    simp only [stp]
    split
    · by_cases e : x = (l i).hd
      · rw [e, upd_same]
      · rw [upd_other _ _ _ _ e]; exact stp_ge h i
    · exact stp_ge h i
theorem stp_iff {l : Nat → Rl} {S : Nat → Bool} {x : Nat} : ∀ k, stp l S k x = true ↔ S x = true ∨ ∃ i, i < k ∧ has S (l i) = true ∧ (l i).hd = x
  | 0 => by simp [stp]
  | k + 1 => by
    simp only [stp]
    constructor
    · intro h
      split at h
      · rename_i hh
        by_cases e : x = (l k).hd
        · exact .inr ⟨k, by omega, hh, e.symm⟩
        · rw [upd_other _ _ _ _ e] at h
          rcases (stp_iff k).1 h with h | ⟨i, hi, h1, h2⟩
          · exact .inl h
          · exact .inr ⟨i, by omega, h1, h2⟩
      · rcases (stp_iff k).1 h with h | ⟨i, hi, h1, h2⟩
        · exact .inl h
        · exact .inr ⟨i, by omega, h1, h2⟩
    · rintro (h | ⟨i, hi, h1, h2⟩)
      · split
        · by_cases e : x = (l k).hd
          · rw [e, upd_same]
          · rw [upd_other _ _ _ _ e]; exact (stp_iff k).2 (.inl h)
        · exact (stp_iff k).2 (.inl h)
      · by_cases e : i = k
        · subst e; rw [if_pos h1, h2, upd_same]
        · split
          · by_cases e : x = (l k).hd
            · rw [e, upd_same]
            · rw [upd_other _ _ _ _ e]; exact (stp_iff k).2 (.inr ⟨i, by omega, h1, h2⟩)
          · exact (stp_iff k).2 (.inr ⟨i, by omega, h1, h2⟩)
/-- The numbers of a set, in order. -/
def lst (S : Nat → Bool) (m : Nat) : List Nat := (List.range m).filter S
theorem lst_succ (S : Nat → Bool) (m : Nat) : lst S (m + 1) = if S m then lst S m ++ [m] else lst S m := by
  unfold lst
  rw [List.range_succ, List.filter_append]
  cases h : S m <;> simp [h]
theorem lst_len (S : Nat → Bool) (m : Nat) : (lst S m).length ≤ m := by
  have := List.length_filter_le S (List.range m)
  rw [List.length_range] at this; exact this
theorem lst_sub {S S' : Nat → Bool} (h : ∀ x, S x = true → S' x = true) : ∀ m, (lst S m).length ≤ (lst S' m).length
  | 0 => Nat.le_refl _
  | m + 1 => by
    have := lst_sub h m
    rw [lst_succ, lst_succ]
    cases e : S m
    · cases e' : S' m <;> simp <;> omega
    · rw [h m e]; simp; omega
theorem lst_eq {S S' : Nat → Bool} (h : ∀ x, S x = true → S' x = true) : ∀ m, (lst S m).length = (lst S' m).length → ∀ x, x < m → S x = S' x
  | 0, _, x, hx => by omega
  | m + 1, he, x, hx => by
    have hle := lst_sub h m
    rw [lst_succ, lst_succ] at he
    cases e : S m
    · cases e' : S' m
      · rw [e, e'] at he
        by_cases hm : x = m
        · subst hm; rw [e, e']
        · exact lst_eq h m (by simpa using he) x (by omega)
      · rw [e, e'] at he; simp at he; omega
    · have e' := h m e
      rw [e, e'] at he
      by_cases hm : x = m
      · subst hm; rw [e, e']
      · exact lst_eq h m (by simpa using he) x (by omega)
theorem lst_mem {S : Nat → Bool} {m x : Nat} : x ∈ lst S m ↔ x < m ∧ S x = true := by simp [lst]
/-- All heads are facts. -/
def Hds (k : Nat) (l : Nat → Rl) : Prop := ∀ i, i < k → (l i).hd < 40
theorem stp_far {l : Nat → Rl} {k : Nat} (hl : Hds k l) {S : Nat → Bool} {x : Nat} (hx : 40 ≤ x) : stp l S k x = S x := by
  rw [Bool.eq_iff_iff, stp_iff]
  constructor
  · rintro (h | ⟨i, hi, _, h2⟩)
    · exact h
    · have := hl i hi; omega
  · exact .inl
theorem stp_fix {l : Nat → Rl} {k : Nat} (hl : Hds k l) {S : Nat → Bool} (h : ∀ x, x < 40 → stp l S k x = S x) : stp l S k = S := by
  funext x
  rcases Nat.lt_or_ge x 40 with hx | hx
  · exact h x hx
  · exact stp_far hl hx
/-- The t-th set of a closure. -/
def itr (l : Nat → Rl) (k : Nat) (S : Nat → Bool) : Nat → Nat → Bool
  | 0 => S
  | t + 1 => stp l (itr l k S t) k
theorem itr_stay {l : Nat → Rl} {k : Nat} {S : Nat → Bool} {t : Nat} (h : stp l (itr l k S t) k = itr l k S t) : ∀ d, itr l k S (t + d) = itr l k S t
  | 0 => rfl
  | d + 1 => by show stp l (itr l k S (t + d)) k = _; rw [itr_stay h d]; exact h
theorem itr_all {l : Nat → Rl} {k : Nat} {S : Nat → Bool} {t : Nat} (ht : t ≤ 40) (h : stp l (itr l k S t) k = itr l k S t) : itr l k S 40 = itr l k S t := by
  rw [show 40 = t + (40 - t) by omega]; exact itr_stay h _
/-- Where a set has grown it has more. -/
theorem stp_more {l : Nat → Rl} {k : Nat} (hl : Hds k l) {S : Nat → Bool} (h : stp l S k ≠ S) : (lst S 40).length < (lst (stp l S k) 40).length := by
  have h1 := lst_sub (S := S) (S' := stp l S k) (fun x hx => stp_ge hx k) 40
  rcases Nat.lt_or_ge (lst S 40).length (lst (stp l S k) 40).length with h2 | h2
  · exact h2
  · exact absurd (stp_fix hl fun x hx => (lst_eq (S := S) (S' := stp l S k) (fun x hx => stp_ge hx k) 40 (by omega) x hx).symm) h
theorem stp_same {l : Nat → Rl} {k : Nat} (hl : Hds k l) {S : Nat → Bool} : (lst (stp l S k) 40).length = (lst S 40).length ↔ stp l S k = S := by
  constructor
  · intro h
    by_cases e : stp l S k = S
    · exact e
    · have := stp_more hl e; omega
  · intro h; rw [h]
/-- A set is a model just where a step leaves it. -/
theorem model_iff {l : Nat → Rl} {k : Nat} {S : Nat → Bool} : stp l S k = S ↔ ∀ i, i < k → has S (l i) = true → S (l i).hd = true := by
  constructor
  · intro h i hi hh
    rw [← h]; exact (stp_iff k).2 (.inr ⟨i, hi, hh, rfl⟩)
  · intro h
    funext x
    rw [Bool.eq_iff_iff, stp_iff]
    constructor
    · rintro (h' | ⟨i, hi, h1, rfl⟩)
      · exact h'
      · exact h i hi h1
    · exact .inl
/-- The set of some numbers. -/
def ofl (f : Nat → Nat) : Nat → Nat → Bool
  | 0 => fun _ => false
  | j + 1 => upd (ofl f j) (f j) true
theorem ofl_iff {f : Nat → Nat} {x : Nat} : ∀ n, ofl f n x = true ↔ ∃ j, j < n ∧ f j = x
  | 0 => by simp [ofl]
  | n + 1 => by
    simp only [ofl]
    by_cases e : x = f n
    · rw [e, upd_same]; simp; exact ⟨n, by omega, rfl⟩
    · rw [upd_other _ _ _ _ e, ofl_iff n]
      constructor
      · rintro ⟨j, hj, h⟩; exact ⟨j, by omega, h⟩
      · rintro ⟨j, hj, h⟩
        refine ⟨j, ?_, h⟩
        rcases (show j < n ∨ j = n by omega) with h' | h'
        · exact h'
        · subst h'; exact absurd h.symm e
/-- Numbers that rise, below 40. -/
def Up (n : Nat) (f : Nat → Nat) : Prop := (∀ j, j < n → f j < 40) ∧ ∀ i j, i < j → j < n → f i < f j
theorem Up.len {n : Nat} {f : Nat → Nat} (h : Up n f) : n ≤ 40 := by
  have : ∀ j, j < n → j ≤ f j := by
    intro j
    induction j with
    | zero => intro _; omega
    | succ j ih => intro hj; have := ih (by omega); have := h.2 j (j + 1) (by omega) hj; omega
  rcases Nat.eq_zero_or_pos n with h0 | h0
  · omega
  · have := this (n - 1) (by omega); have := h.1 (n - 1) (by omega); omega
/-- The list of the set of numbers that rise is they. -/
theorem lst_of {n : Nat} {f : Nat → Nat} (h : Up n f) : lst (ofl f n) 40 = (List.range n).map f := by
  have hs1 : (lst (ofl f n) 40).Pairwise (· < ·) := List.Pairwise.filter _ List.pairwise_lt_range
  have hs2 : ((List.range n).map f).Pairwise (· < ·) := by
    rw [List.pairwise_map, List.pairwise_iff_getElem]
    intro i j hi hj hij
    rw [List.length_range] at hi hj
    simp only [List.getElem_range]
    exact h.2 i j hij hj
  have hm : ∀ x, x ∈ lst (ofl f n) 40 ↔ x ∈ (List.range n).map f := by
    intro x
    rw [lst_mem, ofl_iff]
    simp only [List.mem_map, List.mem_range]
    constructor
    · rintro ⟨_, j, hj, e⟩; exact ⟨j, hj, e⟩
    · rintro ⟨j, hj, e⟩; exact ⟨by rw [← e]; exact h.1 j hj, j, hj, e⟩
  have n1 : (lst (ofl f n) 40).Nodup := hs1.imp (fun {a b} h => by omega)
  have n2 : ((List.range n).map f).Nodup := hs2.imp (fun {a b} h => by omega)
  have hp := (List.perm_ext_iff_of_nodup n1 n2).2 hm
  exact hp.eq_of_pairwise (le := (· < ·)) (fun a b _ _ h1 h2 => by omega) hs1 hs2
end Ho
end M
end Go.Proofs.Ytpabnncfcklnpaa
