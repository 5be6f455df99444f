/-
  Clocks: acts of processes, what is ahead of what, vectors, Lamport numbers, cuts. Plain mathematics over any processes P and any messages F that come from earlier acts.
-/
import Derived.RowKit
namespace Go.Proofs.YtfkeokglifpkoaaDoor
namespace M
namespace Clk
variable (P : Nat → Nat) (F : Nat → Option Nat)
def upd {α : Type} (f : Nat → α) (i : Nat) (v : α) : Nat → α := fun j => if j = i then v else f j
theorem upd_same {α : Type} (f : Nat → α) (i : Nat) (v : α) : upd f i v i = v := by simp [upd]
theorem upd_other {α : Type} (f : Nat → α) (i j : Nat) (v : α) (h : j ≠ i) : upd f i v j = f j := by simp [upd, h]
/-- The vector of act i, from those of the acts ahead (s.1) and the latest of each process (s.2). -/
def vec (i : Nat) (s : (Nat → Nat → Nat) × (Nat → Nat → Nat)) (q : Nat) : Nat :=
  max (s.2 (P i) q) (match F i with | none => 0 | some k => s.1 k q) + if q = P i then 1 else 0
def st : Nat → (Nat → Nat → Nat) × (Nat → Nat → Nat)
  | 0 => (fun _ _ => 0, fun _ _ => 0)
  | i + 1 => (upd (st i).1 i (vec P F i (st i)), upd (st i).2 (P i) (vec P F i (st i)))
def V (i q : Nat) : Nat := vec P F i (st P F i) q
def Lat (i p q : Nat) : Nat := (st P F i).2 p q
def C : Nat → Nat → Nat
  | 0, _ => 0
  | i + 1, p => C i p + if p = P i then 1 else 0
def A (i k : Nat) : Prop := k < i ∧ C P k (P k) + 1 ≤ V P F i (P k)
instance (i k : Nat) : Decidable (A P F i k) := by unfold A; infer_instance
theorem st_fst (n k : Nat) (h : k < n) (q : Nat) : (st P F n).1 k q = V P F k q := by
  induction n with
  | zero => omega
  | succ n ih =>
    by_cases hk : k = n
    · subst hk; simp [st, upd, V]
    · simp only [st]; rw [upd_other _ _ _ _ hk]; exact ih (by omega)
theorem Lat_zero (p q : Nat) : Lat P F 0 p q = 0 := rfl
theorem Lat_succ (i p q : Nat) : Lat P F (i + 1) p q = if p = P i then V P F i q else Lat P F i p q := by
  unfold Lat V
  simp only [st, upd]
  split <;> rfl
variable (hF : ∀ i k, F i = some k → k < i)
include hF
omit hF in
theorem V_none (i q : Nat) (h : F i = none) : V P F i q = Lat P F i (P i) q + if q = P i then 1 else 0 := by
  unfold V vec Lat; rw [h]; simp
theorem V_some (i q k : Nat) (h : F i = some k) : V P F i q = max (Lat P F i (P i) q) (V P F k q) + if q = P i then 1 else 0 := by
  rw [show V P F i q = vec P F i (st P F i) q from rfl]
  unfold vec Lat; rw [h]; simp only [st_fst P F i k (hF i k h)]
omit hF in
theorem C_mono (p : Nat) {i j : Nat} (h : i ≤ j) : C P i p ≤ C P j p := by
  induction j with
  | zero => have : i = 0 := by omega
            subst this; exact Nat.le_refl _
  | succ j ih =>
    by_cases hk : i = j + 1
    · subst hk; exact Nat.le_refl _
    · have := ih (by omega); simp only [C]; omega
omit hF in
theorem C_own (k : Nat) : C P (k + 1) (P k) = C P k (P k) + 1 := by simp [C]
theorem bound (n : Nat) : (∀ p q, Lat P F n p q ≤ C P n q) ∧ (∀ p, Lat P F n p p = C P n p) ∧ ∀ k, k < n → (∀ q, V P F k q ≤ C P (k + 1) q) ∧ V P F k (P k) = C P k (P k) + 1 := by
  induction n with
  | zero => exact ⟨fun p q => by simp [Lat_zero], fun p => by simp [Lat_zero, C], fun k hk => absurd hk (by omega)⟩
  | succ n ih =>
    obtain ⟨h1, h2, h3⟩ := ih
    have hv : (∀ q, V P F n q ≤ C P (n + 1) q) ∧ V P F n (P n) = C P n (P n) + 1 := by
      cases hf : F n with
      | none =>
        refine ⟨fun q => ?_, ?_⟩
        · rw [V_none P F n q hf]; have := h1 (P n) q; simp only [C]; omega
        · rw [V_none P F n _ hf, h2]; simp
      | some k =>
        have hk := hF n k hf
        refine ⟨fun q => ?_, ?_⟩
        · rw [V_some P F hF n q k hf]
          have a := h1 (P n) q
          have b := (h3 k hk).1 q
          have c := C_mono P q (show k + 1 ≤ n by omega)
          simp only [C]; omega
        · rw [V_some P F hF n _ k hf, h2]
          have b := (h3 k hk).1 (P n)
          have c := C_mono P (P n) (show k + 1 ≤ n by omega)
          simp only [if_true]; omega
    refine ⟨fun p q => ?_, fun p => ?_, fun k hk => ?_⟩
    · rw [Lat_succ]
      split
      · exact hv.1 q
      · have := h1 p q; simp only [C]; omega
    · rw [Lat_succ]
      split
      next h => subst h; rw [hv.2]; simp [C]
      next h => rw [h2]; simp [C, h]
    · by_cases hkn : k = n
      · subst hkn; exact hv
      · exact h3 k (by omega)
theorem V_le_C (k q : Nat) : V P F k q ≤ C P (k + 1) q := ((bound P F hF (k + 1)).2.2 k (by omega)).1 q
theorem V_own (k : Nat) : V P F k (P k) = C P k (P k) + 1 := ((bound P F hF (k + 1)).2.2 k (by omega)).2
theorem Lat_le_C (n p q : Nat) : Lat P F n p q ≤ C P n q := (bound P F hF n).1 p q
theorem Lat_le_V (i q : Nat) : Lat P F i (P i) q ≤ V P F i q := by
  cases hf : F i with
  | none => rw [V_none P F i q hf]; omega
  | some k => rw [V_some P F hF i q k hf]; omega
theorem F_le_V (i k q : Nat) (h : F i = some k) : V P F k q ≤ V P F i q := by
  rw [V_some P F hF i q k h]; omega
theorem V_le_Lat (i p q k : Nat) (hk : k < i) (hp : P k = p) : V P F k q ≤ Lat P F i p q := by
  induction i with
  | zero => omega
  | succ i ih =>
    rw [Lat_succ]
    by_cases hki : k = i
    · subst hki; simp [hp]
    · have h := ih (by omega)
      split
      next hpi => subst hpi; exact Nat.le_trans h (Lat_le_V P F hF i q)
      next => exact h
omit hF in
theorem Lat_is (i p : Nat) : (∀ q, Lat P F i p q = 0) ∨ ∃ k, k < i ∧ P k = p ∧ ∀ q, Lat P F i p q = V P F k q := by
  induction i with
  | zero => exact .inl fun q => rfl
  | succ i ih =>
    by_cases hp : p = P i
    · exact .inr ⟨i, by omega, hp.symm, fun q => by rw [Lat_succ, if_pos hp]⟩
    · rcases ih with h | ⟨k, hk, hkp, h⟩
      · exact .inl fun q => by rw [Lat_succ, if_neg hp]; exact h q
      · exact .inr ⟨k, by omega, hkp, fun q => by rw [Lat_succ, if_neg hp]; exact h q⟩
/-- What stands right ahead of act i: the acts of its process, and the one that its message comes from. -/
def Dir (i k : Nat) : Prop := k < i ∧ (P k = P i ∨ F i = some k)
omit hF in
theorem Dir.lt {i k : Nat} (h : Dir P F i k) : k < i := h.1
theorem Dir.le {i k : Nat} (h : Dir P F i k) (q : Nat) : V P F k q ≤ V P F i q := by
  rcases h with ⟨hk, hp | hf⟩
  · exact Nat.le_trans (V_le_Lat P F hF i (P i) q k hk hp) (Lat_le_V P F hF i q)
  · exact F_le_V P F hF i k q hf
theorem not_late {k j : Nat} (h : C P k (P k) + 1 ≤ V P F j (P k)) : k ≤ j := by
  rcases Nat.lt_or_ge j k with hlt | hge
  · have a := V_le_C P F hF j (P k)
    have b := C_mono P (P k) (show j + 1 ≤ k by omega)
    omega
  · exact hge
theorem A_iff (i k : Nat) : A P F i k ↔ ∃ d, Dir P F i d ∧ (k = d ∨ A P F d k) := by
  constructor
  · rintro ⟨hk, hr⟩
    by_cases hp : P k = P i
    · exact ⟨k, ⟨hk, .inl hp⟩, .inl rfl⟩
    · have key : ∀ d, Dir P F i d → C P k (P k) + 1 ≤ V P F d (P k) → ∃ d, Dir P F i d ∧ (k = d ∨ A P F d k) := fun d hd h => by
        have := not_late P F hF h
        by_cases he : k = d
        · exact ⟨d, hd, .inl he⟩
        · exact ⟨d, hd, .inr ⟨by omega, h⟩⟩
      have lat : C P k (P k) + 1 ≤ Lat P F i (P i) (P k) → ∃ d, Dir P F i d ∧ (k = d ∨ A P F d k) := fun h => by
        rcases Lat_is P F i (P i) with h0 | ⟨d, hd, hdp, hl⟩
        · rw [h0] at h; omega
        · rw [hl] at h; exact key d ⟨hd, .inl hdp⟩ h
      cases hf : F i with
      | none => rw [V_none P F i _ hf, if_neg hp] at hr; exact lat (by omega)
      | some f =>
        rw [V_some P F hF i _ f hf, if_neg hp] at hr
        rcases Nat.le_total (Lat P F i (P i) (P k)) (V P F f (P k)) with hm | hm
        · exact key f ⟨hF i f hf, .inr hf⟩ (by omega)
        · exact lat (by omega)
  · rintro ⟨d, hd, h⟩
    have hle := Dir.le P F hF hd (P k)
    rcases h with rfl | ⟨hkd, h⟩
    · exact ⟨hd.1, by rw [V_own P F hF k] at hle; exact hle⟩
    · exact ⟨Nat.lt_trans hkd hd.1, Nat.le_trans h hle⟩
theorem A_le {i k : Nat} (h : A P F i k) (q : Nat) : V P F k q ≤ V P F i q := by
  induction i using Nat.strongRecOn with
  | _ i ih =>
    obtain ⟨d, hd, h⟩ := (A_iff P F hF i k).1 h
    have hle := Dir.le P F hF hd q
    rcases h with rfl | h
    · exact hle
    · exact Nat.le_trans (ih d hd.1 h) hle
/-- Fidge; Mattern: k is ahead of i just where its vector is at most that of i, and it is another. -/
theorem A_iff_le (i k m : Nat) (hk : P k < m) : A P F i k ↔ k ≠ i ∧ ∀ q, q < m → V P F k q ≤ V P F i q := by
  constructor
  · intro h; exact ⟨by have := h.1; omega, fun q _ => A_le P F hF h q⟩
  · rintro ⟨hne, h⟩
    have hr := h (P k) hk
    rw [V_own P F hF k] at hr
    have := not_late P F hF hr
    exact ⟨by omega, hr⟩
theorem rank_le_iff (i k : Nat) (hk : k ≤ i) : (k = i ∨ A P F i k) ↔ C P k (P k) + 1 ≤ V P F i (P k) := by
  constructor
  · rintro (rfl | h)
    · exact Nat.le_of_eq (V_own P F hF k).symm
    · exact h.2
  · intro h
    by_cases he : k = i
    · exact .inl he
    · exact .inr ⟨by omega, h⟩
/-- How many of the first n acts of process q stand ahead of i, or are it. -/
def cnt (i n q : Nat) : Nat := min (V P F i q) (C P n q)
omit hF in
theorem cnt_zero (i q : Nat) : cnt P F i 0 q = 0 := by simp [cnt, C]
theorem cnt_all (i q : Nat) : cnt P F i (i + 1) q = V P F i q := by
  have := V_le_C P F hF i q
  unfold cnt; omega
theorem cnt_yes (i k : Nat) (hk : k ≤ i) (h : k = i ∨ A P F i k) : cnt P F i (k + 1) (P k) = cnt P F i k (P k) + 1 := by
  have := (rank_le_iff P F hF i k hk).1 h
  unfold cnt; rw [C_own]; omega
theorem cnt_no (i k : Nat) (hk : k ≤ i) (h : ¬ (k = i ∨ A P F i k)) : cnt P F i (k + 1) (P k) = cnt P F i k (P k) := by
  have := mt (rank_le_iff P F hF i k hk).2 h
  unfold cnt; rw [C_own]; omega
omit hF in
theorem cnt_other (i k q : Nat) (h : q ≠ P k) : cnt P F i (k + 1) q = cnt P F i k q := by
  unfold cnt; simp [C, h]
/- Lamport's numbers. -/
def num (i : Nat) (s : (Nat → Nat) × (Nat → Nat)) : Nat :=
  max (s.2 (P i)) (match F i with | none => 0 | some k => s.1 k) + 1
def sn : Nat → (Nat → Nat) × (Nat → Nat)
  | 0 => (fun _ => 0, fun _ => 0)
  | i + 1 => (upd (sn i).1 i (num P F i (sn i)), upd (sn i).2 (P i) (num P F i (sn i)))
def N (i : Nat) : Nat := num P F i (sn P F i)
def LN (i p : Nat) : Nat := (sn P F i).2 p
omit hF in
theorem sn_fst (n k : Nat) (h : k < n) : (sn P F n).1 k = N P F k := by
  induction n with
  | zero => omega
  | succ n ih =>
    by_cases hk : k = n
    · subst hk; simp [sn, upd, N]
    · simp only [sn]; rw [upd_other _ _ _ _ hk]; exact ih (by omega)
omit hF in
theorem LN_succ (i p : Nat) : LN P F (i + 1) p = if p = P i then N P F i else LN P F i p := by
  unfold LN N
  simp only [sn, upd]
omit hF in
theorem N_none (i : Nat) (h : F i = none) : N P F i = LN P F i (P i) + 1 := by
  unfold N num LN; rw [h]; simp
theorem N_some (i k : Nat) (h : F i = some k) : N P F i = max (LN P F i (P i)) (N P F k) + 1 := by
  rw [show N P F i = num P F i (sn P F i) from rfl]
  unfold num LN; rw [h]; simp only [sn_fst P F i k (hF i k h)]
theorem LN_lt_N (i : Nat) : LN P F i (P i) < N P F i := by
  cases hf : F i with
  | none => rw [N_none P F i hf]; omega
  | some k => rw [N_some P F hF i k hf]; omega
theorem N_le_LN (i p k : Nat) (hk : k < i) (hp : P k = p) : N P F k ≤ LN P F i p := by
  induction i with
  | zero => omega
  | succ i ih =>
    rw [LN_succ]
    by_cases hki : k = i
    · subst hki; simp [hp]
    · have h := ih (by omega)
      split
      next hpi => subst hpi; have := LN_lt_N P F hF i; omega
      next => exact h
omit hF in
theorem LN_is (i p : Nat) : LN P F i p = 0 ∨ ∃ k, k < i ∧ P k = p ∧ LN P F i p = N P F k := by
  induction i with
  | zero => exact .inl rfl
  | succ i ih =>
    by_cases hp : p = P i
    · exact .inr ⟨i, by omega, hp.symm, by rw [LN_succ, if_pos hp]⟩
    · rcases ih with h | ⟨k, hk, hkp, h⟩
      · exact .inl (by rw [LN_succ, if_neg hp]; exact h)
      · exact .inr ⟨k, by omega, hkp, by rw [LN_succ, if_neg hp]; exact h⟩
theorem Dir.N_lt {i k : Nat} (h : Dir P F i k) : N P F k < N P F i := by
  rcases h with ⟨hk, hp | hf⟩
  · have a := N_le_LN P F hF i (P i) k hk hp
    have b := LN_lt_N P F hF i
    omega
  · rw [N_some P F hF i k hf]; omega
theorem A_N_lt {i k : Nat} (h : A P F i k) : N P F k < N P F i := by
  induction i using Nat.strongRecOn with
  | _ i ih =>
    obtain ⟨d, hd, h⟩ := (A_iff P F hF i k).1 h
    have hl := Dir.N_lt P F hF hd
    rcases h with rfl | h
    · exact hl
    · exact Nat.lt_trans (ih d hd.1 h) hl
theorem N_pos (i : Nat) : 1 ≤ N P F i := by have := LN_lt_N P F hF i; omega
/-- One more than the greatest of those ahead is Lamport's number. -/
theorem N_least (i n : Nat) (h1 : 1 ≤ n) (h2 : n ≤ N P F i) (h : ∀ k, k < i → A P F i k → N P F k < n) : n = N P F i := by
  have dir : ∀ d, Dir P F i d → N P F d < n := fun d hd => h d hd.1 ((A_iff P F hF i d).2 ⟨d, hd, .inl rfl⟩)
  have lat : LN P F i (P i) < n := by
    rcases LN_is P F i (P i) with h0 | ⟨k, hk, hp, he⟩
    · omega
    · rw [he]; exact dir k ⟨hk, .inl hp⟩
  cases hf : F i with
  | none => rw [N_none P F i hf] at h2 ⊢; omega
  | some k =>
    have := dir k ⟨hF i k hf, .inr hf⟩
    rw [N_some P F hF i k hf] at h2 ⊢; omega
theorem N_le (i : Nat) : N P F i ≤ i + 1 := by
  have key : ∀ n, (∀ p, LN P F n p ≤ n) ∧ ∀ k, k < n → N P F k ≤ k + 1 := fun n => by
    induction n with
    | zero => exact ⟨fun p => by simp [LN, sn], fun k hk => absurd hk (by omega)⟩
    | succ n ih =>
      have hv : N P F n ≤ n + 1 := by
        have a := ih.1 (P n)
        cases hf : F n with
        | none => rw [N_none P F n hf]; omega
        | some k => have := hF n k hf; have := ih.2 k this; rw [N_some P F hF n k hf]; omega
      refine ⟨fun p => ?_, fun k hk => ?_⟩
      · rw [LN_succ]; split
        · exact hv
        · have := ih.1 p; omega
      · by_cases hkn : k = n
        · subst hkn; exact hv
        · exact ih.2 k (by omega)
  exact (key (i + 1)).2 i (by omega)
omit hF in
theorem C_le (n p : Nat) : C P n p ≤ n := by
  induction n with
  | zero => simp [C]
  | succ n ih => simp only [C]; split <;> omega
theorem V_le (i q : Nat) : V P F i q ≤ i + 1 := Nat.le_trans (V_le_C P F hF i q) (C_le P (i + 1) q)
/- Cuts. -/
omit hF in
theorem C_onto (q m n : Nat) (h1 : 1 ≤ m) (h2 : m ≤ C P n q) : ∃ k, k < n ∧ P k = q ∧ C P k q + 1 = m := by
  induction n with
  | zero => simp [C] at h2; omega
  | succ n ih =>
    by_cases h : m ≤ C P n q
    · obtain ⟨k, hk, a, b⟩ := ih h; exact ⟨k, by omega, a, b⟩
    · by_cases hp : q = P n
      · refine ⟨n, by omega, hp.symm, ?_⟩
        simp only [C, if_pos hp] at h2; omega
      · simp only [C, if_neg hp] at h2; omega
/-- Act i lies in the cut. -/
def In (cut : Nat → Nat) (i : Nat) : Prop := C P i (P i) + 1 ≤ cut (P i)
instance (cut : Nat → Nat) (i : Nat) : Decidable (In P cut i) := by unfold In; infer_instance
def Whole (cut : Nat → Nat) (n : Nat) : Prop := ∀ i, i < n → In P cut i → ∀ k, A P F i k → In P cut k
theorem in_iff_le (cut : Nat → Nat) (i m : Nat) (hP : ∀ k, k ≤ i → P k < m) : (∀ k, A P F i k → In P cut k) ∧ In P cut i ↔ ∀ q, q < m → V P F i q ≤ cut q := by
  constructor
  · rintro ⟨h, hi⟩ q hq
    rcases Nat.eq_zero_or_pos (V P F i q) with h0 | h0
    · omega
    · obtain ⟨k, hk, hp, hc⟩ := C_onto P q (V P F i q) (i + 1) h0 (V_le_C P F hF i q)
      subst hp
      have : In P cut k := by
        rcases (rank_le_iff P F hF i k (by omega)).2 (by omega) with rfl | ha
        · exact hi
        · exact h k ha
      unfold In at this; omega
  · intro h
    have hi := h (P i) (hP i (Nat.le_refl _))
    rw [V_own P F hF i] at hi
    exact ⟨fun k hk => Nat.le_trans hk.2 (h (P k) (hP k (Nat.le_of_lt hk.1))), hi⟩
theorem whole_iff (cut : Nat → Nat) (n m : Nat) (hP : ∀ k, k < n → P k < m) : Whole P F cut n ↔ ∀ i, i < n → In P cut i → ∀ q, q < m → V P F i q ≤ cut q := by
  constructor
  · intro h i hi hin; exact (in_iff_le P F hF cut i m (fun k hk => hP k (by omega))).1 ⟨h i hi hin, hin⟩
  · intro h i hi hin; exact ((in_iff_le P F hF cut i m (fun k hk => hP k (by omega))).2 (h i hi hin)).1
/-- A cut is whole just where no message comes to it from without. -/
theorem whole_iff_from (cut : Nat → Nat) (n : Nat) : Whole P F cut n ↔ ∀ i, i < n → In P cut i → ∀ k, F i = some k → In P cut k := by
  constructor
  · intro h i hi hin k hk
    exact h i hi hin k ((A_iff P F hF i k).2 ⟨k, ⟨hF i k hk, .inr hk⟩, .inl rfl⟩)
  · intro h i
    induction i using Nat.strongRecOn with
    | _ i ih =>
      intro hi hin k hk
      obtain ⟨d, hd, hkd⟩ := (A_iff P F hF i k).1 hk
      have hdin : In P cut d := by
        rcases hd with ⟨hlt, hp | hf⟩
        · have := C_mono P (P i) (show d ≤ i by omega)
          unfold In at hin ⊢; rw [hp]; omega
        · exact h i hi hin d hf
      rcases hkd with rfl | hkd
      · exact hdin
      · exact ih d hd.1 (by have := hd.1; omega) hdin k hkd
theorem past_whole (j n m : Nat) (hP : ∀ k, k < n → P k < m) : Whole P F (V P F j) n := by
  rw [whole_iff P F hF _ n m hP]
  intro i _ hin q _
  have := not_late P F hF hin
  by_cases he : i = j
  · subst he; exact Nat.le_refl _
  · exact A_le P F hF ⟨by omega, hin⟩ q
end Clk
end M
end Go.Proofs.YtfkeokglifpkoaaDoor
