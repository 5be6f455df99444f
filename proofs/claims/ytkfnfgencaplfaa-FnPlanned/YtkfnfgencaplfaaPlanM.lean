/-
  Plans: lists that rise, the least task that may come next, the order of all. Plain mathematics.
-/
import Derived.Test.YtkfnfgencaplfaaTaskM
namespace Go.Proofs.Ytkfnfgencaplfaa
namespace M
open Clk (upd upd_same upd_other)
def RisAt (f : Nat → Int) (p : Int) (i : Nat) : Prop := (0 ≤ f i ∧ f i ≤ p - 1) ∧ (0 < i → f (i - 1) < f i)
def Ris (n : Nat) (f : Nat → Int) (p : Int) : Prop := ∀ i, i < n → RisAt f p i
instance (f : Nat → Int) (p : Int) (i : Nat) : Decidable (RisAt f p i) := by unfold RisAt; infer_instance
instance (n : Nat) (f : Nat → Int) (p : Int) : Decidable (Ris n f p) := by unfold Ris; infer_instance
def least (f : Nat → Int) (i : Nat) : Int := if i = 0 then 0 else f (i - 1) + 1
theorem least_succ (f : Nat → Int) (i : Nat) : least f (i + 1) = f i + 1 := by simp [least]
theorem ris_least {f : Nat → Int} {p : Int} {i : Nat} (h : ∀ j, j < i → RisAt f p j) : (least f i ≤ f i ∧ f i ≤ p - 1) ↔ RisAt f p i := by
  unfold least RisAt
  by_cases h0 : i = 0
  · subst h0; simp
  · have := (h (i - 1) (by omega)).1.1
    rw [if_neg h0]
    constructor
    · rintro ⟨a, b⟩; exact ⟨⟨by omega, b⟩, fun _ => by omega⟩
    · rintro ⟨⟨a, b⟩, c⟩; exact ⟨by have := c (by omega); omega, b⟩
theorem ris_split {n : Nat} {f : Nat → Int} {p : Int} (k : Nat) (hk : k < n) (h : ¬ RisAt f p k) : ¬ Ris n f p := fun H => h (H k hk)
theorem ris_at0 {f : Nat → Int} {p : Int} (h : 0 ≤ f 0 ∧ f 0 ≤ p - 1) : RisAt f p 0 := ⟨h, fun h => absurd h (by omega)⟩
theorem ris_ge {n : Nat} {f : Nat → Int} {p : Int} (h : Ris n f p) : ∀ i, i < n → (i : Int) ≤ f i
  | 0, hi => by have := (h 0 hi).1.1; omega
  | i + 1, hi => by
    have h1 := ris_ge h i (by omega)
    have h2 := (h (i + 1) hi).2 (by omega)
    simp only [Nat.add_sub_cancel] at h2
    omega
theorem ris_len {n : Nat} {f : Nat → Int} {p : Int} (h : Ris n f p) (hp : 0 ≤ p) : (n : Int) ≤ p := by
  rcases Nat.eq_zero_or_pos n with h0 | h0
  · omega
  · have h1 := ris_ge h (n - 1) (by omega)
    have h2 := (h (n - 1) (by omega)).1.2
    omega
/-- A task within its bounds, of k. -/
def BT (k : Nat) (t : Tk) : Prop := (1 ≤ t.long ∧ t.long ≤ 100) ∧ Ris t.nn t.fn (k : Int)
instance (k : Nat) (t : Tk) : Decidable (BT k t) := by unfold BT; infer_instance
def Bnd (k : Nat) (ts : Nat → Tk) : Prop := k ≤ 30 ∧ ∀ i, i < k → BT k (ts i)
instance (k : Nat) (ts : Nat → Tk) : Decidable (Bnd k ts) := by unfold Bnd; infer_instance
theorem Bnd.need {k : Nat} {ts : Nat → Tk} (h : Bnd k ts) {i j : Nat} (hi : i < k) (hj : j < (ts i).nn) : ∃ z : Nat, (ts i).fn j = (z : Int) ∧ z < k ∧ ((ts i).fn j).toNat = z := by
  have := ((h.2 i hi).2 j hj).1
  obtain ⟨z, hz⟩ := Int.eq_ofNat_of_zero_le this.1
  exact ⟨z, hz, by omega, by omega⟩
theorem Bnd.len {k : Nat} {ts : Nat → Tk} (h : Bnd k ts) {i : Nat} (hi : i < k) : (ts i).nn ≤ k := by
  have := ris_len (h.2 i hi).2 (by omega)
  omega
/-- The first j needs of a task are all over. -/
def allN (t : Tk) (e : Nat → Bool) : Nat → Bool
  | 0 => true
  | j + 1 => allN t e j && e (t.fn j).toNat
theorem allN_iff (t : Tk) (e : Nat → Bool) : ∀ n, allN t e n = true ↔ ∀ j, j < n → e (t.fn j).toNat = true
  | 0 => by simp [allN]
  | n + 1 => by
    simp only [allN, Bool.and_eq_true, allN_iff t e n]
    constructor
    · rintro ⟨h1, h2⟩ j hj
      rcases (show j < n ∨ j = n by omega) with h | h
      · exact h1 j h
      · subst h; exact h2
    · intro h; exact ⟨fun j hj => h j (by omega), h n (by omega)⟩
def rdy (ts : Nat → Tk) (d e : Nat → Bool) (i : Nat) : Bool := !d i && allN (ts i) e (ts i).nn
/-- The least of the first m tasks that has not begun and whose needs are over. -/
def nx (ts : Nat → Tk) (d e : Nat → Bool) : Nat → Option Nat
  | 0 => none
  | m + 1 => match nx ts d e m with
    | some x => some x
    | none => if rdy ts d e m = true then some m else none
theorem nx_some {ts : Nat → Tk} {d e : Nat → Bool} : ∀ {m x : Nat}, nx ts d e m = some x → x < m ∧ rdy ts d e x = true
  | 0, x, h => by simp [nx] at h
  | m + 1, x, h => by
    cases h1 : nx ts d e m with
    | some y =>
      simp only [nx, h1, Option.some.injEq] at h
      subst h
      have := nx_some h1
      exact ⟨by omega, this.2⟩
    | none =>
      simp only [nx, h1] at h
      split at h
      · simp only [Option.some.injEq] at h; subst h; rename_i hr; exact ⟨by omega, hr⟩
      · cases h
theorem nx_none {ts : Nat → Tk} {d e : Nat → Bool} : ∀ {m : Nat}, nx ts d e m = none ↔ ∀ x, x < m → rdy ts d e x = false
  | 0 => by simp [nx]
  | m + 1 => by
    constructor
    · intro h x hx
      cases h1 : nx ts d e m with
      | some y => simp only [nx, h1] at h; cases h
      | none =>
        simp only [nx, h1] at h
        rcases (show x < m ∨ x = m by omega) with h2 | h2
        · exact nx_none.1 h1 x h2
        · subst h2
          split at h
          · cases h
          · rename_i hr; simpa using hr
    · intro h
      have h1 : nx ts d e m = none := nx_none.2 fun x hx => h x (by omega)
      simp only [nx, h1]
      rw [if_neg (by rw [h m (by omega)]; simp)]
/-- The search ends at the first that is ready. -/
theorem nx_stop {ts : Nat → Tk} {d e : Nat → Bool} {j : Nat} (h : nx ts d e j = none) (hr : rdy ts d e j = true) : ∀ m, j < m → nx ts d e m = some j
  | 0, hm => absurd hm (by omega)
  | m + 1, hm => by
    rcases (show j < m ∨ j = m by omega) with h1 | h1
    · simp only [nx, nx_stop h hr m h1]
    · subst h1; simp only [nx, h, if_pos hr]
theorem nx_go {ts : Nat → Tk} {d e : Nat → Bool} {j : Nat} (h : nx ts d e j = none) (hr : rdy ts d e j = false) : nx ts d e (j + 1) = none := by
  simp only [nx, h]; rw [if_neg (by rw [hr]; simp)]
def mem (l : List Nat) : Nat → Bool := fun x => decide (x ∈ l)
theorem mem_snoc (l : List Nat) (y x : Nat) : mem (l ++ [y]) x = (mem l x || decide (x = y)) := by simp [mem]
/-- The tasks in order, i times the least that may come. -/
def ord (ts : Nat → Tk) (k : Nat) : Nat → List Nat
  | 0 => []
  | i + 1 => match nx ts (mem (ord ts k i)) (mem (ord ts k i)) k with
    | none => ord ts k i
    | some x => ord ts k i ++ [x]
theorem ord_stay {ts : Nat → Tk} {k i : Nat} (h : nx ts (mem (ord ts k i)) (mem (ord ts k i)) k = none) : ∀ n, i ≤ n → ord ts k n = ord ts k i
  | 0, hn => by obtain rfl : i = 0 := by omega
                rfl
  | n + 1, hn => by
    by_cases e : i = n + 1
    · subst e; rfl
    · have := ord_stay h n (by omega)
      simp only [ord, this, h]
/-- How many of the first k are in d. -/
def cnt (d : Nat → Bool) : Nat → Nat
  | 0 => 0
  | m + 1 => cnt d m + if d m = true then 1 else 0
theorem cnt_le (d : Nat → Bool) : ∀ m, cnt d m ≤ m
  | 0 => Nat.le_refl _
  | m + 1 => by have := cnt_le d m; simp only [cnt]; split <;> omega
theorem cnt_lt {d : Nat → Bool} {x : Nat} (h : d x = false) : ∀ m, x < m → cnt d m < m
  | 0, hm => absurd hm (by omega)
  | m + 1, hm => by
    rcases (show x < m ∨ x = m by omega) with h1 | h1
    · have := cnt_lt h m h1; simp only [cnt]; split <;> omega
    · subst h1; have := cnt_le d x; simp only [cnt, h]; simp; omega
theorem cnt_congr {d e : Nat → Bool} : ∀ m, (∀ x, x < m → d x = e x) → cnt d m = cnt e m
  | 0, _ => rfl
  | m + 1, h => by simp only [cnt, cnt_congr m fun x hx => h x (by omega), h m (by omega)]
theorem cnt_add {d e : Nat → Bool} {y : Nat} (hy : d y = false) (he : ∀ x, e x = (d x || decide (x = y))) : ∀ m, y < m → cnt e m = cnt d m + 1
  | 0, hm => absurd hm (by omega)
  | m + 1, hm => by
    rcases (show y < m ∨ y = m by omega) with h1 | h1
    · have := cnt_add hy he m h1
      simp only [cnt, this, he m, show decide (m = y) = false by simp; omega, Bool.or_false]; omega
    · subst h1
      have : cnt e y = cnt d y := cnt_congr y fun x hx => by rw [he x]; simp; omega
      simp only [cnt, this, he y, hy]; simp
theorem ord_cnt (ts : Nat → Tk) (k : Nat) : ∀ i, cnt (mem (ord ts k i)) k = (ord ts k i).length
  | 0 => by
    have : cnt (mem []) k = 0 := by
      have : ∀ m, cnt (mem []) m = 0 := fun m => by
        induction m with
        | zero => rfl
        | succ m ih => simp [cnt, ih, mem]
      exact this k
    exact this
  | i + 1 => by
    cases h : nx ts (mem (ord ts k i)) (mem (ord ts k i)) k with
    | none => simp only [ord, h]; exact ord_cnt ts k i
    | some x =>
      simp only [ord, h]
      obtain ⟨hx, hr⟩ := nx_some h
      have hd : mem (ord ts k i) x = false := by
        unfold rdy at hr
        simp only [Bool.and_eq_true, Bool.not_eq_true'] at hr
        exact hr.1
      rw [cnt_add hd (fun y => mem_snoc _ _ _) k hx, ord_cnt ts k i]; simp
theorem ord_len_le (ts : Nat → Tk) (k i : Nat) : (ord ts k i).length ≤ k := by rw [← ord_cnt]; exact cnt_le _ _
theorem ord_len_i (ts : Nat → Tk) (k : Nat) : ∀ i, (ord ts k i).length ≤ i
  | 0 => Nat.le_refl _
  | i + 1 => by
    have := ord_len_i ts k i
    cases h : nx ts (mem (ord ts k i)) (mem (ord ts k i)) k with
    | none => simp only [ord, h]; omega
    | some x => simp only [ord, h]; simp; omega
theorem ord_lt (ts : Nat → Tk) (k : Nat) : ∀ i x, x ∈ ord ts k i → x < k
  | 0, x, h => by simp [ord] at h
  | i + 1, x, h => by
    cases h1 : nx ts (mem (ord ts k i)) (mem (ord ts k i)) k with
    | none => simp only [ord, h1] at h; exact ord_lt ts k i x h
    | some y =>
      simp only [ord, h1, List.mem_append, List.mem_singleton] at h
      rcases h with h | h
      · exact ord_lt ts k i x h
      · subst h; exact (nx_some h1).1
/-- As long as each time one was found there are as many as times. -/
def Run (ts : Nat → Tk) (k i : Nat) : Prop := (ord ts k i).length = i
theorem Run.next {ts : Nat → Tk} {k i x : Nat} (h : Run ts k i) (hx : nx ts (mem (ord ts k i)) (mem (ord ts k i)) k = some x) : Run ts k (i + 1) ∧ ord ts k (i + 1) = ord ts k i ++ [x] := by
  have e : ord ts k (i + 1) = ord ts k i ++ [x] := by simp only [ord, hx]
  unfold Run at *
  exact ⟨by rw [e]; simp [h], e⟩
theorem Run.le {ts : Nat → Tk} {k i : Nat} (h : Run ts k i) : i ≤ k := by have := ord_len_le ts k i; unfold Run at h; omega
/-- All have come just where k times one was found. -/
def Whole (ts : Nat → Tk) (k : Nat) : Prop := (ord ts k k).length = k
instance (ts : Nat → Tk) (k : Nat) : Decidable (Whole ts k) := by unfold Whole; infer_instance
theorem end_of_none {ts : Nat → Tk} {k i : Nat} (h : Run ts k i) (hn : nx ts (mem (ord ts k i)) (mem (ord ts k i)) k = none) : ord ts k k = ord ts k i := ord_stay hn k h.le
theorem none_at_end {ts : Nat → Tk} {k : Nat} (h : Run ts k k) : nx ts (mem (ord ts k k)) (mem (ord ts k k)) k = none := by
  cases hx : nx ts (mem (ord ts k k)) (mem (ord ts k k)) k with
  | none => rfl
  | some x => have := (h.next hx).1.le; omega
/-- The order of all, as far as it goes; any count of k or more times tells it. -/
theorem ord_end {ts : Nat → Tk} {k i : Nat} (h : Run ts k i) (hn : nx ts (mem (ord ts k i)) (mem (ord ts k i)) k = none) : (Whole ts k ↔ i = k) := by
  unfold Whole
  rw [end_of_none h hn]
  unfold Run at h
  rw [h]
theorem ord_pre (ts : Nat → Tk) (k : Nat) {i : Nat} : ∀ n, i ≤ n → ord ts k i <+: ord ts k n
  | 0, hn => by obtain rfl : i = 0 := by omega
                exact List.prefix_refl _
  | n + 1, hn => by
    by_cases e : i = n + 1
    · subst e; exact List.prefix_refl _
    · have h1 := ord_pre ts k n (show i ≤ n by omega)
      cases h : nx ts (mem (ord ts k n)) (mem (ord ts k n)) k with
      | none => simp only [ord, h]; exact h1
      | some x => simp only [ord, h]; exact h1.trans (List.prefix_append _ _)
/-- A task that needs itself never comes. -/
theorem self_out {ts : Nat → Tk} {k x j : Nat} (hj : j < (ts x).nn) (he : ((ts x).fn j).toNat = x) : ∀ i, mem (ord ts k i) x = false
  | 0 => by simp [ord, mem]
  | i + 1 => by
    have ih := self_out (k := k) hj he i
    cases h : nx ts (mem (ord ts k i)) (mem (ord ts k i)) k with
    | none => simp only [ord, h]; exact ih
    | some y =>
      simp only [ord, h]
      rw [mem_snoc, ih, Bool.false_or, decide_eq_false_iff_not]
      rintro rfl
      have hr := (nx_some h).2
      unfold rdy at hr
      simp only [Bool.and_eq_true] at hr
      have := (allN_iff _ _ _).1 hr.2 j hj
      rw [he, ih] at this
      cases this
theorem self_not {ts : Nat → Tk} {k x j : Nat} (hx : x < k) (hj : j < (ts x).nn) (he : ((ts x).fn j).toNat = x) : ¬ Whole ts k := by
  intro hw
  have h1 := cnt_lt (self_out (k := k) hj he k) k hx
  rw [ord_cnt] at h1
  unfold Whole at hw
  omega
/-- A good plan. -/
def GoodP (k : Nat) (ts : Nat → Tk) : Prop := Bnd k ts ∧ Whole ts k
instance (k : Nat) (ts : Nat → Tk) : Decidable (GoodP k ts) := by unfold GoodP; infer_instance
end M
end Go.Proofs.Ytkfnfgencaplfaa
