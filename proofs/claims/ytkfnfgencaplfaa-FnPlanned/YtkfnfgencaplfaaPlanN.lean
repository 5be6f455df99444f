/-
  All that a task needs, also by way of others: the mathematics of both texts.
-/
import Derived.Test.YtkfnfgencaplfaaPlanE
namespace Go.Proofs.Ytkfnfgencaplfaa
open Go.RowKit M
open Clk (upd upd_same upd_other)
namespace M
def need (ts : Nat → Tk) (x j : Nat) : Nat := ((ts x).fn j).toNat
inductive Nd (ts : Nat → Tk) (t : Nat) : Nat → Prop
  | one {j : Nat} (h : j < (ts t).nn) : Nd ts t (need ts t j)
  | more {y j : Nat} (hy : Nd ts t y) (h : j < (ts y).nn) : Nd ts t (need ts y j)
theorem Nd.lt {k : Nat} {ts : Nat → Tk} {t : Nat} (hB : Bnd k ts) (ht : t < k) {y : Nat} (h : Nd ts t y) : y < k := by
  induction h with
  | one h => obtain ⟨z, _, hz, e⟩ := hB.need ht h; unfold need; omega
  | more _ h ih => obtain ⟨z, _, hz, e⟩ := hB.need ih h; unfold need; omega
/-- The first j needs of x are set. -/
def setN (ts : Nat → Tk) (s : Nat → Bool) (x : Nat) : Nat → (Nat → Bool)
  | 0 => s
  | j + 1 => upd (setN ts s x j) (need ts x j) true
theorem setN_iff (ts : Nat → Tk) (s : Nat → Bool) (x y : Nat) : ∀ j, setN ts s x j y = true ↔ (s y = true ∨ ∃ i, i < j ∧ need ts x i = y)
  | 0 => by simp [setN]
  | j + 1 => by
    simp only [setN]
    unfold upd
    split
    · rename_i e
      constructor
      · intro _; exact .inr ⟨j, by omega, e.symm⟩
      · intro _; rfl
    · rename_i e
      rw [setN_iff ts s x y j]
      constructor
      · rintro (h | ⟨i, hi, h⟩)
        · exact .inl h
        · exact .inr ⟨i, by omega, h⟩
      · rintro (h | ⟨i, hi, h⟩)
        · exact .inl h
        · rcases (show i < j ∨ i = j by omega) with h' | h'
          · exact .inr ⟨i, h', h⟩
          · subst h'; exact absurd h.symm e
def ndS (ts : Nat → Tk) (t : Nat) (s : Nat → Bool) (x : Nat) : Nat → Bool := if (decide (x = t) || s x) = true then setN ts s x (ts x).nn else s
def nds (ts : Nat → Tk) (t : Nat) (l : List Nat) : Nat → Bool := l.foldl (ndS ts t) (fun _ => false)
theorem nds_snoc (ts : Nat → Tk) (t : Nat) (l : List Nat) (x : Nat) : nds ts t (l ++ [x]) = ndS ts t (nds ts t l) x := by unfold nds; rw [List.foldl_append]; rfl
theorem ord_nodup (ts : Nat → Tk) (k : Nat) : ∀ i, (ord ts k i).Nodup
  | 0 => by simp [ord]
  | i + 1 => by
    have ih := ord_nodup ts k i
    cases h : nx ts (mem (ord ts k i)) (mem (ord ts k i)) k with
    | none => simp only [ord, h]; exact ih
    | some x =>
      simp only [ord, h]
      have hr := (nx_some h).2
      unfold rdy mem at hr
      simp only [Bool.and_eq_true, Bool.not_eq_true', decide_eq_false_iff_not] at hr
      rw [List.nodup_append]
      exact ⟨ih, by simp, fun a ha b hb => by simp at hb; subst hb; exact fun e => hr.1 (by rw [← e]; exact ha)⟩
theorem ord_topo (ts : Nat → Tk) (k : Nat) : ∀ i A y B, ord ts k i = A ++ y :: B → ∀ j, j < (ts y).nn → need ts y j ∈ A
  | 0, A, y, B, h => by simp [ord] at h
  | i + 1, A, y, B, h => by
    cases hn : nx ts (mem (ord ts k i)) (mem (ord ts k i)) k with
    | none => simp only [ord, hn] at h; exact ord_topo ts k i A y B h
    | some x =>
      simp only [ord, hn] at h
      rcases List.eq_nil_or_concat B with hB | ⟨B', b, hB⟩
      · subst hB
        obtain ⟨h1, h2⟩ := List.append_inj' h rfl
        simp at h2
        subst h2
        rw [← h1]
        intro j hj
        have hr := (nx_some hn).2
        unfold rdy at hr
        simp only [Bool.and_eq_true] at hr
        have := (allN_iff _ _ _).1 hr.2 j hj
        unfold mem at this
        exact of_decide_eq_true this
      · subst hB
        rw [List.concat_eq_append, ← List.cons_append, ← List.append_assoc] at h
        exact ord_topo ts k i A y B' (List.append_inj' h rfl).1
theorem rev_topo {ts : Nat → Tk} {k : Nat} {pre : List Nat} {y : Nat} (h : pre ++ [y] <+: (ord ts k k).reverse) {j : Nat} (hj : j < (ts y).nn) : need ts y j ∉ pre ++ [y] := by
  obtain ⟨t, ht⟩ := h
  have e : ord ts k k = t.reverse ++ y :: pre.reverse := by
    have := congrArg List.reverse ht
    rw [List.reverse_reverse] at this
    rw [← this]; simp
  have h1 := ord_topo ts k k _ _ _ e j hj
  have h2 := ord_nodup ts k k
  rw [e, List.nodup_append] at h2
  intro hm
  exact h2.2.2 _ h1 _ (by simp at hm ⊢; rcases hm with h | h <;> simp [h]) rfl
theorem whole_mem {ts : Nat → Tk} {k x : Nat} (h : Whole ts k) (hx : x < k) : x ∈ ord ts k k := by
  cases hm : mem (ord ts k k) x with
  | true => exact of_decide_eq_true hm
  | false =>
    have := cnt_lt hm k hx
    rw [ord_cnt] at this
    unfold Whole at h
    omega
theorem nds_sound (ts : Nat → Tk) (t : Nat) (R : List Nat) : ∀ m, m ≤ R.length → ∀ y, nds ts t (R.take m) y = true → Nd ts t y
  | 0, _, y, h => by simp [nds] at h
  | m + 1, hm, y, h => by
    have ih := nds_sound ts t R m (by omega)
    rw [take_snoc (show m < R.length by omega), nds_snoc] at h
    unfold ndS at h
    split at h
    · rename_i hc
      rw [setN_iff] at h
      rcases h with h | ⟨i, hi, rfl⟩
      · exact ih y h
      · rw [Bool.or_eq_true, decide_eq_true_eq] at hc
        rcases hc with hc | hc
        · rw [hc] at hi ⊢; exact .one hi
        · exact .more (ih _ hc) hi
    · exact ih y h
theorem nds_closed {ts : Nat → Tk} {k t : Nat} : ∀ m, m ≤ (ord ts k k).reverse.length → ∀ x, x ∈ (ord ts k k).reverse.take m → (x = t ∨ nds ts t ((ord ts k k).reverse.take m) x = true) → ∀ j, j < (ts x).nn → nds ts t ((ord ts k k).reverse.take m) (need ts x j) = true
  | 0, _, x, hx => by simp at hx
  | m + 1, hm, x, hx => by
    have hml : m < (ord ts k k).reverse.length := by omega
    have ih := nds_closed (ts := ts) (k := k) (t := t) m (by omega)
    have hp : (ord ts k k).reverse.take m ++ [(ord ts k k).reverse[m]] <+: (ord ts k k).reverse := by rw [← take_snoc hml]; exact List.take_prefix _ _
    rw [take_snoc hml] at hx ⊢
    generalize (ord ts k k).reverse.take m = pre at *
    generalize (ord ts k k).reverse[m] = y at *
    rw [nds_snoc]
    have hno : ∀ z, z ∈ pre ++ [y] → (ndS ts t (nds ts t pre) y z = true ↔ nds ts t pre z = true) := fun z hz => by
      unfold ndS
      split
      · rw [setN_iff]
        constructor
        · rintro (h | ⟨i, hi, rfl⟩)
          · exact h
          · exact absurd hz (rev_topo hp hi)
        · exact .inl
      · exact Iff.rfl
    have hmono : ∀ z, nds ts t pre z = true → ndS ts t (nds ts t pre) y z = true := fun z h => by
      unfold ndS
      split
      · rw [setN_iff]; exact .inl h
      · exact h
    intro hc j hj
    have hc' : x = t ∨ nds ts t pre x = true := hc.imp id (fun h => (hno x hx).1 h)
    rcases List.mem_append.1 hx with h | h
    · exact hmono _ (ih x h hc' j hj)
    · simp at h
      subst h
      unfold ndS
      rw [if_pos (by rw [Bool.or_eq_true, decide_eq_true_eq]; exact hc'), setN_iff]
      exact .inr ⟨j, hj, rfl⟩
theorem nds_iff {ts : Nat → Tk} {k t : Nat} (hg : GoodP k ts) (ht : t < k) (y : Nat) : nds ts t (ord ts k k).reverse y = true ↔ Nd ts t y := by
  have hR : (ord ts k k).reverse.take (ord ts k k).reverse.length = (ord ts k k).reverse := List.take_length
  constructor
  · intro h; exact nds_sound ts t (ord ts k k).reverse _ (Nat.le_refl _) y (by rw [hR]; exact h)
  · intro h
    have hc := nds_closed (ts := ts) (k := k) (t := t) _ (Nat.le_refl _)
    rw [hR] at hc
    induction h with
    | one h => exact hc t (List.mem_reverse.2 (whole_mem hg.2 ht)) (.inl rfl) _ h
    | more hy h ih => exact hc _ (List.mem_reverse.2 (whole_mem hg.2 (hy.lt hg.1 ht))) (.inr ih) _ h
/-- What is in d of the first i. -/
def sel (d : Nat → Bool) (i : Nat) : List Nat := (List.range i).filter d
theorem sel_yes {d : Nat → Bool} {i : Nat} (h : d i = true) : sel d (i + 1) = sel d i ++ [i] := by unfold sel; rw [List.range_succ, List.filter_append]; simp [h]
theorem sel_no {d : Nat → Bool} {i : Nat} (h : d i = false) : sel d (i + 1) = sel d i := by unfold sel; rw [List.range_succ, List.filter_append]; simp [h]
theorem sel_len (d : Nat → Bool) (i : Nat) : (sel d i).length ≤ i := by have := List.length_filter_le d (List.range i); unfold sel; simpa using this
def bv (s : Nat → Bool) : Nat → Value := fun i => .bool (s i)
theorem bv_upd (s : Nat → Bool) (i : Nat) : upd (bv s) i (.bool true) = bv (upd s i true) := by funext j; unfold bv upd; split <;> rfl
theorem Blk.set_bv {w : World} {g n : Nat} {s : Nat → Bool} {t : TypeId} (h : Blk w g n (bv s) t) (i : Nat) : Blk (w.setCell ⟨g, i, none⟩ (.bool true)) g n (bv (upd s i true)) t := by rw [← bv_upd]; exact h.set i _
theorem Blk.cell_bv {w : World} {g n : Nat} {s : Nat → Bool} {t : TypeId} (h : Blk w g n (bv s) t) {i : Nat} (hi : i < n) : w.cell? ⟨g, i, none⟩ = some (.bool (s i)) := h.cell hi
end M
end Go.Proofs.Ytkfnfgencaplfaa
