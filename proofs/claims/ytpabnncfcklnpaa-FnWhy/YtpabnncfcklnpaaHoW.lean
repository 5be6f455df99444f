/-
  Why a goal follows: the rules that are needed, gone through backward. Plain mathematics.
-/
import Derived.Test.YtpabnncfcklnpaaHoJ
namespace Go.Proofs.Ytpabnncfcklnpaa
namespace M
namespace Ho
open Clk (upd upd_same upd_other)
/-- A set and the first p of a body. -/
def adb (N : Nat → Bool) (b : Nat → Nat) : Nat → Nat → Bool
  | 0 => N
  | p + 1 => upd (adb N b p) (b p) true
theorem adb_iff {N : Nat → Bool} {b : Nat → Nat} {x : Nat} : ∀ p, adb N b p x = true ↔ N x = true ∨ ∃ j, j < p ∧ b j = x
  | 0 => by simp [adb]
  | p + 1 => by
    simp only [adb]
    by_cases e : x = b p
    · rw [e, upd_same]; simp; exact .inr ⟨p, by omega, rfl⟩
    · rw [upd_other _ _ _ _ e, adb_iff p]
      constructor
      · rintro (h | ⟨j, hj, h⟩)
        · exact .inl h
        · exact .inr ⟨j, by omega, h⟩
      · rintro (h | ⟨j, hj, h⟩)
        · exact .inl h
        · refine .inr ⟨j, ?_, h⟩
          rcases (show j < p ∨ j = p by omega) with h1 | h1
          · exact h1
          · subst h1; exact absurd h.symm e
def addB (N : Nat → Bool) (r : Rl) : Nat → Bool := adb N r.bd r.nb
theorem addB_other {N : Nat → Bool} {r : Rl} {x : Nat} (h : ∀ j, j < r.nb → r.bd j ≠ x) : addB N r x = N x := by
  rw [Bool.eq_iff_iff]
  unfold addB
  rw [adb_iff]
  constructor
  · rintro (h1 | ⟨j, hj, e⟩)
    · exact h1
    · exact absurd e (h j hj)
  · exact .inl
/-- One that came is gone through, backward. -/
def bst (l : Nat → Rl) (g : Nat → Bool) (e : Nat × Option Nat) (N : Nat → Bool) : Nat → Bool :=
  match e.2 with
  | some i => if N e.1 && !g e.1 then addB N (l i) else N
  | none => N
def bk (l : Nat → Rl) (g : Nat → Bool) (N0 : Nat → Bool) (q : List (Nat × Option Nat)) : Nat → Bool := q.foldr (bst l g) N0
/-- Those of the rules that are needed. -/
def sl1 (g N : Nat → Bool) (e : Nat × Option Nat) : Option Nat := if N e.1 && !g e.1 then e.2 else none
def sel (g N : Nat → Bool) (q : List (Nat × Option Nat)) : List Nat := q.filterMap (sl1 g N)
/-- The program's step on the set and on the rules so far. -/
def wst (l : Nat → Rl) (g : Nat → Bool) (s : (Nat → Bool) × List Nat) (i : Nat) : (Nat → Bool) × List Nat :=
  if s.1 (l i).hd && !g (l i).hd then (addB s.1 (l i), s.2 ++ [i]) else s
def wfo (l : Nat → Rl) (g N0 : Nat → Bool) (pre : List Nat) : (Nat → Bool) × List Nat := pre.foldl (wst l g) (N0, [])
theorem wfo_snoc (l : Nat → Rl) (g N0 : Nat → Bool) (pre : List Nat) (i : Nat) : wfo l g N0 (pre ++ [i]) = wst l g (wfo l g N0 pre) i := by unfold wfo; rw [List.foldl_append]; rfl
theorem wfo_len (l : Nat → Rl) (g N0 : Nat → Bool) (pre : List Nat) : (wfo l g N0 pre).2.length ≤ pre.length := by
  have key : ∀ (p : List Nat) (s : (Nat → Bool) × List Nat), (p.foldl (wst l g) s).2.length ≤ s.2.length + p.length := by
    intro p
    induction p with
    | nil => intro s; exact Nat.le_refl _
    | cons i p ih =>
      intro s
      have h1 := ih (wst l g s i)
      have h2 : (wst l g s i).2.length ≤ s.2.length + 1 := by unfold wst; split <;> simp
      show (p.foldl (wst l g) (wst l g s i)).2.length ≤ s.2.length + (p.length + 1)
      omega
  have := key pre (N0, [])
  unfold wfo
  simpa using this
theorem fm_congr {α β : Type} {f g : α → Option β} : ∀ {L : List α}, (∀ a, a ∈ L → f a = g a) → L.filterMap f = L.filterMap g
  | [], _ => rfl
  | a :: L, h => by
    rw [List.filterMap_cons, List.filterMap_cons, h a (by simp), fm_congr (L := L) fun b hb => h b (by simp [hb])]
theorem bk_drop {l : Nat → Rl} {g N0 : Nat → Bool} {q : List (Nat × Option Nat)} {r : Nat} {e : Nat × Option Nat} (h : q[r]? = some e) : bk l g N0 (q.drop r) = bst l g e (bk l g N0 (q.drop (r + 1))) := by
  obtain ⟨hr, e'⟩ := List.getElem?_eq_some_iff.1 h
  rw [List.drop_eq_getElem_cons hr, e']; rfl
theorem sel_take {g N : Nat → Bool} {q : List (Nat × Option Nat)} {r : Nat} {e : Nat × Option Nat} (h : q[r]? = some e) : sel g N (q.take (r + 1)) = sel g N (q.take r) ++ (sl1 g N e).toList := by
  unfold sel
  rw [List.take_add_one, h, List.filterMap_append]
  cases hs : sl1 g N e <;> simp [hs]
theorem wfo_is {l : Nat → Rl} {g N0 : Nat → Bool} : ∀ (B A : List (Nat × Option Nat)), (ns (A ++ B)).Nodup → (∀ e, e ∈ B → ∀ i, e.2 = some i → (l i).hd = e.1) →
    (∀ A' e B', A ++ B = A' ++ e :: B' → ∀ i, e.2 = some i → In (l i) (ns A')) → wfo l g N0 (fst B).reverse = (bk l g N0 B, (sel g (bk l g N0 B) B).reverse)
  | [], _, _, _, _ => rfl
  | e :: B, A, hnd, hs, ho => by
    have hAB : A ++ e :: B = (A ++ [e]) ++ B := by simp
    have ih := wfo_is (l := l) (g := g) (N0 := N0) B (A ++ [e]) (by rw [← hAB]; exact hnd) (fun e' h => hs e' (by simp [h])) (fun A' e' B' h => ho A' e' B' (by rw [hAB]; exact h))
    rcases he : e.2 with _ | i
    · have h1 : fst (e :: B) = fst B := by simp [fst, he]
      have h2 : bk l g N0 (e :: B) = bk l g N0 B := by show bst l g e (bk l g N0 B) = _; unfold bst; rw [he]
      have h3 : ∀ N, sel g N (e :: B) = sel g N B := fun N => by
        unfold sel; rw [List.filterMap_cons]
        have : sl1 g N e = none := by unfold sl1; rw [he]; split <;> rfl
        rw [this]
      rw [h1, h2, h3, ih]
    · have h1 : fst (e :: B) = i :: fst B := by simp [fst, he]
      have hhd := hs e (by simp) i he
      rw [h1, List.reverse_cons, wfo_snoc, ih]
      have hb : bk l g N0 (e :: B) = if bk l g N0 B e.1 && !g e.1 then addB (bk l g N0 B) (l i) else bk l g N0 B := by
        show bst l g e (bk l g N0 B) = _; unfold bst; rw [he]
      unfold wst
      simp only [hhd]
      cases hc : (bk l g N0 B e.1 && !g e.1)
      · rw [hb, hc]
        have h3 : sel g (bk l g N0 B) (e :: B) = sel g (bk l g N0 B) B := by
          unfold sel; rw [List.filterMap_cons]
          have : sl1 g (bk l g N0 B) e = none := by unfold sl1; rw [hc]; rfl
          rw [this]
        simp [h3]
      · rw [hb, hc]
        simp only [if_true]
        have hin := ho A e B rfl i he
        have key : ∀ e', e' ∈ B → addB (bk l g N0 B) (l i) e'.1 = bk l g N0 B e'.1 := fun e' h => addB_other fun j hj h' => by
          have hm := hin j hj
          rw [h'] at hm
          rw [ns_append, List.nodup_append] at hnd
          exact hnd.2.2 _ hm e'.1 (List.mem_map_of_mem (by simp [h])) rfl
        have h3 : sel g (addB (bk l g N0 B) (l i)) (e :: B) = i :: sel g (bk l g N0 B) B := by
          unfold sel; rw [List.filterMap_cons]
          have : sl1 g (addB (bk l g N0 B) (l i)) e = some i := by
            unfold sl1
            rw [Bool.and_eq_true] at hc
            have : addB (bk l g N0 B) (l i) e.1 = true := (adb_iff _).2 (.inl hc.1)
            rw [this, hc.2, he]; rfl
          rw [this]
          show i :: B.filterMap (sl1 g (addB (bk l g N0 B) (l i))) = _
          rw [fm_congr (f := sl1 g (addB (bk l g N0 B) (l i))) (g := sl1 g (bk l g N0 B)) (L := B) (fun e' h => by unfold sl1; rw [key e' h])]
        rw [h3, List.reverse_cons]
/-- Why, told by both. -/
def why (l : Nat → Rl) (g : Nat → Bool) (x : Nat) (q : List (Nat × Option Nat)) : List Nat := sel g (bk l g (upd (fun _ => false) x true) q) q
theorem why_is {l : Nat → Rl} {k : Nat} {g : Nat → Bool} {s : Sta} (h : Inv l k g s) (x : Nat) : (wfo l g (upd (fun _ => false) x true) (fst s.q).reverse).2 = (why l g x s.q).reverse := by
  rw [wfo_is s.q [] (by simpa using h.nd) (fun e he i hi => (h.som e he i hi).2) (fun A e B hq i hi => h.ord A e B (by simpa using hq) i hi)]
  rfl
theorem why_lt {l : Nat → Rl} {k : Nat} {g : Nat → Bool} {s : Sta} (h : Inv l k g s) {x i : Nat} (hi : i ∈ why l g x s.q) : i < k := by
  unfold why sel at hi
  rw [List.mem_filterMap] at hi
  obtain ⟨e, he, hs⟩ := hi
  unfold sl1 at hs
  split at hs
  · exact (h.som e he i hs).1
  · cases hs
theorem why_len {l : Nat → Rl} {k : Nat} {g : Nat → Bool} {s : Sta} (h : Inv l k g s) (x : Nat) : (why l g x s.q).length ≤ 40 := by
  unfold why sel
  have := List.length_filterMap_le (sl1 g (bk l g (upd (fun _ => false) x true) s.q)) s.q
  have := h.len; omega
end Ho
end M
end Go.Proofs.Ytpabnncfcklnpaa
