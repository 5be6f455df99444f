/-
  The longest way of a plan: what is told of it is as long as the whole, and none of it may be late.
-/
import Derived.Test.YtkfnfgencaplfaaPlD
import Derived.Test.YtkfnfgencaplfaaPlanXD
import Derived.Test.YtkfnfgencaplfaaPlanK
namespace Go.Proofs.Ytkfnfgencaplfaa
open Go.RowKit M
namespace M
def ls (ts : Nat → Tk) (l : List Nat) : Int := l.foldl (fun s x => s + (ts x).long) 0
theorem ls_snoc (ts : Nat → Tk) (l : List Nat) (x : Nat) : ls ts (l ++ [x]) = ls ts l + (ts x).long := by unfold ls; rw [List.foldl_append]; rfl
structure CW (k : Nat) (ts : Nat → Tk) (E L : Nat → Int) (all : Int) (l : List Nat) (e : Int) : Prop where
  at_ : AtE k ts E L l.getLast? e
  sum : ls ts l = e
  hi : e ≤ all
  each : ∀ (m x : Nat), l[m]? = some x → x < k ∧ E x = ls ts (l.take m) ∧ L x = E x ∧ (0 < m → ∃ y, l[m - 1]? = some y ∧ ∃ j, j < (ts x).nn ∧ need ts x j = y)
theorem CW.next {k : Nat} {ts : Nat → Tk} {E L : Nat → Int} {all : Int} {l : List Nat} {e : Int} {x : Nat} (h : Tm k ts E L all) (hc : CW k ts E L all l e) (hx : x < k) (hl : L x = e) (hg : Goes ts l.getLast? x) : CW k ts E L all (l ++ [x]) (e + (ts x).long) := by
  have he := h.early hc.at_ hx hl hg
  have h2 := h.l2 x
  refine ⟨by rw [List.getLast?_concat]; exact AtE.step hx hl he, by rw [ls_snoc, hc.sum], by omega, fun m y hy => ?_⟩
  by_cases hm : m < l.length
  · rw [List.getElem?_append_left hm] at hy
    obtain ⟨h3, h4, h5, h6⟩ := hc.each m y hy
    refine ⟨h3, by rw [List.take_append_of_le_length (by omega)]; exact h4, h5, fun h0 => ?_⟩
    obtain ⟨z, hz, hj⟩ := h6 h0
    exact ⟨z, by rw [List.getElem?_append_left (by omega)]; exact hz, hj⟩
  · by_cases hm2 : m = l.length
    · subst hm2
      rw [List.getElem?_append_right (Nat.le_refl _), Nat.sub_self] at hy
      simp only [List.getElem?_cons_zero, Option.some.injEq] at hy
      subst hy
      refine ⟨hx, by rw [List.take_append_of_le_length (Nat.le_refl _), List.take_length, hc.sum]; exact he, by omega, fun h0 => ?_⟩
      cases hll : l.getLast? with
      | none => rw [List.getLast?_eq_none_iff] at hll; subst hll; simp at h0
      | some y =>
        rw [hll] at hg
        refine ⟨y, ?_, hg⟩
        rw [List.getElem?_append_left (by omega), ← List.getLast?_eq_getElem?]; exact hll
    · rw [List.getElem?_eq_none (by simp; omega)] at hy; cases hy
theorem cw_all {k : Nat} {ts : Nat → Tk} {E L : Nat → Int} {all : Int} (hB : Bnd k ts) (h : Tm k ts E L all) : ∀ i : Nat, ∃ l e, cw ts k L i = (l, e) ∧ CW k ts E L all l e ∧ ((i : Int) ≤ e ∨ ¬ e < all)
  | 0 => ⟨[], 0, rfl, ⟨rfl, rfl, h.a0, fun m x hx => by simp at hx⟩, .inl (by simp)⟩
  | i + 1 => by
    obtain ⟨l, e, h1, h2, h3⟩ := cw_all hB h i
    by_cases he : e < all
    · cases hf : fst (pC ts L l e) k with
      | none =>
        obtain ⟨x, hx, g1, g2⟩ := h.next h2.at_ he
        have := fst_none hf x hx
        unfold pC at this
        rw [decide_eq_true g1, (goB_iff hB hx).2 g2] at this
        cases this
      | some x =>
        obtain ⟨hx, hp⟩ := fst_some hf
        unfold pC at hp
        rw [Bool.and_eq_true, decide_eq_true_eq, goB_iff hB hx] at hp
        have := h.lng x hx
        refine ⟨l ++ [x], e + (ts x).long, by simp only [cw, h1, hf], h2.next h hx hp.1 hp.2, .inl ?_⟩
        rcases h3 with h3 | h3
        · omega
        · exact absurd he h3
    · exact ⟨l, e, by simp only [cw, h1, CR.ended h he], h2, .inr he⟩
/-- The critical way is as long as the whole. -/
theorem cw_whole {k : Nat} {ts : Nat → Tk} {E L : Nat → Int} {all : Int} (hB : Bnd k ts) (h : Tm k ts E L all) : CW k ts E L all (cw ts k L all.toNat).1 all := by
  obtain ⟨l, e, h1, h2, h3⟩ := cw_all hB h all.toNat
  have := h.a0
  have := h2.hi
  rw [h1]
  have he : e = all := by omega
  rw [← he]
  rw [he] at h2 ⊢
  exact h2
theorem cw_len (ts : Nat → Tk) (k : Nat) (L : Nat → Int) : ∀ i, (cw ts k L i).1.length ≤ i
  | 0 => by simp [cw]
  | i + 1 => by
    have ih := cw_len ts k L i
    cases hf : fst (pC ts L (cw ts k L i).1 (cw ts k L i).2) k with
    | none => simp only [cw, hf]; omega
    | some x => simp only [cw, hf, List.length_append, List.length_singleton]; omega
theorem ls_le {k : Nat} {ts : Nat → Tk} {E L : Nat → Int} {all : Int} (h : Tm k ts E L all) {l : List Nat} (hc : CW k ts E L all l all) (m : Nat) (hm : m < l.length) : 0 ≤ ls ts (l.take m) ∧ ls ts (l.take m) + (ts l[m]).long ≤ all := by
  obtain ⟨h1, h2, h3, -⟩ := hc.each m l[m] (List.getElem?_eq_getElem hm)
  have := h.e0 l[m]
  have := h.a1 l[m] h1
  omega
end M
end Go.Proofs.Ytkfnfgencaplfaa
