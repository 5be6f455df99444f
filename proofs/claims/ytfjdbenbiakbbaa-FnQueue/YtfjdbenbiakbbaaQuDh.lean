/-
  What was sent, step by step; what has come is a beginning of it.
-/
import Derived.Test.YtfjdbenbiakbbaaQuD
namespace Go.Proofs.Ytfjdbenbiakbbaa
open Go.RowKit M
namespace M
theorem puts_snoc : ∀ (l : List Lst) (ds : List Bool) (s : Lst) (d : Bool), l.length = ds.length → putsOf (l ++ [s]) (ds ++ [d]) = putsOf l ds ++ (if d = true ∧ s.kind = 1 then [s.tx] else [])
  | [], [], s, d, _ => by
    simp only [List.nil_append, putsOf]
  | [], _ :: _, _, _, h => by simp at h
  | _ :: _, [], _, _, h => by simp at h
  | a :: l, b :: ds, s, d, h => by
    have ih := puts_snoc l ds s d (by simpa using h)
    simp only [List.cons_append, putsOf, ih]
    split <;> simp
theorem puts_len : ∀ (l : List Lst) (ds : List Bool), (putsOf l ds).length ≤ l.length
  | [], [] => by simp [putsOf]
  | [], _ :: _ => by simp [putsOf]
  | _ :: _, [] => by simp [putsOf]
  | a :: l, b :: ds => by
    have ih := puts_len l ds
    unfold putsOf
    split
    · simp; omega
    · simp; omega
/-- What has come is a beginning of what was sent. -/
theorem got_take2 {q : Qu} (h : GoodQ q) : q.sent.take q.got.length = q.got := by
  apply List.ext_getElem?
  intro i
  have hgs := h.gs
  by_cases hi : i < q.got.length
  · rw [List.getElem?_take, if_pos hi]
    have hs : q.sent[i]? = some q.sent[i] := List.getElem?_eq_getElem (by omega)
    rw [hs, h.beg i _ hi hs]
  · rw [List.getElem?_eq_none (by rw [List.length_take]; omega), List.getElem?_eq_none (by omega)]
end M
end Go.Proofs.Ytfjdbenbiakbbaa
