/-
  The mathematics of states that events make: what an event makes of a state, whether it may come, and how many events may.
-/
import Derived.Test.YtcbkeabfnldmhaaGreatDoorJoin2
namespace Go.Proofs.YtcbkeabfnldmhaaGreatDoor
open Go.RowKit M
namespace M
/-- What an event makes of a state, where it may come. -/
def raw (s : St) (e : Ev) : St :=
  if e.kind = 1 then ⟨1, s.nx + 1, s.ca, s.dn, s.sg, s.tm⟩
  else if e.kind = 2 then ⟨s.st, s.nx + 1, s.ca, s.dn, s.sg ++ [e.name], s.tm⟩
  else if e.kind = 3 then ⟨s.st, s.nx + 1, s.ca, s.dn + 1, s.sg, s.tm⟩
  else if e.kind = 4 then ⟨s.st, s.nx + 1, s.ca, s.dn, s.sg, tog s.tm e.name⟩
  else if e.kind = 5 then ⟨s.st, s.nx + 1, true, s.dn, s.sg, s.tm⟩
  else ⟨2, s.nx + 1, s.ca, s.dn, s.sg, []⟩
def Ev.gd (e : Ev) : Bool := goodB e.id e.ver e.kind e.name
def May (s : St) (e : Ev) : Prop := e.gd = true ∧ e.id = s.nx ∧ s.st = (if e.kind = 1 then 0 else 1) ∧ (e.kind = 5 → s.ca = false) ∧ GoodSt (raw s e)
/-- The state behind the first k events. -/
def sk (es : List Ev) (k : Nat) : St := (es.take k).foldl raw st0
theorem sk_zero (es : List Ev) : sk es 0 = st0 := rfl
theorem sk_succ {es : List Ev} {k : Nat} {e : Ev} (h : es[k]? = some e) : sk es (k + 1) = raw (sk es k) e := by
  have hk : k < es.length := by
    rcases Nat.lt_or_ge k es.length with h' | h'
    · exact h'
    · rw [List.getElem?_eq_none h'] at h; cases h
  rw [List.getElem?_eq_getElem hk] at h
  simp only [Option.some.injEq] at h
  unfold sk
  rw [List.take_succ_eq_append_getElem hk, List.foldl_append, h]; rfl
def AllM (es : List Ev) (k : Nat) : Prop := ∀ i e, i < k → es[i]? = some e → May (sk es i) e
theorem AllM.succ {es : List Ev} {k : Nat} {e : Ev} (h : AllM es k) (he : es[k]? = some e) (hm : May (sk es k) e) : AllM es (k + 1) := fun i x hi hx => by
  by_cases c : i = k
  · subst c; rw [he] at hx; simp at hx; subst hx; exact hm
  · exact h i x (by omega) hx
theorem AllM.good {es : List Ev} : ∀ {k : Nat}, AllM es k → k ≤ es.length → GoodSt (sk es k)
  | 0, _, _ => good0
  | k + 1, h, hk => by
    have he : es[k]? = some es[k] := List.getElem?_eq_getElem (by omega)
    rw [sk_succ he]
    exact (h k _ (by omega) he).2.2.2.2
/-- Just k events may come. -/
def End (es : List Ev) (k : Nat) : Prop := k ≤ es.length ∧ AllM es k ∧ ∀ e, es[k]? = some e → ¬ May (sk es k) e
theorem End.uniq {es : List Ev} {k j : Nat} (h : End es k) (h2 : End es j) : k = j := by
  have key : ∀ {k j : Nat}, End es k → End es j → ¬ k < j := fun {k j} h h2 c => by
    have hk : k < es.length := by have := h2.1; omega
    have he : es[k]? = some es[k] := List.getElem?_eq_getElem hk
    exact h.2.2 _ he (h2.2.1 k _ c he)
  have a := key h h2
  have b := key h2 h
  omega
theorem End.ex (es : List Ev) : ∃ k, End es k := by
  have key : ∀ d k, k + d = es.length → AllM es k → ∃ k, End es k := fun d => by
    induction d with
    | zero => exact fun k hk h => ⟨k, by omega, h, fun e he => by rw [List.getElem?_eq_none (by omega)] at he; cases he⟩
    | succ d ih =>
      intro k hk h
      have he : es[k]? = some es[k] := List.getElem?_eq_getElem (by omega)
      by_cases c : May (sk es k) es[k]
      · exact ih (k + 1) (by omega) (h.succ he c)
      · exact ⟨k, by omega, h, fun e h' => by rw [he] at h'; simp at h'; subst h'; exact c⟩
  exact key es.length 0 (by omega) (fun i e hi => by omega)
/-- Versions that do not fall. -/
def Vup (es : List Ev) (n : Nat) : Prop := ∀ i d e, i + 1 < n → es[i]? = some d → es[i + 1]? = some e → d.ver ≤ e.ver
def Hist (es : List Ev) : Prop := es.length ≤ 60 ∧ End es es.length ∧ Vup es es.length
end M
end Go.Proofs.YtcbkeabfnldmhaaGreatDoor
