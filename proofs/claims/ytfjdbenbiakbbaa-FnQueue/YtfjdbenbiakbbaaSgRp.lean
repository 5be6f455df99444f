/-
  A region that draws its order, reads, and ends in one operation that stands behind all others, be it a deferred call.
-/
import Derived.Test.YtfjdbenbiakbbaaSgR
namespace Go.Proofs.Ytfjdbenbiakbbaa
open Go.RowKit
open Go.Sort (grow)
namespace M
section
variable {P : Program} {C : World → Prop}
/-- No operation is guarded, and each stands behind earlier ones alone. -/
def sOkP (l : List Oper) : Bool := (List.range l.length).all fun i => match l[i]? with
  | some o => o.guard.isNone && o.after.all fun e => !Region.binds .any e || decide (e.on < i)
  | none => false
/-- The shape that both theorems speak of. -/
structure Shape3 (ops ops' : Array Oper) (s : Nat) (st : Oper) : Prop where
  size : ops'.size = ops.size
  top : s + 1 = ops.size
  same : ∀ i, i < s → ops'[i]? = ops[i]?
  at_ : ops[s]? = some st
  at' : ops'[s]? = some (noop st)
  ok : ∀ i o, ops[i]? = some o → o.guard = none ∧ ∀ e ∈ o.after, Region.binds .any e = true → e.on < i
  last : ∀ j, j < s → ∃ k o, j < k ∧ ops[k]? = some o ∧ ∃ e ∈ o.after, Region.binds .any e = true ∧ e.on = j
theorem Shape3.ready {ops ops' : Array Oper} {s : Nat} {st : Oper} (h : Shape3 ops ops' s st) {listed : Array Bool} {i : Nat} : i ∈ Region.ready .any ops' listed ↔ i ∈ Region.ready .any ops listed := by
  rw [mem_ready, mem_ready, h.size]
  refine and_congr_right fun hi => and_congr_right fun _ => ?_
  by_cases hs : i < s
  · rw [h.same i hs]
  · obtain rfl : i = s := by have := h.top; omega
    rw [h.at_, h.at']
    constructor
    · rintro ⟨o, ho, hh⟩; cases ho; exact ⟨st, rfl, hh⟩
    · rintro ⟨o, ho, hh⟩; cases ho; exact ⟨noop st, rfl, hh⟩
/-- As long as the last one is left something may come up. -/
theorem Shape3.some_ready {ops ops' : Array Oper} {s : Nat} {st : Oper} (h : Shape3 ops ops' s st) {listed : Array Bool} (hl : listed.size = ops.size) (hs : listed.getD s true = false) : ∃ i, i ∈ Region.ready .any ops listed := by
  have htop := h.top
  have key : ∀ n, n ≤ s → (∃ i, i ∈ Region.ready .any ops listed) ∨ ∀ j, j < n → listed.getD j true = true := by
    intro n
    induction n with
    | zero => intro _; exact .inr fun j hj => absurd hj (by omega)
    | succ n ih =>
      intro hn
      rcases ih (by omega) with h1 | h1
      · exact .inl h1
      · cases hd : listed.getD n true with
        | true =>
          refine .inr fun j hj => ?_
          rcases (show j < n ∨ j = n by omega) with h2 | h2
          · exact h1 j h2
          · subst h2; exact hd
        | false =>
          refine .inl ⟨n, mem_ready.2 ⟨by omega, hd, ops[n]'(by omega), by simp, fun e he hb => ?_⟩⟩
          have := (h.ok n (ops[n]'(by omega)) (by simp)).2 e he hb
          have h3 := h1 e.on this
          rw [Array.getD_eq_getD_getElem?] at h3 ⊢
          rw [Array.getElem?_eq_getElem (by omega)] at h3 ⊢
          exact h3
  rcases key s (Nat.le_refl _) with h1 | h1
  · exact h1
  · refine ⟨s, mem_ready.2 ⟨by omega, hs, st, h.at_, fun e he hb => ?_⟩⟩
    have := (h.ok s st h.at_).2 e he hb
    have h3 := h1 e.on this
    rw [Array.getD_eq_getD_getElem?] at h3 ⊢
    rw [Array.getElem?_eq_getElem (by omega)] at h3 ⊢
    exact h3
theorem any_storeP {ops ops' : Array Oper} {s : Nat} {st : Oper} (h : Shape3 ops ops' s st) {Qa : Act → Prop} {Q : Exit → Act → World → Prop} (hst : ∀ a w, C w → Qa a → wpList P #[st] Q [st] a w) :
    ∀ (fuel : Nat) (listed : Array Bool) (a : Act) (w : World), listed.size = ops.size → LstD ops listed → listed.getD s true = false → C w → wpAnyQ P .any ops' C Qa fuel listed a → wpAny P .any ops Q fuel listed a w
  | 0, listed, a, w, hl, _, hs, hw, hq => by
    obtain ⟨i, hi⟩ := h.some_ready hl hs
    have := h.ready.2 hi
    rw [hq.1] at this; cases this
  | fuel + 1, listed, a, w, hl, hL, hs, hw, hq => by
    refine ⟨fun h0 => ?_, fun i hi => ?_⟩
    · obtain ⟨i, hi⟩ := h.some_ready hl hs
      rw [h0] at hi; cases hi
    · have hq2 := hq.2 i (h.ready.2 hi)
      obtain ⟨hi1, hi2, o, ho, hi3⟩ := mem_ready.1 hi
      obtain ⟨hg, hon⟩ := h.ok i o ho
      have hli : i < listed.size := by omega
      have hwant : ∀ (ops : Array Oper) (o : Oper), o.guard = none → Region.wanted o (yielded ops a.tmps) = true := fun ops o hg => by simp [Region.wanted, hg]
      by_cases his : i < s
      · have ho' : ops'[i]? = some o := by rw [h.same i his]; exact ho
        unfold qOp at hq2
        simp only [ho', hwant _ o hg, if_true] at hq2
        unfold wpOp
        simp only [ho, hwant _ o hg, if_true]
        refine .inl (Oper.wp_of_quiet hw (fun a' w' hw' hk => any_storeP h hst fuel _ a' w' (by simp [hl]) (hL.set hli fun o' ho' e he hb => by rw [ho] at ho'; cases ho'; exact hi3 e he hb) ?_ hw' hk) hq2)
        rw [getD_set hli, if_neg (by omega)]; exact hs
      · obtain rfl : i = s := by have := h.top; omega
        obtain rfl : o = st := by rw [h.at_] at ho; cases ho; rfl
        have hgn : (noop o).guard = none := hg
        unfold qOp at hq2
        simp only [h.at', hwant _ _ hgn, if_true] at hq2
        obtain ⟨v, _, hk⟩ := hq2
        have hput : a.put (noop o).dst v = a := rfl
        rw [hput] at hk
        have hnone : ∀ j, j ∉ Region.ready .any ops (listed.setIfInBounds i true) := fun j hj => by
          obtain ⟨h1, h2, _⟩ := mem_ready.1 hj
          rw [getD_set hli] at h2
          by_cases hji : j = i
          · rw [if_pos hji] at h2; cases h2
          · rw [if_neg hji] at h2
            have key : ∀ n j, j < i → i - j ≤ n → listed.getD j false = true := by
              intro n
              induction n with
              | zero => intro j hj hn; omega
              | succ n ih =>
                intro j hj hn
                obtain ⟨k, ok, hjk, hok, e, he, hb, heq⟩ := h.last j hj
                have hkt : k < ops.size := (Array.getElem?_eq_some_iff.1 hok).1
                rw [← heq]
                by_cases hki : k = i
                · subst hki; rw [ho] at hok; cases hok; exact hi3 e he hb
                · exact hL k ok hok (ih k (by have := h.top; omega) (by omega)) e he hb
            have := key (i - j) j (by have := h.top; omega) (Nat.le_refl _)
            rw [Array.getD_eq_getD_getElem?] at this h2
            rw [Array.getElem?_eq_getElem (by omega)] at this h2
            simp only [Option.getD_some] at this h2
            rw [this] at h2; cases h2
        have hn0 : Region.ready .any ops (listed.setIfInBounds i true) = [] := List.eq_nil_iff_forall_not_mem.2 hnone
        have hn0' : Region.ready .any ops' (listed.setIfInBounds i true) = [] := List.eq_nil_iff_forall_not_mem.2 fun j hj => hnone j (h.ready.1 hj)
        have hQa : Qa a := by
          cases fuel with
          | zero => exact hk.2
          | succ f => exact hk.1 hn0'
        unfold wpOp
        simp only [h.at_, hwant _ o hg, if_true]
        have q2 := hst a w hw hQa
        have hK : (fun a' w' => Q .normal a' w') = wpAny P .any ops Q fuel (listed.setIfInBounds i true) := by
          funext a' w'
          cases fuel with
          | zero => exact propext ⟨fun hh => ⟨hn0, hh⟩, fun hh => hh.2⟩
          | succ f => exact propext ⟨fun hh => ⟨fun _ => hh, fun j hj => absurd hj (hnone j)⟩, fun hh => hh.1 hn0⟩
        unfold wpList at q2
        rw [if_pos (by simp [Region.wanted, hg])] at q2
        rcases q2 with q2 | q2
        · refine .inl ?_
          rw [← hK]; exact q2
        · exact .inr q2
theorem shape_of3 {l : List Oper} {st : Oper} (hl : l.getLast? = some st) (h1 : sOkP l = true) (h2 : lastOk2 l = true) : Shape3 l.toArray (still l).toArray (l.length - 1) st := by
  have hne : l ≠ [] := fun e => by rw [e] at hl; cases hl
  have hpos : 0 < l.length := List.length_pos_iff.2 hne
  have hstill : still l = l.dropLast ++ [noop st] := by unfold still; rw [hl]; rfl
  have hlen : (still l).length = l.length := by rw [hstill]; simp; omega
  refine ⟨by simp [hlen], by simp; omega, fun i hi => ?_, ?_, ?_, fun i o ho => ?_, fun j hj => ?_⟩
  · rw [List.getElem?_toArray, List.getElem?_toArray, hstill, List.getElem?_append_left (by simp; omega), List.getElem?_dropLast, if_pos hi]
  · rw [List.getElem?_toArray, ← List.getLast?_eq_getElem?]; exact hl
  · rw [List.getElem?_toArray, hstill, List.getElem?_append_right (by simp)]; simp
  · rw [List.getElem?_toArray] at ho
    have hi : i < l.length := (List.getElem?_eq_some_iff.1 ho).1
    unfold sOkP at h1
    rw [List.all_eq_true] at h1
    have := h1 i (List.mem_range.2 hi)
    rw [ho] at this
    simp only [Bool.and_eq_true, Option.isNone_iff_eq_none, Array.all_eq_true_iff_forall_mem] at this
    refine ⟨this.1, fun e he hb => ?_⟩
    have h3 := this.2 e he
    rw [hb] at h3
    simpa using h3
  · unfold lastOk2 at h2
    rw [List.all_eq_true] at h2
    have := h2 j (List.mem_range.2 hj)
    rw [List.any_eq_true] at this
    obtain ⟨k, _, hk⟩ := this
    rw [Bool.and_eq_true, decide_eq_true_eq] at hk
    obtain ⟨hjk, hk⟩ := hk
    cases ho : l[k]? with
    | none => rw [ho] at hk; cases hk
    | some o =>
      rw [ho] at hk
      simp only at hk
      rw [← Array.any_toList, List.any_eq_true] at hk
      obtain ⟨e, he, hb⟩ := hk
      rw [Bool.and_eq_true, beq_iff_eq] at hb
      exact ⟨k, o, hjk, by rw [List.getElem?_toArray]; exact ho, e, by simpa using he, hb.1, hb.2⟩
end
section
variable {P : Program}
theorem region_lastP {l : List Oper} {st : Oper} {id : Nat} {Q : Exit → Act → World → Prop} {a : Act} {w : World} (hl : l.getLast? = some st) (h1 : sOkP l = true) (h2 : lastOk2 l = true) (hm : P.follows .mixedOrders = true) (hB : Region.lexB .any (still l).toArray = true)
    (hq : wpQuiet P (still l).toArray (fun w' => ∃ p : Regrown, w' = grow (redrawn w p.d) p.os) (fun a' => ∀ w', (∃ p : Regrown, w' = grow (redrawn w p.d) p.os) → wpList P #[st] Q [st] a' w') (still l) a) :
    (Code.region id l.toArray true).wp P Q a w := by
  have hsh := shape_of3 hl h1 h2
  simp only [Region.lexB, Bool.and_eq_true] at hB
  have hlen : (still l).length = l.length := by have := hsh.size; simpa using this
  have hpos : 0 < l.length := by have := hsh.top; simp at this; omega
  refine wp_region_any hm ?_
  have hx := wpAnyQ_lex (P := P) (C := fun w' => ∃ p : Regrown, w' = grow (redrawn w p.d) p.os) (md := .any) hB.1 (still l) 0 (Array.replicate (still l).toArray.size false) a (by simp) (by simpa using hB.2) hq
  have := any_storeP (P := P) (C := fun w' => ∃ p : Regrown, w' = grow (redrawn w p.d) p.os) hsh (Q := Q) (fun a' w' hw' hQ => hQ w' hw') (still l).length (Array.replicate (still l).toArray.size false) a { w with drawn := w.drawn + 1 } (by simp [hlen]) (fun i o _ hi => by
    rw [Array.getD_eq_getD_getElem?, Array.getElem?_replicate] at hi; split at hi <;> cases hi) (by
    rw [Array.getD_eq_getD_getElem?, Array.getElem?_replicate, if_pos (by simp [hlen]; omega)]; rfl) ⟨⟨w.drawn + 1, #[]⟩, by rw [Go.Sort.grow_empty]; rfl⟩ hx
  rw [hlen] at this
  simpa [hlen] using this
end
end M
end Go.Proofs.Ytfjdbenbiakbbaa
