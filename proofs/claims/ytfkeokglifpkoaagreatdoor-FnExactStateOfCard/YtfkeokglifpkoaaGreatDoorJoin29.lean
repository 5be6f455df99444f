/-
  A range over an iterator whose body may return early; regions that draw their order and hold calls, in a round of such a range.
-/
import Derived.Test.YtfkeokglifpkoaaGreatDoorJoin28
import Derived.Lib.QuietBelow
import Derived.Shelf.Abstract
import Derived.Shelf.RegionOpen
import Derived.WalkKit
import Derived.OwnWalkIn
import Derived.TacticsInMore
import Derived.LoopNIn
import Derived.LoopIn
namespace Go.Proofs.YtfkeokglifpkoaaGreatDoor
open Go.RowKit
open Go.Sort (grow)
namespace M
/-- An iterator's contract: it yields N times, unless a round says no more, as long as C holds. -/
def SeqS (P : Program) (g : Nat) (lb : Array Value) (enc : Nat → Array Value) (N : Nat) (C : World → Prop) : Prop :=
  ∀ (l : Nat) (J : Nat → World → Prop) (Jx : World → Prop) (W : World), J 0 W → (∀ j A, J j A → C A) →
    (∀ j A, j < N → J j A → YieldAt Fence.wide 1 P l (enc j) A fun e B => (e = .returned (.bool true) ∧ J (j + 1) B) ∨ (e = .returned (.bool false) ∧ Jx B)) →
    CallsIn Fence.wide 2 P g (#[.func (.yield l) #[] #[]] ++ lb) W fun e B => (∃ v, e = .returned v) ∧ (J N B ∨ Jx B)
/-- What a round of the caller's body owes. -/
def RoundS (I : Nat → World → Prop) (Ix : World → Prop) (D j : Nat) (W : World) : Exit → Act → World → Prop :=
  fun e _ B => ((e = .normal ∧ I (j + 1) B) ∨ (e = .ret ∧ Ix B)) ∧ B.heap[D]? = W.heap[D]? ∧ B.heap[D + 1]? = W.heap[D + 1]?
theorem RoundS.on {I : Nat → World → Prop} {Ix : World → Prop} {D j : Nat} {W B : World} {a : Act} (h1 : I (j + 1) B) (h2 : B.heap[D]? = W.heap[D]?) (h3 : B.heap[D + 1]? = W.heap[D + 1]?) : RoundS I Ix D j W .normal a B := ⟨.inl ⟨rfl, h1⟩, h2, h3⟩
theorem RoundS.off {I : Nat → World → Prop} {Ix : World → Prop} {D j : Nat} {W B : World} {a : Act} (h1 : Ix B) (h2 : B.heap[D]? = W.heap[D]?) (h3 : B.heap[D + 1]? = W.heap[D + 1]?) : RoundS I Ix D j W .ret a B := ⟨.inr ⟨rfl, h1⟩, h2, h3⟩
theorem wp_rangeS {P : Program} {g : Operand} {ps : Array Tmp} {assign body : Code} {Q : Exit → Act → World → Prop} {a : Act} {w : World} {gf : Nat} {lb : Array Value} {enc : Nat → Array Value} {N : Nat} {C : World → Prop}
    (hg : a.eval g = .func (.func gf) #[] lb) (eg : ∀ args w, (callFunc gf args).run P w = .ok (.enter gf args) w) (hseq : SeqS P gf lb enc N C) (hps : ∀ j, (enc j).size = ps.size)
    (I : Nat → World → Prop) (Ix : World → Prop) (hI : ∀ j A B, I j A → Kept (fun k => k = w.heap.size + 1) A B → I j B) (hIx : ∀ A B, Ix A → Kept (fun k => k = w.heap.size + 1) A B → Ix B) (hIC : ∀ j A, I j A → C A)
    (h0 : ∀ A, Below w.heap.size w A → A.heap.size = w.heap.size + 2 → I 0 A) (a₁ : Nat → World → Act) (W₁ : Nat → World → World) (hW₁ : ∀ j W, Below W.heap.size W (W₁ j W))
    (hassign : ∀ (l j : Nat) (W : World) (K : Act → World → Prop), K (a₁ j W) (W₁ j W) → assign.wpIn (Fence.wide.inRound l) 1 P (Exit.then K (fun _ _ _ => False)) { tmps := (ps.zip (enc j)).foldl (fun t (p, v) => t.setIfInBounds p v) a.tmps, defers := [] } W)
    (hbody : ∀ (l j : Nat) (W B : World), j < N → I j W → w.heap.size + 2 ≤ W.heap.size → Kept (fun k => k = w.heap.size + 1) (W₁ j W) B → body.wpIn (Fence.wide.inRound l) 1 P (RoundS I Ix w.heap.size j B) (a₁ j W) B)
    (hdone : ∀ (W : World), I N W → W.heap[w.heap.size]? = some (.deferred (some [])) → Q .normal { a with defers := { target := .collected w.heap.size, args := #[] } :: a.defers } W)
    (hleft : ∀ (W : World), Ix W → W.heap[w.heap.size]? = some (.deferred (some [])) → Q .ret { a with defers := { target := .collected w.heap.size, args := #[] } :: a.defers } W) :
    (Code.rangeFunc g ps assign body).wpIn Fence.wide 3 P Q a w := by
  refine wpIn_rangeFunc ?_
  intro fn hfn
  obtain ⟨rec, hrec⟩ : ∃ rec : LoopState → Option Code → Loop, rec = fun st pe => { state := st, pending := pe, fn, tmps := a.tmps, params := ps, assign, body, defers := w.heap.size } := ⟨_, rfl⟩
  obtain ⟨W1, hW1⟩ : ∃ W1, (w.alloc (.deferred (some []))).alloc (.loop (rec .ready none)) = W1 := ⟨_, rfl⟩
  have hL1 : W1.heap[w.heap.size + 1]? = some (.loop (rec .ready none)) := by
    rw [← hW1]; have := World.alloc_heap_new (w.alloc (.deferred (some []))) (.loop (rec .ready none)); rwa [World.size_alloc] at this
  have hK1 : W1.heap[w.heap.size]? = some (.deferred (some [])) := by
    rw [← hW1]; exact (Below.heap_alloc _ _ _ (by simp)).trans (World.alloc_heap_new w _)
  have hbw : Below w.heap.size w W1 := by rw [← hW1]; exact ((Below.refl _ w).alloc (Nat.le_refl _) _).alloc (by simp) _
  have hs1 : W1.heap.size = w.heap.size + 2 := by rw [← hW1]; simp
  refine ⟨w.heap.size + 1, [{ target := .collected w.heap.size, args := #[] }], W1, { target := .fn (.func gf) lb, args := #[.func (.yield (w.heap.size + 1)) #[] #[]] }, W1, gf,
    #[.func (.yield (w.heap.size + 1)) #[] #[]] ++ lb, W1, ?_, ?_, ?_, ?_, fun _ => by omega, ?_⟩
  · rw [← hW1, hrec]; exact run_enterLoop_outer _ _ _ _ _
  · simp only [resolve, hg]
    simp [go_sem]
  · intro f' _; trivial
  · simp [invoke, go_sem, eg]
  · refine (hseq (w.heap.size + 1) (fun j W => I j W ∧ W.heap[w.heap.size + 1]? = some (.loop (rec .ready none)) ∧ W.heap[w.heap.size]? = some (.deferred (some [])))
      (fun W => Ix W ∧ W.heap[w.heap.size + 1]? = some (.loop (rec .done (some .ret))) ∧ W.heap[w.heap.size]? = some (.deferred (some [])))
      W1 ⟨h0 W1 hbw hs1, hL1, hK1⟩ (fun j A hj => hIC j A hj.1) (fun j A hjN hj => ?_)).mono ?_
    · obtain ⟨h2, h3, h4⟩ := hj
      have l3 := (Array.getElem?_eq_some_iff.1 h3).1
      have hy := run_yield (P := P) (args := enc j) h3 (by rw [hrec]; simp [hps])
      rw [hrec] at hy
      have hb1 := hW₁ j A
      have h3' : (W₁ j A).heap[w.heap.size + 1]? = some (.loop (rec .ready none)) := (hb1.block _ l3).trans h3
      have h4' : (W₁ j A).heap[w.heap.size]? = some (.deferred (some [])) := (hb1.block _ (by omega)).trans h4
      have l3' := (Array.getElem?_eq_some_iff.1 h3').1
      refine ⟨fn, _, assign, body, hy, roundIn_of_wpIn hfn (hassign _ j A _ ⟨_, run_beginRound h3' (by rw [hrec]), ?_⟩)⟩
      have hl2 : ((W₁ j A).putObj (w.heap.size + 1) (.loop { rec .ready none with state := .busy })).heap[w.heap.size + 1]? = some (.loop { rec .ready none with state := .busy }) := World.putObj_heap_same l3'
      have hk2 : ((W₁ j A).putObj (w.heap.size + 1) (.loop { rec .ready none with state := .busy })).heap[w.heap.size]? = some (.deferred (some [])) := (World.putObj_heap_other (by omega)).trans h4'
      refine wpIn_mono (hbody _ j A _ hjN h2 (by omega) (Kept.of_put _ rfl)) ?_
      rintro e a3 W3 ⟨⟨rfl, hi3⟩ | ⟨rfl, hi3⟩, kd, kl⟩
      · have hl3 := kl.trans hl2
        have l3' := (Array.getElem?_eq_some_iff.1 hl3).1
        have hend := run_endRound (P := P) none hl3
        rw [hrec] at hend
        have hkp : Kept (fun k => k = w.heap.size + 1) W3 (W3.putObj (w.heap.size + 1) (.loop (rec .ready none))) := Kept.of_put _ rfl
        refine ⟨_, _, hend, .inl ⟨rfl, ?_, ?_, ?_⟩⟩
        · rw [hrec] at hkp; exact hI _ _ _ hi3 hkp
        · have := World.putObj_heap_same (o := .loop (rec .ready none)) l3'
          rw [hrec] at this ⊢; exact this
        · exact (World.putObj_heap_other (by omega)).trans (kd.trans hk2)
      · have hl3 := kl.trans hl2
        have l3' := (Array.getElem?_eq_some_iff.1 hl3).1
        have hend := run_endRound (P := P) (some .ret) hl3
        rw [hrec] at hend
        have hkp : Kept (fun k => k = w.heap.size + 1) W3 (W3.putObj (w.heap.size + 1) (.loop (rec .done (some .ret)))) := Kept.of_put _ rfl
        refine ⟨_, _, hend, .inr ⟨rfl, ?_, ?_, ?_⟩⟩
        · rw [hrec] at hkp; exact hIx _ _ hi3 hkp
        · have := World.putObj_heap_same (o := .loop (rec .done (some .ret))) l3'
          rw [hrec] at this ⊢; exact this
        · exact (World.putObj_heap_other (by omega)).trans (kd.trans hk2)
    · rintro e W2 ⟨⟨v, rfl⟩, ⟨h2, h3, h4⟩ | ⟨h2, h3, h4⟩⟩
      · have hend := run_endLoop (P := P) h3 (by rw [hrec]; simp)
        rw [hrec] at hend
        exact ⟨none, _, hend, hdone _ (hI _ _ _ h2 (Kept.of_put _ rfl)) ((World.putObj_heap_other (by omega)).trans h4)⟩
      · have hend := run_endLoop (P := P) h3 (by rw [hrec]; simp)
        rw [hrec] at hend
        exact ⟨some .ret, _, hend, wpIn_ret (hleft _ (hIx _ _ h2 (Kept.of_put _ rfl)) ((World.putObj_heap_other (by omega)).trans h4))⟩
section
variable {P : Program} {C : World → Prop}
/-- Each operation but the last stands ahead of a later one. -/
def lastOk2 (l : List Oper) : Bool := (List.range (l.length - 1)).all fun j => (List.range l.length).any fun k => decide (j < k) && match l[k]? with
  | some o => o.after.any fun e => Region.binds .any e && e.on == j
  | none => false
/-- What is listed stands behind what is listed. -/
def LstD (ops : Array Oper) (listed : Array Bool) : Prop := ∀ i o, ops[i]? = some o → listed.getD i false = true → ∀ e ∈ o.after, Region.binds .any e = true → listed.getD e.on false = true
theorem LstD.set {ops : Array Oper} {listed : Array Bool} {i : Nat} (h : LstD ops listed) (hi : i < listed.size) (hr : ∀ o, ops[i]? = some o → ∀ e ∈ o.after, Region.binds .any e = true → listed.getD e.on false = true) : LstD ops (listed.setIfInBounds i true) := by
  intro k o ho hk e he hb
  rw [getD_set hi]
  split
  · rfl
  · rw [getD_set hi] at hk
    by_cases hki : k = i
    · subst hki; exact hr o ho e he hb
    · rw [if_neg hki] at hk; exact h k o ho hk e he hb
/-- The shape that both theorems speak of. -/
structure Shape2 (ops ops' : Array Oper) (s : Nat) (st : Oper) : Prop where
  size : ops'.size = ops.size
  top : s + 1 = ops.size
  same : ∀ i, i < s → ops'[i]? = ops[i]?
  at_ : ops[s]? = some st
  at' : ops'[s]? = some (noop st)
  ok : ∀ i o, ops[i]? = some o → o.guard = none ∧ isDefer o.op = false ∧ ∀ e ∈ o.after, Region.binds .any e = true → e.on < i
  last : ∀ j, j < s → ∃ k o, j < k ∧ ops[k]? = some o ∧ ∃ e ∈ o.after, Region.binds .any e = true ∧ e.on = j
theorem Shape2.ready {ops ops' : Array Oper} {s : Nat} {st : Oper} (h : Shape2 ops ops' s st) {listed : Array Bool} {i : Nat} : i ∈ Region.ready .any ops' listed ↔ i ∈ Region.ready .any ops listed := by
  rw [mem_ready, mem_ready, h.size]
  refine and_congr_right fun hi => and_congr_right fun _ => ?_
  by_cases hs : i < s
  · rw [h.same i hs]
  · obtain rfl : i = s := by have := h.top; omega
    rw [h.at_, h.at']
    constructor
    · rintro ⟨o, ho, hh⟩; cases ho; exact ⟨st, rfl, hh⟩
    · rintro ⟨o, ho, hh⟩; cases ho; exact ⟨noop st, rfl, hh⟩
/-- As long as the last one is left something may come up. -/
theorem Shape2.some_ready {ops ops' : Array Oper} {s : Nat} {st : Oper} (h : Shape2 ops ops' s st) {listed : Array Bool} (hl : listed.size = ops.size) (hs : listed.getD s true = false) : ∃ i, i ∈ Region.ready .any ops listed := by
  have htop := h.top
  have key : ∀ n, n ≤ s → (∃ i, i ∈ Region.ready .any ops listed) ∨ ∀ j, j < n → listed.getD j true = true := by
    intro n
    induction n with
    | zero => intro _; exact .inr fun j hj => absurd hj (by omega)
    | succ n ih =>
      intro hn
      rcases ih (by omega) with h1 | h1
      · exact .inl h1
      · cases hd : listed.getD n true with
        | true =>
          refine .inr fun j hj => ?_
          rcases (show j < n ∨ j = n by omega) with h2 | h2
          · exact h1 j h2
          · subst h2; exact hd
        | false =>
          refine .inl ⟨n, mem_ready.2 ⟨by omega, hd, ops[n]'(by omega), by simp, fun e he hb => ?_⟩⟩
          have := (h.ok n (ops[n]'(by omega)) (by simp)).2.2 e he hb
          have h3 := h1 e.on this
          rw [Array.getD_eq_getD_getElem?] at h3 ⊢
          rw [Array.getElem?_eq_getElem (by omega)] at h3 ⊢
          exact h3
  rcases key s (Nat.le_refl _) with h1 | h1
  · exact h1
  · refine ⟨s, mem_ready.2 ⟨by omega, hs, st, h.at_, fun e he hb => ?_⟩⟩
    have := (h.ok s st h.at_).2.2 e he hb
    have h3 := h1 e.on this
    rw [Array.getD_eq_getD_getElem?] at h3 ⊢
    rw [Array.getElem?_eq_getElem (by omega)] at h3 ⊢
    exact h3
theorem any_store2 {ops ops' : Array Oper} {s : Nat} {st : Oper} (h : Shape2 ops ops' s st) {r n : Nat} {Qa : Act → Prop} {Q : Exit → Act → World → Prop} (hst : ∀ a w, C w → Qa a → Oper.wpIn (Fence.wide.inRound r) n P st a w (fun a' w' => Q .normal a' w') Q) :
    ∀ (fuel : Nat) (listed : Array Bool) (a : Act) (w : World), listed.size = ops.size → LstD ops listed → listed.getD s true = false → C w → wpAnyQ P .any ops' C Qa fuel listed a → wpAnyIn (Fence.wide.inRound r) n P .any ops Q fuel listed a w
  | 0, listed, a, w, hl, _, hs, hw, hq => by
    obtain ⟨i, hi⟩ := h.some_ready hl hs
    have := h.ready.2 hi
    rw [hq.1] at this; cases this
  | fuel + 1, listed, a, w, hl, hL, hs, hw, hq => by
    refine ⟨fun h0 => ?_, fun i hi => ?_⟩
    · obtain ⟨i, hi⟩ := h.some_ready hl hs
      rw [h0] at hi; cases hi
    · have hq2 := hq.2 i (h.ready.2 hi)
      obtain ⟨hi1, hi2, o, ho, hi3⟩ := mem_ready.1 hi
      obtain ⟨hg, hd, hon⟩ := h.ok i o ho
      have hli : i < listed.size := by omega
      have hwant : ∀ (ops : Array Oper) (o : Oper), o.guard = none → Region.wanted o (yielded ops a.tmps) = true := fun ops o hg => by simp [Region.wanted, hg]
      by_cases his : i < s
      · have ho' : ops'[i]? = some o := by rw [h.same i his]; exact ho
        unfold qOp at hq2
        simp only [ho', hwant _ o hg, if_true] at hq2
        unfold wpOpIn
        simp only [ho, hwant _ o hg, if_true]
        refine quiet_in hd hw (fun a' w' hw' hk => any_store2 h hst fuel _ a' w' (by simp [hl]) (hL.set hli fun o' ho' e he hb => by rw [ho] at ho'; cases ho'; exact hi3 e he hb) ?_ hw' hk) hq2
        rw [getD_set hli, if_neg (by omega)]; exact hs
      · obtain rfl : i = s := by have := h.top; omega
        obtain rfl : o = st := by rw [h.at_] at ho; cases ho; rfl
        have hgn : (noop o).guard = none := hg
        unfold qOp at hq2
        simp only [h.at', hwant _ _ hgn, if_true] at hq2
        obtain ⟨v, _, hk⟩ := hq2
        have hput : a.put (noop o).dst v = a := rfl
        rw [hput] at hk
        have hnone : ∀ j, j ∉ Region.ready .any ops (listed.setIfInBounds i true) := fun j hj => by
          obtain ⟨h1, h2, _⟩ := mem_ready.1 hj
          rw [getD_set hli] at h2
          by_cases hji : j = i
          · rw [if_pos hji] at h2; cases h2
          · rw [if_neg hji] at h2
            have key : ∀ n j, j < i → i - j ≤ n → listed.getD j false = true := by
              intro n
              induction n with
              | zero => intro j hj hn; omega
              | succ n ih =>
                intro j hj hn
                obtain ⟨k, ok, hjk, hok, e, he, hb, heq⟩ := h.last j hj
                have hkt : k < ops.size := (Array.getElem?_eq_some_iff.1 hok).1
                rw [← heq]
                by_cases hki : k = i
                · subst hki; rw [ho] at hok; cases hok; exact hi3 e he hb
                · exact hL k ok hok (ih k (by have := h.top; omega) (by omega)) e he hb
            have := key (i - j) j (by have := h.top; omega) (Nat.le_refl _)
            rw [Array.getD_eq_getD_getElem?] at this h2
            rw [Array.getElem?_eq_getElem (by omega)] at this h2
            simp only [Option.getD_some] at this h2
            rw [this] at h2; cases h2
        have hn0 : Region.ready .any ops (listed.setIfInBounds i true) = [] := List.eq_nil_iff_forall_not_mem.2 hnone
        have hn0' : Region.ready .any ops' (listed.setIfInBounds i true) = [] := List.eq_nil_iff_forall_not_mem.2 fun j hj => hnone j (h.ready.1 hj)
        have hQa : Qa a := by
          cases fuel with
          | zero => exact hk.2
          | succ f => exact hk.1 hn0'
        unfold wpOpIn
        simp only [h.at_, hwant _ o hg, if_true]
        obtain ⟨q1, q2⟩ := hst a w hw hQa
        refine ⟨q1, ?_⟩
        have hK : (fun a' w' => Q .normal a' w') = wpAnyIn (Fence.wide.inRound r) n P .any ops Q fuel (listed.setIfInBounds i true) := by
          funext a' w'
          cases fuel with
          | zero => exact propext ⟨fun hh => ⟨hn0, hh⟩, fun hh => hh.2⟩
          | succ f => exact propext ⟨fun hh => ⟨fun _ => hh, fun j hj => absurd hj (hnone j)⟩, fun hh => hh.1 hn0⟩
        rw [← hK]; exact q2
theorem shape_of2 {l : List Oper} {st : Oper} (hl : l.getLast? = some st) (h1 : sOk l = true) (h2 : lastOk2 l = true) : Shape2 l.toArray (still l).toArray (l.length - 1) st := by
  have hne : l ≠ [] := fun e => by rw [e] at hl; cases hl
  have hpos : 0 < l.length := List.length_pos_iff.2 hne
  have hstill : still l = l.dropLast ++ [noop st] := by unfold still; rw [hl]; rfl
  have hlen : (still l).length = l.length := by rw [hstill]; simp; omega
  refine ⟨by simp [hlen], by simp; omega, fun i hi => ?_, ?_, ?_, fun i o ho => ?_, fun j hj => ?_⟩
  · rw [List.getElem?_toArray, List.getElem?_toArray, hstill, List.getElem?_append_left (by simp; omega), List.getElem?_dropLast, if_pos hi]
  · rw [List.getElem?_toArray, ← List.getLast?_eq_getElem?]; exact hl
  · rw [List.getElem?_toArray, hstill, List.getElem?_append_right (by simp)]; simp
  · rw [List.getElem?_toArray] at ho
    have hi : i < l.length := (List.getElem?_eq_some_iff.1 ho).1
    unfold sOk at h1
    rw [List.all_eq_true] at h1
    have := h1 i (List.mem_range.2 hi)
    rw [ho] at this
    simp only [Bool.and_eq_true, Option.isNone_iff_eq_none, Bool.not_eq_true', Array.all_eq_true_iff_forall_mem] at this
    refine ⟨this.1.1, this.1.2, fun e he hb => ?_⟩
    have h3 := this.2 e he
    rw [hb] at h3
    simpa using h3
  · unfold lastOk2 at h2
    rw [List.all_eq_true] at h2
    have := h2 j (List.mem_range.2 hj)
    rw [List.any_eq_true] at this
    obtain ⟨k, _, hk⟩ := this
    rw [Bool.and_eq_true, decide_eq_true_eq] at hk
    obtain ⟨hjk, hk⟩ := hk
    cases ho : l[k]? with
    | none => rw [ho] at hk; cases hk
    | some o =>
      rw [ho] at hk
      simp only at hk
      rw [← Array.any_toList, List.any_eq_true] at hk
      obtain ⟨e, he, hb⟩ := hk
      rw [Bool.and_eq_true, beq_iff_eq] at hb
      exact ⟨k, o, hjk, by rw [List.getElem?_toArray]; exact ho, e, by simpa using he, hb.1, hb.2⟩
end
section
variable {P : Program}
abbrev Rgn (w w' : World) : Prop := ∃ p : Regrown, w' = grow (redrawn w p.d) p.os
theorem region_readsB {l : List Oper} {id r n : Nat} {Q : Exit → Act → World → Prop} {a : Act} {w : World} (hd : l.all (fun o => !isDefer o.op) = true) (hm : P.follows .mixedOrders = true) (hB : Region.lexB .any l.toArray = true)
    (hq : wpQuiet P l.toArray (fun w' => ∃ p : Regrown, w' = grow (redrawn w p.d) p.os) (fun a' => ∀ w', (∃ p : Regrown, w' = grow (redrawn w p.d) p.os) → Q .normal a' w') l a) :
    (Code.region id l.toArray true).wpIn (Fence.wide.inRound r) n P Q a w := by
  simp only [Region.lexB, Bool.and_eq_true] at hB
  refine wpIn_region_any hm ?_
  have hx := wpAnyQ_lex (P := P) (C := fun w' => ∃ p : Regrown, w' = grow (redrawn w p.d) p.os) (md := .any) hB.1 l 0 (Array.replicate l.toArray.size false) a (by simp) (by simpa using hB.2) hq
  have := any_quiet (P := P) (C := fun w' => ∃ p : Regrown, w' = grow (redrawn w p.d) p.os) (r := r) (n := n) (Q := Q) (fun i o ho => by
    rw [List.getElem?_toArray] at ho
    have := List.all_eq_true.1 hd o (List.mem_of_getElem? ho)
    simpa using this) (fun a' w' hw' hQ => hQ w' hw') l.length (Array.replicate l.toArray.size false) a { w with drawn := w.drawn + 1 } ⟨⟨w.drawn + 1, #[]⟩, by rw [Go.Sort.grow_empty]; rfl⟩ hx
  simpa using this
theorem region_lastB {l : List Oper} {st : Oper} {id r n : Nat} {Q : Exit → Act → World → Prop} {a : Act} {w : World} (hl : l.getLast? = some st) (h1 : sOk l = true) (h2 : lastOk2 l = true) (hm : P.follows .mixedOrders = true) (hB : Region.lexB .any (still l).toArray = true)
    (hq : wpQuiet P (still l).toArray (fun w' => ∃ p : Regrown, w' = grow (redrawn w p.d) p.os) (fun a' => ∀ w', (∃ p : Regrown, w' = grow (redrawn w p.d) p.os) → Oper.wpIn (Fence.wide.inRound r) n P st a' w' (fun a'' w'' => Q .normal a'' w'') Q) (still l) a) :
    (Code.region id l.toArray true).wpIn (Fence.wide.inRound r) n P Q a w := by
  have hsh := shape_of2 hl h1 h2
  simp only [Region.lexB, Bool.and_eq_true] at hB
  have hlen : (still l).length = l.length := by have := hsh.size; simpa using this
  have hpos : 0 < l.length := by have := hsh.top; simp at this; omega
  refine wpIn_region_any hm ?_
  have hx := wpAnyQ_lex (P := P) (C := fun w' => ∃ p : Regrown, w' = grow (redrawn w p.d) p.os) (md := .any) hB.1 (still l) 0 (Array.replicate (still l).toArray.size false) a (by simp) (by simpa using hB.2) hq
  have := any_store2 (P := P) (C := fun w' => ∃ p : Regrown, w' = grow (redrawn w p.d) p.os) hsh (r := r) (n := n) (Q := Q) (fun a' w' hw' hQ => hQ w' hw') (still l).length (Array.replicate (still l).toArray.size false) a { w with drawn := w.drawn + 1 } (by simp [hlen]) (fun i o _ hi => by
    rw [Array.getD_eq_getD_getElem?, Array.getElem?_replicate] at hi; split at hi <;> cases hi) (by
    rw [Array.getD_eq_getD_getElem?, Array.getElem?_replicate, if_pos (by simp [hlen]; omega)]; rfl) ⟨⟨w.drawn + 1, #[]⟩, by rw [Go.Sort.grow_empty]; rfl⟩ hx
  rw [hlen] at this
  simpa [hlen] using this
end
section
variable {P : Program} {C : World → Prop}
theorem quiet_wide {o : Oper} {n : Nat} {a : Act} {K : Act → Prop} {K' : Act → World → Prop} {Q' : Exit → Act → World → Prop} {w : World} (hd : isDefer o.op = false) (hw : C w) (h : ∀ a w', C w' → K a → K' a w') (hh : o.quiet P a C K) : Oper.wpIn Fence.wide n P o a w K' Q' := by
  refine ⟨fun _ _ => trivial, ?_⟩
  rw [Oper.semAt_eq _ _ _ (fun c e => by rw [e] at hd; cases hd)]
  obtain ⟨v, h1, h2⟩ := hh
  have h3 := h1 w hw
  unfold Oper.quietAt at h3
  generalize (execOp a.eval o).run P w = r at *
  cases r with
  | ok nx w' =>
    cases nx <;> simp only [Oper.quietUpon] at h3 <;> simp only [Oper.uponIn]
    case value u => obtain ⟨e1, e2⟩ := h3; rw [e1, e2]; exact h _ _ hw h2
    case skip => obtain ⟨e1, e2⟩ := h3; rw [e1, ← e2]; exact h _ _ hw h2
    case enter f args =>
      obtain ⟨e1, hc⟩ := h3
      rw [e1]
      exact ⟨fun hx => (by cases hx), (callsIn_wide.2 (hc.mono fun e w'' ⟨he, hw''⟩ => by subst he; exact h _ _ hw'' h2))⟩
  | halt x w' => simp only [Oper.quietUpon] at h3
theorem any_storeW {ops ops' : Array Oper} {s : Nat} {st : Oper} (h : Shape2 ops ops' s st) {n : Nat} {Qa : Act → Prop} {Q : Exit → Act → World → Prop} (hst : ∀ a w, C w → Qa a → Oper.wpIn Fence.wide n P st a w (fun a' w' => Q .normal a' w') Q) :
    ∀ (fuel : Nat) (listed : Array Bool) (a : Act) (w : World), listed.size = ops.size → LstD ops listed → listed.getD s true = false → C w → wpAnyQ P .any ops' C Qa fuel listed a → wpAnyIn Fence.wide n P .any ops Q fuel listed a w
  | 0, listed, a, w, hl, _, hs, hw, hq => by
    obtain ⟨i, hi⟩ := h.some_ready hl hs
    have := h.ready.2 hi
    rw [hq.1] at this; cases this
  | fuel + 1, listed, a, w, hl, hL, hs, hw, hq => by
    refine ⟨fun h0 => ?_, fun i hi => ?_⟩
    · obtain ⟨i, hi⟩ := h.some_ready hl hs
      rw [h0] at hi; cases hi
    · have hq2 := hq.2 i (h.ready.2 hi)
      obtain ⟨hi1, hi2, o, ho, hi3⟩ := mem_ready.1 hi
      obtain ⟨hg, hd, hon⟩ := h.ok i o ho
      have hli : i < listed.size := by omega
      have hwant : ∀ (ops : Array Oper) (o : Oper), o.guard = none → Region.wanted o (yielded ops a.tmps) = true := fun ops o hg => by simp [Region.wanted, hg]
      by_cases his : i < s
      · have ho' : ops'[i]? = some o := by rw [h.same i his]; exact ho
        unfold qOp at hq2
        simp only [ho', hwant _ o hg, if_true] at hq2
        unfold wpOpIn
        simp only [ho, hwant _ o hg, if_true]
        refine quiet_wide hd hw (fun a' w' hw' hk => any_storeW h hst fuel _ a' w' (by simp [hl]) (hL.set hli fun o' ho' e he hb => by rw [ho] at ho'; cases ho'; exact hi3 e he hb) ?_ hw' hk) hq2
        rw [getD_set hli, if_neg (by omega)]; exact hs
      · obtain rfl : i = s := by have := h.top; omega
        obtain rfl : o = st := by rw [h.at_] at ho; cases ho; rfl
        have hgn : (noop o).guard = none := hg
        unfold qOp at hq2
        simp only [h.at', hwant _ _ hgn, if_true] at hq2
        obtain ⟨v, _, hk⟩ := hq2
        have hput : a.put (noop o).dst v = a := rfl
        rw [hput] at hk
        have hnone : ∀ j, j ∉ Region.ready .any ops (listed.setIfInBounds i true) := fun j hj => by
          obtain ⟨h1, h2, _⟩ := mem_ready.1 hj
          rw [getD_set hli] at h2
          by_cases hji : j = i
          · rw [if_pos hji] at h2; cases h2
          · rw [if_neg hji] at h2
            have key : ∀ n j, j < i → i - j ≤ n → listed.getD j false = true := by
              intro n
              induction n with
              | zero => intro j hj hn; omega
              | succ n ih =>
                intro j hj hn
                obtain ⟨k, ok, hjk, hok, e, he, hb, heq⟩ := h.last j hj
                have hkt : k < ops.size := (Array.getElem?_eq_some_iff.1 hok).1
                rw [← heq]
                by_cases hki : k = i
                · subst hki; rw [ho] at hok; cases hok; exact hi3 e he hb
                · exact hL k ok hok (ih k (by have := h.top; omega) (by omega)) e he hb
            have := key (i - j) j (by have := h.top; omega) (Nat.le_refl _)
            rw [Array.getD_eq_getD_getElem?] at this h2
            rw [Array.getElem?_eq_getElem (by omega)] at this h2
            simp only [Option.getD_some] at this h2
            rw [this] at h2; cases h2
        have hn0 : Region.ready .any ops (listed.setIfInBounds i true) = [] := List.eq_nil_iff_forall_not_mem.2 hnone
        have hn0' : Region.ready .any ops' (listed.setIfInBounds i true) = [] := List.eq_nil_iff_forall_not_mem.2 fun j hj => hnone j (h.ready.1 hj)
        have hQa : Qa a := by
          cases fuel with
          | zero => exact hk.2
          | succ f => exact hk.1 hn0'
        unfold wpOpIn
        simp only [h.at_, hwant _ o hg, if_true]
        obtain ⟨q1, q2⟩ := hst a w hw hQa
        refine ⟨q1, ?_⟩
        have hK : (fun a' w' => Q .normal a' w') = wpAnyIn Fence.wide n P .any ops Q fuel (listed.setIfInBounds i true) := by
          funext a' w'
          cases fuel with
          | zero => exact propext ⟨fun hh => ⟨hn0, hh⟩, fun hh => hh.2⟩
          | succ f => exact propext ⟨fun hh => ⟨fun _ => hh, fun j hj => absurd hj (hnone j)⟩, fun hh => hh.1 hn0⟩
        rw [← hK]; exact q2
end
section
variable {P : Program}
theorem region_lastW {l : List Oper} {st : Oper} {id n : Nat} {Q : Exit → Act → World → Prop} {a : Act} {w : World} (hl : l.getLast? = some st) (h1 : sOk l = true) (h2 : lastOk2 l = true) (hm : P.follows .mixedOrders = true) (hB : Region.lexB .any (still l).toArray = true)
    (hq : wpQuiet P (still l).toArray (fun w' => ∃ p : Regrown, w' = grow (redrawn w p.d) p.os) (fun a' => ∀ w', (∃ p : Regrown, w' = grow (redrawn w p.d) p.os) → Oper.wpIn Fence.wide n P st a' w' (fun a'' w'' => Q .normal a'' w'') Q) (still l) a) :
    (Code.region id l.toArray true).wpIn Fence.wide n P Q a w := by
  have hsh := shape_of2 hl h1 h2
  simp only [Region.lexB, Bool.and_eq_true] at hB
  have hlen : (still l).length = l.length := by have := hsh.size; simpa using this
  have hpos : 0 < l.length := by have := hsh.top; simp at this; omega
  refine wpIn_region_any hm ?_
  have hx := wpAnyQ_lex (P := P) (C := fun w' => ∃ p : Regrown, w' = grow (redrawn w p.d) p.os) (md := .any) hB.1 (still l) 0 (Array.replicate (still l).toArray.size false) a (by simp) (by simpa using hB.2) hq
  have := any_storeW (P := P) (C := fun w' => ∃ p : Regrown, w' = grow (redrawn w p.d) p.os) hsh (n := n) (Q := Q) (fun a' w' hw' hQ => hQ w' hw') (still l).length (Array.replicate (still l).toArray.size false) a { w with drawn := w.drawn + 1 } (by simp [hlen]) (fun i o _ hi => by
    rw [Array.getD_eq_getD_getElem?, Array.getElem?_replicate] at hi; split at hi <;> cases hi) (by
    rw [Array.getD_eq_getD_getElem?, Array.getElem?_replicate, if_pos (by simp [hlen]; omega)]; rfl) ⟨⟨w.drawn + 1, #[]⟩, by rw [Go.Sort.grow_empty]; rfl⟩ hx
  rw [hlen] at this
  simpa [hlen] using this
end
end M
end Go.Proofs.YtfkeokglifpkoaaGreatDoor
