/-
  Texts that follow one another, joined: RangeO, RangeQ.
-/
import Derived.RangeFuncNested
import Derived.RangeFuncBound
import Derived.RangeFuncCalls
import Derived.RangeFuncLeaves
import Derived.Below
import Derived.Test.YtfkeokglifpkoaaGreatDoorChecked
import Derived.Deep.Quiet
import Derived.OrdersIn
import Derived.ControlIn
/-
  A range over an iterator that keeps a row of cells of its own: what the caller owes is an invariant that the iterator's block and the loop's record don't touch, and one walk of its body.
-/
namespace Go.Proofs.YtfkeokglifpkoaaGreatDoor
open Go.RowKit
namespace M
/-- Between two worlds only blocks of S have turned; more may have come. -/
structure Kept (S : Nat → Prop) (A B : World) : Prop where
  os : B.os = A.os
  tape : B.tape = A.tape
  output : B.output = A.output
  size : A.heap.size ≤ B.heap.size
  block : ∀ k, k < A.heap.size → ¬ S k → B.heap[k]? = A.heap[k]?
theorem Kept.below {S : Nat → Prop} {B0 : Nat} {a A B : World} (h : Kept S A B) (hb : Below B0 a A) (hB : B0 ≤ A.heap.size) (hS : ∀ k, S k → B0 ≤ k) : Below B0 a B :=
  ⟨h.os.trans hb.os, h.tape.trans hb.tape, h.output.trans hb.output, Nat.le_trans hb.size h.size, fun k hk => (h.block k (by omega) (fun hs => by have := hS k hs; omega)).trans (hb.block k hk)⟩
theorem Kept.of_put {A : World} {l : Nat} (o : Obj) {S : Nat → Prop} (hl : S l) : Kept S A (A.putObj l o) :=
  ⟨rfl, rfl, rfl, by simp, fun k _ hk => World.putObj_heap_other (fun e => hk (by rw [e]; exact hl))⟩
theorem Kept.mono {S T : Nat → Prop} {A B : World} (h : Kept S A B) (hst : ∀ k, S k → T k) : Kept T A B :=
  ⟨h.os, h.tape, h.output, h.size, fun k hk hn => h.block k hk fun hs => hn (hst k hs)⟩
/-- An iterator's contract: it yields xs one by one, and has one block of its own, av. -/
def SeqOf (P : Program) (g : Nat) (lb : Array Value) (enc : Nat → Value) (xs : List Nat) (w0 : World) (bl : Nat) (v : Value) : Prop :=
  ∀ (l : Nat) (J : Nat → List Nat → World → Prop) (W : World), Below w0.heap.size w0 W → W.cell? ⟨bl, 0, none⟩ = some v →
    (∀ av pre A B, J av pre A → Kept (fun k => k = av) A B → J av pre B) →
    (∀ av A, W.heap.size ≤ av → Below W.heap.size W A → J av [] A) →
    (∀ av pre x A, J av pre A → W.heap.size ≤ av → av < A.heap.size → pre ++ [x] <+: xs → YieldAt Fence.wide 1 P l #[enc x] A fun e B => e = .returned (.bool true) ∧ J av (pre ++ [x]) B ∧ B.heap[av]? = A.heap[av]? ∧ B.heap[bl]? = A.heap[bl]? ∧ Below w0.heap.size A B) →
    CallsIn Fence.wide 2 P g (#[.func (.yield l) #[] #[]] ++ lb) W fun e B => (∃ v, e = .returned v) ∧ ∃ av, J av xs B
/-- What a round of the caller's body owes. -/
def RoundP (I : Nat → List Nat → World → Prop) (av D bl : Nat) (xs : List Nat) (B0 : Nat) (W : World) : Exit → Act → World → Prop :=
  fun e _ B => e = .normal ∧ I av xs B ∧ (B.heap[av]? = W.heap[av]? ∧ B.heap[D]? = W.heap[D]? ∧ B.heap[D + 1]? = W.heap[D + 1]?) ∧ B.heap[bl]? = W.heap[bl]? ∧ Below B0 W B
theorem RoundP.intro {I : Nat → List Nat → World → Prop} {av D bl : Nat} {xs : List Nat} {B0 : Nat} {W B : World} {a : Act} (h1 : I av xs B) (h2 : B.heap[av]? = W.heap[av]? ∧ B.heap[D]? = W.heap[D]? ∧ B.heap[D + 1]? = W.heap[D + 1]?) (h4 : B.heap[bl]? = W.heap[bl]?) (h3 : Below B0 W B) : RoundP I av D bl xs B0 W .normal a B := ⟨rfl, h1, h2, h4, h3⟩
theorem wp_range {P : Program} {g : Operand} {ps : Array Tmp} {assign body : Code} {Q : Exit → Act → World → Prop} {a : Act} {w w0 : World} {gf : Nat} {lb : Array Value} {enc : Nat → Value} {xs : List Nat} {bl : Nat} {v : Value}
    (hg : a.eval g = .func (.func gf) #[] lb) (eg : ∀ args w, (callFunc gf args).run P w = .ok (.enter gf args) w) (hseq : SeqOf P gf lb enc xs w0 bl v) (hbox : w.cell? ⟨bl, 0, none⟩ = some v) (hb0 : Below w0.heap.size w0 w) (hps : ps.size = 1)
    (I : Nat → List Nat → World → Prop) (hI : ∀ av pre A B, w.heap.size + 2 ≤ av → I av pre A → Kept (fun k => k = av ∨ k = w.heap.size + 1) A B → I av pre B)
    (h0 : ∀ av A, w.heap.size + 2 ≤ av → Below w.heap.size w A → I av [] A) (a₁ : Nat → Act)
    (hassign : ∀ (l x : Nat) (W : World) (K : Act → World → Prop), K (a₁ x) W → assign.wpIn (Fence.wide.inRound l) 1 P (Exit.then K (fun _ _ _ => False)) { tmps := (ps.zip #[enc x]).foldl (fun t (p, v) => t.setIfInBounds p v) a.tmps, defers := [] } W)
    (hbody : ∀ (l av : Nat) (pre : List Nat) (x : Nat) (W : World), I av pre W → w.heap.size + 2 ≤ av → av < W.heap.size → pre ++ [x] <+: xs → body.wpIn (Fence.wide.inRound l) 1 P (RoundP I av w.heap.size bl (pre ++ [x]) w0.heap.size W) (a₁ x) W)
    (hdone : ∀ (av : Nat) (W : World), w.heap.size + 2 ≤ av → I av xs W → W.heap[w.heap.size]? = some (.deferred (some [])) → Q .normal { a with defers := { target := .collected w.heap.size, args := #[] } :: a.defers } W) :
    (Code.rangeFunc g ps assign body).wpIn Fence.wide 3 P Q a w := by
  refine wpIn_rangeFunc ?_
  intro fn hfn
  obtain ⟨rec, hrec⟩ : ∃ rec : LoopState → Option Code → Loop, rec = fun st pe => { state := st, pending := pe, fn, tmps := a.tmps, params := ps, assign, body, defers := w.heap.size } := ⟨_, rfl⟩
  obtain ⟨W1, hW1⟩ : ∃ W1, (w.alloc (.deferred (some []))).alloc (.loop (rec .ready none)) = W1 := ⟨_, rfl⟩
  have hL1 : W1.heap[w.heap.size + 1]? = some (.loop (rec .ready none)) := by
    rw [← hW1]; have := World.alloc_heap_new (w.alloc (.deferred (some []))) (.loop (rec .ready none)); rwa [World.size_alloc] at this
  have hK1 : W1.heap[w.heap.size]? = some (.deferred (some [])) := by
    rw [← hW1]; exact (Below.heap_alloc _ _ _ (by simp)).trans (World.alloc_heap_new w _)
  have hbw : Below w.heap.size w W1 := by rw [← hW1]; exact ((Below.refl _ w).alloc (Nat.le_refl _) _).alloc (by simp) _
  have hs1 : W1.heap.size = w.heap.size + 2 := by rw [← hW1]; simp
  have hle := hb0.size
  have hbl : bl < w.heap.size := World.block_lt_of_cell? _ _ hbox
  refine ⟨w.heap.size + 1, [{ target := .collected w.heap.size, args := #[] }], W1, { target := .fn (.func gf) lb, args := #[.func (.yield (w.heap.size + 1)) #[] #[]] }, W1, gf,
    #[.func (.yield (w.heap.size + 1)) #[] #[]] ++ lb, W1, ?_, ?_, ?_, ?_, fun _ => by omega, ?_⟩
  · rw [← hW1, hrec]; exact run_enterLoop_outer _ _ _ _ _
  · simp only [resolve, hg]
    simp [go_sem]
  · intro f' _; trivial
  · simp [invoke, go_sem, eg]
  · refine (hseq (w.heap.size + 1) (fun av pre W => w.heap.size + 2 ≤ av ∧ I av pre W ∧ W.heap[w.heap.size + 1]? = some (.loop (rec .ready none)) ∧ W.heap[w.heap.size]? = some (.deferred (some [])))
      W1 (hb0.trans (hbw.mono hle)) ((hbw.cell (p := ⟨bl, 0, none⟩) hbl).trans hbox) (fun av pre A B hj hk => ?_) (fun av A hav hA => ?_) (fun av pre x A hj hav hlt hpx => ?_)).mono ?_
    · obtain ⟨h1, h2, h3, h4⟩ := hj
      have l3 := (Array.getElem?_eq_some_iff.1 h3).1
      have l4 := (Array.getElem?_eq_some_iff.1 h4).1
      exact ⟨h1, hI av pre A B h1 h2 (hk.mono fun k h => .inl h), (hk.block _ l3 (by omega)).trans h3, (hk.block _ l4 (by omega)).trans h4⟩
    · rw [hs1] at hav hA
      exact ⟨hav, h0 av A hav (hbw.trans (hA.mono (by omega))), (hA.block _ (by omega)).trans hL1, (hA.block _ (by omega)).trans hK1⟩
    · obtain ⟨h1, h2, h3, h4⟩ := hj
      have l3 := (Array.getElem?_eq_some_iff.1 h3).1
      have hy := run_yield (P := P) (args := #[enc x]) h3 (by rw [hrec]; simp [hps])
      rw [hrec] at hy
      refine ⟨fn, _, assign, body, hy, roundIn_of_wpIn hfn (hassign _ x A _ ⟨_, run_beginRound h3 (by rw [hrec]), ?_⟩)⟩
      have hl2 : (A.putObj (w.heap.size + 1) (.loop { rec .ready none with state := .busy })).heap[w.heap.size + 1]? = some (.loop { rec .ready none with state := .busy }) := World.putObj_heap_same l3
      have hk2 : (A.putObj (w.heap.size + 1) (.loop { rec .ready none with state := .busy })).heap[w.heap.size]? = some (.deferred (some [])) := (World.putObj_heap_other (by omega)).trans h4
      have ha2 : (A.putObj (w.heap.size + 1) (.loop { rec .ready none with state := .busy })).heap[av]? = A.heap[av]? := World.putObj_heap_other (by omega)
      refine wpIn_mono (hbody _ av pre x _ (hI av pre _ _ h1 h2 (Kept.of_put _ (.inr rfl))) h1 (by simpa using hlt) hpx) ?_
      rintro e a3 W3 ⟨rfl, hi3, ⟨ka, kd, kl⟩, kb, hb3⟩
      have hl3 := kl.trans hl2
      have l3' := (Array.getElem?_eq_some_iff.1 hl3).1
      have hend := run_endRound (P := P) none hl3
      rw [hrec] at hend
      have hkp : Kept (fun k => k = av ∨ k = w.heap.size + 1) W3 (W3.putObj (w.heap.size + 1) (.loop (rec .ready none))) := Kept.of_put _ (.inr rfl)
      refine ⟨_, _, hend, rfl, ⟨h1, ?_, ?_, ?_⟩, ?_, (World.putObj_heap_other (by omega)).trans (kb.trans (World.putObj_heap_other (by omega))), ?_⟩
      · rw [hrec] at hkp; exact hI av _ _ _ h1 hi3 hkp
      · have := World.putObj_heap_same (o := .loop (rec .ready none)) l3'
        rw [hrec] at this ⊢; exact this
      · exact (World.putObj_heap_other (by omega)).trans (kd.trans hk2)
      · exact (World.putObj_heap_other (by omega)).trans (ka.trans ha2)
      · have e1 : Below w0.heap.size A (A.putObj (w.heap.size + 1) (.loop { rec .ready none with state := .busy })) := (Kept.of_put (S := fun k => k = w.heap.size + 1) _ rfl).below (Below.refl _ _) (by omega) (fun k hk => by omega)
        have e2 := e1.trans hb3
        have hsz := e2.size
        exact (Kept.of_put (S := fun k => k = w.heap.size + 1) _ rfl).below e2 (by omega) (fun k hk => by omega)
    · rintro e W2 ⟨⟨v, rfl⟩, av, h1, h2, h3, h4⟩
      have hend := run_endLoop (P := P) h3 (by rw [hrec]; simp)
      rw [hrec] at hend
      exact ⟨none, _, hend, hdone av _ h1 (hI av _ _ _ h1 h2 (Kept.of_put _ (.inr rfl))) ((World.putObj_heap_other (by omega)).trans h4)⟩
end M
end Go.Proofs.YtfkeokglifpkoaaGreatDoor

/-
  A region that draws its order, reads, and stores last of all: one walk of the reads in the text's order and then the store serve every order, in a round of a range over a function too.
-/
namespace Go.Proofs.YtfkeokglifpkoaaGreatDoor
open Go.RowKit
namespace M
def isDefer : Op → Bool
  | .defer _ => true
  | _ => false
/-- No operation is guarded or defers, and each stands behind earlier ones alone. -/
def sOk (l : List Oper) : Bool := (List.range l.length).all fun i => match l[i]? with
  | some o => o.guard.isNone && !isDefer o.op && o.after.all fun e => !Region.binds .any e || decide (e.on < i)
  | none => false
/-- The last one stands behind all others. -/
def lastOk (l : List Oper) : Bool := match l.getLast? with
  | some o => (List.range (l.length - 1)).all fun j => o.after.any fun e => Region.binds .any e && e.on == j
  | none => false
def noop (o : Oper) : Oper := { o with dst := none, op := .move (.const undef) }
def still (l : List Oper) : List Oper := l.dropLast ++ (l.getLast?.map noop).toList
section
variable {P : Program} {C : World → Prop}
theorem quiet_in {o : Oper} {l n : Nat} {a : Act} {K : Act → Prop} {K' : Act → World → Prop} {Q' : Exit → Act → World → Prop} {w : World} (hd : isDefer o.op = false) (hw : C w) (h : ∀ a w', C w' → K a → K' a w') (hh : o.quiet P a C K) : Oper.wpIn (Fence.wide.inRound l) n P o a w K' Q' := by
  refine ⟨fun _ _ => trivial, ?_⟩
  rw [Oper.semAt_eq _ _ _ (fun c e => by rw [e] at hd; cases hd)]
  obtain ⟨v, h1, h2⟩ := hh
  have h3 := h1 w hw
  unfold Oper.quietAt at h3
  generalize (execOp a.eval o).run P w = r at *
  cases r with
  | ok nx w' =>
    cases nx <;> simp only [Oper.quietUpon] at h3 <;> simp only [Oper.uponIn]
    case value u => obtain ⟨e1, e2⟩ := h3; rw [e1, e2]; exact h _ _ hw h2
    case skip => obtain ⟨e1, e2⟩ := h3; rw [e1, ← e2]; exact h _ _ hw h2
    case enter f args =>
      obtain ⟨e1, hc⟩ := h3
      rw [e1]
      exact ⟨fun hx => (by cases hx), CallsIn.inRound l (callsIn_wide.2 (hc.mono fun e w'' ⟨he, hw''⟩ => by subst he; exact h _ _ hw'' h2))⟩
  | halt x w' => simp only [Oper.quietUpon] at h3
theorem mem_ready {ops : Array Oper} {listed : Array Bool} {i : Nat} : i ∈ Region.ready .any ops listed ↔ i < ops.size ∧ listed.getD i true = false ∧ ∃ o, ops[i]? = some o ∧ ∀ e ∈ o.after, Region.binds .any e = true → listed.getD e.on false = true := by
  unfold Region.ready
  rw [List.mem_filter, List.mem_range]
  constructor
  · rintro ⟨h1, h2⟩
    rw [Bool.and_eq_true, Bool.not_eq_true'] at h2
    refine ⟨h1, h2.1, ops[i], by simp [h1], fun e he hb => ?_⟩
    have h3 := h2.2
    simp only [h1, getElem?_pos, Option.map_some, Option.getD_some, Array.all_eq_true_iff_forall_mem] at h3
    have := h3 e he
    rw [hb] at this; simpa using this
  · rintro ⟨h1, h2, o, ho, h3⟩
    refine ⟨h1, ?_⟩
    rw [h2, ho]
    simp only [Bool.not_false, Bool.true_and, Option.map_some, Option.getD_some, Array.all_eq_true_iff_forall_mem]
    intro e he
    cases hb : Region.binds .any e with
    | false => rfl
    | true => rw [h3 e he hb]; rfl
/-- The shape that both theorems speak of. -/
structure Shape (ops ops' : Array Oper) (s : Nat) (st : Oper) : Prop where
  size : ops'.size = ops.size
  top : s + 1 = ops.size
  same : ∀ i, i < s → ops'[i]? = ops[i]?
  at_ : ops[s]? = some st
  at' : ops'[s]? = some (noop st)
  ok : ∀ i o, ops[i]? = some o → o.guard = none ∧ isDefer o.op = false ∧ ∀ e ∈ o.after, Region.binds .any e = true → e.on < i
  last : ∀ j, j < s → ∃ e ∈ st.after, Region.binds .any e = true ∧ e.on = j
theorem Shape.ready {ops ops' : Array Oper} {s : Nat} {st : Oper} (h : Shape ops ops' s st) {listed : Array Bool} {i : Nat} : i ∈ Region.ready .any ops' listed ↔ i ∈ Region.ready .any ops listed := by
  rw [mem_ready, mem_ready, h.size]
  refine and_congr_right fun hi => and_congr_right fun _ => ?_
  by_cases hs : i < s
  · rw [h.same i hs]
  · obtain rfl : i = s := by have := h.top; omega
    rw [h.at_, h.at']
    constructor
    · rintro ⟨o, ho, hh⟩; cases ho; exact ⟨st, rfl, hh⟩
    · rintro ⟨o, ho, hh⟩; cases ho; exact ⟨noop st, rfl, hh⟩
theorem getD_set {l : Array Bool} {i j : Nat} {d : Bool} (hi : i < l.size) : (l.setIfInBounds i true).getD j d = if j = i then true else l.getD j d := by
  rw [Array.getD_eq_getD_getElem?, Array.getElem?_setIfInBounds, Array.getD_eq_getD_getElem?]
  by_cases h : j = i
  · subst h; simp [hi]
  · rw [if_neg (fun e => h e.symm), if_neg h]
/-- As long as the last one is left something may come up. -/
theorem Shape.some_ready {ops ops' : Array Oper} {s : Nat} {st : Oper} (h : Shape ops ops' s st) {listed : Array Bool} (hl : listed.size = ops.size) (hs : listed.getD s true = false) : ∃ i, i ∈ Region.ready .any ops listed := by
  have htop := h.top
  have key : ∀ n, n ≤ s → (∃ i, i ∈ Region.ready .any ops listed) ∨ ∀ j, j < n → listed.getD j true = true := by
    intro n
    induction n with
    | zero => intro _; exact .inr fun j hj => absurd hj (by omega)
    | succ n ih =>
      intro hn
      rcases ih (by omega) with h1 | h1
      · exact .inl h1
      · cases hd : listed.getD n true with
        | true =>
          refine .inr fun j hj => ?_
          rcases (show j < n ∨ j = n by omega) with h2 | h2
          · exact h1 j h2
          · subst h2; exact hd
        | false =>
          refine .inl ⟨n, mem_ready.2 ⟨by omega, hd, ops[n]'(by omega), by simp, fun e he hb => ?_⟩⟩
          have := (h.ok n (ops[n]'(by omega)) (by simp)).2.2 e he hb
          have h3 := h1 e.on this
          rw [Array.getD_eq_getD_getElem?] at h3 ⊢
          rw [Array.getElem?_eq_getElem (by omega)] at h3 ⊢
          exact h3
  rcases key s (Nat.le_refl _) with h1 | h1
  · exact h1
  · refine ⟨s, mem_ready.2 ⟨by omega, hs, st, h.at_, fun e he hb => ?_⟩⟩
    have := (h.ok s st h.at_).2.2 e he hb
    have h3 := h1 e.on this
    rw [Array.getD_eq_getD_getElem?] at h3 ⊢
    rw [Array.getElem?_eq_getElem (by omega)] at h3 ⊢
    exact h3
theorem any_store {ops ops' : Array Oper} {s : Nat} {st : Oper} (h : Shape ops ops' s st) {r n : Nat} {Qa : Act → Prop} {Q : Exit → Act → World → Prop} (hst : ∀ a w, C w → Qa a → Oper.wpIn (Fence.wide.inRound r) n P st a w (fun a' w' => Q .normal a' w') Q) :
    ∀ (fuel : Nat) (listed : Array Bool) (a : Act) (w : World), listed.size = ops.size → listed.getD s true = false → C w → wpAnyQ P .any ops' C Qa fuel listed a → wpAnyIn (Fence.wide.inRound r) n P .any ops Q fuel listed a w
  | 0, listed, a, w, hl, hs, hw, hq => by
    obtain ⟨i, hi⟩ := h.some_ready hl hs
    have := h.ready.2 hi
    rw [hq.1] at this; cases this
  | fuel + 1, listed, a, w, hl, hs, hw, hq => by
    refine ⟨fun h0 => ?_, fun i hi => ?_⟩
    · obtain ⟨i, hi⟩ := h.some_ready hl hs
      rw [h0] at hi; cases hi
    · have hq2 := hq.2 i (h.ready.2 hi)
      obtain ⟨hi1, hi2, o, ho, hi3⟩ := mem_ready.1 hi
      obtain ⟨hg, hd, hon⟩ := h.ok i o ho
      have hli : i < listed.size := by omega
      have hwant : ∀ (ops : Array Oper) (o : Oper), o.guard = none → Region.wanted o (yielded ops a.tmps) = true := fun ops o hg => by simp [Region.wanted, hg]
      by_cases his : i < s
      · have ho' : ops'[i]? = some o := by rw [h.same i his]; exact ho
        unfold qOp at hq2
        simp only [ho', hwant _ o hg, if_true] at hq2
        unfold wpOpIn
        simp only [ho, hwant _ o hg, if_true]
        refine quiet_in hd hw (fun a' w' hw' hk => any_store h hst fuel _ a' w' (by simp [hl]) ?_ hw' hk) hq2
        rw [getD_set hli, if_neg (by omega)]; exact hs
      · obtain rfl : i = s := by have := h.top; omega
        obtain rfl : o = st := by rw [h.at_] at ho; cases ho; rfl
        have hgn : (noop o).guard = none := hg
        unfold qOp at hq2
        simp only [h.at', hwant _ _ hgn, if_true] at hq2
        obtain ⟨v, _, hk⟩ := hq2
        have hput : a.put (noop o).dst v = a := rfl
        rw [hput] at hk
        have hnone : ∀ j, j ∉ Region.ready .any ops (listed.setIfInBounds i true) := fun j hj => by
          obtain ⟨h1, h2, _⟩ := mem_ready.1 hj
          rw [getD_set hli] at h2
          by_cases hji : j = i
          · rw [if_pos hji] at h2; cases h2
          · rw [if_neg hji] at h2
            obtain ⟨e, he, hb, heq⟩ := h.last j (by have := h.top; omega)
            have := hi3 e he hb
            rw [heq] at this
            rw [Array.getD_eq_getD_getElem?] at this h2
            rw [Array.getElem?_eq_getElem (by omega)] at this h2
            simp only [Option.getD_some] at this h2
            rw [this] at h2; cases h2
        have hn0 : Region.ready .any ops (listed.setIfInBounds i true) = [] := List.eq_nil_iff_forall_not_mem.2 hnone
        have hn0' : Region.ready .any ops' (listed.setIfInBounds i true) = [] := List.eq_nil_iff_forall_not_mem.2 fun j hj => hnone j (h.ready.1 hj)
        have hQa : Qa a := by
          cases fuel with
          | zero => exact hk.2
          | succ f => exact hk.1 hn0'
        unfold wpOpIn
        simp only [h.at_, hwant _ o hg, if_true]
        obtain ⟨q1, q2⟩ := hst a w hw hQa
        refine ⟨q1, ?_⟩
        have hK : (fun a' w' => Q .normal a' w') = wpAnyIn (Fence.wide.inRound r) n P .any ops Q fuel (listed.setIfInBounds i true) := by
          funext a' w'
          cases fuel with
          | zero => exact propext ⟨fun hh => ⟨hn0, hh⟩, fun hh => hh.2⟩
          | succ f => exact propext ⟨fun hh => ⟨fun _ => hh, fun j hj => absurd hj (hnone j)⟩, fun hh => hh.1 hn0⟩
        rw [← hK]; exact q2
theorem shape_of {l : List Oper} {st : Oper} (hl : l.getLast? = some st) (h1 : sOk l = true) (h2 : lastOk l = true) : Shape l.toArray (still l).toArray (l.length - 1) st := by
  have hne : l ≠ [] := fun e => by rw [e] at hl; cases hl
  have hpos : 0 < l.length := List.length_pos_iff.2 hne
  have hstill : still l = l.dropLast ++ [noop st] := by unfold still; rw [hl]; rfl
  have hlen : (still l).length = l.length := by rw [hstill]; simp; omega
  refine ⟨by simp [hlen], by simp; omega, fun i hi => ?_, ?_, ?_, fun i o ho => ?_, fun j hj => ?_⟩
  · rw [List.getElem?_toArray, List.getElem?_toArray, hstill, List.getElem?_append_left (by simp; omega), List.getElem?_dropLast, if_pos hi]
  · rw [List.getElem?_toArray, ← List.getLast?_eq_getElem?]; exact hl
  · rw [List.getElem?_toArray, hstill, List.getElem?_append_right (by simp)]; simp
  · rw [List.getElem?_toArray] at ho
    have hi : i < l.length := (List.getElem?_eq_some_iff.1 ho).1
    unfold sOk at h1
    rw [List.all_eq_true] at h1
    have := h1 i (List.mem_range.2 hi)
    rw [ho] at this
    simp only [Bool.and_eq_true, Option.isNone_iff_eq_none, Bool.not_eq_true', Array.all_eq_true_iff_forall_mem] at this
    refine ⟨this.1.1, this.1.2, fun e he hb => ?_⟩
    have h3 := this.2 e he
    rw [hb] at h3
    simpa using h3
  · unfold lastOk at h2
    rw [hl] at h2
    simp only at h2
    rw [List.all_eq_true] at h2
    have := h2 j (List.mem_range.2 hj)
    rw [← Array.any_toList, List.any_eq_true] at this
    obtain ⟨e, he, hb⟩ := this
    rw [Bool.and_eq_true, beq_iff_eq] at hb
    exact ⟨e, by simpa using he, hb.1, hb.2⟩
/-- Reads in any order, then one store, in a round. -/
theorem region_store {l : List Oper} {st : Oper} {id r n : Nat} {Q : Exit → Act → World → Prop} {a : Act} {w : World} (hl : l.getLast? = some st) (h1 : sOk l = true) (h2 : lastOk l = true) (hm : P.follows .mixedOrders = true) (hB : Region.lexB .any (still l).toArray = true)
    (hq : wpQuiet P (still l).toArray (fun w' => ∃ n, w' = w.drewN n) (fun a' => ∀ w', (∃ n, w' = w.drewN n) → Oper.wpIn (Fence.wide.inRound r) n P st a' w' (fun a'' w'' => Q .normal a'' w'') Q) (still l) a) :
    (Code.region id l.toArray true).wpIn (Fence.wide.inRound r) n P Q a w := by
  have hsh := shape_of hl h1 h2
  simp only [Region.lexB, Bool.and_eq_true] at hB
  have hlen : (still l).length = l.length := by have := hsh.size; simpa using this
  have hpos : 0 < l.length := by have := hsh.top; simp at this; omega
  refine wpIn_region_any hm ?_
  have hx := wpAnyQ_lex (P := P) (C := fun w' => ∃ n, w' = w.drewN n) (md := .any) hB.1 (still l) 0 (Array.replicate (still l).toArray.size false) a (by simp) (by simpa using hB.2) hq
  have := any_store (P := P) (C := fun w' => ∃ n, w' = w.drewN n) hsh (r := r) (n := n) (Q := Q) (fun a' w' hw' hQ => hQ w' hw') (still l).length (Array.replicate (still l).toArray.size false) a { w with drawn := w.drawn + 1 } (by simp [hlen]) (by
    rw [Array.getD_eq_getD_getElem?, Array.getElem?_replicate, if_pos (by simp [hlen]; omega)]; rfl) ⟨1, rfl⟩ hx
  rw [hlen] at this
  simpa [hlen] using this
/-- Reads alone, guarded or not, in a round. -/
theorem any_quiet {ops : Array Oper} {r n : Nat} {Qa : Act → Prop} {Q : Exit → Act → World → Prop} (hd : ∀ (i : Nat) (o : Oper), ops[i]? = some o → isDefer o.op = false) (hQ : ∀ a w, C w → Qa a → Q .normal a w) :
    ∀ (fuel : Nat) (listed : Array Bool) (a : Act) (w : World), C w → wpAnyQ P .any ops C Qa fuel listed a → wpAnyIn (Fence.wide.inRound r) n P .any ops Q fuel listed a w
  | 0, _, _, _, hw, h => ⟨h.1, hQ _ _ hw h.2⟩
  | fuel + 1, _, a, w, hw, h => ⟨fun h0 => hQ _ _ hw (h.1 h0), fun i hi => by
      have hq := h.2 i hi
      unfold qOp at hq
      unfold wpOpIn
      cases ho : ops[i]? with
      | none => simp only [ho] at hq ⊢; exact any_quiet hd hQ fuel _ _ _ hw hq
      | some o =>
        simp only [ho] at hq ⊢
        by_cases hwn : Region.wanted o (yielded ops a.tmps) = true
        · simp only [hwn, if_true] at hq ⊢
          exact quiet_in (hd i o ho) hw (fun a' w' hw' hk => any_quiet hd hQ fuel _ a' w' hw' hk) hq
        · simp only [hwn] at hq ⊢
          exact ⟨fun _ _ => trivial, any_quiet hd hQ fuel _ _ _ hw hq⟩⟩
theorem region_reads {l : List Oper} {id r n : Nat} {Q : Exit → Act → World → Prop} {a : Act} {w : World} (hd : l.all (fun o => !isDefer o.op) = true) (hm : P.follows .mixedOrders = true) (hB : Region.lexB .any l.toArray = true)
    (hq : wpQuiet P l.toArray (fun w' => ∃ n, w' = w.drewN n) (fun a' => ∀ w', (∃ n, w' = w.drewN n) → Q .normal a' w') l a) :
    (Code.region id l.toArray true).wpIn (Fence.wide.inRound r) n P Q a w := by
  simp only [Region.lexB, Bool.and_eq_true] at hB
  refine wpIn_region_any hm ?_
  have hx := wpAnyQ_lex (P := P) (C := fun w' => ∃ n, w' = w.drewN n) (md := .any) hB.1 l 0 (Array.replicate l.toArray.size false) a (by simp) (by simpa using hB.2) hq
  have := any_quiet (P := P) (C := fun w' => ∃ n, w' = w.drewN n) (r := r) (n := n) (Q := Q) (fun i o ho => by
    rw [List.getElem?_toArray] at ho
    have := List.all_eq_true.1 hd o (List.mem_of_getElem? ho)
    simpa using this) (fun a' w' hw' hQ => hQ w' hw') l.length (Array.replicate l.toArray.size false) a { w with drawn := w.drawn + 1 } ⟨1, rfl⟩ hx
  simpa using this
end
end M
end Go.Proofs.YtfkeokglifpkoaaGreatDoor
