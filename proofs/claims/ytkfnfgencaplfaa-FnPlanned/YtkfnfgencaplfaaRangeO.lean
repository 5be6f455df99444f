/-
  A range over an iterator that keeps a row of cells of its own: what the caller owes is an invariant that the iterator's block and the loop's record don't touch, and one walk of its body.
-/
import Derived.RangeFuncNested
import Derived.RangeFuncBound
import Derived.RangeFuncCalls
import Derived.RangeFuncLeaves
import Derived.Below
import Derived.Test.YtkfnfgencaplfaaChecked
namespace Go.Proofs.Ytkfnfgencaplfaa
open Go.RowKit
namespace M
/-- Between two worlds only blocks of S have turned; more may have come. -/
structure Kept (S : Nat → Prop) (A B : World) : Prop where
  os : B.os = A.os
  tape : B.tape = A.tape
  output : B.output = A.output
  size : A.heap.size ≤ B.heap.size
  block : ∀ k, k < A.heap.size → ¬ S k → B.heap[k]? = A.heap[k]?
theorem Kept.below {S : Nat → Prop} {B0 : Nat} {a A B : World} (h : Kept S A B) (hb : Below B0 a A) (hB : B0 ≤ A.heap.size) (hS : ∀ k, S k → B0 ≤ k) : Below B0 a B :=
  ⟨h.os.trans hb.os, h.tape.trans hb.tape, h.output.trans hb.output, Nat.le_trans hb.size h.size, fun k hk => (h.block k (by omega) (fun hs => by have := hS k hs; omega)).trans (hb.block k hk)⟩
theorem Kept.of_put {A : World} {l : Nat} (o : Obj) {S : Nat → Prop} (hl : S l) : Kept S A (A.putObj l o) :=
  ⟨rfl, rfl, rfl, by simp, fun k _ hk => World.putObj_heap_other (fun e => hk (by rw [e]; exact hl))⟩
theorem Kept.mono {S T : Nat → Prop} {A B : World} (h : Kept S A B) (hst : ∀ k, S k → T k) : Kept T A B :=
  ⟨h.os, h.tape, h.output, h.size, fun k hk hn => h.block k hk fun hs => hn (hst k hs)⟩
/-- An iterator's contract: it yields xs one by one, and has one block of its own, av. -/
def SeqOf (P : Program) (g : Nat) (lb : Array Value) (enc : Nat → Value) (xs : List Nat) (w0 : World) (bl : Nat) (v : Value) : Prop :=
  ∀ (l : Nat) (J : Nat → List Nat → World → Prop) (W : World), Below w0.heap.size w0 W → W.cell? ⟨bl, 0, none⟩ = some v →
    (∀ av pre A B, J av pre A → Kept (fun k => k = av) A B → J av pre B) →
    (∀ av A, W.heap.size ≤ av → Below W.heap.size W A → J av [] A) →
    (∀ av pre x A, J av pre A → W.heap.size ≤ av → av < A.heap.size → pre ++ [x] <+: xs → YieldAt Fence.wide 1 P l #[enc x] A fun e B => e = .returned (.bool true) ∧ J av (pre ++ [x]) B ∧ B.heap[av]? = A.heap[av]? ∧ B.heap[bl]? = A.heap[bl]? ∧ Below w0.heap.size A B) →
    CallsIn Fence.wide 2 P g (#[.func (.yield l) #[] #[]] ++ lb) W fun e B => (∃ v, e = .returned v) ∧ ∃ av, J av xs B
/-- What a round of the caller's body owes. -/
def RoundP (I : Nat → List Nat → World → Prop) (av D bl : Nat) (xs : List Nat) (B0 : Nat) (W : World) : Exit → Act → World → Prop :=
  fun e _ B => e = .normal ∧ I av xs B ∧ (B.heap[av]? = W.heap[av]? ∧ B.heap[D]? = W.heap[D]? ∧ B.heap[D + 1]? = W.heap[D + 1]?) ∧ B.heap[bl]? = W.heap[bl]? ∧ Below B0 W B
theorem RoundP.intro {I : Nat → List Nat → World → Prop} {av D bl : Nat} {xs : List Nat} {B0 : Nat} {W B : World} {a : Act} (h1 : I av xs B) (h2 : B.heap[av]? = W.heap[av]? ∧ B.heap[D]? = W.heap[D]? ∧ B.heap[D + 1]? = W.heap[D + 1]?) (h4 : B.heap[bl]? = W.heap[bl]?) (h3 : Below B0 W B) : RoundP I av D bl xs B0 W .normal a B := ⟨rfl, h1, h2, h4, h3⟩
theorem wp_range {P : Program} {g : Operand} {ps : Array Tmp} {assign body : Code} {Q : Exit → Act → World → Prop} {a : Act} {w w0 : World} {gf : Nat} {lb : Array Value} {enc : Nat → Value} {xs : List Nat} {bl : Nat} {v : Value}
    (hg : a.eval g = .func (.func gf) #[] lb) (eg : ∀ args w, (callFunc gf args).run P w = .ok (.enter gf args) w) (hseq : SeqOf P gf lb enc xs w0 bl v) (hbox : w.cell? ⟨bl, 0, none⟩ = some v) (hb0 : Below w0.heap.size w0 w) (hps : ps.size = 1)
    (I : Nat → List Nat → World → Prop) (hI : ∀ av pre A B, w.heap.size + 2 ≤ av → I av pre A → Kept (fun k => k = av ∨ k = w.heap.size + 1) A B → I av pre B)
    (h0 : ∀ av A, w.heap.size + 2 ≤ av → Below w.heap.size w A → I av [] A) (a₁ : Nat → Act)
    (hassign : ∀ (l x : Nat) (W : World) (K : Act → World → Prop), K (a₁ x) W → assign.wpIn (Fence.wide.inRound l) 1 P (Exit.then K (fun _ _ _ => False)) { tmps := (ps.zip #[enc x]).foldl (fun t (p, v) => t.setIfInBounds p v) a.tmps, defers := [] } W)
    (hbody : ∀ (l av : Nat) (pre : List Nat) (x : Nat) (W : World), I av pre W → w.heap.size + 2 ≤ av → av < W.heap.size → pre ++ [x] <+: xs → body.wpIn (Fence.wide.inRound l) 1 P (RoundP I av w.heap.size bl (pre ++ [x]) w0.heap.size W) (a₁ x) W)
    (hdone : ∀ (av : Nat) (W : World), w.heap.size + 2 ≤ av → I av xs W → W.heap[w.heap.size]? = some (.deferred (some [])) → Q .normal { a with defers := { target := .collected w.heap.size, args := #[] } :: a.defers } W) :
    (Code.rangeFunc g ps assign body).wpIn Fence.wide 3 P Q a w := by
  refine wpIn_rangeFunc ?_
  intro fn hfn
  obtain ⟨rec, hrec⟩ : ∃ rec : LoopState → Option Code → Loop, rec = fun st pe => { state := st, pending := pe, fn, tmps := a.tmps, params := ps, assign, body, defers := w.heap.size } := ⟨_, rfl⟩
  obtain ⟨W1, hW1⟩ : ∃ W1, (w.alloc (.deferred (some []))).alloc (.loop (rec .ready none)) = W1 := ⟨_, rfl⟩
  have hL1 : W1.heap[w.heap.size + 1]? = some (.loop (rec .ready none)) := by
    rw [← hW1]; have := World.alloc_heap_new (w.alloc (.deferred (some []))) (.loop (rec .ready none)); rwa [World.size_alloc] at this
  have hK1 : W1.heap[w.heap.size]? = some (.deferred (some [])) := by
    rw [← hW1]; exact (Below.heap_alloc _ _ _ (by simp)).trans (World.alloc_heap_new w _)
  have hbw : Below w.heap.size w W1 := by rw [← hW1]; exact ((Below.refl _ w).alloc (Nat.le_refl _) _).alloc (by simp) _
  have hs1 : W1.heap.size = w.heap.size + 2 := by rw [← hW1]; simp
  have hle := hb0.size
  have hbl : bl < w.heap.size := World.block_lt_of_cell? _ _ hbox
  refine ⟨w.heap.size + 1, [{ target := .collected w.heap.size, args := #[] }], W1, { target := .fn (.func gf) lb, args := #[.func (.yield (w.heap.size + 1)) #[] #[]] }, W1, gf,
    #[.func (.yield (w.heap.size + 1)) #[] #[]] ++ lb, W1, ?_, ?_, ?_, ?_, fun _ => by omega, ?_⟩
  · rw [← hW1, hrec]; exact run_enterLoop_outer _ _ _ _ _
  · simp only [resolve, hg]
    simp [go_sem]
  · intro f' _; trivial
  · simp [invoke, go_sem, eg]
  · refine (hseq (w.heap.size + 1) (fun av pre W => w.heap.size + 2 ≤ av ∧ I av pre W ∧ W.heap[w.heap.size + 1]? = some (.loop (rec .ready none)) ∧ W.heap[w.heap.size]? = some (.deferred (some [])))
      W1 (hb0.trans (hbw.mono hle)) ((hbw.cell (p := ⟨bl, 0, none⟩) hbl).trans hbox) (fun av pre A B hj hk => ?_) (fun av A hav hA => ?_) (fun av pre x A hj hav hlt hpx => ?_)).mono ?_
    · obtain ⟨h1, h2, h3, h4⟩ := hj
      have l3 := (Array.getElem?_eq_some_iff.1 h3).1
      have l4 := (Array.getElem?_eq_some_iff.1 h4).1
      exact ⟨h1, hI av pre A B h1 h2 (hk.mono fun k h => .inl h), (hk.block _ l3 (by omega)).trans h3, (hk.block _ l4 (by omega)).trans h4⟩
    · rw [hs1] at hav hA
      exact ⟨hav, h0 av A hav (hbw.trans (hA.mono (by omega))), (hA.block _ (by omega)).trans hL1, (hA.block _ (by omega)).trans hK1⟩
    · obtain ⟨h1, h2, h3, h4⟩ := hj
      have l3 := (Array.getElem?_eq_some_iff.1 h3).1
      have hy := run_yield (P := P) (args := #[enc x]) h3 (by rw [hrec]; simp [hps])
      rw [hrec] at hy
      refine ⟨fn, _, assign, body, hy, roundIn_of_wpIn hfn (hassign _ x A _ ⟨_, run_beginRound h3 (by rw [hrec]), ?_⟩)⟩
      have hl2 : (A.putObj (w.heap.size + 1) (.loop { rec .ready none with state := .busy })).heap[w.heap.size + 1]? = some (.loop { rec .ready none with state := .busy }) := World.putObj_heap_same l3
      have hk2 : (A.putObj (w.heap.size + 1) (.loop { rec .ready none with state := .busy })).heap[w.heap.size]? = some (.deferred (some [])) := (World.putObj_heap_other (by omega)).trans h4
      have ha2 : (A.putObj (w.heap.size + 1) (.loop { rec .ready none with state := .busy })).heap[av]? = A.heap[av]? := World.putObj_heap_other (by omega)
      refine wpIn_mono (hbody _ av pre x _ (hI av pre _ _ h1 h2 (Kept.of_put _ (.inr rfl))) h1 (by simpa using hlt) hpx) ?_
      rintro e a3 W3 ⟨rfl, hi3, ⟨ka, kd, kl⟩, kb, hb3⟩
      have hl3 := kl.trans hl2
      have l3' := (Array.getElem?_eq_some_iff.1 hl3).1
      have hend := run_endRound (P := P) none hl3
      rw [hrec] at hend
      have hkp : Kept (fun k => k = av ∨ k = w.heap.size + 1) W3 (W3.putObj (w.heap.size + 1) (.loop (rec .ready none))) := Kept.of_put _ (.inr rfl)
      refine ⟨_, _, hend, rfl, ⟨h1, ?_, ?_, ?_⟩, ?_, (World.putObj_heap_other (by omega)).trans (kb.trans (World.putObj_heap_other (by omega))), ?_⟩
      · rw [hrec] at hkp; exact hI av _ _ _ h1 hi3 hkp
      · have := World.putObj_heap_same (o := .loop (rec .ready none)) l3'
        rw [hrec] at this ⊢; exact this
      · exact (World.putObj_heap_other (by omega)).trans (kd.trans hk2)
      · exact (World.putObj_heap_other (by omega)).trans (ka.trans ha2)
      · have e1 : Below w0.heap.size A (A.putObj (w.heap.size + 1) (.loop { rec .ready none with state := .busy })) := (Kept.of_put (S := fun k => k = w.heap.size + 1) _ rfl).below (Below.refl _ _) (by omega) (fun k hk => by omega)
        have e2 := e1.trans hb3
        have hsz := e2.size
        exact (Kept.of_put (S := fun k => k = w.heap.size + 1) _ rfl).below e2 (by omega) (fun k hk => by omega)
    · rintro e W2 ⟨⟨v, rfl⟩, av, h1, h2, h3, h4⟩
      have hend := run_endLoop (P := P) h3 (by rw [hrec]; simp)
      rw [hrec] at hend
      exact ⟨none, _, hend, hdone av _ h1 (hI av _ _ _ h1 h2 (Kept.of_put _ (.inr rfl))) ((World.putObj_heap_other (by omega)).trans h4)⟩
end M
end Go.Proofs.Ytkfnfgencaplfaa
