/-
  Texts that follow one another, joined: QuP, RangeO.
-/
import Derived.Test.YtfjdbenbiakbbaaJoin12
import Derived.Test.YtfjdbenbiakbbaaJoin14
import Derived.RangeFuncNested
import Derived.RangeFuncBound
import Derived.RangeFuncCalls
import Derived.RangeFuncLeaves
import Derived.Below
import Derived.Test.YtfjdbenbiakbbaaChecked
/-
  A queue behind a pointer: its box and its lists, in memory of the call's own; what may have turned besides.
-/
namespace Go.Proofs.Ytfjdbenbiakbbaa
open Go.RowKit M
namespace M
/-- What was there is as it was, but for blocks of which S tells. -/
structure Chg (S : Nat → Prop) (w w' : World) : Prop where
  os : w'.os = w.os
  tape : w'.tape = w.tape
  output : w'.output = w.output
  size : w.heap.size ≤ w'.heap.size
  block : ∀ k, k < w.heap.size → ¬ S k → w'.heap[k]? = w.heap[k]?
theorem Chg.trans {S S2 : Nat → Prop} {a b c : World} (h : Chg S a b) (h2 : Chg S2 b c) (hs : ∀ k, S2 k → S k ∨ a.heap.size ≤ k) : Chg S a c :=
  ⟨h2.os.trans h.os, h2.tape.trans h.tape, h2.output.trans h.output, Nat.le_trans h.size h2.size, fun k hk hn => (h2.block k (Nat.lt_of_lt_of_le hk h.size) (fun e => by
    rcases hs k e with h' | h'
    · exact hn h'
    · omega)).trans (h.block k hk hn)⟩
theorem Below.chg {w w' : World} (h : Below w.heap.size w w') (S : Nat → Prop) : Chg S w w' := ⟨h.os, h.tape, h.output, h.size, fun k hk _ => h.block k hk⟩
theorem Chg.gb {S : Nat → Prop} {w w' : World} {row : Option Nat} (h : w.grownBy w' row) (hr : ∀ g, row = some g → S g) : Chg S w w' :=
  ⟨h.os, h.tape, h.output, h.size, fun k hk hn => h.block k hk (fun e => hn (hr k e.symm))⟩
theorem Chg.low {S : Nat → Prop} {w w' : World} {B : Nat} (h : Chg S w w') (hS : ∀ k, S k → B ≤ k) (hB : B ≤ w.heap.size) : Below B w w' :=
  ⟨h.os, h.tape, h.output, h.size, fun k hk => h.block k (by omega) (fun e => by have := hS k e; omega)⟩
theorem Chg.mono {S S2 : Nat → Prop} {w w' : World} (h : Chg S w w') (hs : ∀ k, S k → S2 k) : Chg S2 w w' := ⟨h.os, h.tape, h.output, h.size, fun k hk hn => h.block k hk (fun e => hn (hs k e))⟩
theorem Blk.chg {S : Nat → Prop} {w w' : World} {g n : Nat} {f : Nat → Value} {t : TypeId} (h : Blk w g n f t) (hc : Chg S w w') (hn : ¬ S g) : Blk w' g n f t := by
  unfold Blk; rw [hc.block g h.lt hn]; exact h
theorem owns_chg {S : Nat → Prop} {w w' : World} {B e s n : Nat} {v : Value} {l : List Value} (h : w.ownsRow B e s v n l) (hc : Chg S w w') (hn : ∀ k, v.ownBlock = some k → ¬ S k) : w'.ownsRow B e s v n l := by
  refine ⟨h.1, ?_⟩
  rcases h.2 with h0 | ⟨g, cap, cur, hv, hBg, hb, r⟩
  · exact .inl h0
  · refine .inr ⟨g, cap, cur, hv, hBg, ?_, r⟩
    rw [hc.block g ?_ (hn g (by rw [hv]; rfl))]
    · exact hb
    · rcases Nat.lt_or_ge g w.heap.size with h' | h'
      · exact h'
      · rw [Array.getElem?_eq_none h'] at hb; cases hb
theorem owns_set {w : World} {B e s n g : Nat} {v : Value} {l : List Value} (h : w.ownsRow B e s v n l) (hn : v.ownBlock ≠ some g) (o : Nat) (u : Value) : (w.setCell ⟨g, o, none⟩ u).ownsRow B e s v n l :=
  owns_other h (gbT_set (gbT_refl w (some g))) (fun g' hg' e => hn (by rw [hg', e]))
/-- The queue's own blocks. -/
def Mine (g : Nat) (v1 v3 v4 : Value) (k : Nat) : Prop := k = g ∨ v1.ownBlock = some k ∨ v3.ownBlock = some k ∨ v4.ownBlock = some k
structure PQ (W : World) (B g : Nat) (v1 v3 v4 : Value) (q : Qu) : Prop where
  box : Blk W g 5 (qf v1 v3 v4 q) 32
  lo : B ≤ g
  o1 : OwnT W B v1 q.sent
  o3 : OwnT W B v3 q.got
  o4 : OwnP W B v4 q.line
  a13 : Apart v1 v3
  a14 : Apart v1 v4
  a34 : Apart v3 v4
  n1 : v1.ownBlock ≠ some g
  n3 : v3.ownBlock ≠ some g
  n4 : v4.ownBlock ≠ some g
/-- From one queue behind g to another: only its own blocks have turned, and what it has now is its own or new. -/
structure Mv (g : Nat) (w : World) (v1 v3 v4 : Value) (w' : World) (u1 u3 u4 : Value) : Prop where
  chg : Chg (Mine g v1 v3 v4) w w'
  sub : ∀ k, Mine g u1 u3 u4 k → Mine g v1 v3 v4 k ∨ w.heap.size ≤ k
section
variable {g B : Nat} {w w' w2 W W2 : World} {v1 v3 v4 u1 u3 u4 t1 t3 t4 : Value} {q : Qu}
theorem Mv.trans (h : Mv g w v1 v3 v4 w' u1 u3 u4) (h2 : Mv g w' u1 u3 u4 w2 t1 t3 t4) : Mv g w v1 v3 v4 w2 t1 t3 t4 :=
  ⟨h.chg.trans h2.chg h.sub, fun k hk => by
    rcases h2.sub k hk with h' | h'
    · exact h.sub k h'
    · exact .inr (Nat.le_trans h.chg.size h')⟩
theorem Mv.down (h : Below w.heap.size w w') : Mv g w v1 v3 v4 w' v1 v3 v4 := ⟨Below.chg h _, fun _ h => .inl h⟩
theorem PQ.down (h : PQ W B g v1 v3 v4 q) (hb : Below W.heap.size W W2) : PQ W2 B g v1 v3 v4 q :=
  ⟨h.box.down hb, h.lo, h.o1.down hb, h.o3.down hb, h.o4.down hb, h.a13, h.a14, h.a34, h.n1, h.n3, h.n4⟩
theorem PQ.mine (h : PQ W B g v1 v3 v4 q) : ∀ k, Mine g v1 v3 v4 k → B ≤ k := by
  rintro k (rfl | e | e | e)
  · exact h.lo
  · exact (h.o1.lt e).1
  · exact (h.o3.lt e).1
  · exact (h.o4.lt e).1
theorem PQ.rd (h : PQ W B g v1 v3 v4 q) : QuQ W v1 v3 v4 q := ⟨h.o1.txs, h.o3.txs, h.o4.pks⟩
theorem PQ.ans (h : PQ W B g v1 v3 v4 q) : AnsQ W B W.heap.size v1 v3 v4 q.sent q.got q.line := AnsQ.of h.o1 h.o3 h.o4 h.a13 h.a14 h.a34
theorem PQ.base (h : PQ W B g v1 v3 v4 q) (n : Int) : PQ (W.setCell ⟨g, 2, none⟩ (.int .i64 n)) B g v1 v3 v4 { q with base := n } ∧ Mv g W v1 v3 v4 (W.setCell ⟨g, 2, none⟩ (.int .i64 n)) v1 v3 v4 :=
  ⟨⟨h.box.pen2 _, h.lo, owns_set h.o1 h.n1 _ _, owns_set h.o3 h.n3 _ _, owns_set h.o4 h.n4 _ _, h.a13, h.a14, h.a34, h.n1, h.n3, h.n4⟩,
    Chg.gb (gbT_set (gbT_refl W (some g))) (fun k e => by simp only [Option.some.injEq] at e; exact .inl e.symm), fun _ h => .inl h⟩
theorem PQ.put1 (h : PQ W B g v1 v3 v4 q) (hc : Chg (fun k => v1.ownBlock = some k) W W2) {l : Txs} (ho : OwnT W2 B u1 l) (hb : ∀ k, u1.ownBlock = some k → v1.ownBlock = some k ∨ W.heap.size ≤ k) :
    PQ (W2.setCell ⟨g, 1, none⟩ u1) B g u1 v3 v4 { q with sent := l } ∧ Mv g W v1 v3 v4 (W2.setCell ⟨g, 1, none⟩ u1) u1 v3 v4 := by
  have hg := h.box.lt
  have hnu : u1.ownBlock ≠ some g := fun e => by
    rcases hb g e with h' | h'
    · exact h.n1 h'
    · omega
  refine ⟨⟨(h.box.chg hc h.n1).pen1 _, h.lo, owns_set ho hnu _ _, owns_set (owns_chg h.o3 hc (fun k hk e => h.a13 k e hk)) h.n3 _ _, owns_set (owns_chg h.o4 hc (fun k hk e => h.a14 k e hk)) h.n4 _ _, (fun k hu hv => (hb k hu).elim (fun e => h.a13 k e hv) (fun e => absurd (h.o3.lt hv).2 (by omega))), (fun k hu hv => (hb k hu).elim (fun e => h.a14 k e hv) (fun e => absurd (h.o4.lt hv).2 (by omega))), h.a34, hnu, h.n3, h.n4⟩, ?_, ?_⟩
  · refine (hc.mono (fun k e => ?_)).trans (Chg.gb (S := fun k => k = g) (gbT_set (gbT_refl W2 (some g))) (fun k e => by simp only [Option.some.injEq] at e; exact e.symm)) (fun k e => .inl (.inl e))
    exact .inr (.inl e)
  · rintro k (e | e | e | e)
    · exact .inl (.inl e)
    · rcases hb k e with e | e
      · exact .inl (.inr (.inl e))
      · exact .inr e
    · exact .inl (.inr (.inr (.inl e)))
    · exact .inl (.inr (.inr (.inr e)))
theorem PQ.put3 (h : PQ W B g v1 v3 v4 q) (hc : Chg (fun k => v3.ownBlock = some k) W W2) {l : Txs} (ho : OwnT W2 B u3 l) (hb : ∀ k, u3.ownBlock = some k → v3.ownBlock = some k ∨ W.heap.size ≤ k) :
    PQ (W2.setCell ⟨g, 3, none⟩ u3) B g v1 u3 v4 { q with got := l } ∧ Mv g W v1 v3 v4 (W2.setCell ⟨g, 3, none⟩ u3) v1 u3 v4 := by
  have hg := h.box.lt
  have hnu : u3.ownBlock ≠ some g := fun e => by
    rcases hb g e with h' | h'
    · exact h.n3 h'
    · omega
  refine ⟨⟨(h.box.chg hc h.n3).pen3 _, h.lo, owns_set (owns_chg h.o1 hc (fun k hk e => h.a13 k hk e)) h.n1 _ _, owns_set ho hnu _ _, owns_set (owns_chg h.o4 hc (fun k hk e => h.a34 k e hk)) h.n4 _ _, (fun k hv hu => (hb k hu).elim (fun e => h.a13 k hv e) (fun e => absurd (h.o1.lt hv).2 (by omega))), h.a14, (fun k hu hv => (hb k hu).elim (fun e => h.a34 k e hv) (fun e => absurd (h.o4.lt hv).2 (by omega))), h.n1, hnu, h.n4⟩, ?_, ?_⟩
  · refine (hc.mono (fun k e => ?_)).trans (Chg.gb (S := fun k => k = g) (gbT_set (gbT_refl W2 (some g))) (fun k e => by simp only [Option.some.injEq] at e; exact e.symm)) (fun k e => .inl (.inl e))
    exact .inr (.inr (.inl e))
  · rintro k (e | e | e | e)
    · exact .inl (.inl e)
    · exact .inl (.inr (.inl e))
    · rcases hb k e with e | e
      · exact .inl (.inr (.inr (.inl e)))
      · exact .inr e
    · exact .inl (.inr (.inr (.inr e)))
theorem PQ.put4 (h : PQ W B g v1 v3 v4 q) (hc : Chg (fun k => v4.ownBlock = some k) W W2) {l : Pks} (ho : OwnP W2 B u4 l) (hb : ∀ k, u4.ownBlock = some k → v4.ownBlock = some k ∨ W.heap.size ≤ k) :
    PQ (W2.setCell ⟨g, 4, none⟩ u4) B g v1 v3 u4 { q with line := l } ∧ Mv g W v1 v3 v4 (W2.setCell ⟨g, 4, none⟩ u4) v1 v3 u4 := by
  have hg := h.box.lt
  have hnu : u4.ownBlock ≠ some g := fun e => by
    rcases hb g e with h' | h'
    · exact h.n4 h'
    · omega
  refine ⟨⟨(h.box.chg hc h.n4).pen4 _, h.lo, owns_set (owns_chg h.o1 hc (fun k hk e => h.a14 k hk e)) h.n1 _ _, owns_set (owns_chg h.o3 hc (fun k hk e => h.a34 k hk e)) h.n3 _ _, owns_set ho hnu _ _, h.a13, (fun k hv hu => (hb k hu).elim (fun e => h.a14 k hv e) (fun e => absurd (h.o1.lt hv).2 (by omega))), (fun k hv hu => (hb k hu).elim (fun e => h.a34 k hv e) (fun e => absurd (h.o3.lt hv).2 (by omega))), h.n1, h.n3, hnu⟩, ?_, ?_⟩
  · refine (hc.mono (fun k e => ?_)).trans (Chg.gb (S := fun k => k = g) (gbT_set (gbT_refl W2 (some g))) (fun k e => by simp only [Option.some.injEq] at e; exact e.symm)) (fun k e => .inl (.inl e))
    exact .inr (.inr (.inr e))
  · rintro k (e | e | e | e)
    · exact .inl (.inl e)
    · exact .inl (.inr (.inl e))
    · exact .inl (.inr (.inr (.inl e)))
    · rcases hb k e with e | e
      · exact .inl (.inr (.inr (.inr e)))
      · exact .inr e
end
end M
end Go.Proofs.Ytfjdbenbiakbbaa

/-
  A range over an iterator that keeps a row of cells of its own: what the caller owes is an invariant that the iterator's block and the loop's record don't touch, and one walk of its body.
-/
namespace Go.Proofs.Ytfjdbenbiakbbaa
open Go.RowKit
namespace M
/-- Between two worlds only blocks of S have turned; more may have come. -/
structure Kept (S : Nat → Prop) (A B : World) : Prop where
  os : B.os = A.os
  tape : B.tape = A.tape
  output : B.output = A.output
  size : A.heap.size ≤ B.heap.size
  block : ∀ k, k < A.heap.size → ¬ S k → B.heap[k]? = A.heap[k]?
theorem Kept.below {S : Nat → Prop} {B0 : Nat} {a A B : World} (h : Kept S A B) (hb : Below B0 a A) (hB : B0 ≤ A.heap.size) (hS : ∀ k, S k → B0 ≤ k) : Below B0 a B :=
  ⟨h.os.trans hb.os, h.tape.trans hb.tape, h.output.trans hb.output, Nat.le_trans hb.size h.size, fun k hk => (h.block k (by omega) (fun hs => by have := hS k hs; omega)).trans (hb.block k hk)⟩
theorem Kept.of_put {A : World} {l : Nat} (o : Obj) {S : Nat → Prop} (hl : S l) : Kept S A (A.putObj l o) :=
  ⟨rfl, rfl, rfl, by simp, fun k _ hk => World.putObj_heap_other (fun e => hk (by rw [e]; exact hl))⟩
theorem Kept.mono {S T : Nat → Prop} {A B : World} (h : Kept S A B) (hst : ∀ k, S k → T k) : Kept T A B :=
  ⟨h.os, h.tape, h.output, h.size, fun k hk hn => h.block k hk fun hs => hn (hst k hs)⟩
/-- An iterator's contract: it yields xs one by one, and has one block of its own, av. -/
def SeqOf (P : Program) (g : Nat) (lb : Array Value) (enc : Nat → Value) (xs : List Nat) (w0 : World) (bl : Nat) (v : Value) : Prop :=
  ∀ (l : Nat) (J : Nat → List Nat → World → Prop) (W : World), Below w0.heap.size w0 W → W.cell? ⟨bl, 0, none⟩ = some v →
    (∀ av pre A B, J av pre A → Kept (fun k => k = av) A B → J av pre B) →
    (∀ av A, W.heap.size ≤ av → Below W.heap.size W A → J av [] A) →
    (∀ av pre x A, J av pre A → W.heap.size ≤ av → av < A.heap.size → pre ++ [x] <+: xs → YieldAt Fence.wide 1 P l #[enc x] A fun e B => e = .returned (.bool true) ∧ J av (pre ++ [x]) B ∧ B.heap[av]? = A.heap[av]? ∧ B.heap[bl]? = A.heap[bl]? ∧ Below w0.heap.size A B) →
    CallsIn Fence.wide 2 P g (#[.func (.yield l) #[] #[]] ++ lb) W fun e B => (∃ v, e = .returned v) ∧ ∃ av, J av xs B
/-- What a round of the caller's body owes. -/
def RoundP (I : Nat → List Nat → World → Prop) (av D bl : Nat) (xs : List Nat) (B0 : Nat) (W : World) : Exit → Act → World → Prop :=
  fun e _ B => e = .normal ∧ I av xs B ∧ (B.heap[av]? = W.heap[av]? ∧ B.heap[D]? = W.heap[D]? ∧ B.heap[D + 1]? = W.heap[D + 1]?) ∧ B.heap[bl]? = W.heap[bl]? ∧ Below B0 W B
theorem RoundP.intro {I : Nat → List Nat → World → Prop} {av D bl : Nat} {xs : List Nat} {B0 : Nat} {W B : World} {a : Act} (h1 : I av xs B) (h2 : B.heap[av]? = W.heap[av]? ∧ B.heap[D]? = W.heap[D]? ∧ B.heap[D + 1]? = W.heap[D + 1]?) (h4 : B.heap[bl]? = W.heap[bl]?) (h3 : Below B0 W B) : RoundP I av D bl xs B0 W .normal a B := ⟨rfl, h1, h2, h4, h3⟩
theorem wp_range {P : Program} {g : Operand} {ps : Array Tmp} {assign body : Code} {Q : Exit → Act → World → Prop} {a : Act} {w w0 : World} {gf : Nat} {lb : Array Value} {enc : Nat → Value} {xs : List Nat} {bl : Nat} {v : Value}
    (hg : a.eval g = .func (.func gf) #[] lb) (eg : ∀ args w, (callFunc gf args).run P w = .ok (.enter gf args) w) (hseq : SeqOf P gf lb enc xs w0 bl v) (hbox : w.cell? ⟨bl, 0, none⟩ = some v) (hb0 : Below w0.heap.size w0 w) (hps : ps.size = 1)
    (I : Nat → List Nat → World → Prop) (hI : ∀ av pre A B, w.heap.size + 2 ≤ av → I av pre A → Kept (fun k => k = av ∨ k = w.heap.size + 1) A B → I av pre B)
    (h0 : ∀ av A, w.heap.size + 2 ≤ av → Below w.heap.size w A → I av [] A) (a₁ : Nat → Act)
    (hassign : ∀ (l x : Nat) (W : World) (K : Act → World → Prop), K (a₁ x) W → assign.wpIn (Fence.wide.inRound l) 1 P (Exit.then K (fun _ _ _ => False)) { tmps := (ps.zip #[enc x]).foldl (fun t (p, v) => t.setIfInBounds p v) a.tmps, defers := [] } W)
    (hbody : ∀ (l av : Nat) (pre : List Nat) (x : Nat) (W : World), I av pre W → w.heap.size + 2 ≤ av → av < W.heap.size → pre ++ [x] <+: xs → body.wpIn (Fence.wide.inRound l) 1 P (RoundP I av w.heap.size bl (pre ++ [x]) w0.heap.size W) (a₁ x) W)
    (hdone : ∀ (av : Nat) (W : World), w.heap.size + 2 ≤ av → I av xs W → W.heap[w.heap.size]? = some (.deferred (some [])) → Q .normal { a with defers := { target := .collected w.heap.size, args := #[] } :: a.defers } W) :
    (Code.rangeFunc g ps assign body).wpIn Fence.wide 3 P Q a w := by
  refine wpIn_rangeFunc ?_
  intro fn hfn
  obtain ⟨rec, hrec⟩ : ∃ rec : LoopState → Option Code → Loop, rec = fun st pe => { state := st, pending := pe, fn, tmps := a.tmps, params := ps, assign, body, defers := w.heap.size } := ⟨_, rfl⟩
  obtain ⟨W1, hW1⟩ : ∃ W1, (w.alloc (.deferred (some []))).alloc (.loop (rec .ready none)) = W1 := ⟨_, rfl⟩
  have hL1 : W1.heap[w.heap.size + 1]? = some (.loop (rec .ready none)) := by
    rw [← hW1]; have := World.alloc_heap_new (w.alloc (.deferred (some []))) (.loop (rec .ready none)); rwa [World.size_alloc] at this
  have hK1 : W1.heap[w.heap.size]? = some (.deferred (some [])) := by
    rw [← hW1]; exact (Below.heap_alloc _ _ _ (by simp)).trans (World.alloc_heap_new w _)
  have hbw : Below w.heap.size w W1 := by rw [← hW1]; exact ((Below.refl _ w).alloc (Nat.le_refl _) _).alloc (by simp) _
  have hs1 : W1.heap.size = w.heap.size + 2 := by rw [← hW1]; simp
  have hle := hb0.size
  have hbl : bl < w.heap.size := World.block_lt_of_cell? _ _ hbox
  refine ⟨w.heap.size + 1, [{ target := .collected w.heap.size, args := #[] }], W1, { target := .fn (.func gf) lb, args := #[.func (.yield (w.heap.size + 1)) #[] #[]] }, W1, gf,
    #[.func (.yield (w.heap.size + 1)) #[] #[]] ++ lb, W1, ?_, ?_, ?_, ?_, fun _ => by omega, ?_⟩
  · rw [← hW1, hrec]; exact run_enterLoop_outer _ _ _ _ _
  · simp only [resolve, hg]
    simp [go_sem]
  · intro f' _; trivial
  · simp [invoke, go_sem, eg]
  · refine (hseq (w.heap.size + 1) (fun av pre W => w.heap.size + 2 ≤ av ∧ I av pre W ∧ W.heap[w.heap.size + 1]? = some (.loop (rec .ready none)) ∧ W.heap[w.heap.size]? = some (.deferred (some [])))
      W1 (hb0.trans (hbw.mono hle)) ((hbw.cell (p := ⟨bl, 0, none⟩) hbl).trans hbox) (fun av pre A B hj hk => ?_) (fun av A hav hA => ?_) (fun av pre x A hj hav hlt hpx => ?_)).mono ?_
    · obtain ⟨h1, h2, h3, h4⟩ := hj
      have l3 := (Array.getElem?_eq_some_iff.1 h3).1
      have l4 := (Array.getElem?_eq_some_iff.1 h4).1
      exact ⟨h1, hI av pre A B h1 h2 (hk.mono fun k h => .inl h), (hk.block _ l3 (by omega)).trans h3, (hk.block _ l4 (by omega)).trans h4⟩
    · rw [hs1] at hav hA
      exact ⟨hav, h0 av A hav (hbw.trans (hA.mono (by omega))), (hA.block _ (by omega)).trans hL1, (hA.block _ (by omega)).trans hK1⟩
    · obtain ⟨h1, h2, h3, h4⟩ := hj
      have l3 := (Array.getElem?_eq_some_iff.1 h3).1
      have hy := run_yield (P := P) (args := #[enc x]) h3 (by rw [hrec]; simp [hps])
      rw [hrec] at hy
      refine ⟨fn, _, assign, body, hy, roundIn_of_wpIn hfn (hassign _ x A _ ⟨_, run_beginRound h3 (by rw [hrec]), ?_⟩)⟩
      have hl2 : (A.putObj (w.heap.size + 1) (.loop { rec .ready none with state := .busy })).heap[w.heap.size + 1]? = some (.loop { rec .ready none with state := .busy }) := World.putObj_heap_same l3
      have hk2 : (A.putObj (w.heap.size + 1) (.loop { rec .ready none with state := .busy })).heap[w.heap.size]? = some (.deferred (some [])) := (World.putObj_heap_other (by omega)).trans h4
      have ha2 : (A.putObj (w.heap.size + 1) (.loop { rec .ready none with state := .busy })).heap[av]? = A.heap[av]? := World.putObj_heap_other (by omega)
      refine wpIn_mono (hbody _ av pre x _ (hI av pre _ _ h1 h2 (Kept.of_put _ (.inr rfl))) h1 (by simpa using hlt) hpx) ?_
      rintro e a3 W3 ⟨rfl, hi3, ⟨ka, kd, kl⟩, kb, hb3⟩
      have hl3 := kl.trans hl2
      have l3' := (Array.getElem?_eq_some_iff.1 hl3).1
      have hend := run_endRound (P := P) none hl3
      rw [hrec] at hend
      have hkp : Kept (fun k => k = av ∨ k = w.heap.size + 1) W3 (W3.putObj (w.heap.size + 1) (.loop (rec .ready none))) := Kept.of_put _ (.inr rfl)
      refine ⟨_, _, hend, rfl, ⟨h1, ?_, ?_, ?_⟩, ?_, (World.putObj_heap_other (by omega)).trans (kb.trans (World.putObj_heap_other (by omega))), ?_⟩
      · rw [hrec] at hkp; exact hI av _ _ _ h1 hi3 hkp
      · have := World.putObj_heap_same (o := .loop (rec .ready none)) l3'
        rw [hrec] at this ⊢; exact this
      · exact (World.putObj_heap_other (by omega)).trans (kd.trans hk2)
      · exact (World.putObj_heap_other (by omega)).trans (ka.trans ha2)
      · have e1 : Below w0.heap.size A (A.putObj (w.heap.size + 1) (.loop { rec .ready none with state := .busy })) := (Kept.of_put (S := fun k => k = w.heap.size + 1) _ rfl).below (Below.refl _ _) (by omega) (fun k hk => by omega)
        have e2 := e1.trans hb3
        have hsz := e2.size
        exact (Kept.of_put (S := fun k => k = w.heap.size + 1) _ rfl).below e2 (by omega) (fun k hk => by omega)
    · rintro e W2 ⟨⟨v, rfl⟩, av, h1, h2, h3, h4⟩
      have hend := run_endLoop (P := P) h3 (by rw [hrec]; simp)
      rw [hrec] at hend
      exact ⟨none, _, hend, hdone av _ h1 (hI av _ _ _ h1 h2 (Kept.of_put _ (.inr rfl))) ((World.putObj_heap_other (by omega)).trans h4)⟩
end M
end Go.Proofs.Ytfjdbenbiakbbaa
