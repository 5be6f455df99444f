/-
  A queue behind a pointer: its box and its lists, in memory of the call's own; what may have turned besides.
-/
import Derived.Test.YtfjdbenbiakbbaaQuC
import Derived.Test.YtfjdbenbiakbbaaQuH
namespace Go.Proofs.Ytfjdbenbiakbbaa
open Go.RowKit M
namespace M
/-- What was there is as it was, but for blocks of which S tells. -/
structure Chg (S : Nat → Prop) (w w' : World) : Prop where
  os : w'.os = w.os
  tape : w'.tape = w.tape
  output : w'.output = w.output
  size : w.heap.size ≤ w'.heap.size
  block : ∀ k, k < w.heap.size → ¬ S k → w'.heap[k]? = w.heap[k]?
theorem Chg.trans {S S2 : Nat → Prop} {a b c : World} (h : Chg S a b) (h2 : Chg S2 b c) (hs : ∀ k, S2 k → S k ∨ a.heap.size ≤ k) : Chg S a c :=
  ⟨h2.os.trans h.os, h2.tape.trans h.tape, h2.output.trans h.output, Nat.le_trans h.size h2.size, fun k hk hn => (h2.block k (Nat.lt_of_lt_of_le hk h.size) (fun e => by
    rcases hs k e with h' | h'
    · exact hn h'
    · omega)).trans (h.block k hk hn)⟩
theorem Below.chg {w w' : World} (h : Below w.heap.size w w') (S : Nat → Prop) : Chg S w w' := ⟨h.os, h.tape, h.output, h.size, fun k hk _ => h.block k hk⟩
theorem Chg.gb {S : Nat → Prop} {w w' : World} {row : Option Nat} (h : w.grownBy w' row) (hr : ∀ g, row = some g → S g) : Chg S w w' :=
  ⟨h.os, h.tape, h.output, h.size, fun k hk hn => h.block k hk (fun e => hn (hr k e.symm))⟩
theorem Chg.low {S : Nat → Prop} {w w' : World} {B : Nat} (h : Chg S w w') (hS : ∀ k, S k → B ≤ k) (hB : B ≤ w.heap.size) : Below B w w' :=
  ⟨h.os, h.tape, h.output, h.size, fun k hk => h.block k (by omega) (fun e => by have := hS k e; omega)⟩
theorem Chg.mono {S S2 : Nat → Prop} {w w' : World} (h : Chg S w w') (hs : ∀ k, S k → S2 k) : Chg S2 w w' := ⟨h.os, h.tape, h.output, h.size, fun k hk hn => h.block k hk (fun e => hn (hs k e))⟩
theorem Blk.chg {S : Nat → Prop} {w w' : World} {g n : Nat} {f : Nat → Value} {t : TypeId} (h : Blk w g n f t) (hc : Chg S w w') (hn : ¬ S g) : Blk w' g n f t := by
  unfold Blk; rw [hc.block g h.lt hn]; exact h
theorem owns_chg {S : Nat → Prop} {w w' : World} {B e s n : Nat} {v : Value} {l : List Value} (h : w.ownsRow B e s v n l) (hc : Chg S w w') (hn : ∀ k, v.ownBlock = some k → ¬ S k) : w'.ownsRow B e s v n l := by
  refine ⟨h.1, ?_⟩
  rcases h.2 with h0 | ⟨g, cap, cur, hv, hBg, hb, r⟩
  · exact .inl h0
  · refine .inr ⟨g, cap, cur, hv, hBg, ?_, r⟩
    rw [hc.block g ?_ (hn g (by rw [hv]; rfl))]
    · exact hb
    · rcases Nat.lt_or_ge g w.heap.size with h' | h'
      · exact h'
      · rw [Array.getElem?_eq_none h'] at hb; cases hb
theorem owns_set {w : World} {B e s n g : Nat} {v : Value} {l : List Value} (h : w.ownsRow B e s v n l) (hn : v.ownBlock ≠ some g) (o : Nat) (u : Value) : (w.setCell ⟨g, o, none⟩ u).ownsRow B e s v n l :=
  owns_other h (gbT_set (gbT_refl w (some g))) (fun g' hg' e => hn (by rw [hg', e]))
/-- The queue's own blocks. -/
def Mine (g : Nat) (v1 v3 v4 : Value) (k : Nat) : Prop := k = g ∨ v1.ownBlock = some k ∨ v3.ownBlock = some k ∨ v4.ownBlock = some k
structure PQ (W : World) (B g : Nat) (v1 v3 v4 : Value) (q : Qu) : Prop where
  box : Blk W g 5 (qf v1 v3 v4 q) 32
  lo : B ≤ g
  o1 : OwnT W B v1 q.sent
  o3 : OwnT W B v3 q.got
  o4 : OwnP W B v4 q.line
  a13 : Apart v1 v3
  a14 : Apart v1 v4
  a34 : Apart v3 v4
  n1 : v1.ownBlock ≠ some g
  n3 : v3.ownBlock ≠ some g
  n4 : v4.ownBlock ≠ some g
/-- From one queue behind g to another: only its own blocks have turned, and what it has now is its own or new. -/
structure Mv (g : Nat) (w : World) (v1 v3 v4 : Value) (w' : World) (u1 u3 u4 : Value) : Prop where
  chg : Chg (Mine g v1 v3 v4) w w'
  sub : ∀ k, Mine g u1 u3 u4 k → Mine g v1 v3 v4 k ∨ w.heap.size ≤ k
section
variable {g B : Nat} {w w' w2 W W2 : World} {v1 v3 v4 u1 u3 u4 t1 t3 t4 : Value} {q : Qu}
theorem Mv.trans (h : Mv g w v1 v3 v4 w' u1 u3 u4) (h2 : Mv g w' u1 u3 u4 w2 t1 t3 t4) : Mv g w v1 v3 v4 w2 t1 t3 t4 :=
  ⟨h.chg.trans h2.chg h.sub, fun k hk => by
    rcases h2.sub k hk with h' | h'
    · exact h.sub k h'
    · exact .inr (Nat.le_trans h.chg.size h')⟩
theorem Mv.down (h : Below w.heap.size w w') : Mv g w v1 v3 v4 w' v1 v3 v4 := ⟨Below.chg h _, fun _ h => .inl h⟩
theorem PQ.down (h : PQ W B g v1 v3 v4 q) (hb : Below W.heap.size W W2) : PQ W2 B g v1 v3 v4 q :=
  ⟨h.box.down hb, h.lo, h.o1.down hb, h.o3.down hb, h.o4.down hb, h.a13, h.a14, h.a34, h.n1, h.n3, h.n4⟩
theorem PQ.mine (h : PQ W B g v1 v3 v4 q) : ∀ k, Mine g v1 v3 v4 k → B ≤ k := by
  rintro k (rfl | e | e | e)
  · exact h.lo
  · exact (h.o1.lt e).1
  · exact (h.o3.lt e).1
  · exact (h.o4.lt e).1
theorem PQ.rd (h : PQ W B g v1 v3 v4 q) : QuQ W v1 v3 v4 q := ⟨h.o1.txs, h.o3.txs, h.o4.pks⟩
theorem PQ.ans (h : PQ W B g v1 v3 v4 q) : AnsQ W B W.heap.size v1 v3 v4 q.sent q.got q.line := AnsQ.of h.o1 h.o3 h.o4 h.a13 h.a14 h.a34
theorem PQ.base (h : PQ W B g v1 v3 v4 q) (n : Int) : PQ (W.setCell ⟨g, 2, none⟩ (.int .i64 n)) B g v1 v3 v4 { q with base := n } ∧ Mv g W v1 v3 v4 (W.setCell ⟨g, 2, none⟩ (.int .i64 n)) v1 v3 v4 :=
  ⟨⟨h.box.pen2 _, h.lo, owns_set h.o1 h.n1 _ _, owns_set h.o3 h.n3 _ _, owns_set h.o4 h.n4 _ _, h.a13, h.a14, h.a34, h.n1, h.n3, h.n4⟩,
    Chg.gb (gbT_set (gbT_refl W (some g))) (fun k e => by simp only [Option.some.injEq] at e; exact .inl e.symm), fun _ h => .inl h⟩
theorem PQ.put1 (h : PQ W B g v1 v3 v4 q) (hc : Chg (fun k => v1.ownBlock = some k) W W2) {l : Txs} (ho : OwnT W2 B u1 l) (hb : ∀ k, u1.ownBlock = some k → v1.ownBlock = some k ∨ W.heap.size ≤ k) :
    PQ (W2.setCell ⟨g, 1, none⟩ u1) B g u1 v3 v4 { q with sent := l } ∧ Mv g W v1 v3 v4 (W2.setCell ⟨g, 1, none⟩ u1) u1 v3 v4 := by
  have hg := h.box.lt
  have hnu : u1.ownBlock ≠ some g := fun e => by
    rcases hb g e with h' | h'
    · exact h.n1 h'
    · omega
  refine ⟨⟨(h.box.chg hc h.n1).pen1 _, h.lo, owns_set ho hnu _ _, owns_set (owns_chg h.o3 hc (fun k hk e => h.a13 k e hk)) h.n3 _ _, owns_set (owns_chg h.o4 hc (fun k hk e => h.a14 k e hk)) h.n4 _ _, (fun k hu hv => (hb k hu).elim (fun e => h.a13 k e hv) (fun e => absurd (h.o3.lt hv).2 (by omega))), (fun k hu hv => (hb k hu).elim (fun e => h.a14 k e hv) (fun e => absurd (h.o4.lt hv).2 (by omega))), h.a34, hnu, h.n3, h.n4⟩, ?_, ?_⟩
  · refine (hc.mono (fun k e => ?_)).trans (Chg.gb (S := fun k => k = g) (gbT_set (gbT_refl W2 (some g))) (fun k e => by simp only [Option.some.injEq] at e; exact e.symm)) (fun k e => .inl (.inl e))
    exact .inr (.inl e)
  · rintro k (e | e | e | e)
    · exact .inl (.inl e)
    · rcases hb k e with e | e
      · exact .inl (.inr (.inl e))
      · exact .inr e
    · exact .inl (.inr (.inr (.inl e)))
    · exact .inl (.inr (.inr (.inr e)))
theorem PQ.put3 (h : PQ W B g v1 v3 v4 q) (hc : Chg (fun k => v3.ownBlock = some k) W W2) {l : Txs} (ho : OwnT W2 B u3 l) (hb : ∀ k, u3.ownBlock = some k → v3.ownBlock = some k ∨ W.heap.size ≤ k) :
    PQ (W2.setCell ⟨g, 3, none⟩ u3) B g v1 u3 v4 { q with got := l } ∧ Mv g W v1 v3 v4 (W2.setCell ⟨g, 3, none⟩ u3) v1 u3 v4 := by
  have hg := h.box.lt
  have hnu : u3.ownBlock ≠ some g := fun e => by
    rcases hb g e with h' | h'
    · exact h.n3 h'
    · omega
  refine ⟨⟨(h.box.chg hc h.n3).pen3 _, h.lo, owns_set (owns_chg h.o1 hc (fun k hk e => h.a13 k hk e)) h.n1 _ _, owns_set ho hnu _ _, owns_set (owns_chg h.o4 hc (fun k hk e => h.a34 k e hk)) h.n4 _ _, (fun k hv hu => (hb k hu).elim (fun e => h.a13 k hv e) (fun e => absurd (h.o1.lt hv).2 (by omega))), h.a14, (fun k hu hv => (hb k hu).elim (fun e => h.a34 k e hv) (fun e => absurd (h.o4.lt hv).2 (by omega))), h.n1, hnu, h.n4⟩, ?_, ?_⟩
  · refine (hc.mono (fun k e => ?_)).trans (Chg.gb (S := fun k => k = g) (gbT_set (gbT_refl W2 (some g))) (fun k e => by simp only [Option.some.injEq] at e; exact e.symm)) (fun k e => .inl (.inl e))
    exact .inr (.inr (.inl e))
  · rintro k (e | e | e | e)
    · exact .inl (.inl e)
    · exact .inl (.inr (.inl e))
    · rcases hb k e with e | e
      · exact .inl (.inr (.inr (.inl e)))
      · exact .inr e
    · exact .inl (.inr (.inr (.inr e)))
theorem PQ.put4 (h : PQ W B g v1 v3 v4 q) (hc : Chg (fun k => v4.ownBlock = some k) W W2) {l : Pks} (ho : OwnP W2 B u4 l) (hb : ∀ k, u4.ownBlock = some k → v4.ownBlock = some k ∨ W.heap.size ≤ k) :
    PQ (W2.setCell ⟨g, 4, none⟩ u4) B g v1 v3 u4 { q with line := l } ∧ Mv g W v1 v3 v4 (W2.setCell ⟨g, 4, none⟩ u4) v1 v3 u4 := by
  have hg := h.box.lt
  have hnu : u4.ownBlock ≠ some g := fun e => by
    rcases hb g e with h' | h'
    · exact h.n4 h'
    · omega
  refine ⟨⟨(h.box.chg hc h.n4).pen4 _, h.lo, owns_set (owns_chg h.o1 hc (fun k hk e => h.a14 k hk e)) h.n1 _ _, owns_set (owns_chg h.o3 hc (fun k hk e => h.a34 k hk e)) h.n3 _ _, owns_set ho hnu _ _, h.a13, (fun k hv hu => (hb k hu).elim (fun e => h.a14 k hv e) (fun e => absurd (h.o1.lt hv).2 (by omega))), (fun k hv hu => (hb k hu).elim (fun e => h.a34 k hv e) (fun e => absurd (h.o3.lt hv).2 (by omega))), h.n1, h.n3, hnu⟩, ?_, ?_⟩
  · refine (hc.mono (fun k e => ?_)).trans (Chg.gb (S := fun k => k = g) (gbT_set (gbT_refl W2 (some g))) (fun k e => by simp only [Option.some.injEq] at e; exact e.symm)) (fun k e => .inl (.inl e))
    exact .inr (.inr (.inr e))
  · rintro k (e | e | e | e)
    · exact .inl (.inl e)
    · exact .inl (.inr (.inl e))
    · exact .inl (.inr (.inr (.inl e)))
    · rcases hb k e with e | e
      · exact .inl (.inr (.inr (.inr e)))
      · exact .inr e
end
end M
end Go.Proofs.Ytfjdbenbiakbbaa
