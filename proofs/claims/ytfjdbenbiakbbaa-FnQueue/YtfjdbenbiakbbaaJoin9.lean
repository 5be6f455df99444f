/-
  Queues in memory: blocks of five cells; what the law does with queues: how much is left, copies in new memory, two that are told alike, marks that are written and found again.
-/
import Derived.Test.YtfjdbenbiakbbaaJoin7
import Derived.Test.YtfjdbenbiakbbaaJoin8
namespace Go.Proofs.Ytfjdbenbiakbbaa
open Go.RowKit M
open Clk (upd upd_same upd_other)
open Go.Sort (grow)
namespace M
def w5 (a b c d e : Value) : Nat → Value := fun i => if i = 0 then a else if i = 1 then b else if i = 2 then c else if i = 3 then d else e
theorem Blk.pen {w : World} {g : Nat} {a b c d e : Value} {t : TypeId} (h : Blk w g 5 (w5 a b c d e) t) : (w.cell? ⟨g, 0, none⟩ = some a ∧ w.cell? ⟨g, 1, none⟩ = some b ∧ w.cell? ⟨g, 2, none⟩ = some c ∧ w.cell? ⟨g, 3, none⟩ = some d ∧ w.cell? ⟨g, 4, none⟩ = some e) ∧ w.frozen? ⟨g, 0, none⟩ = false ∧ w.frozen? ⟨g, 1, none⟩ = false ∧ w.frozen? ⟨g, 2, none⟩ = false ∧ w.frozen? ⟨g, 3, none⟩ = false ∧ w.frozen? ⟨g, 4, none⟩ = false :=
  ⟨⟨h.cell (show 0 < 5 by omega), h.cell (show 1 < 5 by omega), h.cell (show 2 < 5 by omega), h.cell (show 3 < 5 by omega), h.cell (show 4 < 5 by omega)⟩, h.thaw 0, h.thaw 1, h.thaw 2, h.thaw 3, h.thaw 4⟩
theorem newW5 (w : World) (a b c d e : Value) (t : TypeId) : Blk (w.alloc (.cells #[a, b, c, d, e] t)) w.heap.size 5 (w5 a b c d e) t := Blk.fresh w _ 5 _ t rfl
theorem Blk.pen0 {w : World} {g : Nat} {a b c d e : Value} {t : TypeId} (h : Blk w g 5 (w5 a b c d e) t) (u : Value) : Blk (w.setCell ⟨g, 0, none⟩ u) g 5 (w5 u b c d e) t :=
  (h.set 0 u).ext fun i hi => by match i, hi with
                                | 0, _ => rfl
                                | 1, _ => rfl
                                | 2, _ => rfl
                                | 3, _ => rfl
                                | 4, _ => rfl
theorem Blk.pen1 {w : World} {g : Nat} {a b c d e : Value} {t : TypeId} (h : Blk w g 5 (w5 a b c d e) t) (u : Value) : Blk (w.setCell ⟨g, 1, none⟩ u) g 5 (w5 a u c d e) t :=
  (h.set 1 u).ext fun i hi => by match i, hi with
                                | 0, _ => rfl
                                | 1, _ => rfl
                                | 2, _ => rfl
                                | 3, _ => rfl
                                | 4, _ => rfl
theorem Blk.pen2 {w : World} {g : Nat} {a b c d e : Value} {t : TypeId} (h : Blk w g 5 (w5 a b c d e) t) (u : Value) : Blk (w.setCell ⟨g, 2, none⟩ u) g 5 (w5 a b u d e) t :=
  (h.set 2 u).ext fun i hi => by match i, hi with
                                | 0, _ => rfl
                                | 1, _ => rfl
                                | 2, _ => rfl
                                | 3, _ => rfl
                                | 4, _ => rfl
theorem Blk.pen3 {w : World} {g : Nat} {a b c d e : Value} {t : TypeId} (h : Blk w g 5 (w5 a b c d e) t) (u : Value) : Blk (w.setCell ⟨g, 3, none⟩ u) g 5 (w5 a b c u e) t :=
  (h.set 3 u).ext fun i hi => by match i, hi with
                                | 0, _ => rfl
                                | 1, _ => rfl
                                | 2, _ => rfl
                                | 3, _ => rfl
                                | 4, _ => rfl
theorem Blk.pen4 {w : World} {g : Nat} {a b c d e : Value} {t : TypeId} (h : Blk w g 5 (w5 a b c d e) t) (u : Value) : Blk (w.setCell ⟨g, 4, none⟩ u) g 5 (w5 a b c d u) t :=
  (h.set 4 u).ext fun i hi => by match i, hi with
                                | 0, _ => rfl
                                | 1, _ => rfl
                                | 2, _ => rfl
                                | 3, _ => rfl
                                | 4, _ => rfl
theorem putW5 {B0 : Nat} {w W : World} {g : Nat} {a b c d e : Value} {t : TypeId} (h : Blk W g 5 (w5 a b c d e) t) (hb : Below B0 w W) (hg : B0 ≤ g) (x0 x1 x2 x3 x4 : Value) : ∀ WZ, (((((W.setCell ⟨g, 0, none⟩ x0).setCell ⟨g, 1, none⟩ x1).setCell ⟨g, 2, none⟩ x2).setCell ⟨g, 3, none⟩ x3).setCell ⟨g, 4, none⟩ x4) = WZ →
    Blk WZ g 5 (w5 x0 x1 x2 x3 x4) t ∧ Below B0 w WZ ∧ W.grownBy WZ (some g) := by
  rintro WZ rfl
  exact ⟨(((((h.pen0 _).pen1 _).pen2 _).pen3 _).pen4 _), (((((hb.setCell (p := ⟨g, 0, none⟩) hg _).setCell (p := ⟨g, 1, none⟩) hg _).setCell (p := ⟨g, 2, none⟩) hg _).setCell (p := ⟨g, 3, none⟩) hg _).setCell (p := ⟨g, 4, none⟩) hg _), (gbT_set (o := 4) (v := x4) (gbT_set (o := 3) (v := x3) (gbT_set (o := 2) (v := x2) (gbT_set (o := 1) (v := x1) (gbT_set (o := 0) (v := x0) (gbT_refl W (some g)))))))⟩
theorem OwnP.set_other {w : World} {B : Nat} {v : Value} {l : Pks} (h : OwnP w B v l) {g : Nat} (hne : g < B) (o : Nat) (u : Value) : OwnP (w.setCell ⟨g, o, none⟩ u) B v l :=
  h.other (gbT_set (gbT_refl w (some g))) (fun g' hg' e => by
    have := (h.lt hg').1
    simp only [Option.some.injEq] at e
    omega)
theorem OwnP.keptB {lo hi : Nat} {w w' : World} {B : Nat} {v : Value} {l : Pks} (h : OwnP w B v l) (hk : KeptB lo hi w w') (hB : hi ≤ B) : OwnP w' B v l := owns_keptB h hk hB
/-- A queue as a value, its lists as v1, v3 and v4. -/
abbrev qv (v1 v3 v4 : Value) (q : Qu) : Value := .agg #[.int .i64 q.win, v1, .int .i64 q.base, v3, v4]
abbrev qf (v1 v3 v4 : Value) (q : Qu) : Nat → Value := w5 (.int .i64 q.win) v1 (.int .i64 q.base) v3 v4
abbrev qarr (v1 v3 v4 : Value) (q : Qu) : Array Value := #[.int .i64 q.win, v1, .int .i64 q.base, v3, v4]
/-- A queue's lists, read. -/
structure QuQ (w : World) (v1 v3 v4 : Value) (q : Qu) : Prop where
  s : TxsOf w v1 q.sent
  g : TxsOf w v3 q.got
  l : PksOf w v4 q.line
theorem QuQ.below {w w' : World} {v1 v3 v4 : Value} {q : Qu} (h : QuQ w v1 v3 v4 q) (hb : Below w.heap.size w w') : QuQ w' v1 v3 v4 q := ⟨h.s.below hb, h.g.below hb, h.l.below hb⟩
def LensQ (q : Qu) : Prop := (q.sent.length ≤ maxLen ∧ ∀ x ∈ q.sent, x.size ≤ maxLen) ∧ (q.got.length ≤ maxLen ∧ ∀ x ∈ q.got, x.size ≤ maxLen) ∧ LenP q.line
structure ShortQ (q : Qu) : Prop where
  s : q.sent.length ≤ 1048576
  g : q.got.length ≤ 1048576
  l : q.line.length ≤ 1048576
/-- A queue's lists in memory of the call's own, from block lo up to hi, apart from each other. -/
structure AnsQ (w : World) (lo hi : Nat) (v1 v3 v4 : Value) (l1 l3 : Txs) (l4 : Pks) : Prop where
  o1 : OwnT w lo v1 l1
  o3 : OwnT w lo v3 l3
  o4 : OwnP w lo v4 l4
  a13 : Apart v1 v3
  a14 : Apart v1 v4
  a34 : Apart v3 v4
  h1 : ∀ g, v1.ownBlock = some g → g < hi
  h3 : ∀ g, v3.ownBlock = some g → g < hi
  h4 : ∀ g, v4.ownBlock = some g → g < hi
section
variable {w w' : World} {lo hi : Nat} {v1 v3 v4 : Value} {l1 l3 : Txs} {l4 : Pks}
theorem AnsQ.down (h : AnsQ w lo hi v1 v3 v4 l1 l3 l4) (hb : Below w.heap.size w w') : AnsQ w' lo hi v1 v3 v4 l1 l3 l4 := ⟨h.o1.down hb, h.o3.down hb, h.o4.down hb, h.a13, h.a14, h.a34, h.h1, h.h3, h.h4⟩
theorem AnsQ.mono {lo' hi' : Nat} (h : AnsQ w lo hi v1 v3 v4 l1 l3 l4) (hl : lo' ≤ lo) (hh : hi ≤ hi') : AnsQ w lo' hi' v1 v3 v4 l1 l3 l4 :=
  ⟨h.o1.mono hl, h.o3.mono hl, h.o4.mono hl, h.a13, h.a14, h.a34, fun g hg => by have := h.h1 g hg; omega, fun g hg => by have := h.h3 g hg; omega, fun g hg => by have := h.h4 g hg; omega⟩
theorem AnsQ.of (h1 : OwnT w lo v1 l1) (h3 : OwnT w lo v3 l3) (h4 : OwnP w lo v4 l4) (a : Apart v1 v3) (b : Apart v1 v4) (c : Apart v3 v4) : AnsQ w lo w.heap.size v1 v3 v4 l1 l3 l4 :=
  ⟨h1, h3, h4, a, b, c, fun _ hg => (h1.lt hg).2, fun _ hg => (h3.lt hg).2, fun _ hg => (h4.lt hg).2⟩
theorem AnsQ.kept {lo' hi' : Nat} (h : AnsQ w lo hi v1 v3 v4 l1 l3 l4) (hk : KeptB lo' hi' w w') (hB : hi' ≤ lo) : AnsQ w' lo hi v1 v3 v4 l1 l3 l4 :=
  ⟨h.o1.keptB hk hB, h.o3.keptB hk hB, h.o4.keptB hk hB, h.a13, h.a14, h.a34, h.h1, h.h3, h.h4⟩
theorem AnsQ.set_other (h : AnsQ w lo hi v1 v3 v4 l1 l3 l4) {g : Nat} (hne : g < lo) (o : Nat) (u : Value) : AnsQ (w.setCell ⟨g, o, none⟩ u) lo hi v1 v3 v4 l1 l3 l4 :=
  ⟨h.o1.set_other hne o u, h.o3.set_other hne o u, h.o4.set_other hne o u, h.a13, h.a14, h.a34, h.h1, h.h3, h.h4⟩
theorem AnsQ.nil (w : World) (lo hi : Nat) : AnsQ w lo hi (.slice none 0 0) (.slice none 0 0) (.slice none 0 0) [] [] [] :=
  ⟨OwnT.nil _ _, OwnT.nil _ _, OwnP.nil _ _, fun g h => by simp [Value.ownBlock] at h, fun g h => by simp [Value.ownBlock] at h, fun g h => by simp [Value.ownBlock] at h, fun g h => by simp [Value.ownBlock] at h, fun g h => by simp [Value.ownBlock] at h, fun g h => by simp [Value.ownBlock] at h⟩
end
theorem AnsQ.q {w : World} {lo hi : Nat} {v1 v3 v4 : Value} {q : Qu} (h : AnsQ w lo hi v1 v3 v4 q.sent q.got q.line) : QuQ w v1 v3 v4 q := ⟨h.o1.txs, h.o3.txs, h.o4.pks⟩
/-- While a copy of a queue is made: the argument's box, that of the answer, and the copy's. -/
structure TQ (w W : World) (q : Qu) (a1 a3 a4 x0 x1 x2 x3 x4 : Value) : Prop where
  low : Below w.heap.size w W
  arg : Blk W w.heap.size 5 (qf a1 a3 a4 q) 25
  res : Blk W (w.heap.size + 1) 5 (w5 (.int .i64 0) (.slice none 0 0) (.int .i64 0) (.slice none 0 0) (.slice none 0 0)) 32
  out : Blk W (w.heap.size + 1 + 1) 5 (w5 x0 x1 x2 x3 x4) 32
  big : w.heap.size + 3 ≤ W.heap.size
section
variable {w W W' : World} {q : Qu} {a1 a3 a4 x0 x1 x2 x3 x4 : Value}
theorem TQ.down (h : TQ w W q a1 a3 a4 x0 x1 x2 x3 x4) (hb : Below W.heap.size W W') : TQ w W' q a1 a3 a4 x0 x1 x2 x3 x4 :=
  ⟨h.low.trans (hb.mono h.low.size), h.arg.down hb, h.res.down hb, h.out.down hb, Nat.le_trans h.big hb.size⟩
theorem TQ.set0 (h : TQ w W q a1 a3 a4 x0 x1 x2 x3 x4) (u : Value) : TQ w (W.setCell ⟨w.heap.size + 1 + 1, 0, none⟩ u) q a1 a3 a4 u x1 x2 x3 x4 :=
  ⟨h.low.setCell (p := ⟨w.heap.size + 1 + 1, 0, none⟩) (show w.heap.size ≤ w.heap.size + 1 + 1 by omega) u, h.arg.set_other (by omega) _ _, h.res.set_other (by omega) _ _, h.out.pen0 u, by rw [World.size_setCell]; exact h.big⟩
theorem TQ.set1 (h : TQ w W q a1 a3 a4 x0 x1 x2 x3 x4) (u : Value) : TQ w (W.setCell ⟨w.heap.size + 1 + 1, 1, none⟩ u) q a1 a3 a4 x0 u x2 x3 x4 :=
  ⟨h.low.setCell (p := ⟨w.heap.size + 1 + 1, 1, none⟩) (show w.heap.size ≤ w.heap.size + 1 + 1 by omega) u, h.arg.set_other (by omega) _ _, h.res.set_other (by omega) _ _, h.out.pen1 u, by rw [World.size_setCell]; exact h.big⟩
theorem TQ.set2 (h : TQ w W q a1 a3 a4 x0 x1 x2 x3 x4) (u : Value) : TQ w (W.setCell ⟨w.heap.size + 1 + 1, 2, none⟩ u) q a1 a3 a4 x0 x1 u x3 x4 :=
  ⟨h.low.setCell (p := ⟨w.heap.size + 1 + 1, 2, none⟩) (show w.heap.size ≤ w.heap.size + 1 + 1 by omega) u, h.arg.set_other (by omega) _ _, h.res.set_other (by omega) _ _, h.out.pen2 u, by rw [World.size_setCell]; exact h.big⟩
theorem TQ.set3 (h : TQ w W q a1 a3 a4 x0 x1 x2 x3 x4) (u : Value) : TQ w (W.setCell ⟨w.heap.size + 1 + 1, 3, none⟩ u) q a1 a3 a4 x0 x1 x2 u x4 :=
  ⟨h.low.setCell (p := ⟨w.heap.size + 1 + 1, 3, none⟩) (show w.heap.size ≤ w.heap.size + 1 + 1 by omega) u, h.arg.set_other (by omega) _ _, h.res.set_other (by omega) _ _, h.out.pen3 u, by rw [World.size_setCell]; exact h.big⟩
theorem TQ.set4 (h : TQ w W q a1 a3 a4 x0 x1 x2 x3 x4) (u : Value) : TQ w (W.setCell ⟨w.heap.size + 1 + 1, 4, none⟩ u) q a1 a3 a4 x0 x1 x2 x3 u :=
  ⟨h.low.setCell (p := ⟨w.heap.size + 1 + 1, 4, none⟩) (show w.heap.size ≤ w.heap.size + 1 + 1 by omega) u, h.arg.set_other (by omega) _ _, h.res.set_other (by omega) _ _, h.out.pen4 u, by rw [World.size_setCell]; exact h.big⟩
end
end M
set_option maxHeartbeats 1000000 in
theorem eq_queue (v1 v3 v4 u1 u3 u4 : Value) (q : Qu) (w : World) (hv : QuQ w v1 v3 v4 q) (hu : QuQ w u1 u3 u4 q) (hs : ShortQ q) :
    Calls Try.prog 15 #[qv v1 v3 v4 q, qv u1 u3 u4 q] w fun e w' => e = .returned (.bool true) ∧ Below w.heap.size w w' := by
  obtain ⟨a1, c1, rfl⟩ := hv.s.form
  obtain ⟨a3, c3, rfl⟩ := hv.g.form
  obtain ⟨a4, c4, rfl⟩ := hv.l.form
  obtain ⟨b1, d1, rfl⟩ := hu.s.form
  obtain ⟨b3, d3, rfl⟩ := hu.g.form
  obtain ⟨b4, d4, rfl⟩ := hu.l.form
  have hb0 := ((Below.refl w.heap.size w).alloc (Nat.le_refl _) (.cells (qarr (.slice a1 q.sent.length c1) (.slice a3 q.got.length c3) (.slice a4 q.line.length c4) q) 32)).alloc (by simp) (.cells (qarr (.slice b1 q.sent.length d1) (.slice b3 q.got.length d3) (.slice b4 q.line.length d4) q) 32)
  have HM0 := hide (show Blk ((w.alloc (.cells (qarr (.slice a1 q.sent.length c1) (.slice a3 q.got.length c3) (.slice a4 q.line.length c4) q) 32)).alloc (.cells (qarr (.slice b1 q.sent.length d1) (.slice b3 q.got.length d3) (.slice b4 q.line.length d4) q) 32)) w.heap.size 5 (qf (.slice a1 q.sent.length c1) (.slice a3 q.got.length c3) (.slice a4 q.line.length c4) q) 32 from (newW5 w _ _ _ _ _ 32).alloc _)
  have HN0 := hide (show Blk ((w.alloc (.cells (qarr (.slice a1 q.sent.length c1) (.slice a3 q.got.length c3) (.slice a4 q.line.length c4) q) 32)).alloc (.cells (qarr (.slice b1 q.sent.length d1) (.slice b3 q.got.length d3) (.slice b4 q.line.length d4) q) 32)) (w.heap.size + 1) 5 (qf (.slice b1 q.sent.length d1) (.slice b3 q.got.length d3) (.slice b4 q.line.length d4) q) 32 from by
    have := newW5 (w.alloc (.cells (qarr (.slice a1 q.sent.length c1) (.slice a3 q.got.length c3) (.slice a4 q.line.length c4) q) 32)) (.int .i64 q.win) (.slice b1 q.sent.length d1) (.int .i64 q.base) (.slice b3 q.got.length d3) (.slice b4 q.line.length d4) 32
    rw [World.size_alloc] at this; exact this)
  have HV := hide hv
  have HU := hide hu
  have HS := hide hs
  have hx0 : (q.win != q.win) = false := by simp
  have hx2 : (q.base != q.base) = false := by simp
  clear hv hu hs
  go_enter Try.func15, Try.ntmps15
  go_wp2_with fail
  refine (eq_txs _ _ q.sent _ (HV.out.s.below hb0) (HU.out.s.below hb0) HS.out.s).mono ?_
  rintro e w1 ⟨rfl, hb⟩
  have hb1 := hb0.trans (hb.mono hb0.size)
  have HM1 := hide (HM0.out.down hb)
  have HN1 := hide (HN0.out.down hb)
  obtain ⟨⟨-, -, m2, m3, -⟩, -⟩ := HM1.out.pen
  obtain ⟨⟨-, -, n2, n3, -⟩, -⟩ := HN1.out.pen
  clear hb hb0 HM0 HN0
  go_wp2_with fail
  refine (eq_txs _ _ q.got _ (HV.out.g.below hb1) (HU.out.g.below hb1) HS.out.g).mono ?_
  rintro e w2 ⟨rfl, hb⟩
  have hb2 := hb1.trans (hb.mono hb1.size)
  have HM2 := hide (HM1.out.down hb)
  have HN2 := hide (HN1.out.down hb)
  obtain ⟨⟨-, -, -, -, m4⟩, -⟩ := HM2.out.pen
  obtain ⟨⟨-, -, -, -, n4⟩, -⟩ := HN2.out.pen
  clear hb hb1 HM1 HN1 m2 m3 n2 n3
  go_wp2_with fail
  refine (eq_pks _ _ q.line _ (HV.out.l.below hb2) (HU.out.l.below hb2) HS.out.l).mono ?_
  rintro e w3 ⟨rfl, hb⟩
  have hb3 := hb2.trans (hb.mono hb2.size)
  clear hb hb2 HM2 HN2 m4 n4
  go_wp2
  go_ret
  exact ⟨rfl, hb3⟩
set_option maxHeartbeats 1000000 in
theorem sz_queue (v1 v3 v4 : Value) (q : Qu) (w : World) (hv : QuQ w v1 v3 v4 q) (hl : LensQ q) :
    Calls Try.prog 9 #[qv v1 v3 v4 q, .int .i64 1048576] w fun e w' => (∃ r : Int, e = .returned (.int .i64 r) ∧ ((r < 0) ∨ (0 ≤ r ∧ r ≤ 1048576 ∧ ShortQ q))) ∧ Below w.heap.size w w' := by
  obtain ⟨a1, c1, rfl⟩ := hv.s.form
  obtain ⟨a3, c3, rfl⟩ := hv.g.form
  obtain ⟨a4, c4, rfl⟩ := hv.l.form
  have hbw := (Below.refl w.heap.size w).alloc (Nat.le_refl _) (.cells (qarr (.slice a1 q.sent.length c1) (.slice a3 q.got.length c3) (.slice a4 q.line.length c4) q) 25)
  have HN0 := hide (show Blk (w.alloc (.cells (qarr (.slice a1 q.sent.length c1) (.slice a3 q.got.length c3) (.slice a4 q.line.length c4) q) 25)) w.heap.size 5 (qf (.slice a1 q.sent.length c1) (.slice a3 q.got.length c3) (.slice a4 q.line.length c4) q) 25 from newW5 w _ _ _ _ _ 25)
  have HV := hide hv
  have HL := hide hl
  clear hv hl
  go_enter Try.func9, Try.ntmps9
  go_wp2_with fail
  refine (sz_txs _ q.sent _ _ (HV.out.s.below hbw) HL.out.1.1 HL.out.1.2 (by decide) (by decide)).mono ?_
  rintro e w1 ⟨⟨r, rfl, hr⟩, hb⟩
  have hb1 := hbw.trans (hb.mono hbw.size)
  have HN1 := hide (HN0.out.down hb)
  obtain ⟨⟨-, -, -, n3, -⟩, -⟩ := HN1.out.pen
  clear hb hbw HN0
  rcases hr with hrn | ⟨hr0, hr1, hr2⟩
  · go_wp2
    go_ret
    exact ⟨⟨_, rfl, .inl (by omega)⟩, hb1⟩
  have hrn : ¬ r < 0 := by omega
  have HR := hide hr2
  clear hr2
  go_wp2_with fail
  refine (sz_txs _ q.got _ _ (HV.out.g.below hb1) HL.out.2.1.1 HL.out.2.1.2 hr0 hr1).mono ?_
  rintro e w2 ⟨⟨r2, rfl, hr2⟩, hb⟩
  have hb2 := hb1.trans (hb.mono hb1.size)
  have HN2 := hide (HN1.out.down hb)
  obtain ⟨⟨-, -, -, -, n4⟩, -⟩ := HN2.out.pen
  clear hb hb1 n3 HN1
  rcases hr2 with hrn2 | ⟨k0, k1, k2⟩
  · go_wp2
    go_ret
    exact ⟨⟨_, rfl, .inl (by omega)⟩, hb2⟩
  have hrn2 : ¬ r2 < 0 := by omega
  have HR2 := hide k2
  clear k2
  go_wp2_with fail
  refine (sz_pks _ q.line _ _ (HV.out.l.below hb2) HL.out.2.2 k0 (by omega)).mono ?_
  rintro e w3 ⟨⟨r3, rfl, hr3⟩, hb⟩
  have hb3 := hb2.trans (hb.mono hb2.size)
  clear hb hb2 n4 HN2 HV HL
  rcases hr3 with hrn3 | ⟨j0, j1, j2⟩
  · go_wp2
    go_ret
    exact ⟨⟨_, rfl, .inl (by omega)⟩, hb3⟩
  have hrn3 : ¬ r3 < 0 := by omega
  have HR3 := hide j2
  clear j2
  go_wp2
  go_ret
  exact ⟨⟨_, rfl, .inr ⟨j0, by omega, HR.out, HR2.out, HR3.out⟩⟩, hb3⟩
set_option maxRecDepth 20000 in
set_option maxHeartbeats 2000000 in
theorem to_queue (v1 v3 v4 : Value) (q : Qu) (w : World) (hv : QuQ w v1 v3 v4 q) (hs : ShortQ q) :
    Calls Try.prog 12 #[qv v1 v3 v4 q] w fun e w' => (∃ u1 u3 u4, e = .returned (qv u1 u3 u4 q) ∧ AnsQ w' w.heap.size w'.heap.size u1 u3 u4 q.sent q.got q.line) ∧ Below w.heap.size w w' := by
  have HY := hide hv
  have HS := hide hs
  obtain ⟨a1, c1, rfl⟩ := hv.s.form
  obtain ⟨a3, c3, rfl⟩ := hv.g.form
  obtain ⟨a4, c4, rfl⟩ := hv.l.form
  clear hv hs
  obtain ⟨W, hW⟩ : ∃ W, ((w.alloc (.cells (qarr (.slice a1 q.sent.length c1) (.slice a3 q.got.length c3) (.slice a4 q.line.length c4) q) 25)).alloc (.cells #[.int .i64 0, .slice none 0 0, .int .i64 0, .slice none 0 0, .slice none 0 0] 32)).alloc (.cells #[.int .i64 q.win, .slice none 0 0, .int .i64 0, .slice none 0 0, .slice none 0 0] 32) = W := ⟨_, rfl⟩
  have HT0 := hide (show TQ w W q (.slice a1 q.sent.length c1) (.slice a3 q.got.length c3) (.slice a4 q.line.length c4) (.int .i64 q.win) (.slice none 0 0) (.int .i64 0) (.slice none 0 0) (.slice none 0 0) from by
    subst hW
    refine ⟨(((Below.refl _ w).alloc (Nat.le_refl _) _).alloc (by simp) _).alloc (by simp; omega) _, ((newW5 w _ _ _ _ _ 25).alloc _).alloc _, ?_, ?_, by simp⟩
    · have := (newW5 (w.alloc (.cells (qarr (.slice a1 q.sent.length c1) (.slice a3 q.got.length c3) (.slice a4 q.line.length c4) q) 25)) (.int .i64 0) (.slice none 0 0) (.int .i64 0) (.slice none 0 0) (.slice none 0 0) 32).alloc (.cells #[.int .i64 q.win, .slice none 0 0, .int .i64 0, .slice none 0 0, .slice none 0 0] 32)
      rw [World.size_alloc] at this; exact this
    · have := newW5 ((w.alloc (.cells (qarr (.slice a1 q.sent.length c1) (.slice a3 q.got.length c3) (.slice a4 q.line.length c4) q) 25)).alloc (.cells #[.int .i64 0, .slice none 0 0, .int .i64 0, .slice none 0 0, .slice none 0 0] 32)) (.int .i64 q.win) (.slice none 0 0) (.int .i64 0) (.slice none 0 0) (.slice none 0 0) 32
      rw [World.size_alloc, World.size_alloc] at this; exact this)
  have HWW := hide hW
  clear hW
  go_enter Try.func12, Try.ntmps12
  go_wp2_with fail
  rw [HWW.out]
  clear HWW
  refine (to_txs _ q.sent _ (HY.out.s.below HT0.out.low) HS.out.s).mono ?_
  rintro e w1 ⟨⟨rfl, hk1⟩, hb⟩
  have HT1 := hide (HT0.out.down hb)
  have HO1 := hide hk1
  clear hk1 hb
  obtain ⟨⟨-, -, d2, d3, -⟩, -⟩ := HT1.out.arg.pen
  obtain ⟨⟨-, f1, f2, -, -⟩, -, g1, g2, -, -⟩ := HT1.out.out.pen
  obtain ⟨W2, hW2⟩ : ∃ W2, (w1.setCell ⟨w.heap.size + 1 + 1, 1, none⟩ (.slice (some ⟨W.heap.size, 0, none⟩) q.sent.length q.sent.length)).setCell ⟨w.heap.size + 1 + 1, 2, none⟩ (.int .i64 q.base) = W2 := ⟨_, rfl⟩
  have HT2 := hide (show TQ w W2 q (.slice a1 q.sent.length c1) (.slice a3 q.got.length c3) (.slice a4 q.line.length c4) (.int .i64 q.win) (.slice (some ⟨W.heap.size, 0, none⟩) q.sent.length q.sent.length) (.int .i64 q.base) (.slice none 0 0) (.slice none 0 0) from by rw [← hW2]; exact (HT1.out.set1 _).set2 _)
  have HO2 := hide (show OwnT W2 W.heap.size (.slice (some ⟨W.heap.size, 0, none⟩) q.sent.length q.sent.length) q.sent from by
    have := HT0.out.big
    rw [← hW2]; exact (HO1.out.set_other (by omega) _ _).set_other (by omega) _ _)
  have HW2 := hide (show W.heap.size < W2.heap.size from by rw [← hW2, World.size_setCell, World.size_setCell]; exact (HO1.out.lt (g := W.heap.size) rfl).2)
  have HWW2 := hide hW2
  clear hW2
  go_wp2_with fail
  rw [HWW2.out]
  clear HWW2 HT1 HO1 d2 d3 f1 f2 g1 g2
  refine (to_txs _ q.got _ (HY.out.g.below HT2.out.low) HS.out.g).mono ?_
  rintro e w3 ⟨⟨rfl, hk3⟩, hb⟩
  have HT3 := hide (HT2.out.down hb)
  have HO3 := hide (HO2.out.down hb)
  have HP3 := hide hk3
  clear hk3 hb HO2
  obtain ⟨⟨-, -, -, -, d4⟩, -⟩ := HT3.out.arg.pen
  obtain ⟨⟨-, -, -, f3, -⟩, -, -, -, g3, -⟩ := HT3.out.out.pen
  obtain ⟨W4, hW4⟩ : ∃ W4, w3.setCell ⟨w.heap.size + 1 + 1, 3, none⟩ (.slice (some ⟨W2.heap.size, 0, none⟩) q.got.length q.got.length) = W4 := ⟨_, rfl⟩
  have HT4 := hide (show TQ w W4 q (.slice a1 q.sent.length c1) (.slice a3 q.got.length c3) (.slice a4 q.line.length c4) (.int .i64 q.win) (.slice (some ⟨W.heap.size, 0, none⟩) q.sent.length q.sent.length) (.int .i64 q.base) (.slice (some ⟨W2.heap.size, 0, none⟩) q.got.length q.got.length) (.slice none 0 0) from by rw [← hW4]; exact HT3.out.set3 _)
  have HO4 := hide (show OwnT W4 W.heap.size (.slice (some ⟨W.heap.size, 0, none⟩) q.sent.length q.sent.length) q.sent ∧ OwnT W4 W2.heap.size (.slice (some ⟨W2.heap.size, 0, none⟩) q.got.length q.got.length) q.got from by
    have h1 := HT0.out.big
    have h2 := HT2.out.big
    rw [← hW4]; exact ⟨HO3.out.set_other (by omega) _ _, HP3.out.set_other (by omega) _ _⟩)
  have HW4 := hide (show W2.heap.size < W4.heap.size from by rw [← hW4, World.size_setCell]; exact (HP3.out.lt (g := W2.heap.size) rfl).2)
  have HWW4 := hide hW4
  clear hW4
  go_wp2_with fail
  rw [HWW4.out]
  clear HWW4 HT3 HO3 HP3 d4 f3 g3
  refine (to_pks _ q.line _ (HY.out.l.below HT4.out.low) HS.out.l).mono ?_
  rintro e w5 ⟨⟨rfl, hk5⟩, hb⟩
  have HT5 := hide (HT4.out.down hb)
  have HO5 := hide (show OwnT w5 W.heap.size (.slice (some ⟨W.heap.size, 0, none⟩) q.sent.length q.sent.length) q.sent ∧ OwnT w5 W2.heap.size (.slice (some ⟨W2.heap.size, 0, none⟩) q.got.length q.got.length) q.got from ⟨HO4.out.1.down hb, HO4.out.2.down hb⟩)
  have HP5 := hide hk5
  clear hk5 hb HO4
  obtain ⟨⟨f0, f1, f2, f3, f4⟩, g0, g1, g2, g3, g4⟩ := HT5.out.out.pen
  obtain ⟨⟨e0, e1, e2, e3, e4⟩, h0, h1, h2, h3, h4⟩ := HT5.out.res.pen
  obtain ⟨W6, hW6⟩ : ∃ W6, w5.setCell ⟨w.heap.size + 1 + 1, 4, none⟩ (.slice (some ⟨W4.heap.size, 0, none⟩) q.line.length q.line.length) = W6 := ⟨_, rfl⟩
  have HT6 := hide (show TQ w W6 q (.slice a1 q.sent.length c1) (.slice a3 q.got.length c3) (.slice a4 q.line.length c4) (.int .i64 q.win) (.slice (some ⟨W.heap.size, 0, none⟩) q.sent.length q.sent.length) (.int .i64 q.base) (.slice (some ⟨W2.heap.size, 0, none⟩) q.got.length q.got.length) (.slice (some ⟨W4.heap.size, 0, none⟩) q.line.length q.line.length) from by rw [← hW6]; exact HT5.out.set4 _)
  have HO6 := hide (show (OwnT W6 W.heap.size (.slice (some ⟨W.heap.size, 0, none⟩) q.sent.length q.sent.length) q.sent ∧ OwnT W6 W2.heap.size (.slice (some ⟨W2.heap.size, 0, none⟩) q.got.length q.got.length) q.got) ∧ OwnP W6 W4.heap.size (.slice (some ⟨W4.heap.size, 0, none⟩) q.line.length q.line.length) q.line from by
    have h1 := HT0.out.big
    have h2 := HT2.out.big
    have h3 := HT4.out.big
    rw [← hW6]; exact ⟨⟨HO5.out.1.set_other (by omega) _ _, HO5.out.2.set_other (by omega) _ _⟩, HP5.out.set_other (by omega) _ _⟩)
  obtain ⟨WZ, hWZ⟩ : ∃ WZ, ((((W6.setCell ⟨w.heap.size + 1, 0, none⟩ (.int .i64 q.win)).setCell ⟨w.heap.size + 1, 1, none⟩ (.slice (some ⟨W.heap.size, 0, none⟩) q.sent.length q.sent.length)).setCell ⟨w.heap.size + 1, 2, none⟩ (.int .i64 q.base)).setCell ⟨w.heap.size + 1, 3, none⟩ (.slice (some ⟨W2.heap.size, 0, none⟩) q.got.length q.got.length)).setCell ⟨w.heap.size + 1, 4, none⟩ (.slice (some ⟨W4.heap.size, 0, none⟩) q.line.length q.line.length) = WZ := ⟨_, rfl⟩
  have hZ := putW5 HT6.out.res HT6.out.low (by omega) _ _ _ _ _ WZ hWZ
  have HZ := hide hZ
  have HA := hide (show AnsQ WZ w.heap.size WZ.heap.size (.slice (some ⟨W.heap.size, 0, none⟩) q.sent.length q.sent.length) (.slice (some ⟨W2.heap.size, 0, none⟩) q.got.length q.got.length) (.slice (some ⟨W4.heap.size, 0, none⟩) q.line.length q.line.length) q.sent q.got q.line from by
    have h1 := HT0.out.big
    have h2 := HT2.out.big
    have h3 := HT4.out.big
    have h4 := HW2.out
    have h5 := HW4.out
    refine AnsQ.of ((HO6.out.1.1.other hZ.2.2 (fun g hg e => ?_)).mono (by omega)) ((HO6.out.1.2.other hZ.2.2 (fun g hg e => ?_)).mono (by omega)) ((HO6.out.2.other hZ.2.2 (fun g hg e => ?_)).mono (by omega)) (fun g hg e => ?_) (fun g hg e => ?_) (fun g hg e => ?_)
    all_goals (simp only [Value.ownBlock, Option.some.injEq] at hg e; omega))
  rw [← hW6] at hWZ
  have HWZ := hide hWZ
  clear hWZ hW6 hZ HT2 HT4 HT5 HT6 HO5 HP5 HO6 HT0
  go_wp2
  rw [HWZ.out]
  clear e0 e1 e2 e3 e4 f0 f1 f2 f3 f4 g0 g1 g2 g3 g4 h0 h1 h2 h3 h4
  obtain ⟨⟨e0, e1, e2, e3, e4⟩, -⟩ := HZ.out.1.pen
  exact bodyPost_ret (v := qv (.slice (some ⟨W.heap.size, 0, none⟩) q.sent.length q.sent.length) (.slice (some ⟨W2.heap.size, 0, none⟩) q.got.length q.got.length) (.slice (some ⟨W4.heap.size, 0, none⟩) q.line.length q.line.length) q) (by simp [results, Try.results12, go_sem, e0, e1, e2, e3, e4]) rfl ⟨⟨_, _, _, rfl, HA.out⟩, HZ.out.2.1⟩
namespace M
def mkQ (q : Qu) : Nat := 1 + q.sent.length + q.got.length + q.line.length * 3
/-- Marks on a queue's lists. -/
def MkdQ (w : World) (lo hi : Nat) (v1 v3 v4 : Value) (q : Qu) : Prop := AnsQ w lo hi v1 v3 v4 (mks 1 q.sent.length) (mks (1 + q.sent.length) q.got.length) (mkP (1 + q.sent.length + q.got.length) q.line.length)
end M
set_option maxHeartbeats 1000000 in
theorem mark_queue (lo hi : Nat) (v1 v3 v4 : Value) (q : Qu) (w : World) (h : AnsQ w lo hi v1 v3 v4 q.sent q.got q.line) (hs : ShortQ q) (hhi : hi ≤ w.heap.size) :
    Calls Try.prog 16 #[qv v1 v3 v4 q, .int .i64 1] w fun e w' => e = .returned (.int .i64 ((mkQ q : Nat) : Int)) ∧ MkdQ w' lo hi v1 v3 v4 q ∧ KeptB lo hi w w' := by
  obtain ⟨a1, c1, rfl⟩ := h.o1.form
  obtain ⟨a3, c3, rfl⟩ := h.o3.form
  obtain ⟨a4, c4, rfl⟩ := h.o4.form
  have hbA := (Below.refl w.heap.size w).alloc (Nat.le_refl _) (.cells (qarr (.slice a1 q.sent.length c1) (.slice a3 q.got.length c3) (.slice a4 q.line.length c4) q) 32)
  have HN := hide (show Blk (w.alloc (.cells (qarr (.slice a1 q.sent.length c1) (.slice a3 q.got.length c3) (.slice a4 q.line.length c4) q) 32)) w.heap.size 5 (qf (.slice a1 q.sent.length c1) (.slice a3 q.got.length c3) (.slice a4 q.line.length c4) q) 32 from newW5 w _ _ _ _ _ 32)
  have HV := hide (h.down hbA)
  have HS := hide hs
  clear h hs
  go_enter Try.func16, Try.ntmps16
  go_wp2_with fail
  refine (mark_txs lo 1 _ q.sent _ HV.out.o1 HS.out.s (by omega) (by omega)).mono ?_
  rintro e w1 ⟨rfl, h1, hg⟩
  have hk := KeptB.of (lo := lo) (hi := hi) hg (fun g hg => ⟨(HV.out.o1.lt hg).1, HV.out.h1 g hg⟩)
  have HO3 := hide (HV.out.o3.other hg (fun g hg e => HV.out.a13 g e.symm hg))
  have HO4 := hide (HV.out.o4.other hg (fun g hg e => HV.out.a14 g e.symm hg))
  have HO1 := hide h1
  have hk1 := (Below.keptB hbA lo hi).trans hk
  have HN1 := hide (hk.blk HN.out (.inr hhi))
  obtain ⟨⟨-, -, -, d3, -⟩, -⟩ := HN1.out.pen
  clear h1 hg hk HN hbA
  obtain ⟨m, hm⟩ : ∃ m, 1 + q.sent.length = m := ⟨_, rfl⟩
  have hm1 : m ≤ 2000000 := by have := HS.out.s; omega
  have hm2 : 1 ≤ m := by omega
  rw [hm]
  have HM := hide hm
  clear hm
  go_wp2_with fail
  refine (mark_txs lo m _ q.got _ HO3.out HS.out.g hm2 (by omega)).mono ?_
  rintro e w2 ⟨rfl, h3, hg⟩
  have hk := KeptB.of (lo := lo) (hi := hi) hg (fun g hg => ⟨(HO3.out.lt hg).1, HV.out.h3 g hg⟩)
  have HP1 := hide (HO1.out.other hg (fun g hg e => HV.out.a13 g hg e.symm))
  have HP3 := hide h3
  have HP4 := hide (HO4.out.other hg (fun g hg e => HV.out.a34 g e.symm hg))
  have hk2 := hk1.trans hk
  have HN2 := hide (hk.blk HN1.out (.inr hhi))
  obtain ⟨⟨-, -, -, -, d4⟩, -⟩ := HN2.out.pen
  clear h3 hg hk HN1 hk1 HO1 HO3 HO4 d3
  obtain ⟨m2, hn⟩ : ∃ m2, m + q.got.length = m2 := ⟨_, rfl⟩
  have hn1 : m2 ≤ 4000000 := by have := HS.out.g; omega
  have hn2 : 1 ≤ m2 := by omega
  rw [hn]
  have HM2 := hide hn
  clear hn
  go_wp2_with fail
  refine (mark_pks lo m2 _ q.line _ HP4.out HS.out.l hn2 (by omega)).mono ?_
  rintro e w3 ⟨rfl, h4, hg⟩
  have hk := KeptB.of (lo := lo) (hi := hi) hg (fun g hg => ⟨(HP4.out.lt hg).1, HV.out.h4 g hg⟩)
  have hk3 := hk2.trans hk
  have HQ := hide (show AnsQ w3 lo hi (.slice a1 q.sent.length c1) (.slice a3 q.got.length c3) (.slice a4 q.line.length c4) (mks 1 q.sent.length) (mks m q.got.length) (mkP m2 q.line.length) from
    ⟨HP1.out.other hg (fun g hg e => HV.out.a14 g hg e.symm), HP3.out.other hg (fun g hg e => HV.out.a34 g hg e.symm), h4, HV.out.a13, HV.out.a14, HV.out.a34, HV.out.h1, HV.out.h3, HV.out.h4⟩)
  obtain ⟨m3, hn3⟩ : ∃ m3, m2 + q.line.length * 3 = m3 := ⟨_, rfl⟩
  have HM3 := hide hn3
  rw [hn3]
  clear hn3 HP1 HP3 HP4 HS h4 hk hg hk2 d4 HV HN2
  go_wp2
  go_ret
  have e1 := HM.out
  have e2 := HM2.out
  have e3 := HM3.out
  subst e1; subst e2; subst e3
  exact ⟨rfl, HQ.out, hk3⟩
set_option maxHeartbeats 1000000 in
theorem held_queue (lo hi : Nat) (v1 v3 v4 : Value) (q : Qu) (w : World) (h : MkdQ w lo hi v1 v3 v4 q) (hs : ShortQ q) :
    Calls Try.prog 17 #[qv v1 v3 v4 q, .int .i64 1] w fun e w' => e = .returned (.int .i64 ((mkQ q : Nat) : Int)) ∧ Below w.heap.size w w' := by
  unfold MkdQ at h
  obtain ⟨a1, c1, rfl⟩ := h.o1.form
  obtain ⟨a3, c3, rfl⟩ := h.o3.form
  obtain ⟨a4, c4, rfl⟩ := h.o4.form
  rw [mks_len, mks_len, mkP_len] at *
  have hbA := (Below.refl w.heap.size w).alloc (Nat.le_refl _) (.cells (qarr (.slice a1 q.sent.length c1) (.slice a3 q.got.length c3) (.slice a4 q.line.length c4) q) 32)
  have HN := hide (show Blk (w.alloc (.cells (qarr (.slice a1 q.sent.length c1) (.slice a3 q.got.length c3) (.slice a4 q.line.length c4) q) 32)) w.heap.size 5 (qf (.slice a1 q.sent.length c1) (.slice a3 q.got.length c3) (.slice a4 q.line.length c4) q) 32 from newW5 w _ _ _ _ _ 32)
  have HV := hide (h.down hbA)
  have HS := hide hs
  clear h hs
  go_enter Try.func17, Try.ntmps17
  go_wp2_with fail
  refine (held_txs _ 1 q.sent.length _ HV.out.o1.txs HS.out.s (by omega) (by omega)).mono ?_
  rintro e w1 ⟨rfl, hb⟩
  have hb1 := hbA.trans (hb.mono hbA.size)
  have HO3 := hide (HV.out.o3.down hb)
  have HO4 := hide (HV.out.o4.down hb)
  have HN1 := hide (HN.out.down hb)
  obtain ⟨⟨-, -, -, d3, -⟩, -⟩ := HN1.out.pen
  clear hb hbA HN HV
  obtain ⟨m, hm⟩ : ∃ m, 1 + q.sent.length = m := ⟨_, rfl⟩
  have hm1 : m ≤ 2000000 := by have := HS.out.s; omega
  have hm2 : 1 ≤ m := by omega
  have hmn : ¬ ((m : Int) < 0) := by omega
  rw [hm] at HO3 HO4 ⊢
  have HM := hide hm
  clear hm
  go_wp2_with fail
  refine (held_txs _ m q.got.length _ HO3.out.txs HS.out.g hm2 (by omega)).mono ?_
  rintro e w2 ⟨rfl, hb⟩
  have hb2 := hb1.trans (hb.mono hb1.size)
  have HP4 := hide (HO4.out.down hb)
  obtain ⟨⟨-, -, -, -, d4⟩, -⟩ := (HN1.out.down hb).pen
  clear hb hb1 HN1 HO3 HO4 d3
  obtain ⟨m2, hn⟩ : ∃ m2, m + q.got.length = m2 := ⟨_, rfl⟩
  have hn1 : m2 ≤ 4000000 := by have := HS.out.g; omega
  have hn2 : 1 ≤ m2 := by omega
  have hmn2 : ¬ ((m2 : Int) < 0) := by omega
  rw [hn] at HP4 ⊢
  have HM2 := hide hn
  clear hn
  go_wp2_with fail
  refine (held_pks _ m2 q.line.length _ HP4.out.pks HS.out.l hn2 (by omega)).mono ?_
  rintro e w3 ⟨rfl, hb⟩
  have hb3 := hb2.trans (hb.mono hb2.size)
  obtain ⟨m3, hn3⟩ : ∃ m3, m2 + q.line.length * 3 = m3 := ⟨_, rfl⟩
  have hmn3 : ¬ ((m3 : Int) < 0) := by omega
  have HM3 := hide hn3
  rw [hn3]
  clear hn3 HP4 HS hb hb2 d4
  go_wp2
  go_ret
  have e1 := HM.out
  have e2 := HM2.out
  have e3 := HM3.out
  subst e1; subst e2; subst e3
  exact ⟨rfl, hb3⟩
end Go.Proofs.Ytfjdbenbiakbbaa
