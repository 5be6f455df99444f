/-
  Marks on a queue's lists, and what the law of StepQueue keeps.
-/
import Derived.Test.YtphcaadckfemjaaQuSg
namespace Go.Proofs.Ytphcaadckfemjaa
open Go.RowKit M
set_option maxHeartbeats 1000000 in
theorem mark_queue2 (lo hi : Nat) (v1 v3 v4 : Value) (q : Qu) (w : World) (h : AnsQ w lo hi v1 v3 v4 q.sent q.got q.line) (hs : ShortQ q) (hhi : hi ≤ w.heap.size) :
    Calls Try.prog 12 #[qv v1 v3 v4 q, .int .i64 1] w fun e w' => e = .returned (.int .i64 ((mkQ q : Nat) : Int)) ∧ MkdQ w' lo hi v1 v3 v4 q ∧ Chg (MineL v1 v3 v4) w w' := by
  obtain ⟨a1, c1, rfl⟩ := h.o1.form
  obtain ⟨a3, c3, rfl⟩ := h.o3.form
  obtain ⟨a4, c4, rfl⟩ := h.o4.form
  have hbA := (Below.refl w.heap.size w).alloc (Nat.le_refl _) (.cells (qarr (.slice a1 q.sent.length c1) (.slice a3 q.got.length c3) (.slice a4 q.line.length c4) q) 32)
  have HN := hide (show Blk (w.alloc (.cells (qarr (.slice a1 q.sent.length c1) (.slice a3 q.got.length c3) (.slice a4 q.line.length c4) q) 32)) w.heap.size 5 (qf (.slice a1 q.sent.length c1) (.slice a3 q.got.length c3) (.slice a4 q.line.length c4) q) 32 from newW5 w _ _ _ _ _ 32)
  have HV := hide (h.down hbA)
  have HS := hide hs
  clear h hs
  go_enter Try.func12, Try.ntmps12
  go_wp2_with fail
  refine (mark_txs lo 1 _ q.sent _ HV.out.o1 HS.out.s (by omega) (by omega)).mono ?_
  rintro e w1 ⟨rfl, h1, hg⟩
  have hk : Chg (MineL (.slice a1 q.sent.length c1) (.slice a3 q.got.length c3) (.slice a4 q.line.length c4)) _ _ := Chg.gb hg (fun k e => .inl e)
  have HO3 := hide (HV.out.o3.other hg (fun g hg e => HV.out.a13 g e.symm hg))
  have HO4 := hide (HV.out.o4.other hg (fun g hg e => HV.out.a14 g e.symm hg))
  have HO1 := hide h1
  have hk1 := (Below.chg hbA _).and hk
  have HN1 := hide (HN.out.gb hg (fun e => by have := HV.out.h1 _ e.symm; omega))
  obtain ⟨⟨-, -, -, d3, -⟩, -⟩ := HN1.out.pen
  clear h1 hg hk HN hbA
  obtain ⟨m, hm⟩ : ∃ m, 1 + q.sent.length = m := ⟨_, rfl⟩
  have hm1 : m ≤ 2000000 := by have := HS.out.s; omega
  have hm2 : 1 ≤ m := by omega
  rw [hm]
  have HM := hide hm
  clear hm
  go_wp2_with fail
  refine (mark_txs lo m _ q.got _ HO3.out HS.out.g hm2 (by omega)).mono ?_
  rintro e w2 ⟨rfl, h3, hg⟩
  have hk : Chg (MineL (.slice a1 q.sent.length c1) (.slice a3 q.got.length c3) (.slice a4 q.line.length c4)) _ _ := Chg.gb hg (fun k e => .inr (.inl e))
  have HP1 := hide (HO1.out.other hg (fun g hg e => HV.out.a13 g hg e.symm))
  have HP3 := hide h3
  have HP4 := hide (HO4.out.other hg (fun g hg e => HV.out.a34 g e.symm hg))
  have hk2 := hk1.and hk
  have HN2 := hide (HN1.out.gb hg (fun e => by have := HV.out.h3 _ e.symm; omega))
  obtain ⟨⟨-, -, -, -, d4⟩, -⟩ := HN2.out.pen
  clear h3 hg hk HN1 hk1 HO1 HO3 HO4 d3
  obtain ⟨m2, hn⟩ : ∃ m2, m + q.got.length = m2 := ⟨_, rfl⟩
  have hn1 : m2 ≤ 4000000 := by have := HS.out.g; omega
  have hn2 : 1 ≤ m2 := by omega
  rw [hn]
  have HM2 := hide hn
  clear hn
  go_wp2_with fail
  refine (mark_pks lo m2 _ q.line _ HP4.out HS.out.l hn2 (by omega)).mono ?_
  rintro e w3 ⟨rfl, h4, hg⟩
  have hk : Chg (MineL (.slice a1 q.sent.length c1) (.slice a3 q.got.length c3) (.slice a4 q.line.length c4)) _ _ := Chg.gb hg (fun k e => .inr (.inr e))
  have hk3 := hk2.and hk
  have HQ := hide (show AnsQ w3 lo hi (.slice a1 q.sent.length c1) (.slice a3 q.got.length c3) (.slice a4 q.line.length c4) (mks 1 q.sent.length) (mks m q.got.length) (mkP m2 q.line.length) from
    ⟨HP1.out.other hg (fun g hg e => HV.out.a14 g hg e.symm), HP3.out.other hg (fun g hg e => HV.out.a34 g hg e.symm), h4, HV.out.a13, HV.out.a14, HV.out.a34, HV.out.h1, HV.out.h3, HV.out.h4⟩)
  obtain ⟨m3, hn3⟩ : ∃ m3, m2 + q.line.length * 3 = m3 := ⟨_, rfl⟩
  have HM3 := hide hn3
  rw [hn3]
  clear hn3 HP1 HP3 HP4 HS h4 hk hg hk2 d4 HV HN2
  go_wp2
  go_ret
  have e1 := HM.out
  have e2 := HM2.out
  have e3 := HM3.out
  subst e1; subst e2; subst e3
  exact ⟨rfl, HQ.out, hk3⟩
namespace M
/-- The law's own two boxes. -/
structure LBq (w W : World) (q : Qu) (s : Lst) (v1 v3 v4 : Value) : Prop where
  low : Below w.heap.size w W
  sb : Blk W w.heap.size 5 (qf v1 v3 v4 q) 25
  eb : Blk W (w.heap.size + 1) 3 (ql s) 27
theorem LBq.down {w W W' : World} {q : Qu} {s : Lst} {v1 v3 v4 : Value} (h : LBq w W q s v1 v3 v4) (hb : Below W.heap.size W W') : LBq w W' q s v1 v3 v4 := ⟨h.low.trans (hb.mono h.low.size), h.sb.down hb, h.eb.down hb⟩
theorem LBq.new (w : World) (q : Qu) (s : Lst) (v1 v3 v4 : Value) : LBq w ((w.alloc (.cells (qarr v1 v3 v4 q) 25)).alloc (.cells #[.int .i64 s.kind, .int .i64 s.k, .string s.tx] 27)) q s v1 v3 v4 := by
  refine ⟨((Below.refl _ w).alloc (Nat.le_refl _) _).alloc (by simp) _, (newW5 w _ _ _ _ _ 25).alloc _, ?_⟩
  have := newT3 (w.alloc (.cells (qarr v1 v3 v4 q) 25)) (.int .i64 s.kind) (.int .i64 s.k) (.string s.tx) 27
  rw [World.size_alloc] at this; exact this
/-- Behind the program's answer: the copy that it was given, and the answer, each with its box. -/
structure LQ (C W : World) (gx : Nat) (z1 z3 z4 : Value) (q : Qu) (H g hi : Nat) (q1 q3 q4 : Value) (r : Qu) : Prop where
  low : Below C.heap.size C W
  xb : Blk W gx 5 (qf z1 z3 z4 q) 32
  xa : AnsQ W C.heap.size H z1 z3 z4 q.sent q.got q.line
  gb : Blk W g 5 (qf q1 q3 q4 r) 32
  ga : AnsQ W H hi q1 q3 q4 r.sent r.got r.line
  hH : H ≤ W.heap.size
  hhi : hi ≤ W.heap.size
  hg : H ≤ g
section
variable {C A W W' : World} {gx H g hi : Nat} {z1 z3 z4 q1 q3 q4 : Value} {q r : Qu} {l1 l3 m1 m3 : Txs} {l4 m4 : Pks}
theorem LQ.down (h : LQ C W gx z1 z3 z4 q H g hi q1 q3 q4 r) (hb : Below W.heap.size W W') : LQ C W' gx z1 z3 z4 q H g hi q1 q3 q4 r :=
  ⟨h.low.trans (hb.mono h.low.size), h.xb.down hb, h.xa.down hb, h.gb.down hb, h.ga.down hb, Nat.le_trans h.hH hb.size, Nat.le_trans h.hhi hb.size, h.hg⟩
/-- The answer alone, with lists in it. -/
structure LU (C W : World) (H g hi : Nat) (q1 q3 q4 : Value) (r : Qu) (l1 l3 : Txs) (l4 : Pks) : Prop where
  low : Below C.heap.size C W
  gb : Blk W g 5 (qf q1 q3 q4 r) 32
  ga : AnsQ W H hi q1 q3 q4 l1 l3 l4
  hhi : hi ≤ W.heap.size
theorem LU.down (h : LU C W H g hi q1 q3 q4 r l1 l3 l4) (hb : Below W.heap.size W W') : LU C W' H g hi q1 q3 q4 r l1 l3 l4 :=
  ⟨h.low.trans (hb.mono h.low.size), h.gb.down hb, h.ga.down hb, Nat.le_trans h.hhi hb.size⟩
theorem LQ.mark (h : LQ C W gx z1 z3 z4 q H g hi q1 q3 q4 r) (hk : Chg (MineL z1 z3 z4) W W') : LU C W' H g hi q1 q3 q4 r r.sent r.got r.line := by
  have hz : ∀ k, MineL z1 z3 z4 k → C.heap.size ≤ k ∧ k < H := by
    rintro k (e | e | e)
    · exact ⟨(h.xa.o1.lt e).1, h.xa.h1 k e⟩
    · exact ⟨(h.xa.o3.lt e).1, h.xa.h3 k e⟩
    · exact ⟨(h.xa.o4.lt e).1, h.xa.h4 k e⟩
  refine ⟨h.low.trans (hk.low (fun k e => (hz k e).1) h.low.size), h.gb.chg hk (fun e => by have := (hz _ e).2; have := h.hg; omega), ?_, Nat.le_trans h.hhi hk.size⟩
  have hn : ∀ k, H ≤ k → ¬ MineL z1 z3 z4 k := fun k hk e => by have := (hz k e).2; omega
  exact ⟨owns_chg h.ga.o1 hk (fun k e => hn k (h.ga.o1.lt e).1), owns_chg h.ga.o3 hk (fun k e => hn k (h.ga.o3.lt e).1), owns_chg h.ga.o4 hk (fun k e => hn k (h.ga.o4.lt e).1), h.ga.a13, h.ga.a14, h.ga.a34, h.ga.h1, h.ga.h3, h.ga.h4⟩
theorem LU.mark (h : LU C W H g hi q1 q3 q4 r l1 l3 l4) (hH : C.heap.size ≤ H) (hk : Chg (MineL q1 q3 q4) W W') (ha : AnsQ W' H hi q1 q3 q4 m1 m3 m4) : LU C W' H g hi q1 q3 q4 r m1 m3 m4 := by
  refine ⟨h.low.trans (hk.low (fun k e => ?_) h.low.size), h.gb.chg hk (fun e => ?_), ha, Nat.le_trans h.hhi hk.size⟩
  · rcases e with e | e | e
    · exact Nat.le_trans hH (h.ga.o1.lt e).1
    · exact Nat.le_trans hH (h.ga.o3.lt e).1
    · exact Nat.le_trans hH (h.ga.o4.lt e).1
  · rcases e with e | e | e
    · exact h.ga.o1.ne_blk h.gb (by decide) e
    · exact h.ga.o3.ne_blk h.gb (by decide) e
    · exact h.ga.o4.ne_blk h.gb (by decide) e
theorem LX.lq {y1 y3 y4 : Value} (h : LX A W g y1 y3 y4 r) (hC : Below C.heap.size C A) (hx : Blk A gx 5 (qf z1 z3 z4 q) 32) (ha : AnsQ A C.heap.size A.heap.size z1 z3 z4 q.sent q.got q.line) : LQ C W gx z1 z3 z4 q A.heap.size g W.heap.size y1 y3 y4 r :=
  ⟨hC.trans (h.low.mono hC.size), hx.down h.low, ha.down h.low, h.box, h.ans, h.low.size, Nat.le_refl _, h.lo⟩
end
end M
end Go.Proofs.Ytphcaadckfemjaa
