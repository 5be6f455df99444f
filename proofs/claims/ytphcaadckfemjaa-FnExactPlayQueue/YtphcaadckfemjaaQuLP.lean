/-
  The law of PlayQueue, walked: it returns true and turns nothing that was there.
-/
import Derived.Test.YtphcaadckfemjaaQuLM
import Derived.Test.YtphcaadckfemjaaQuPs
namespace Go.Proofs.Ytphcaadckfemjaa
open Go.RowKit M
namespace M
/-- The program's answer: the queue's box, its lists, the list of bools. -/
structure LW (C W : World) (lo hi g : Nat) (y1 y3 y4 yb : Value) (r : Qu) (l1 l3 : Txs) (l4 : Pks) (cs : List Bool) : Prop where
  low : Below C.heap.size C W
  cl : C.heap.size ≤ lo
  lh : lo ≤ hi
  gb : Blk W g 5 (qf y1 y3 y4 r) 32
  ga : AnsQ W lo hi y1 y3 y4 l1 l3 l4
  bl : OB W lo yb cs
  ap : ∀ k, yb.ownBlock = some k → k < hi ∧ y1.ownBlock ≠ some k ∧ y3.ownBlock ≠ some k ∧ y4.ownBlock ≠ some k
  hg : hi ≤ g
  hhi : hi ≤ W.heap.size
section
variable {C W W' : World} {lo hi g : Nat} {y1 y3 y4 yb : Value} {r : Qu} {l1 l3 m1 m3 : Txs} {l4 m4 : Pks} {cs ds : List Bool}
theorem LW.down (h : LW C W lo hi g y1 y3 y4 yb r l1 l3 l4 cs) (hb : Below W.heap.size W W') : LW C W' lo hi g y1 y3 y4 yb r l1 l3 l4 cs :=
  ⟨h.low.trans (hb.mono h.low.size), h.cl, h.lh, h.gb.down hb, h.ga.down hb, h.bl.down hb, h.ap, h.hg, Nat.le_trans h.hhi hb.size⟩
theorem LW.chg {S : Nat → Prop} (h : LW C W lo hi g y1 y3 y4 yb r l1 l3 l4 cs) (hc : Chg S W W') (h0 : ∀ k, S k → C.heap.size ≤ k) (h1 : ∀ k, S k → k < lo) : LW C W' lo hi g y1 y3 y4 yb r l1 l3 l4 cs := by
  have hlh := h.lh
  have hhg := h.hg
  refine ⟨h.low.trans (hc.low h0 h.low.size), h.cl, h.lh, h.gb.chg hc (fun e => by have := h1 _ e; omega), ⟨owns_chg h.ga.o1 hc (fun k e hs => ?_), owns_chg h.ga.o3 hc (fun k e hs => ?_), owns_chg h.ga.o4 hc (fun k e hs => ?_), h.ga.a13, h.ga.a14, h.ga.a34, h.ga.h1, h.ga.h3, h.ga.h4⟩, owns_chg h.bl hc (fun k e hs => ?_), h.ap, h.hg, Nat.le_trans h.hhi hc.size⟩
  · have := (h.ga.o1.lt e).1; have := h1 k hs; omega
  · have := (h.ga.o3.lt e).1; have := h1 k hs; omega
  · have := (h.ga.o4.lt e).1; have := h1 k hs; omega
  · have := (h.bl.lt e).1; have := h1 k hs; omega
theorem LW.markq (h : LW C W lo hi g y1 y3 y4 yb r l1 l3 l4 cs) (hc : Chg (MineL y1 y3 y4) W W') (ha : AnsQ W' lo hi y1 y3 y4 m1 m3 m4) : LW C W' lo hi g y1 y3 y4 yb r m1 m3 m4 cs := by
  have hcl := h.cl
  have hhg := h.hg
  refine ⟨h.low.trans (hc.low (fun k e => ?_) h.low.size), h.cl, h.lh, h.gb.chg hc (fun e => ?_), ha, owns_chg h.bl hc (fun k e hs => ?_), h.ap, h.hg, Nat.le_trans h.hhi hc.size⟩
  · rcases e with e | e | e
    · have := (h.ga.o1.lt e).1; omega
    · have := (h.ga.o3.lt e).1; omega
    · have := (h.ga.o4.lt e).1; omega
  · rcases e with e | e | e
    · have := h.ga.h1 _ e; omega
    · have := h.ga.h3 _ e; omega
    · have := h.ga.h4 _ e; omega
  · obtain ⟨-, a, b, c⟩ := h.ap k e
    rcases hs with hs | hs | hs
    · exact a hs
    · exact b hs
    · exact c hs
theorem LW.markb (h : LW C W lo hi g y1 y3 y4 yb r l1 l3 l4 cs) (hg : W.grownBy W' yb.ownBlock) (hb : OB W' lo yb ds) : LW C W' lo hi g y1 y3 y4 yb r l1 l3 l4 ds := by
  have hc : Chg (fun k => yb.ownBlock = some k) W W' := Chg.gb hg (fun k e => e)
  have hcl := h.cl
  have hhg := h.hg
  refine ⟨h.low.trans (hc.low (fun k e => ?_) h.low.size), h.cl, h.lh, h.gb.chg hc (fun e => ?_), ⟨owns_chg h.ga.o1 hc (fun k e hs => ?_), owns_chg h.ga.o3 hc (fun k e hs => ?_), owns_chg h.ga.o4 hc (fun k e hs => ?_), h.ga.a13, h.ga.a14, h.ga.a34, h.ga.h1, h.ga.h3, h.ga.h4⟩, hb, h.ap, h.hg, Nat.le_trans h.hhi hc.size⟩
  · have := (h.bl.lt e).1; omega
  · have := (h.ap _ e).1; omega
  · exact (h.ap k hs).2.1 e
  · exact (h.ap k hs).2.2.1 e
  · exact (h.ap k hs).2.2.2 e
theorem LW.new {w5 w7 : World} (h5 : Below C.heap.size C w5) (hb : Below w5.heap.size w5 w7) (ha : AnsQ w7 w5.heap.size w7.heap.size y1 y3 y4 r.sent r.got r.line) (ho : OB w7 w5.heap.size yb cs)
    (hp : ∀ k, yb.ownBlock = some k → k < w7.heap.size ∧ y1.ownBlock ≠ some k ∧ y3.ownBlock ≠ some k ∧ y4.ownBlock ≠ some k) : LW C (w7.alloc (.cells (qarr y1 y3 y4 r) 32)) w5.heap.size w7.heap.size w7.heap.size y1 y3 y4 yb r r.sent r.got r.line cs := by
  have hd := (Below.refl w7.heap.size w7).alloc (Nat.le_refl _) (.cells (qarr y1 y3 y4 r) 32)
  have h57 := h5.trans (hb.mono h5.size)
  exact ⟨h57.trans (hd.mono h57.size), h5.size, hb.size, newW5 w7 _ _ _ _ _ 32, ha.down hd, ho.down hd, hp, Nat.le_refl _, hd.size⟩
end
theorem plQ_short (n : Int) (l : Lsts) : ShortQ (plQ n l) := by
  unfold plQ
  split
  · rename_i hp
    have hin : inB n 1 10 = true := by unfold plB at hp; rw [Bool.and_eq_true] at hp; exact hp.1
    exact (good_ply _ _ (good_new ((inB_iff _ _ _).1 hin).1 ((inB_iff _ _ _).1 hin).2)).short
  · exact ⟨by decide, by decide, by decide⟩
theorem plD_len (n : Int) (l : Lsts) : (plD n l).length ≤ 200 := by
  unfold plD
  split
  · rename_i hp
    rw [ply_len]
    unfold plB at hp; rw [Bool.and_eq_true] at hp; exact of_decide_eq_true hp.2
  · simp
end M
set_option maxRecDepth 20000 in
set_option maxHeartbeats 16000000 in
theorem law_playQ (n : Int) (v : Value) (l : Lsts) (w : World) (_hn : (Lit.int .i64 n).wf = true) (hv : LstsOf w v l) (hl : LenL l) :
    Calls Try.prog 4 #[.int .i64 n, v] w fun e w' => e = .returned (.bool true) ∧ Below w.heap.size w w' := by
  obtain ⟨av, cv, rfl⟩ := hv.form
  have HV := hide hv
  have HL := hide hl
  clear hv hl
  go_enter Try.func4, Try.ntmps4
  go_wp2_with fail
  refine (sz_lsts _ l _ _ HV.out HL.out (by omega) (by omega)).mono ?_
  rintro e w1 ⟨⟨ri, rfl, hr⟩, hb1⟩
  by_cases hrn : ri < 0
  · clear hr HV HL
    go_wp2
    go_ret
    exact ⟨rfl, hb1⟩
  obtain ⟨hr0, hr1, hlen⟩ : 0 ≤ ri ∧ ri ≤ 1048576 ∧ l.length ≤ 1048576 := by
    rcases hr with h | h
    · omega
    · exact h
  have HB1 := hide hb1
  clear hr hr0 hr1 hb1
  obtain ⟨r, bs, ok, hrb, hrs, hbl⟩ : ∃ (r : Qu) (bs : List Bool) (ok : Bool), (plQ n l = r ∧ plD n l = bs ∧ plB n l = ok) ∧ ShortQ r ∧ bs.length ≤ 200 := ⟨_, _, _, ⟨rfl, rfl, rfl⟩, plQ_short n l, plD_len n l⟩
  have HRS := hide hrs
  have HSp := hide (show ∀ u W, LstsOf W u l → Calls Try.prog 15 #[.int .i64 n, u] W fun e' w' => AnsP W w' e' r bs ok ∧ Below W.heap.size W w' from fun u W h => by
    have := spec_play n u l W h HL.out
    rw [hrb.1, hrb.2.1, hrb.2.2] at this; exact this)
  have HIm := hide (show ∀ u W, LstsOf W u l → Calls Try.prog 17 #[.int .i64 n, u] W fun e' w' => AnsP W w' e' r bs ok ∧ Below W.heap.size W w' from fun u W h => by
    have := impl_play n u l W h HL.out
    rw [hrb.1, hrb.2.1, hrb.2.2] at this; exact this)
  have hoo : (ok != ok) = false := by simp
  have HLN := hide hlen
  have hbl2 : bs.length ≤ 1048576 := by omega
  clear HL hrb hrs hbl hlen
  obtain ⟨m2, hm2⟩ : ∃ m, mkQ r = m := ⟨_, rfl⟩
  have hm2b : m2 ≤ 1000000000 := by
    have h1 := HRS.out.s
    have h2 := HRS.out.g
    have h3 := HRS.out.l
    rw [← hm2]; unfold mkQ; omega
  have hmn2 : ¬ ((m2 : Int) < 0) := by omega
  obtain ⟨m3, hm3⟩ : ∃ m, m2 + bs.length = m := ⟨_, rfl⟩
  have hmn3 : ¬ ((m3 : Int) < 0) := by omega
  have hmm : ((m3 : Int) != (m3 : Int)) = false := by simp
  have HM2 := hide hm2
  have HM3 := hide hm3
  clear hm2 hm3
  go_wp2_with fail
  refine (to_lsts _ l _ (HV.out.below HB1.out) HLN.out).mono ?_
  rintro e wt0 ⟨⟨rfl, hAt⟩, hbt⟩
  go_wp2_with fail
  refine (HSp.out _ _ hAt.lsts).mono ?_
  rintro e wf0 ⟨⟨u1', u3', u4', ub, rfl, hAf, hOf, -⟩, hbf⟩
  obtain ⟨x1, k1, rfl⟩ := hAf.o1.form
  obtain ⟨x3, k3, rfl⟩ := hAf.o3.form
  obtain ⟨x4, k4, rfl⟩ := hAf.o4.form
  obtain ⟨xb, kb, rfl⟩ := hOf.form
  have hd0 := (Below.refl wf0.heap.size wf0).alloc (Nat.le_refl _) (.cells (qarr (.slice x1 r.sent.length k1) (.slice x3 r.got.length k3) (.slice x4 r.line.length k4) r) 32)
  have hx0 : Blk (wf0.alloc (.cells (qarr (.slice x1 r.sent.length k1) (.slice x3 r.got.length k3) (.slice x4 r.line.length k4) r) 32)) wf0.heap.size 5 (qf (.slice x1 r.sent.length k1) (.slice x3 r.got.length k3) (.slice x4 r.line.length k4) r) 32 := newW5 wf0 _ _ _ _ _ 32
  go_upto_region 6 with fail
  obtain ⟨wC, hW⟩ : ∃ W, wf0.alloc (.cells (qarr (.slice x1 r.sent.length k1) (.slice x3 r.got.length k3) (.slice x4 r.line.length k4) r) 32) = W := ⟨_, rfl⟩
  rw [hW]
  rw [hW] at hd0 hx0
  have hl1 := HB1.out.trans (hbt.mono HB1.out.size)
  have hl2 := hl1.trans (hbf.mono hl1.size)
  have HLC := hide (hl2.trans (hd0.mono hl2.size))
  have HX4 := hide hx0
  have HC4 := hide (hAf.q.below hd0)
  have HCB := hide (hOf.bls.below hd0)
  clear hAt hbt hAf hOf hbf hd0 hx0 hl1 hl2 hW HB1 HSp
  go_wp2_with fail
  refine (to_lsts _ l _ (HV.out.below HLC.out) HLN.out).mono ?_
  rintro e w5 ⟨⟨rfl, hA5⟩, hb5⟩
  have HA5 := hide hA5
  have HB5 := hide hb5
  clear hA5 hb5
  go_wp2_with fail
  refine (HIm.out _ _ HA5.out.lsts).mono ?_
  rintro e w7 ⟨⟨u1', u3', u4', ub, rfl, hAf, hOf, hap⟩, hbf⟩
  obtain ⟨y1, j1, rfl⟩ := hAf.o1.form
  obtain ⟨y3, j3, rfl⟩ := hAf.o3.form
  obtain ⟨y4, j4, rfl⟩ := hAf.o4.form
  obtain ⟨yb, jb, rfl⟩ := hOf.form
  have hLW := LW.new HB5.out hbf hAf hOf hap
  have hA7 := (HA5.out.down hbf).down ((Below.refl w7.heap.size w7).alloc (Nat.le_refl _) (.cells (qarr (.slice y1 r.sent.length j1) (.slice y3 r.got.length j3) (.slice y4 r.line.length j4) r) 32))
  have hAlt := fun k (e : (Value.slice (some ⟨wC.heap.size, 0, none⟩) l.length l.length).ownBlock = some k) => (HA5.out.lt e)
  have HAlt := hide hAlt
  clear hAf hOf hap hbf hAlt HA5 HB5
  go_upto_region 8 with fail
  obtain ⟨wD, hW⟩ : ∃ W, w7.alloc (.cells (qarr (.slice y1 r.sent.length j1) (.slice y3 r.got.length j3) (.slice y4 r.line.length j4) r) 32) = W := ⟨_, rfl⟩
  rw [hW]
  rw [hW] at hLW hA7
  have HQ := hide hLW
  have HA7 := hide hA7
  clear hLW hA7 hW
  -- the answers are alike
  obtain ⟨⟨d0, d1, d2, d3, d4⟩, -⟩ := HQ.out.gb.pen
  obtain ⟨⟨e0, e1, e2, e3, e4⟩, -⟩ := (HX4.out.down HQ.out.low).pen
  go_wp2_with fail
  refine (eq_queue _ _ _ _ _ _ r _ HQ.out.ga.q (HC4.out.below HQ.out.low) HRS.out).mono ?_
  rintro e w8 ⟨rfl, hb⟩
  have HQ1 := hide (HQ.out.down hb)
  have HA8 := hide (HA7.out.down hb)
  clear hb HQ HA7 d0 d1 d2 d3 d4 e0 e1 e2 e3 e4
  go_wp2_with fail
  refine (eq_bl _ _ bs _ HQ1.out.bl.bls (HCB.out.below HQ1.out.low) hbl2).mono ?_
  rintro e w9 ⟨rfl, hb⟩
  have HQ2 := hide (HQ1.out.down hb)
  have HA9 := hide (HA8.out.down hb)
  clear hb HQ1 HA8
  -- the argument is as it was
  go_wp2_with fail
  refine (to_lsts _ l _ ((HV.out.below HLC.out).below HQ2.out.low) HLN.out).mono ?_
  rintro e wt1 ⟨⟨rfl, hAt⟩, hbt⟩
  have HQ3 := hide (HQ2.out.down hbt)
  have HA10 := hide (HA9.out.down hbt)
  clear hbt HQ2 HA9
  go_wp2_with fail
  refine (eq_lsts _ _ l _ HA10.out.lsts hAt.lsts HLN.out).mono ?_
  rintro e w10 ⟨rfl, hb⟩
  have HQ4 := hide (HQ3.out.down hb)
  have HA11 := hide (HA10.out.down hb)
  clear hb HQ3 HA10 hAt
  -- the argument is marked
  go_wp2_with fail
  refine (mark_lsts wC.heap.size 1 _ l _ HA11.out HLN.out (by omega) (by omega)).mono ?_
  rintro e w11 ⟨rfl, -, hg⟩
  have HQ5 := hide (HQ4.out.chg (Chg.gb hg (fun k e => e)) (fun k e => (HAlt.out k e).1) (fun k e => (HAlt.out k e).2))
  clear hg HQ4 HA11 HAlt
  have hkn : ¬ (((1 + l.length * 3 : Nat) : Int) < 0) := by omega
  generalize (1 + l.length * 3 : Nat) = kx at *
  obtain ⟨⟨d0, d1, d2, d3, d4⟩, -⟩ := HQ5.out.gb.pen
  obtain ⟨⟨e0, e1, e2, e3, e4⟩, -⟩ := (HX4.out.down HQ5.out.low).pen
  go_wp2_with fail
  refine (eq_queue _ _ _ _ _ _ r _ HQ5.out.ga.q (HC4.out.below HQ5.out.low) HRS.out).mono ?_
  rintro e w12 ⟨rfl, hb⟩
  have HQ6 := hide (HQ5.out.down hb)
  clear hb HQ5 d0 d1 d2 d3 d4 e0 e1 e2 e3 e4
  go_wp2_with fail
  refine (eq_bl _ _ bs _ HQ6.out.bl.bls (HCB.out.below HQ6.out.low) hbl2).mono ?_
  rintro e w13 ⟨rfl, hb⟩
  have HQ7 := hide (HQ6.out.down hb)
  clear hb HQ6
  -- the answer is marked
  obtain ⟨⟨d0, d1, d2, d3, d4⟩, -⟩ := HQ7.out.gb.pen
  go_wp2_with fail
  refine (mark_queue2 w5.heap.size w7.heap.size _ _ _ r _ HQ7.out.ga HRS.out HQ7.out.hhi).mono ?_
  rintro e w14 ⟨rfl, ha, hm⟩
  have HQ8 := hide (HQ7.out.markq hm ha)
  rw [HM2.out]
  clear hm ha HQ7 d0 d1 d2 d3 d4
  go_wp2_with fail
  refine (mark_bl w5.heap.size m2 _ bs _ HQ8.out.bl hbl2 hm2b).mono ?_
  rintro e w15 ⟨rfl, ho, hg⟩
  have HQ9 := hide (HQ8.out.markb hg ho)
  rw [HM3.out]
  clear ho hg HQ8
  obtain ⟨⟨d0, d1, d2, d3, d4⟩, -⟩ := HQ9.out.gb.pen
  go_wp2_with fail
  refine (held_queue w5.heap.size w7.heap.size _ _ _ r _ HQ9.out.ga HRS.out).mono ?_
  rintro e w16 ⟨rfl, hb⟩
  have HQ10 := hide (HQ9.out.down hb)
  rw [HM2.out]
  clear hb HQ9 d0 d1 d2 d3 d4
  go_wp2_with fail
  refine (held_bl _ bs.length m2 _ HQ10.out.bl.bls hbl2 hm2b).mono ?_
  rintro e w17 ⟨rfl, hw17⟩
  subst hw17
  rw [HM3.out]
  -- called again
  go_wp2_with fail
  refine (to_lsts _ l _ ((HV.out.below HLC.out).below HQ10.out.low) HLN.out).mono ?_
  rintro e wt2 ⟨⟨rfl, hAt⟩, hbt⟩
  have HQ11 := hide (HQ10.out.down hbt)
  clear hbt HQ10
  go_wp2_with fail
  refine (HIm.out _ _ hAt.lsts).mono ?_
  rintro e wf1 ⟨⟨u1', u3', u4', ub, rfl, hAf, hOf, -⟩, hbf⟩
  obtain ⟨b1, t1, rfl⟩ := hAf.o1.form
  obtain ⟨b3, t3, rfl⟩ := hAf.o3.form
  obtain ⟨b4, t4, rfl⟩ := hAf.o4.form
  obtain ⟨bb, tb, rfl⟩ := hOf.form
  have hd0 := (Below.refl wf1.heap.size wf1).alloc (Nat.le_refl _) (.cells (qarr (.slice b1 r.sent.length t1) (.slice b3 r.got.length t3) (.slice b4 r.line.length t4) r) 32)
  have hx0 : Blk (wf1.alloc (.cells (qarr (.slice b1 r.sent.length t1) (.slice b3 r.got.length t3) (.slice b4 r.line.length t4) r) 32)) wf1.heap.size 5 (qf (.slice b1 r.sent.length t1) (.slice b3 r.got.length t3) (.slice b4 r.line.length t4) r) 32 := newW5 wf1 _ _ _ _ _ 32
  go_upto_region 29 with fail
  obtain ⟨wF, hW⟩ : ∃ W, wf1.alloc (.cells (qarr (.slice b1 r.sent.length t1) (.slice b3 r.got.length t3) (.slice b4 r.line.length t4) r) 32) = W := ⟨_, rfl⟩
  rw [hW]
  rw [hW] at hd0 hx0
  have HQ12 := hide ((HQ11.out.down hbf).down hd0)
  have HXh := hide hx0
  have HAh := hide (hAf.q.below hd0)
  have HBh := hide (hOf.bls.below hd0)
  clear hAt hAf hOf hbf hd0 hx0 hW HQ11 HIm
  obtain ⟨⟨d0, d1, d2, d3, d4⟩, -⟩ := HXh.out.pen
  obtain ⟨⟨e0, e1, e2, e3, e4⟩, -⟩ := (HX4.out.down HQ12.out.low).pen
  go_wp2_with fail
  refine (eq_queue _ _ _ _ _ _ r _ HAh.out (HC4.out.below HQ12.out.low) HRS.out).mono ?_
  rintro e w18 ⟨rfl, hb⟩
  have HQ13 := hide (HQ12.out.down hb)
  have HBh2 := hide (HBh.out.below hb)
  clear hb HQ12 HXh HAh HBh d0 d1 d2 d3 d4 e0 e1 e2 e3 e4
  go_wp2_with fail
  refine (eq_bl _ _ bs _ HBh2.out (HCB.out.below HQ13.out.low) hbl2).mono ?_
  rintro e w19 ⟨rfl, hb⟩
  have HQ14 := hide (HQ13.out.down hb)
  clear hb HQ13 HBh2
  obtain ⟨⟨d0, d1, d2, d3, d4⟩, -⟩ := HQ14.out.gb.pen
  go_wp2_with fail
  refine (held_queue w5.heap.size w7.heap.size _ _ _ r _ HQ14.out.ga HRS.out).mono ?_
  rintro e w20 ⟨rfl, hb⟩
  have HQ15 := hide (HQ14.out.down hb)
  rw [HM2.out]
  clear hb HQ14 d0 d1 d2 d3 d4
  go_wp2_with fail
  refine (held_bl _ bs.length m2 _ HQ15.out.bl.bls hbl2 hm2b).mono ?_
  rintro e w21 ⟨rfl, hw21⟩
  subst hw21
  rw [HM3.out]
  have HZ := hide (HLC.out.trans (HQ15.out.low.mono HLC.out.size))
  clear HQ15 HX4 HC4 HCB HV HLC HRS
  go_wp2
  go_ret
  exact ⟨rfl, HZ.out⟩
end Go.Proofs.Ytphcaadckfemjaa
