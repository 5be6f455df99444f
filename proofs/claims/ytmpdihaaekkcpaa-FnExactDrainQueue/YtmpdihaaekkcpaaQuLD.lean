/-
  The law of DrainQueue, walked: it returns true and turns nothing that was there.
-/
import Derived.Test.YtmpdihaaekkcpaaQuLM
import Derived.Test.YtmpdihaaekkcpaaQuSh
import Derived.Deep.RegionWith
namespace Go.Proofs.Ytmpdihaaekkcpaa
open Go.RowKit M
namespace M
theorem drn_good : ∀ (f : Nat) (q : Qu), GoodQ q → GoodQ (drn f q).1
  | 0, _, h => h
  | f + 1, q, h => by
    cases ht : q.sent[q.base.toNat]? with
    | none => rw [show drn (f + 1) q = (q, 0) from by conv => lhs; unfold drn
                                                      simp only [ht]]; exact h
    | some t => rw [drn_step ht]; exact drn_good f _ ((Drg.zero h).succ ht).good
/-- The law's own box. -/
structure LBd (w W : World) (q : Qu) (v1 v3 v4 : Value) : Prop where
  low : Below w.heap.size w W
  sb : Blk W w.heap.size 5 (qf v1 v3 v4 q) 33
theorem LBd.down {w W W' : World} {q : Qu} {v1 v3 v4 : Value} (h : LBd w W q v1 v3 v4) (hb : Below W.heap.size W W') : LBd w W' q v1 v3 v4 := ⟨h.low.trans (hb.mono h.low.size), h.sb.down hb⟩
theorem LBd.new (w : World) (q : Qu) (v1 v3 v4 : Value) : LBd w (w.alloc (.cells (qarr v1 v3 v4 q) 33)) q v1 v3 v4 :=
  ⟨(Below.refl _ w).alloc (Nat.le_refl _) _, newW5 w _ _ _ _ _ 33⟩
end M
set_option maxRecDepth 20000 in
set_option maxHeartbeats 16000000 in
theorem law_drainQ (v1 v3 v4 : Value) (q : Qu) (w : World) (hv : QuQ w v1 v3 v4 q) (hl : LensQ q) :
    Calls Try.prog 8 #[qv v1 v3 v4 q] w fun e w' => e = .returned (.bool true) ∧ Below w.heap.size w w' := by
  obtain ⟨a1, p1, rfl⟩ := hv.s.form
  obtain ⟨a3, p3, rfl⟩ := hv.g.form
  obtain ⟨a4, p4, rfl⟩ := hv.l.form
  have HLB0 := hide (LBd.new w q (.slice a1 q.sent.length p1) (.slice a3 q.got.length p3) (.slice a4 q.line.length p4))
  have HV := hide hv
  have HL := hide hl
  clear hv hl
  go_enter Try.func8, Try.ntmps8
  go_wp2_with fail
  refine (sz_queue _ _ _ q _ (HV.out.below HLB0.out.low) HL.out).mono ?_
  rintro e w1 ⟨⟨ri, rfl, hr⟩, hb⟩
  have HLB := hide (HLB0.out.down hb)
  clear hb HLB0
  by_cases hrn : ri < 0
  · clear hr HV HL
    go_wp2
    go_ret
    exact ⟨rfl, HLB.out.low⟩
  obtain ⟨hr0, hr1, hsh⟩ : 0 ≤ ri ∧ ri ≤ 1048576 ∧ ShortQ q := by
    rcases hr with h | h
    · exact absurd h hrn
    · exact h
  have HS := hide hsh
  clear hr hsh hr0 hr1
  obtain ⟨gb, hgb⟩ := bp_ex (GoodQ q)
  obtain ⟨r, n, hrb, hrs⟩ : ∃ (r : Qu) (n : Int), ((if gb = true then (drn 40 q).1 else qu0) = r ∧ (if gb = true then ((drn 40 q).2 : Int) else 0) = n) ∧ ShortQ r := by
    refine ⟨_, _, ⟨rfl, rfl⟩, ?_⟩
    cases gb with
    | false => exact (show ShortQ qu0 from ⟨by decide, by decide, by decide⟩)
    | true => exact (drn_good 40 q (hgb.1 rfl)).short
  have HRS := hide hrs
  have HSp := hide (show ∀ u1 u3 u4 W lo hi, AnsQ W lo hi u1 u3 u4 q.sent q.got q.line → Calls Try.prog 35 #[qv u1 u3 u4 q] W fun e' w' => AnsE W w' e' r [.int .i64 n, .bool gb] ∧ Below W.heap.size W w' from fun u1 u3 u4 W lo hi h => by
    have := spec_drain u1 u3 u4 q gb W h.c HS.out HL.out.1.2 hgb
    rw [hrb.1, hrb.2] at this; exact this)
  have HIm := hide (show ∀ u1 u3 u4 W lo hi, AnsQ W lo hi u1 u3 u4 q.sent q.got q.line → Calls Try.prog 36 #[qv u1 u3 u4 q] W fun e' w' => AnsE W w' e' r [.int .i64 n, .bool gb] ∧ Below W.heap.size W w' from fun u1 u3 u4 W lo hi h => by
    have := impl_drain u1 u3 u4 q gb W h.q h.o1.c HS.out HL.out.1.2 hgb
    rw [hrb.1, hrb.2] at this; exact this)
  have hbb : (gb != gb) = false := by simp
  have hnn : (n != n) = false := by simp
  clear HL hgb hrb hrs
  obtain ⟨m1, hm1⟩ : ∃ m, mkQ q = m := ⟨_, rfl⟩
  obtain ⟨m2, hm2⟩ : ∃ m, mkQ r = m := ⟨_, rfl⟩
  have hmn1 : ¬ ((m1 : Int) < 0) := by omega
  have hmn2 : ¬ ((m2 : Int) < 0) := by omega
  have hmm : ((m2 : Int) != (m2 : Int)) = false := by simp
  have HM1 := hide hm1
  have HM2 := hide hm2
  clear hm1 hm2
  obtain ⟨⟨d0, d1, d2, d3, d4⟩, -⟩ := HLB.out.sb.pen
  go_wp2_with fail
  refine (to_queue _ _ _ q _ (HV.out.below HLB.out.low) HS.out).mono ?_
  rintro e wt0 ⟨⟨u1, u3, u4, rfl, hAt⟩, hbt⟩
  clear d0 d1 d2 d3 d4
  go_wp2_with fail
  refine (HSp.out _ _ _ _ _ _ hAt).mono ?_
  rintro e wf0 ⟨⟨u1', u3', u4', rfl, hAf⟩, hbf⟩
  obtain ⟨x1, k1, rfl⟩ := hAf.o1.form
  obtain ⟨x3, k3, rfl⟩ := hAf.o3.form
  obtain ⟨x4, k4, rfl⟩ := hAf.o4.form
  have hlx := SV.fresh (A := w1) (W := wf0) (o := none) (r := r) ⟨hbt.trans (hbf.mono hbt.size), fun g e => (by cases e), hAf.mono hbt.size (Nat.le_refl _)⟩
  clear hAt hbt hAf hbf
  -- MARK1
  go_upto_region 6 with fail
  obtain ⟨wC, hW⟩ : ∃ W, wf0.alloc (.cells (qarr (.slice x1 r.sent.length k1) (.slice x3 r.got.length k3) (.slice x4 r.line.length k4) r) 25) = W := ⟨_, rfl⟩
  rw [hW]
  rw [hW] at hlx
  have HLX0 := hide hlx
  clear hlx hW
  have HLC := hide (HLB.out.down HLX0.out.low)
  have HX4 := hide HLX0.out.box
  have HC4 := hide HLX0.out.ans.q
  clear HLX0 HLB HSp
  obtain ⟨⟨d0, d1, d2, d3, d4⟩, -⟩ := HLC.out.sb.pen
  go_wp2_with fail
  refine (to_queue _ _ _ q _ (HV.out.below HLC.out.low) HS.out).mono ?_
  rintro e w5 ⟨⟨u1, u3, u4, rfl, hA5⟩, hb5⟩
  obtain ⟨a5, c5, rfl⟩ := hA5.o1.form
  obtain ⟨a6, c6, rfl⟩ := hA5.o3.form
  obtain ⟨a7, c7, rfl⟩ := hA5.o4.form
  have hd6 := (Below.refl w5.heap.size w5).alloc (Nat.le_refl _) (.cells (qarr (.slice a5 q.sent.length c5) (.slice a6 q.got.length c6) (.slice a7 q.line.length c7) q) 25)
  have hx6 : Blk (w5.alloc (.cells (qarr (.slice a5 q.sent.length c5) (.slice a6 q.got.length c6) (.slice a7 q.line.length c7) q) 25)) w5.heap.size 5 (qf (.slice a5 q.sent.length c5) (.slice a6 q.got.length c6) (.slice a7 q.line.length c7) q) 25 := newW5 w5 _ _ _ _ _ 25
  clear d0 d1 d2 d3 d4
  -- MARK2
  go_upto_region 7 with fail
  obtain ⟨w6, hw6⟩ : ∃ w6, w5.alloc (.cells (qarr (.slice a5 q.sent.length c5) (.slice a6 q.got.length c6) (.slice a7 q.line.length c7) q) 25) = w6 := ⟨_, rfl⟩
  rw [hw6]
  rw [hw6] at hd6 hx6
  have HB6 := hide (hb5.trans (hd6.mono hb5.size))
  have HA6 := hide ((hA5.down hd6).mono (Nat.le_refl _) hd6.size)
  have HX6 := hide hx6
  clear hb5 hd6 hx6 hA5 hw6
  obtain ⟨⟨d0, d1, d2, d3, d4⟩, -⟩ := HX6.out.pen
  go_wp2_with fail
  refine (HIm.out _ _ _ _ _ _ HA6.out).mono ?_
  rintro e w7 ⟨⟨u1', u3', u4', rfl, hAf⟩, hbf⟩
  obtain ⟨y1, j1, rfl⟩ := hAf.o1.form
  obtain ⟨y3, j3, rfl⟩ := hAf.o3.form
  obtain ⟨y4, j4, rfl⟩ := hAf.o4.form
  have hlx := SV.fresh (A := w6) (W := w7) (o := none) (r := r) ⟨hbf, fun g e => (by cases e), hAf⟩
  clear hAf hbf d0 d1 d2 d3 d4
  -- MARK3
  go_upto_region 8 with fail
  obtain ⟨wD, hW⟩ : ∃ W, w7.alloc (.cells (qarr (.slice y1 r.sent.length j1) (.slice y3 r.got.length j3) (.slice y4 r.line.length j4) r) 25) = W := ⟨_, rfl⟩
  rw [hW]
  rw [hW] at hlx
  have HQ := hide (show LQ wC wD w5.heap.size (.slice a5 q.sent.length c5) (.slice a6 q.got.length c6) (.slice a7 q.line.length c7) q w6.heap.size w7.heap.size wD.heap.size (.slice y1 r.sent.length j1) (.slice y3 r.got.length j3) (.slice y4 r.line.length j4) r from hlx.lq HB6.out HX6.out HA6.out)
  have HG6 := hide HB6.out.size
  clear hlx hW HB6 HX6 HA6
  obtain ⟨⟨d0, d1, d2, d3, d4⟩, -⟩ := HQ.out.gb.pen
  obtain ⟨⟨e0, e1, e2, e3, e4⟩, -⟩ := (HX4.out.down HQ.out.low).pen
  go_wp2_with fail
  refine (eq_queue _ _ _ _ _ _ r _ HQ.out.ga.q (HC4.out.below HQ.out.low) HRS.out).mono ?_
  rintro e w8 ⟨rfl, hb7⟩
  have hLa := HQ.out.down hb7
  clear hb7 HQ d0 d1 d2 d3 d4 e0 e1 e2 e3 e4
  -- MARK4
  go_upto_region 10 with fail
  have hLad := hLa.down (Below.refl w8.heap.size w8).drew
  have HTo := hide (show ∀ W, LQ wC W w5.heap.size (.slice a5 q.sent.length c5) (.slice a6 q.got.length c6) (.slice a7 q.line.length c7) q w6.heap.size w7.heap.size wD.heap.size (.slice y1 r.sent.length j1) (.slice y3 r.got.length j3) (.slice y4 r.line.length j4) r → Calls Try.prog 18 #[.agg #[.int .i64 q.win, .slice a1 q.sent.length p1, .int .i64 q.base, .slice a3 q.got.length p3, .slice a4 q.line.length p4]] W fun e w' => (∃ u1 u3 u4, e = .returned (qv u1 u3 u4 q) ∧ AnsQ w' W.heap.size w'.heap.size u1 u3 u4 q.sent q.got q.line) ∧ LQ wC w' w5.heap.size (.slice a5 q.sent.length c5) (.slice a6 q.got.length c6) (.slice a7 q.line.length c7) q w6.heap.size w7.heap.size wD.heap.size (.slice y1 r.sent.length j1) (.slice y3 r.got.length j3) (.slice y4 r.line.length j4) r from fun W hW => by
    refine (to_queue _ _ _ q W ((HV.out.below HLC.out.low).below hW.low) HS.out).mono ?_
    rintro e w' ⟨hu, hb⟩
    exact ⟨hu, hW.down hb⟩)
  have HSS := hide (show ∀ W, LQ wC W w5.heap.size (.slice a5 q.sent.length c5) (.slice a6 q.got.length c6) (.slice a7 q.line.length c7) q w6.heap.size w7.heap.size wD.heap.size (.slice y1 r.sent.length j1) (.slice y3 r.got.length j3) (.slice y4 r.line.length j4) r → W.cell? ⟨w5.heap.size, 0, none⟩ = some (.int .i64 q.win) ∧ W.cell? ⟨w5.heap.size, 1, none⟩ = some (.slice a5 q.sent.length c5) ∧ W.cell? ⟨w5.heap.size, 2, none⟩ = some (.int .i64 q.base) ∧ W.cell? ⟨w5.heap.size, 3, none⟩ = some (.slice a6 q.got.length c6) ∧ W.cell? ⟨w5.heap.size, 4, none⟩ = some (.slice a7 q.line.length c7) ∧ W.cell? ⟨w.heap.size, 0, none⟩ = some (.int .i64 q.win) ∧ W.cell? ⟨w.heap.size, 1, none⟩ = some (.slice a1 q.sent.length p1) ∧ W.cell? ⟨w.heap.size, 2, none⟩ = some (.int .i64 q.base) ∧ W.cell? ⟨w.heap.size, 3, none⟩ = some (.slice a3 q.got.length p3) ∧ W.cell? ⟨w.heap.size, 4, none⟩ = some (.slice a4 q.line.length p4) from fun W hW => ⟨hW.xb.pen.1.1, hW.xb.pen.1.2.1, hW.xb.pen.1.2.2.1, hW.xb.pen.1.2.2.2.1, hW.xb.pen.1.2.2.2.2, (HLC.out.down hW.low).sb.pen.1.1, (HLC.out.down hW.low).sb.pen.1.2.1, (HLC.out.down hW.low).sb.pen.1.2.2.1, (HLC.out.down hW.low).sb.pen.1.2.2.2.1, (HLC.out.down hW.low).sb.pen.1.2.2.2.2⟩)
  go_cut [55] from 51 (fun bb wx => bb = .bool false ∧ Hid (LQ wC wx w5.heap.size (.slice a5 q.sent.length c5) (.slice a6 q.got.length c6) (.slice a7 q.line.length c7) q w6.heap.size w7.heap.size wD.heap.size (.slice y1 r.sent.length j1) (.slice y3 r.got.length j3) (.slice y4 r.line.length j4) r))
  case first =>
    go_region_held3 (fun W => W.cell? ⟨w5.heap.size, 0, none⟩ = some (.int .i64 q.win) ∧ W.cell? ⟨w5.heap.size, 1, none⟩ = some (.slice a5 q.sent.length c5) ∧ W.cell? ⟨w5.heap.size, 2, none⟩ = some (.int .i64 q.base) ∧ W.cell? ⟨w5.heap.size, 3, none⟩ = some (.slice a6 q.got.length c6) ∧ W.cell? ⟨w5.heap.size, 4, none⟩ = some (.slice a7 q.line.length c7) ∧ W.cell? ⟨w.heap.size, 0, none⟩ = some (.int .i64 q.win) ∧ W.cell? ⟨w.heap.size, 1, none⟩ = some (.slice a1 q.sent.length p1) ∧ W.cell? ⟨w.heap.size, 2, none⟩ = some (.int .i64 q.base) ∧ W.cell? ⟨w.heap.size, 3, none⟩ = some (.slice a3 q.got.length p3) ∧ W.cell? ⟨w.heap.size, 4, none⟩ = some (.slice a4 q.line.length p4)) (first | exact HSS.out _ hFe | exact HSS.out _ hFj | exact HSS.out _ hLad) (first
      | (go_at_call 18; with_reducible refine Calls.mono (HTo.out _ (by assumption)) ?_; rintro e wj ⟨⟨ui, uj, uk, rfl, hAj⟩, hFj⟩; have HAj := hide hAj; obtain ⟨ai, ci, rfl⟩ := hAj.o1.form; obtain ⟨aj, cj, rfl⟩ := hAj.o3.form; obtain ⟨ak, ck, rfl⟩ := hAj.o4.form; clear hAj)
      | (go_at_call 13; refine Calls.mono (eq_queue _ _ _ _ _ _ q _ hFj.xa.q HAj.out.q HS.out) ?_; rintro e we ⟨rfl, hbe⟩; have hFe := hFj.down hbe))
    all_goals
      go_wp2_with fail
      go_meet
      exact ⟨rfl, hide hFe⟩
  case rest =>
    rename World => wE
    obtain ⟨rfl, HLa⟩ := hcut
    clear hLa hLad HTo HSS
    obtain ⟨⟨d0, d1, d2, d3, d4⟩, -⟩ := HLa.out.xb.pen
    go_wp2_with fail
    refine (mark_queue2 wC.heap.size w6.heap.size _ _ _ q _ HLa.out.xa HS.out HLa.out.hH).mono ?_
    rintro e w9 ⟨rfl, -, hm⟩
    have HU8 := hide (HLa.out.mark hm)
    rw [HM1.out]
    clear hm HLa d0 d1 d2 d3 d4
    obtain ⟨⟨d0, d1, d2, d3, d4⟩, -⟩ := HU8.out.gb.pen
    obtain ⟨⟨e0, e1, e2, e3, e4⟩, -⟩ := (HX4.out.down HU8.out.low).pen
    go_wp2_with fail
    refine (eq_queue _ _ _ _ _ _ r _ HU8.out.ga.q (HC4.out.below HU8.out.low) HRS.out).mono ?_
    rintro e w10 ⟨rfl, hb⟩
    have HU9 := hide (HU8.out.down hb)
    clear hb HU8 d0 d1 d2 d3 d4 e0 e1 e2 e3 e4
    obtain ⟨⟨d0, d1, d2, d3, d4⟩, -⟩ := HU9.out.gb.pen
    go_wp2_with fail
    refine (mark_queue2 w6.heap.size wD.heap.size _ _ _ r _ HU9.out.ga HRS.out HU9.out.hhi).mono ?_
    rintro e w11 ⟨rfl, ha, hm⟩
    have HU10 := hide (HU9.out.mark HG6.out hm ha)
    rw [HM2.out]
    clear hm ha HU9 d0 d1 d2 d3 d4
    obtain ⟨⟨d0, d1, d2, d3, d4⟩, -⟩ := HU10.out.gb.pen
    go_wp2_with fail
    refine (held_queue w6.heap.size wD.heap.size _ _ _ r _ HU10.out.ga HRS.out).mono ?_
    rintro e w12 ⟨rfl, hb⟩
    have HU11 := hide (HU10.out.down hb)
    rw [HM2.out]
    have HLB := hide (HLC.out.down HU11.out.low)
    clear hb HU10 d0 d1 d2 d3 d4 HLC
    obtain ⟨⟨d0, d1, d2, d3, d4⟩, -⟩ := HLB.out.sb.pen
    go_wp2_with fail
    refine (to_queue _ _ _ q _ (HV.out.below HLB.out.low) HS.out).mono ?_
    rintro e wt1 ⟨⟨u1, u3, u4, rfl, hAt⟩, hbt⟩
    clear d0 d1 d2 d3 d4
    go_wp2_with fail
    refine (HIm.out _ _ _ _ _ _ hAt).mono ?_
    rintro e wf1 ⟨⟨u1', u3', u4', rfl, hAf⟩, hbf⟩
    obtain ⟨b1, t1, rfl⟩ := hAf.o1.form
    obtain ⟨b3, t3, rfl⟩ := hAf.o3.form
    obtain ⟨b4, t4, rfl⟩ := hAf.o4.form
    have hlx := SV.fresh (A := w12) (W := wf1) (o := none) (r := r) ⟨hbt.trans (hbf.mono hbt.size), fun g e => (by cases e), hAf.mono hbt.size (Nat.le_refl _)⟩
    clear hAt hbt hAf hbf
    -- MARK5
    go_upto_region 25 with fail
    obtain ⟨wF, hW⟩ : ∃ W, wf1.alloc (.cells (qarr (.slice b1 r.sent.length t1) (.slice b3 r.got.length t3) (.slice b4 r.line.length t4) r) 25) = W := ⟨_, rfl⟩
    rw [hW]
    rw [hW] at hlx
    have HLX1 := hide hlx
    clear hlx hW
    have HU12 := hide (HU11.out.down HLX1.out.low)
    have HLZ := hide (HLB.out.down HLX1.out.low)
    have HXh := hide HLX1.out.box
    have HAh := hide HLX1.out.ans.q
    clear HLX1 HLB HIm HU11
    obtain ⟨⟨d0, d1, d2, d3, d4⟩, -⟩ := HXh.out.pen
    obtain ⟨⟨e0, e1, e2, e3, e4⟩, -⟩ := (HX4.out.down HU12.out.low).pen
    go_wp2_with fail
    refine (eq_queue _ _ _ _ _ _ r _ HAh.out (HC4.out.below HU12.out.low) HRS.out).mono ?_
    rintro e w13 ⟨rfl, hb⟩
    have HU13 := hide (HU12.out.down hb)
    have HLZ2 := hide (HLZ.out.down hb)
    clear hb HU12 HLZ HXh HAh d0 d1 d2 d3 d4 e0 e1 e2 e3 e4
    obtain ⟨⟨d0, d1, d2, d3, d4⟩, -⟩ := HU13.out.gb.pen
    go_wp2_with fail
    refine (held_queue w6.heap.size wD.heap.size _ _ _ r _ HU13.out.ga HRS.out).mono ?_
    rintro e w14 ⟨rfl, hb⟩
    have HZ := hide (HLZ2.out.down hb).low
    rw [HM2.out]
    clear hb HU13 HLZ2 d0 d1 d2 d3 d4 HX4 HC4 HV HS HRS
    go_wp2
    go_ret
    exact ⟨rfl, HZ.out⟩
end Go.Proofs.Ytmpdihaaekkcpaa
