/-
  The law of StepQueue, walked: it returns true and turns nothing that was there.
-/
import Derived.Test.YtmpdihaaekkcpaaQuLM
import Derived.Deep.RegionWith
namespace Go.Proofs.Ytmpdihaaekkcpaa
open Go.RowKit M
set_option maxRecDepth 20000 in
set_option maxHeartbeats 16000000 in
theorem law_stepQ (v1 v3 v4 : Value) (q : Qu) (s : Lst) (w : World) (hv : QuQ w v1 v3 v4 q) (hl : LensQ q) (hx : s.tx.size ≤ maxLen) :
    Calls Try.prog 5 #[qv v1 v3 v4 q, s.v] w fun e w' => e = .returned (.bool true) ∧ Below w.heap.size w w' := by
  obtain ⟨a1, p1, rfl⟩ := hv.s.form
  obtain ⟨a3, p3, rfl⟩ := hv.g.form
  obtain ⟨a4, p4, rfl⟩ := hv.l.form
  have HLB0 := hide (LBq.new w q s (.slice a1 q.sent.length p1) (.slice a3 q.got.length p3) (.slice a4 q.line.length p4))
  have HV := hide hv
  have HL := hide hl
  have HE := hide hx
  clear hv hl hx
  go_enter Try.func5, Try.ntmps5
  go_wp2_with fail
  refine (sz_queue _ _ _ q _ (HV.out.below HLB0.out.low) HL.out).mono ?_
  rintro e w1 ⟨⟨ri, rfl, hr⟩, hb⟩
  have HLB1 := hide (HLB0.out.down hb)
  clear hb HLB0
  by_cases hrn : ri < 0
  · clear hr HV HL HE
    go_wp2
    go_ret
    exact ⟨rfl, HLB1.out.low⟩
  obtain ⟨hr0, hr1, hsh⟩ : 0 ≤ ri ∧ ri ≤ 1048576 ∧ ShortQ q := by
    rcases hr with h | h
    · exact absurd h hrn
    · exact h
  have HS := hide hsh
  have HR0 := hide (And.intro hr0 hr1)
  obtain ⟨⟨d0, d1, d2⟩, -⟩ := HLB1.out.eb.trp
  clear hr hsh hr0 hr1
  go_wp2_with fail
  refine (sz_lst s ri _ HR0.out.1 HR0.out.2 HE.out).mono ?_
  rintro e w2 ⟨⟨ri2, rfl, hr2⟩, hb⟩
  have HLB := hide (HLB1.out.down hb)
  clear d0 d1 d2 hb HLB1 hrn HR0
  by_cases hrn2 : ri2 < 0
  · clear hr2 HV HL HE
    go_wp2
    go_ret
    exact ⟨rfl, HLB.out.low⟩
  obtain ⟨gb, hgb⟩ := bp_ex (GoodQ q)
  obtain ⟨r, b, hrb, hrs⟩ : ∃ (r : Qu) (b : Bool), ((stepO q s gb).getD qu0 = r ∧ (stepO q s gb).isSome = b) ∧ ShortQ r := by
    refine ⟨_, _, ⟨rfl, rfl⟩, ?_⟩
    have h0 : ShortQ qu0 := ⟨by decide, by decide, by decide⟩
    cases gb with
    | false => exact h0
    | true =>
      have hg := hgb.1 rfl
      cases hst : stp q s with
      | none => rw [show stepO q s true = none from hst]; exact h0
      | some x => rw [show stepO q s true = some x from hst]; exact (good_stp hg hst).1.short
  have HRS := hide hrs
  have HSp := hide (show ∀ u1 u3 u4 W lo hi, AnsQ W lo hi u1 u3 u4 q.sent q.got q.line → Calls Try.prog 21 #[qv u1 u3 u4 q, s.v] W fun e' w' => AnsE W w' e' r [.bool b] ∧ Below W.heap.size W w' from fun u1 u3 u4 W lo hi h => by
    have := spec_step u1 u3 u4 q s gb W h.c HS.out HL.out.1.2 HE.out hgb
    rw [hrb.1, hrb.2] at this; exact this)
  have HIm := hide (show ∀ u1 u3 u4 W lo hi, AnsQ W lo hi u1 u3 u4 q.sent q.got q.line → Calls Try.prog 23 #[qv u1 u3 u4 q, s.v] W fun e' w' => AnsE W w' e' r [.bool b] ∧ Below W.heap.size W w' from fun u1 u3 u4 W lo hi h => by
    have := impl_step u1 u3 u4 q s gb W h.q h.o1.c HS.out HL.out.1.2 HE.out hgb
    rw [hrb.1, hrb.2] at this; exact this)
  have hbb : (b != b) = false := by simp
  clear HE HL hgb hrb hrs hr2
  obtain ⟨m1, hm1⟩ : ∃ m, mkQ q = m := ⟨_, rfl⟩
  obtain ⟨m2, hm2⟩ : ∃ m, mkQ r = m := ⟨_, rfl⟩
  have hmn1 : ¬ ((m1 : Int) < 0) := by omega
  have hmn2 : ¬ ((m2 : Int) < 0) := by omega
  have hmm : ((m2 : Int) != (m2 : Int)) = false := by simp
  have HM1 := hide hm1
  have HM2 := hide hm2
  clear hm1 hm2
  go_upto_region 8 with fail
  have hF1 : ST w2 w2 w2.heap.size q none none := ⟨Below.refl w2.heap.size w2, fun g e => (by cases e), fun _ e => (by cases e)⟩
  have hF0 : ST w2 w2.drew w2.heap.size q none none := ⟨(Below.refl w2.heap.size w2).drew, fun g e => (by cases e), fun _ e => (by cases e)⟩
  have HS0 := hide (show ∀ W, Below w2.heap.size w2 W → W.cell? ⟨w.heap.size, 0, none⟩ = some (.int .i64 q.win) ∧ W.cell? ⟨w.heap.size, 1, none⟩ = some (.slice a1 q.sent.length p1) ∧ W.cell? ⟨w.heap.size, 2, none⟩ = some (.int .i64 q.base) ∧ W.cell? ⟨w.heap.size, 3, none⟩ = some (.slice a3 q.got.length p3) ∧ W.cell? ⟨w.heap.size, 4, none⟩ = some (.slice a4 q.line.length p4) ∧ W.cell? ⟨w.heap.size + 1, 0, none⟩ = some (.int .i64 s.kind) ∧ W.cell? ⟨w.heap.size + 1, 1, none⟩ = some (.int .i64 s.k) ∧ W.cell? ⟨w.heap.size + 1, 2, none⟩ = some (.string s.tx) from fun W hW => ⟨(HLB.out.down hW).sb.pen.1.1, (HLB.out.down hW).sb.pen.1.2.1, (HLB.out.down hW).sb.pen.1.2.2.1, (HLB.out.down hW).sb.pen.1.2.2.2.1, (HLB.out.down hW).sb.pen.1.2.2.2.2, (HLB.out.down hW).eb.trp.1⟩)
  have HT1 := hide (show ∀ W o c, ST w2 W w2.heap.size q o c → Calls Try.prog 18 #[.agg #[.int .i64 q.win, .slice a1 q.sent.length p1, .int .i64 q.base, .slice a3 q.got.length p3, .slice a4 q.line.length p4]] W fun e W' => ∃ a1 c1 a3 c3 a4 c4, e = .returned (.agg #[.int .i64 q.win, .slice a1 q.sent.length c1, .int .i64 q.base, .slice a3 q.got.length c3, .slice a4 q.line.length c4]) ∧ ST w2 W' w2.heap.size q o (some (.slice a1 q.sent.length c1, .slice a3 q.got.length c3, .slice a4 q.line.length c4)) from fun W o c hW => (to_queue _ _ _ q W ((HV.out.below HLB.out.low).below hW.low) HS.out).mono (by
    rintro e W' ⟨⟨u1, u3, u4, rfl, hA⟩, hb⟩
    obtain ⟨a1, c1, rfl⟩ := hA.o1.form
    obtain ⟨a3, c3, rfl⟩ := hA.o3.form
    obtain ⟨a4, c4, rfl⟩ := hA.o4.form
    have h := hW.down hb
    exact ⟨a1, c1, a3, c3, a4, c4, rfl, h.low, h.box, fun u e => by cases e; exact hA.mono (hW.low.size) (Nat.le_refl _)⟩))
  have HT2 := hide (show ∀ W o c, ST w2 W w2.heap.size q o c → Calls Try.prog 22 #[.agg #[.int .i64 s.kind, .int .i64 s.k, .string s.tx]] W fun e W' => e = .returned (.agg #[.int .i64 s.kind, .int .i64 s.k, .string s.tx]) ∧ ST w2 W' w2.heap.size q o c from fun W o c hW => (to_lst s W).mono (by
    rintro e W' ⟨rfl, hb⟩
    exact ⟨rfl, hW.down hb⟩))
  have HF := hide (show ∀ W o u1 u3 u4, ST w2 W w2.heap.size q o (some (u1, u3, u4)) → Calls Try.prog 21 #[.agg #[.int .i64 q.win, u1, .int .i64 q.base, u3, u4], .agg #[.int .i64 s.kind, .int .i64 s.k, .string s.tx]] W fun e W' => ∃ a1 c1 a3 c3 a4 c4, e = .returned (.tuple #[.agg #[.int .i64 r.win, .slice a1 r.sent.length c1, .int .i64 r.base, .slice a3 r.got.length c3, .slice a4 r.line.length c4], .bool b]) ∧ SV w2 W' o (.slice a1 r.sent.length c1) (.slice a3 r.got.length c3) (.slice a4 r.line.length c4) r from fun W o u1 u3 u4 hW => by
    refine (HSp.out u1 u3 u4 W _ _ (hW.cp (u1, u3, u4) rfl)).mono ?_
    rintro e W' ⟨⟨y1, y3, y4, rfl, hA⟩, hb⟩
    obtain ⟨a1, c1, rfl⟩ := hA.o1.form
    obtain ⟨a3, c3, rfl⟩ := hA.o3.form
    obtain ⟨a4, c4, rfl⟩ := hA.o4.form
    have h := hW.down hb
    exact ⟨a1, c1, a3, c3, a4, c4, rfl, h.low, h.box, hA.mono hW.low.size (Nat.le_refl _)⟩)
  go_cut [6, 7] from 26 (fun p bb wx => ∃ (g : Nat) (a1 : Option Addr) (c1 : Nat) (a3 : Option Addr) (c3 : Nat) (a4 : Option Addr) (c4 : Nat), p = .pointer (some ⟨g, 0, none⟩) ∧ bb = .bool b ∧ Hid (LX w2 wx g (.slice a1 r.sent.length c1) (.slice a3 r.got.length c3) (.slice a4 r.line.length c4) r))
  case first =>
    go_region_held3 (fun W => W.cell? ⟨w.heap.size, 0, none⟩ = some (.int .i64 q.win) ∧ W.cell? ⟨w.heap.size, 1, none⟩ = some (.slice a1 q.sent.length p1) ∧ W.cell? ⟨w.heap.size, 2, none⟩ = some (.int .i64 q.base) ∧ W.cell? ⟨w.heap.size, 3, none⟩ = some (.slice a3 q.got.length p3) ∧ W.cell? ⟨w.heap.size, 4, none⟩ = some (.slice a4 q.line.length p4) ∧ W.cell? ⟨w.heap.size + 1, 0, none⟩ = some (.int .i64 s.kind) ∧ W.cell? ⟨w.heap.size + 1, 1, none⟩ = some (.int .i64 s.k) ∧ W.cell? ⟨w.heap.size + 1, 2, none⟩ = some (.string s.tx)) (first
      | (with_reducible exact HS0.out _ (by with_reducible assumption))
      | (with_reducible exact HS0.out _ (ST.down (by with_reducible assumption) (Below.refl _ _)).low)
      | (with_reducible exact HS0.out _ (ST.alloc (by with_reducible assumption)).low)
      | (with_reducible exact HS0.out _ (ST.alloc1 (by with_reducible assumption)).low)
      | (with_reducible exact HS0.out _ (show SV _ _ _ _ _ _ _ from (by with_reducible assumption)).low)
      | (with_reducible exact HS0.out _ ((show SV _ _ _ _ _ _ _ from (by with_reducible assumption)).low.alloc (show SV _ _ _ _ _ _ _ from (by with_reducible assumption)).low.size _))
      | (with_reducible exact HS0.out _ (SV.fresh (by with_reducible assumption)).low)
      | (with_reducible exact HS0.out _ (SV.set (by with_reducible assumption)).low)) (first
      | (go_at_call 18; with_reducible refine Calls.mono (HT1.out _ _ _ (by first | assumption | exact ST.alloc1 (by assumption) | exact ST.alloc (by assumption))) ?_; rintro e wo ⟨xo1, yo1, xo3, yo3, xo4, yo4, rfl, hSo⟩)
      | (go_at_call 22; with_reducible refine Calls.mono (HT2.out _ _ _ (by first | assumption | exact ST.alloc1 (by assumption) | exact ST.alloc (by assumption))) ?_; rintro e wt ⟨rfl, hSt⟩)
      | (go_at_call 21; with_reducible refine Calls.mono (HF.out _ _ _ _ _ (by first | assumption | exact ST.alloc1 (by assumption) | exact ST.alloc (by assumption))) ?_; rintro e wf ⟨af1, cf1, af3, cf3, af4, cf4, rfl, hSf⟩; first | (obtain ⟨⟨k0, k1, k2, k3, k4⟩, f0, f1, f2, f3, f4⟩ := (hSf.box _ rfl).1.pen; have hBs := (SV.set hSf).low) | skip))
    all_goals
      go_wp2_with fail
      go_meet
      first
        | (have hz := hSf.set; exact ⟨_, af1, cf1, af3, cf3, af4, cf4, rfl, rfl, hide hz⟩)
        | (have hz := hSf.fresh; exact ⟨_, af1, cf1, af3, cf3, af4, cf4, rfl, rfl, hide hz⟩)
  case rest =>
    rename World => wC
    obtain ⟨g, x1, k1, x3, k3, x4, k4, rfl, rfl, HLX⟩ := hcut
    have HLC := hide (HLB.out.down HLX.out.low)
    have HX4 := hide HLX.out.box
    have HC4 := hide HLX.out.ans.q
    clear hF0 hF1 HS0 HT1 HT2 HF HLX HLB HSp
    obtain ⟨⟨d0, d1, d2, d3, d4⟩, -⟩ := HLC.out.sb.pen
    go_wp2_with fail
    refine (to_queue _ _ _ q _ (HV.out.below HLC.out.low) HS.out).mono ?_
    rintro e w5 ⟨⟨u1, u3, u4, rfl, hA5⟩, hb5⟩
    obtain ⟨a5, c5, rfl⟩ := hA5.o1.form
    obtain ⟨a6, c6, rfl⟩ := hA5.o3.form
    obtain ⟨a7, c7, rfl⟩ := hA5.o4.form
    have hd6 := (Below.refl w5.heap.size w5).alloc (Nat.le_refl _) (.cells (qarr (.slice a5 q.sent.length c5) (.slice a6 q.got.length c6) (.slice a7 q.line.length c7) q) 25)
    have hx6 : Blk (w5.alloc (.cells (qarr (.slice a5 q.sent.length c5) (.slice a6 q.got.length c6) (.slice a7 q.line.length c7) q) 25)) w5.heap.size 5 (qf (.slice a5 q.sent.length c5) (.slice a6 q.got.length c6) (.slice a7 q.line.length c7) q) 25 := newW5 w5 _ _ _ _ _ 25
    clear d0 d1 d2 d3 d4
    go_upto_region 10 with fail
    obtain ⟨w6, hw6⟩ : ∃ w6, w5.alloc (.cells (qarr (.slice a5 q.sent.length c5) (.slice a6 q.got.length c6) (.slice a7 q.line.length c7) q) 25) = w6 := ⟨_, rfl⟩
    rw [hw6]
    rw [hw6] at hd6 hx6
    have HB6 := hide (hb5.trans (hd6.mono hb5.size))
    have HA6 := hide ((hA5.down hd6).mono (Nat.le_refl _) hd6.size)
    have HX6 := hide hx6
    clear hb5 hd6 hx6 hA5 hw6
    have hF1 : ST w6 w6 wC.heap.size q none (some (.slice a5 q.sent.length c5, .slice a6 q.got.length c6, .slice a7 q.line.length c7)) := ⟨Below.refl w6.heap.size w6, fun g e => (by cases e), fun _ e => (by cases e; exact HA6.out)⟩
    have hF0 : ST w6 w6.drew wC.heap.size q none (some (.slice a5 q.sent.length c5, .slice a6 q.got.length c6, .slice a7 q.line.length c7)) := ⟨(Below.refl w6.heap.size w6).drew, fun g e => (by cases e), fun _ e => (by cases e; exact HA6.out.down (Below.refl _ _).drew)⟩
    have HS0 := hide (show ∀ W, Below w6.heap.size w6 W → W.cell? ⟨w5.heap.size, 0, none⟩ = some (.int .i64 q.win) ∧ W.cell? ⟨w5.heap.size, 1, none⟩ = some (.slice a5 q.sent.length c5) ∧ W.cell? ⟨w5.heap.size, 2, none⟩ = some (.int .i64 q.base) ∧ W.cell? ⟨w5.heap.size, 3, none⟩ = some (.slice a6 q.got.length c6) ∧ W.cell? ⟨w5.heap.size, 4, none⟩ = some (.slice a7 q.line.length c7) ∧ W.cell? ⟨w.heap.size + 1, 0, none⟩ = some (.int .i64 s.kind) ∧ W.cell? ⟨w.heap.size + 1, 1, none⟩ = some (.int .i64 s.k) ∧ W.cell? ⟨w.heap.size + 1, 2, none⟩ = some (.string s.tx) from fun W hW => ⟨(HX6.out.down hW).pen.1.1, (HX6.out.down hW).pen.1.2.1, (HX6.out.down hW).pen.1.2.2.1, (HX6.out.down hW).pen.1.2.2.2.1, (HX6.out.down hW).pen.1.2.2.2.2, ((HLC.out.down HB6.out).down hW).eb.trp.1⟩)
    have HT2 := hide (show ∀ W o c, ST w6 W wC.heap.size q o c → Calls Try.prog 22 #[.agg #[.int .i64 s.kind, .int .i64 s.k, .string s.tx]] W fun e W' => e = .returned (.agg #[.int .i64 s.kind, .int .i64 s.k, .string s.tx]) ∧ ST w6 W' wC.heap.size q o c from fun W o c hW => (to_lst s W).mono (by
      rintro e W' ⟨rfl, hb⟩
      exact ⟨rfl, hW.down hb⟩))
    have HF := hide (show ∀ W o u1 u3 u4, ST w6 W wC.heap.size q o (some (u1, u3, u4)) → Calls Try.prog 23 #[.agg #[.int .i64 q.win, u1, .int .i64 q.base, u3, u4], .agg #[.int .i64 s.kind, .int .i64 s.k, .string s.tx]] W fun e W' => ∃ a1 c1 a3 c3 a4 c4, e = .returned (.tuple #[.agg #[.int .i64 r.win, .slice a1 r.sent.length c1, .int .i64 r.base, .slice a3 r.got.length c3, .slice a4 r.line.length c4], .bool b]) ∧ SV w6 W' o (.slice a1 r.sent.length c1) (.slice a3 r.got.length c3) (.slice a4 r.line.length c4) r from fun W o u1 u3 u4 hW => by
      refine (HIm.out u1 u3 u4 W _ _ (hW.cp (u1, u3, u4) rfl)).mono ?_
      rintro e W' ⟨⟨y1, y3, y4, rfl, hA⟩, hb⟩
      obtain ⟨a1, c1, rfl⟩ := hA.o1.form
      obtain ⟨a3, c3, rfl⟩ := hA.o3.form
      obtain ⟨a4, c4, rfl⟩ := hA.o4.form
      have h := hW.down hb
      exact ⟨a1, c1, a3, c3, a4, c4, rfl, h.low, h.box, hA.mono hW.low.size (Nat.le_refl _)⟩)
    go_cut [9, 10] from 36 (fun p bb wx => ∃ (g : Nat) (a1 : Option Addr) (c1 : Nat) (a3 : Option Addr) (c3 : Nat) (a4 : Option Addr) (c4 : Nat), p = .pointer (some ⟨g, 0, none⟩) ∧ bb = .bool b ∧ Hid (LX w6 wx g (.slice a1 r.sent.length c1) (.slice a3 r.got.length c3) (.slice a4 r.line.length c4) r))
    case first =>
      go_region_held3 (fun W => W.cell? ⟨w5.heap.size, 0, none⟩ = some (.int .i64 q.win) ∧ W.cell? ⟨w5.heap.size, 1, none⟩ = some (.slice a5 q.sent.length c5) ∧ W.cell? ⟨w5.heap.size, 2, none⟩ = some (.int .i64 q.base) ∧ W.cell? ⟨w5.heap.size, 3, none⟩ = some (.slice a6 q.got.length c6) ∧ W.cell? ⟨w5.heap.size, 4, none⟩ = some (.slice a7 q.line.length c7) ∧ W.cell? ⟨w.heap.size + 1, 0, none⟩ = some (.int .i64 s.kind) ∧ W.cell? ⟨w.heap.size + 1, 1, none⟩ = some (.int .i64 s.k) ∧ W.cell? ⟨w.heap.size + 1, 2, none⟩ = some (.string s.tx)) (first
        | (with_reducible exact HS0.out _ (by with_reducible assumption))
        | (with_reducible exact HS0.out _ (ST.down (by with_reducible assumption) (Below.refl _ _)).low)
        | (with_reducible exact HS0.out _ (ST.alloc (by with_reducible assumption)).low)
        | (with_reducible exact HS0.out _ (ST.alloc1 (by with_reducible assumption)).low)
        | (with_reducible exact HS0.out _ (show SV _ _ _ _ _ _ _ from (by with_reducible assumption)).low)
        | (with_reducible exact HS0.out _ ((show SV _ _ _ _ _ _ _ from (by with_reducible assumption)).low.alloc (show SV _ _ _ _ _ _ _ from (by with_reducible assumption)).low.size _))
        | (with_reducible exact HS0.out _ (SV.fresh (by with_reducible assumption)).low)
        | (with_reducible exact HS0.out _ (SV.set (by with_reducible assumption)).low)) (first
        | (go_at_call 22; with_reducible refine Calls.mono (HT2.out _ _ _ (by first | assumption | exact ST.alloc1 (by assumption) | exact ST.alloc (by assumption))) ?_; rintro e wt ⟨rfl, hSt⟩)
        | (go_at_call 23; with_reducible refine Calls.mono (HF.out _ _ _ _ _ (by first | assumption | exact ST.alloc1 (by assumption) | exact ST.alloc (by assumption))) ?_; rintro e wf ⟨af1, cf1, af3, cf3, af4, cf4, rfl, hSf⟩; first | (obtain ⟨⟨k0, k1, k2, k3, k4⟩, f0, f1, f2, f3, f4⟩ := (hSf.box _ rfl).1.pen; have hBs := (SV.set hSf).low) | skip))
      all_goals
        go_wp2_with fail
        go_meet
        first
          | (have hz := hSf.set; exact ⟨_, af1, cf1, af3, cf3, af4, cf4, rfl, rfl, hide hz⟩)
          | (have hz := hSf.fresh; exact ⟨_, af1, cf1, af3, cf3, af4, cf4, rfl, rfl, hide hz⟩)
    case rest =>
      rename World => wD
      obtain ⟨g', y1, j1, y3, j3, y4, j4, rfl, rfl, HLX⟩ := hcut
      have HQ := hide (show LQ wC wD w5.heap.size (.slice a5 q.sent.length c5) (.slice a6 q.got.length c6) (.slice a7 q.line.length c7) q w6.heap.size g' wD.heap.size (.slice y1 r.sent.length j1) (.slice y3 r.got.length j3) (.slice y4 r.line.length j4) r from HLX.out.lq HB6.out HX6.out HA6.out)
      have HG6 := hide HB6.out.size
      clear hF0 hF1 HS0 HT2 HF HLX HB6 HX6 HA6
      obtain ⟨⟨d0, d1, d2, d3, d4⟩, -⟩ := HQ.out.gb.pen
      obtain ⟨⟨e0, e1, e2, e3, e4⟩, -⟩ := (HX4.out.down HQ.out.low).pen
      go_wp2_with fail
      refine (eq_queue _ _ _ _ _ _ r _ HQ.out.ga.q (HC4.out.below HQ.out.low) HRS.out).mono ?_
      rintro e w7 ⟨rfl, hb7⟩
      have hLa := HQ.out.down hb7
      clear hb7 HQ d0 d1 d2 d3 d4 e0 e1 e2 e3 e4
      go_upto_region 13 with fail
      have hLad := hLa.down (Below.refl w7.heap.size w7).drew
      have HTo := hide (show ∀ W, LQ wC W w5.heap.size (.slice a5 q.sent.length c5) (.slice a6 q.got.length c6) (.slice a7 q.line.length c7) q w6.heap.size g' wD.heap.size (.slice y1 r.sent.length j1) (.slice y3 r.got.length j3) (.slice y4 r.line.length j4) r → Calls Try.prog 18 #[.agg #[.int .i64 q.win, .slice a1 q.sent.length p1, .int .i64 q.base, .slice a3 q.got.length p3, .slice a4 q.line.length p4]] W fun e w' => (∃ u1 u3 u4, e = .returned (qv u1 u3 u4 q) ∧ AnsQ w' W.heap.size w'.heap.size u1 u3 u4 q.sent q.got q.line) ∧ LQ wC w' w5.heap.size (.slice a5 q.sent.length c5) (.slice a6 q.got.length c6) (.slice a7 q.line.length c7) q w6.heap.size g' wD.heap.size (.slice y1 r.sent.length j1) (.slice y3 r.got.length j3) (.slice y4 r.line.length j4) r from fun W hW => by
        refine (to_queue _ _ _ q W ((HV.out.below HLC.out.low).below hW.low) HS.out).mono ?_
        rintro e w' ⟨hu, hb⟩
        exact ⟨hu, hW.down hb⟩)
      have HSS := hide (show ∀ W, LQ wC W w5.heap.size (.slice a5 q.sent.length c5) (.slice a6 q.got.length c6) (.slice a7 q.line.length c7) q w6.heap.size g' wD.heap.size (.slice y1 r.sent.length j1) (.slice y3 r.got.length j3) (.slice y4 r.line.length j4) r → W.cell? ⟨w5.heap.size, 0, none⟩ = some (.int .i64 q.win) ∧ W.cell? ⟨w5.heap.size, 1, none⟩ = some (.slice a5 q.sent.length c5) ∧ W.cell? ⟨w5.heap.size, 2, none⟩ = some (.int .i64 q.base) ∧ W.cell? ⟨w5.heap.size, 3, none⟩ = some (.slice a6 q.got.length c6) ∧ W.cell? ⟨w5.heap.size, 4, none⟩ = some (.slice a7 q.line.length c7) ∧ W.cell? ⟨w.heap.size, 0, none⟩ = some (.int .i64 q.win) ∧ W.cell? ⟨w.heap.size, 1, none⟩ = some (.slice a1 q.sent.length p1) ∧ W.cell? ⟨w.heap.size, 2, none⟩ = some (.int .i64 q.base) ∧ W.cell? ⟨w.heap.size, 3, none⟩ = some (.slice a3 q.got.length p3) ∧ W.cell? ⟨w.heap.size, 4, none⟩ = some (.slice a4 q.line.length p4) from fun W hW => ⟨hW.xb.pen.1.1, hW.xb.pen.1.2.1, hW.xb.pen.1.2.2.1, hW.xb.pen.1.2.2.2.1, hW.xb.pen.1.2.2.2.2, (HLC.out.down hW.low).sb.pen.1.1, (HLC.out.down hW.low).sb.pen.1.2.1, (HLC.out.down hW.low).sb.pen.1.2.2.1, (HLC.out.down hW.low).sb.pen.1.2.2.2.1, (HLC.out.down hW.low).sb.pen.1.2.2.2.2⟩)
      go_cut [56] from 52 (fun bb wx => bb = .bool false ∧ Hid (LQ wC wx w5.heap.size (.slice a5 q.sent.length c5) (.slice a6 q.got.length c6) (.slice a7 q.line.length c7) q w6.heap.size g' wD.heap.size (.slice y1 r.sent.length j1) (.slice y3 r.got.length j3) (.slice y4 r.line.length j4) r))
      case first =>
        go_region_held3 (fun W => W.cell? ⟨w5.heap.size, 0, none⟩ = some (.int .i64 q.win) ∧ W.cell? ⟨w5.heap.size, 1, none⟩ = some (.slice a5 q.sent.length c5) ∧ W.cell? ⟨w5.heap.size, 2, none⟩ = some (.int .i64 q.base) ∧ W.cell? ⟨w5.heap.size, 3, none⟩ = some (.slice a6 q.got.length c6) ∧ W.cell? ⟨w5.heap.size, 4, none⟩ = some (.slice a7 q.line.length c7) ∧ W.cell? ⟨w.heap.size, 0, none⟩ = some (.int .i64 q.win) ∧ W.cell? ⟨w.heap.size, 1, none⟩ = some (.slice a1 q.sent.length p1) ∧ W.cell? ⟨w.heap.size, 2, none⟩ = some (.int .i64 q.base) ∧ W.cell? ⟨w.heap.size, 3, none⟩ = some (.slice a3 q.got.length p3) ∧ W.cell? ⟨w.heap.size, 4, none⟩ = some (.slice a4 q.line.length p4)) (first | exact HSS.out _ hFe | exact HSS.out _ hFj | exact HSS.out _ hLad) (first
          | (go_at_call 18; with_reducible refine Calls.mono (HTo.out _ (by assumption)) ?_; rintro e wj ⟨⟨ui, uj, uk, rfl, hAj⟩, hFj⟩; have HAj := hide hAj; obtain ⟨ai, ci, rfl⟩ := hAj.o1.form; obtain ⟨aj, cj, rfl⟩ := hAj.o3.form; obtain ⟨ak, ck, rfl⟩ := hAj.o4.form; clear hAj)
          | (go_at_call 13; refine Calls.mono (eq_queue _ _ _ _ _ _ q _ hFj.xa.q HAj.out.q HS.out) ?_; rintro e we ⟨rfl, hbe⟩; have hFe := hFj.down hbe))
        all_goals
          go_wp2_with fail
          go_meet
          exact ⟨rfl, hide hFe⟩
      case rest =>
        rename World => wE
        obtain ⟨rfl, HLa⟩ := hcut
        clear hLa hLad HTo HSS
        obtain ⟨⟨d0, d1, d2, d3, d4⟩, -⟩ := HLa.out.xb.pen
        go_wp2_with fail
        refine (mark_queue2 wC.heap.size w6.heap.size _ _ _ q _ HLa.out.xa HS.out HLa.out.hH).mono ?_
        rintro e w8 ⟨rfl, -, hm⟩
        have HU8 := hide (HLa.out.mark hm)
        rw [HM1.out]
        clear hm HLa d0 d1 d2 d3 d4
        obtain ⟨⟨d0, d1, d2, d3, d4⟩, -⟩ := HU8.out.gb.pen
        obtain ⟨⟨e0, e1, e2, e3, e4⟩, -⟩ := (HX4.out.down HU8.out.low).pen
        go_wp2_with fail
        refine (eq_queue _ _ _ _ _ _ r _ HU8.out.ga.q (HC4.out.below HU8.out.low) HRS.out).mono ?_
        rintro e w9 ⟨rfl, hb⟩
        have HU9 := hide (HU8.out.down hb)
        clear hb HU8 d0 d1 d2 d3 d4 e0 e1 e2 e3 e4
        obtain ⟨⟨d0, d1, d2, d3, d4⟩, -⟩ := HU9.out.gb.pen
        go_wp2_with fail
        refine (mark_queue2 w6.heap.size wD.heap.size _ _ _ r _ HU9.out.ga HRS.out HU9.out.hhi).mono ?_
        rintro e w10 ⟨rfl, ha, hm⟩
        have HU10 := hide (HU9.out.mark HG6.out hm ha)
        rw [HM2.out]
        clear hm ha HU9 d0 d1 d2 d3 d4
        obtain ⟨⟨d0, d1, d2, d3, d4⟩, -⟩ := HU10.out.gb.pen
        go_wp2_with fail
        refine (held_queue w6.heap.size wD.heap.size _ _ _ r _ HU10.out.ga HRS.out).mono ?_
        rintro e w11 ⟨rfl, hb⟩
        have HU11 := hide (HU10.out.down hb)
        rw [HM2.out]
        have HLB := hide (HLC.out.down HU11.out.low)
        clear hb HU10 d0 d1 d2 d3 d4 HLC
        go_upto_region 27 with fail
        have hF1 : ST w11 w11 w11.heap.size q none none := ⟨Below.refl w11.heap.size w11, fun g e => (by cases e), fun _ e => (by cases e)⟩
        have hF0 : ST w11 w11.drew w11.heap.size q none none := ⟨(Below.refl w11.heap.size w11).drew, fun g e => (by cases e), fun _ e => (by cases e)⟩
        have HS0 := hide (show ∀ W, Below w11.heap.size w11 W → W.cell? ⟨w.heap.size, 0, none⟩ = some (.int .i64 q.win) ∧ W.cell? ⟨w.heap.size, 1, none⟩ = some (.slice a1 q.sent.length p1) ∧ W.cell? ⟨w.heap.size, 2, none⟩ = some (.int .i64 q.base) ∧ W.cell? ⟨w.heap.size, 3, none⟩ = some (.slice a3 q.got.length p3) ∧ W.cell? ⟨w.heap.size, 4, none⟩ = some (.slice a4 q.line.length p4) ∧ W.cell? ⟨w.heap.size + 1, 0, none⟩ = some (.int .i64 s.kind) ∧ W.cell? ⟨w.heap.size + 1, 1, none⟩ = some (.int .i64 s.k) ∧ W.cell? ⟨w.heap.size + 1, 2, none⟩ = some (.string s.tx) from fun W hW => ⟨(HLB.out.down hW).sb.pen.1.1, (HLB.out.down hW).sb.pen.1.2.1, (HLB.out.down hW).sb.pen.1.2.2.1, (HLB.out.down hW).sb.pen.1.2.2.2.1, (HLB.out.down hW).sb.pen.1.2.2.2.2, (HLB.out.down hW).eb.trp.1⟩)
        have HT1 := hide (show ∀ W o c, ST w11 W w11.heap.size q o c → Calls Try.prog 18 #[.agg #[.int .i64 q.win, .slice a1 q.sent.length p1, .int .i64 q.base, .slice a3 q.got.length p3, .slice a4 q.line.length p4]] W fun e W' => ∃ a1 c1 a3 c3 a4 c4, e = .returned (.agg #[.int .i64 q.win, .slice a1 q.sent.length c1, .int .i64 q.base, .slice a3 q.got.length c3, .slice a4 q.line.length c4]) ∧ ST w11 W' w11.heap.size q o (some (.slice a1 q.sent.length c1, .slice a3 q.got.length c3, .slice a4 q.line.length c4)) from fun W o c hW => (to_queue _ _ _ q W ((HV.out.below HLB.out.low).below hW.low) HS.out).mono (by
          rintro e W' ⟨⟨u1, u3, u4, rfl, hA⟩, hb⟩
          obtain ⟨a1, c1, rfl⟩ := hA.o1.form
          obtain ⟨a3, c3, rfl⟩ := hA.o3.form
          obtain ⟨a4, c4, rfl⟩ := hA.o4.form
          have h := hW.down hb
          exact ⟨a1, c1, a3, c3, a4, c4, rfl, h.low, h.box, fun u e => by cases e; exact hA.mono (hW.low.size) (Nat.le_refl _)⟩))
        have HT2 := hide (show ∀ W o c, ST w11 W w11.heap.size q o c → Calls Try.prog 22 #[.agg #[.int .i64 s.kind, .int .i64 s.k, .string s.tx]] W fun e W' => e = .returned (.agg #[.int .i64 s.kind, .int .i64 s.k, .string s.tx]) ∧ ST w11 W' w11.heap.size q o c from fun W o c hW => (to_lst s W).mono (by
          rintro e W' ⟨rfl, hb⟩
          exact ⟨rfl, hW.down hb⟩))
        have HF := hide (show ∀ W o u1 u3 u4, ST w11 W w11.heap.size q o (some (u1, u3, u4)) → Calls Try.prog 23 #[.agg #[.int .i64 q.win, u1, .int .i64 q.base, u3, u4], .agg #[.int .i64 s.kind, .int .i64 s.k, .string s.tx]] W fun e W' => ∃ a1 c1 a3 c3 a4 c4, e = .returned (.tuple #[.agg #[.int .i64 r.win, .slice a1 r.sent.length c1, .int .i64 r.base, .slice a3 r.got.length c3, .slice a4 r.line.length c4], .bool b]) ∧ SV w11 W' o (.slice a1 r.sent.length c1) (.slice a3 r.got.length c3) (.slice a4 r.line.length c4) r from fun W o u1 u3 u4 hW => by
          refine (HIm.out u1 u3 u4 W _ _ (hW.cp (u1, u3, u4) rfl)).mono ?_
          rintro e W' ⟨⟨y1, y3, y4, rfl, hA⟩, hb⟩
          obtain ⟨a1, c1, rfl⟩ := hA.o1.form
          obtain ⟨a3, c3, rfl⟩ := hA.o3.form
          obtain ⟨a4, c4, rfl⟩ := hA.o4.form
          have h := hW.down hb
          exact ⟨a1, c1, a3, c3, a4, c4, rfl, h.low, h.box, hA.mono hW.low.size (Nat.le_refl _)⟩)
        go_cut [14, 15] from 84 (fun p bb wx => ∃ (g : Nat) (a1 : Option Addr) (c1 : Nat) (a3 : Option Addr) (c3 : Nat) (a4 : Option Addr) (c4 : Nat), p = .pointer (some ⟨g, 0, none⟩) ∧ bb = .bool b ∧ Hid (LX w11 wx g (.slice a1 r.sent.length c1) (.slice a3 r.got.length c3) (.slice a4 r.line.length c4) r))
        case first =>
          go_region_held3 (fun W => W.cell? ⟨w.heap.size, 0, none⟩ = some (.int .i64 q.win) ∧ W.cell? ⟨w.heap.size, 1, none⟩ = some (.slice a1 q.sent.length p1) ∧ W.cell? ⟨w.heap.size, 2, none⟩ = some (.int .i64 q.base) ∧ W.cell? ⟨w.heap.size, 3, none⟩ = some (.slice a3 q.got.length p3) ∧ W.cell? ⟨w.heap.size, 4, none⟩ = some (.slice a4 q.line.length p4) ∧ W.cell? ⟨w.heap.size + 1, 0, none⟩ = some (.int .i64 s.kind) ∧ W.cell? ⟨w.heap.size + 1, 1, none⟩ = some (.int .i64 s.k) ∧ W.cell? ⟨w.heap.size + 1, 2, none⟩ = some (.string s.tx)) (first
            | (with_reducible exact HS0.out _ (by with_reducible assumption))
            | (with_reducible exact HS0.out _ (ST.down (by with_reducible assumption) (Below.refl _ _)).low)
            | (with_reducible exact HS0.out _ (ST.alloc (by with_reducible assumption)).low)
            | (with_reducible exact HS0.out _ (ST.alloc1 (by with_reducible assumption)).low)
            | (with_reducible exact HS0.out _ (show SV _ _ _ _ _ _ _ from (by with_reducible assumption)).low)
            | (with_reducible exact HS0.out _ ((show SV _ _ _ _ _ _ _ from (by with_reducible assumption)).low.alloc (show SV _ _ _ _ _ _ _ from (by with_reducible assumption)).low.size _))
            | (with_reducible exact HS0.out _ (SV.fresh (by with_reducible assumption)).low)
            | (with_reducible exact HS0.out _ (SV.set (by with_reducible assumption)).low)) (first
            | (go_at_call 18; with_reducible refine Calls.mono (HT1.out _ _ _ (by first | assumption | exact ST.alloc1 (by assumption) | exact ST.alloc (by assumption))) ?_; rintro e wo ⟨xo1, yo1, xo3, yo3, xo4, yo4, rfl, hSo⟩)
            | (go_at_call 22; with_reducible refine Calls.mono (HT2.out _ _ _ (by first | assumption | exact ST.alloc1 (by assumption) | exact ST.alloc (by assumption))) ?_; rintro e wt ⟨rfl, hSt⟩)
            | (go_at_call 23; with_reducible refine Calls.mono (HF.out _ _ _ _ _ (by first | assumption | exact ST.alloc1 (by assumption) | exact ST.alloc (by assumption))) ?_; rintro e wf ⟨af1, cf1, af3, cf3, af4, cf4, rfl, hSf⟩; first | (obtain ⟨⟨k0, k1, k2, k3, k4⟩, f0, f1, f2, f3, f4⟩ := (hSf.box _ rfl).1.pen; have hBs := (SV.set hSf).low) | skip))
          all_goals
            go_wp2_with fail
            go_meet
            first
              | (have hz := hSf.set; exact ⟨_, af1, cf1, af3, cf3, af4, cf4, rfl, rfl, hide hz⟩)
              | (have hz := hSf.fresh; exact ⟨_, af1, cf1, af3, cf3, af4, cf4, rfl, rfl, hide hz⟩)
        case rest =>
          rename World => wF
          obtain ⟨gh, a9, c9, a10, c10, a11, c11, rfl, rfl, HLX⟩ := hcut
          have HU12 := hide (HU11.out.down HLX.out.low)
          have HLZ := hide (HLB.out.down HLX.out.low)
          have HXh := hide HLX.out.box
          have HAh := hide HLX.out.ans.q
          clear hF0 hF1 HS0 HT1 HT2 HF HLX HLB HIm HU11
          obtain ⟨⟨d0, d1, d2, d3, d4⟩, -⟩ := HXh.out.pen
          obtain ⟨⟨e0, e1, e2, e3, e4⟩, -⟩ := (HX4.out.down HU12.out.low).pen
          go_wp2_with fail
          refine (eq_queue _ _ _ _ _ _ r _ HAh.out (HC4.out.below HU12.out.low) HRS.out).mono ?_
          rintro e w13 ⟨rfl, hb⟩
          have HU13 := hide (HU12.out.down hb)
          have HLZ2 := hide (HLZ.out.down hb)
          clear hb HU12 HLZ HXh HAh d0 d1 d2 d3 d4 e0 e1 e2 e3 e4
          obtain ⟨⟨d0, d1, d2, d3, d4⟩, -⟩ := HU13.out.gb.pen
          go_wp2_with fail
          refine (held_queue w6.heap.size wD.heap.size _ _ _ r _ HU13.out.ga HRS.out).mono ?_
          rintro e w14 ⟨rfl, hb⟩
          have HZ := hide (HLZ2.out.down hb).low
          rw [HM2.out]
          clear hb HU13 HLZ2 d0 d1 d2 d3 d4 HX4 HC4 HV HS HRS
          go_wp2
          go_ret
          exact ⟨rfl, HZ.out⟩
end Go.Proofs.Ytmpdihaaekkcpaa
