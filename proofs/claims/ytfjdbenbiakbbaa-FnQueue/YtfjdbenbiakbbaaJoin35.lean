/-
  A step that is told: the specification's text.
-/
import Derived.Test.YtfjdbenbiakbbaaJoin31
import Derived.Test.YtfjdbenbiakbbaaJoin32
namespace Go.Proofs.Ytfjdbenbiakbbaa
open Go.RowKit M
set_option maxRecDepth 20000 in
set_option maxHeartbeats 16000000 in
theorem spec_step (v1 v3 v4 : Value) (q : Qu) (s : Lst) (gb : Bool) (w : World) (hv : QuC w v1 v3 v4 q) (hs : ShortQ q) (hn : ∀ x ∈ q.sent, x.size ≤ maxLen) (hx : s.tx.size ≤ maxLen) (hgb : BP gb (GoodQ q)) :
    Calls Try.prog 11 #[qv v1 v3 v4 q, s.v] w fun e w' => AnsE w w' e ((stepO q s gb).getD qu0) [.bool (stepO q s gb).isSome] ∧ Below w.heap.size w w' := by
  have HYC := hide hv
  have HX := hide hx
  have HB := hide hgb
  have HSh := hide hs
  obtain ⟨a1, c1, rfl⟩ := hv.s.1.form
  obtain ⟨a3, c3, rfl⟩ := hv.g.1.form
  obtain ⟨a4, c4, rfl⟩ := hv.l.1.form
  have hd := (((Below.refl w.heap.size w).alloc (Nat.le_refl _) (.cells (qarr (.slice a1 q.sent.length c1) (.slice a3 q.got.length c3) (.slice a4 q.line.length c4) q) 32)).alloc (by simp) (.cells #[.int .i64 s.kind, .int .i64 s.k, .string s.tx] 36)).alloc (by simp; omega) (.cells #[.int .i64 0, .slice none 0 0, .int .i64 0, .slice none 0 0, .slice none 0 0] 32)
  have HQ := hide (show Blk (((w.alloc (.cells (qarr (.slice a1 q.sent.length c1) (.slice a3 q.got.length c3) (.slice a4 q.line.length c4) q) 32)).alloc (.cells #[.int .i64 s.kind, .int .i64 s.k, .string s.tx] 36)).alloc (.cells #[.int .i64 0, .slice none 0 0, .int .i64 0, .slice none 0 0, .slice none 0 0] 32)) w.heap.size 5 (qf (.slice a1 q.sent.length c1) (.slice a3 q.got.length c3) (.slice a4 q.line.length c4) q) 32 from ((newW5 w _ _ _ _ _ 32).alloc _).alloc _)
  have HLb := hide (show Blk (((w.alloc (.cells (qarr (.slice a1 q.sent.length c1) (.slice a3 q.got.length c3) (.slice a4 q.line.length c4) q) 32)).alloc (.cells #[.int .i64 s.kind, .int .i64 s.k, .string s.tx] 36)).alloc (.cells #[.int .i64 0, .slice none 0 0, .int .i64 0, .slice none 0 0, .slice none 0 0] 32)) (w.heap.size + 1) 3 (ql s) 36 from by
    have := (newT3 (w.alloc (.cells (qarr (.slice a1 q.sent.length c1) (.slice a3 q.got.length c3) (.slice a4 q.line.length c4) q) 32)) (.int .i64 s.kind) (.int .i64 s.k) (.string s.tx) 36).alloc (.cells #[.int .i64 0, .slice none 0 0, .int .i64 0, .slice none 0 0, .slice none 0 0] 32)
    rw [World.size_alloc] at this; exact this)
  have HRb := hide (show Blk (((w.alloc (.cells (qarr (.slice a1 q.sent.length c1) (.slice a3 q.got.length c3) (.slice a4 q.line.length c4) q) 32)).alloc (.cells #[.int .i64 s.kind, .int .i64 s.k, .string s.tx] 36)).alloc (.cells #[.int .i64 0, .slice none 0 0, .int .i64 0, .slice none 0 0, .slice none 0 0] 32)) (w.heap.size + 1 + 1) 5 (w5 (.int .i64 0) (.slice none 0 0) (.int .i64 0) (.slice none 0 0) (.slice none 0 0)) 32 from by
    have := newW5 ((w.alloc (.cells (qarr (.slice a1 q.sent.length c1) (.slice a3 q.got.length c3) (.slice a4 q.line.length c4) q) 32)).alloc (.cells #[.int .i64 s.kind, .int .i64 s.k, .string s.tx] 36)) (.int .i64 0) (.slice none 0 0) (.int .i64 0) (.slice none 0 0) (.slice none 0 0) 32
    rw [World.size_alloc, World.size_alloc] at this; exact this)
  have HGc := hide (spec_goodQ _ _ _ q gb _ (⟨hv.s.1.below hd, hv.g.1.below hd, hv.l.1.below hd⟩) hs hn hgb)
  have HSZ := hide (show (((w.alloc (.cells (qarr (.slice a1 q.sent.length c1) (.slice a3 q.got.length c3) (.slice a4 q.line.length c4) q) 32)).alloc (.cells #[.int .i64 s.kind, .int .i64 s.k, .string s.tx] 36)).alloc (.cells #[.int .i64 0, .slice none 0 0, .int .i64 0, .slice none 0 0, .slice none 0 0] 32)).heap.size = w.heap.size + 3 from by simp)
  have HD := hide hd
  obtain ⟨⟨y0, y1, y2, y3, y4⟩, -⟩ := HQ.out.pen
  clear hv hs hn hx hgb hd
  go_enter Try.func11, Try.ntmps11
  go_wp2_with fail
  refine Calls.mono HGc.out ?_
  rintro e w1 ⟨rfl, hb1⟩
  have HQ1 := hide (HQ.out.down hb1)
  have HL1 := hide (HLb.out.down hb1)
  have HR1 := hide (HRb.out.down hb1)
  have HD1 := hide (HD.out.trans (hb1.mono HD.out.size))
  have hs1 : w.heap.size + 3 ≤ w1.heap.size := by have := hb1.size; have := HSZ.out; omega
  clear hb1 HQ HLb HRb HGc HD HSZ y0 y1 y2 y3 y4
  obtain ⟨⟨e0, e1, e2, e3, e4⟩, f0, f1, f2, f3, f4⟩ := HR1.out.pen
  cases gb with
  | false =>
    have hz := (((((HR1.out.pen0 (.int .i64 0)).pen1 (.slice none 0 0)).pen2 (.int .i64 0)).pen3 (.slice none 0 0)).pen4 (.slice none 0 0))
    have hbz := (((((HD1.out.setCell (p := ⟨w.heap.size + 1 + 1, 0, none⟩) (show w.heap.size ≤ w.heap.size + 1 + 1 by omega) (.int .i64 0)).setCell (p := ⟨w.heap.size + 1 + 1, 1, none⟩) (show w.heap.size ≤ w.heap.size + 1 + 1 by omega) (.slice none 0 0)).setCell (p := ⟨w.heap.size + 1 + 1, 2, none⟩) (show w.heap.size ≤ w.heap.size + 1 + 1 by omega) (.int .i64 0)).setCell (p := ⟨w.heap.size + 1 + 1, 3, none⟩) (show w.heap.size ≤ w.heap.size + 1 + 1 by omega) (.slice none 0 0)).setCell (p := ⟨w.heap.size + 1 + 1, 4, none⟩) (show w.heap.size ≤ w.heap.size + 1 + 1 by omega) (.slice none 0 0))
    obtain ⟨⟨g0, g1, g2, g3, g4⟩, -⟩ := hz.pen
    clear hz
    go_wp2
    exact bodyPost_ret (v := .tuple #[qv (.slice none 0 0) (.slice none 0 0) (.slice none 0 0) qu0, .bool false]) (by simp [results, Try.results11, go_sem, qu0, g0, g1, g2, g3, g4]) rfl ⟨AnsE.zero _ _ _, hbz⟩
  | true =>
  have HG := hide (HB.out.1 rfl)
  obtain ⟨r, b, hR1, hR2⟩ : ∃ r b, (stp q s).getD q = r ∧ (stp q s).isSome = b := ⟨_, _, rfl, rfl⟩
  have HR := hide (And.intro hR1 hR2)
  clear hR1 hR2 e0 e1 e2 e3 e4 f0 f1 f2 f3 f4
  go_upto_region 3 with fail
  have hF1 : ST w1 w1 w1.heap.size q none none := ⟨Below.refl w1.heap.size w1, fun g e => (by cases e), fun _ e => (by cases e)⟩
  have hF0 : ST w1 w1.drew w1.heap.size q none none := ⟨(Below.refl w1.heap.size w1).drew, fun g e => (by cases e), fun _ e => (by cases e)⟩
  have HS0 := hide (show ∀ W, Below w1.heap.size w1 W → W.cell? ⟨w.heap.size, 0, none⟩ = some (.int .i64 q.win) ∧ W.cell? ⟨w.heap.size, 1, none⟩ = some (.slice a1 q.sent.length c1) ∧ W.cell? ⟨w.heap.size, 2, none⟩ = some (.int .i64 q.base) ∧ W.cell? ⟨w.heap.size, 3, none⟩ = some (.slice a3 q.got.length c3) ∧ W.cell? ⟨w.heap.size, 4, none⟩ = some (.slice a4 q.line.length c4) ∧ W.cell? ⟨w.heap.size + 1, 0, none⟩ = some (.int .i64 s.kind) ∧ W.cell? ⟨w.heap.size + 1, 1, none⟩ = some (.int .i64 s.k) ∧ W.cell? ⟨w.heap.size + 1, 2, none⟩ = some (.string s.tx) from fun W hW => ⟨(HQ1.out.down hW).pen.1.1, (HQ1.out.down hW).pen.1.2.1, (HQ1.out.down hW).pen.1.2.2.1, (HQ1.out.down hW).pen.1.2.2.2.1, (HQ1.out.down hW).pen.1.2.2.2.2, (HL1.out.down hW).trp.1⟩)
  have HT1 := hide (show ∀ W o c, ST w1 W w1.heap.size q o c → Calls Try.prog 42 #[.agg #[.int .i64 q.win, .slice a1 q.sent.length c1, .int .i64 q.base, .slice a3 q.got.length c3, .slice a4 q.line.length c4]] W fun e W' => ∃ a1 c1 a3 c3 a4 c4, e = .returned (.agg #[.int .i64 q.win, .slice a1 q.sent.length c1, .int .i64 q.base, .slice a3 q.got.length c3, .slice a4 q.line.length c4]) ∧ ST w1 W' w1.heap.size q o (some (.slice a1 q.sent.length c1, .slice a3 q.got.length c3, .slice a4 q.line.length c4)) from fun W o c hW => (own_queue _ _ _ q W (HYC.out.below (HD1.out.trans (hW.low.mono HD1.out.size))) HSh.out).mono (by
    rintro e W' ⟨⟨u1, u3, u4, rfl, hA⟩, hb⟩
    obtain ⟨a1, c1, rfl⟩ := hA.o1.form
    obtain ⟨a3, c3, rfl⟩ := hA.o3.form
    obtain ⟨a4, c4, rfl⟩ := hA.o4.form
    have h := hW.down hb
    exact ⟨a1, c1, a3, c3, a4, c4, rfl, h.low, h.box, fun u e => by cases e; exact hA.mono (hW.low.size) (Nat.le_refl _)⟩))
  have HF := hide (show ∀ W o u1 u3 u4, ST w1 W w1.heap.size q o (some (u1, u3, u4)) → Calls Try.prog 41 #[.agg #[.int .i64 q.win, u1, .int .i64 q.base, u3, u4], .agg #[.int .i64 s.kind, .int .i64 s.k, .string s.tx]] W fun e W' => ∃ a1 c1 a3 c3 a4 c4, e = .returned (.tuple #[.agg #[.int .i64 r.win, .slice a1 r.sent.length c1, .int .i64 r.base, .slice a3 r.got.length c3, .slice a4 r.line.length c4], .bool b]) ∧ SV w1 W' o (.slice a1 r.sent.length c1) (.slice a3 r.got.length c3) (.slice a4 r.line.length c4) r from fun W o u1 u3 u4 hW => by
    refine (spec_stp u1 u3 u4 q s w1.heap.size W (hW.cp (u1, u3, u4) rfl) hW.low.size HG.out HX.out).mono ?_
    rintro e W' ⟨y1, y3, y4, rfl, hA, hB, hCh⟩
    rw [HR.out.1] at hA ⊢
    rw [HR.out.2]
    obtain ⟨a1, c1, rfl⟩ := hA.o1.form
    obtain ⟨a3, c3, rfl⟩ := hA.o3.form
    obtain ⟨a4, c4, rfl⟩ := hA.o4.form
    have hcp := hW.cp (u1, u3, u4) rfl
    refine ⟨a1, c1, a3, c3, a4, c4, rfl, hW.low.trans hB, fun g hg => ⟨(hW.box g hg).1.chg hCh ?_, (hW.box g hg).2⟩, hA⟩
    rintro (e | e | e)
    · exact hcp.o1.ne_blk (hW.box g hg).1 (by decide) e
    · exact hcp.o3.ne_blk (hW.box g hg).1 (by decide) e
    · exact hcp.o4.ne_blk (hW.box g hg).1 (by decide) e)
  go_cut [6, 7] from 12 (fun p bb wx => ∃ (g : Nat) (a1 : Option Addr) (c1 : Nat) (a3 : Option Addr) (c3 : Nat) (a4 : Option Addr) (c4 : Nat), p = .pointer (some ⟨g, 0, none⟩) ∧ bb = .bool b ∧ Hid (LX w1 wx g (.slice a1 r.sent.length c1) (.slice a3 r.got.length c3) (.slice a4 r.line.length c4) r))
  case first =>
    go_region_held3 (fun W => W.cell? ⟨w.heap.size, 0, none⟩ = some (.int .i64 q.win) ∧ W.cell? ⟨w.heap.size, 1, none⟩ = some (.slice a1 q.sent.length c1) ∧ W.cell? ⟨w.heap.size, 2, none⟩ = some (.int .i64 q.base) ∧ W.cell? ⟨w.heap.size, 3, none⟩ = some (.slice a3 q.got.length c3) ∧ W.cell? ⟨w.heap.size, 4, none⟩ = some (.slice a4 q.line.length c4) ∧ W.cell? ⟨w.heap.size + 1, 0, none⟩ = some (.int .i64 s.kind) ∧ W.cell? ⟨w.heap.size + 1, 1, none⟩ = some (.int .i64 s.k) ∧ W.cell? ⟨w.heap.size + 1, 2, none⟩ = some (.string s.tx)) (first
      | (with_reducible exact HS0.out _ (by with_reducible assumption))
      | (with_reducible exact HS0.out _ (ST.down (by with_reducible assumption) (Below.refl _ _)).low)
      | (with_reducible exact HS0.out _ (ST.alloc (by with_reducible assumption)).low)
      | (with_reducible exact HS0.out _ (ST.alloc1 (by with_reducible assumption)).low)
      | (with_reducible exact HS0.out _ (show SV _ _ _ _ _ _ _ from (by with_reducible assumption)).low)
      | (with_reducible exact HS0.out _ ((show SV _ _ _ _ _ _ _ from (by with_reducible assumption)).low.alloc (show SV _ _ _ _ _ _ _ from (by with_reducible assumption)).low.size _))
      | (with_reducible exact HS0.out _ (SV.fresh (by with_reducible assumption)).low)
      | (with_reducible exact HS0.out _ (SV.set (by with_reducible assumption)).low)) (first
      | (go_at_call 42; with_reducible refine Calls.mono (HT1.out _ _ _ (by first | assumption | exact ST.alloc1 (by assumption) | exact ST.alloc (by assumption))) ?_; rintro e wo ⟨xo1, yo1, xo3, yo3, xo4, yo4, rfl, hSo⟩)
      | (go_at_call 41; with_reducible refine Calls.mono (HF.out _ _ _ _ _ (by first | assumption | exact ST.alloc1 (by assumption) | exact ST.alloc (by assumption))) ?_; rintro e wf ⟨af1, cf1, af3, cf3, af4, cf4, rfl, hSf⟩; first | (obtain ⟨⟨k0, k1, k2, k3, k4⟩, f0, f1, f2, f3, f4⟩ := (hSf.box _ rfl).1.pen; have hBs := (SV.set hSf).low) | skip))
    all_goals
      go_wp2_with fail
      go_meet
      first
        | (have hz := hSf.set; exact ⟨_, af1, cf1, af3, cf3, af4, cf4, rfl, rfl, hide hz⟩)
        | (have hz := hSf.fresh; exact ⟨_, af1, cf1, af3, cf3, af4, cf4, rfl, rfl, hide hz⟩)
  case rest =>
    rename World => w2
    obtain ⟨g, x1, k1, x3, k3, x4, k4, rfl, rfl, HLX⟩ := hcut
    have HRc := hide (HR1.out.down HLX.out.low)
    have HDc := hide (HD1.out.trans (HLX.out.low.mono HD1.out.size))
    clear hF0 hF1 HS0 HT1 HF HR1 HQ1 HL1 HD1 HYC
    obtain ⟨⟨e0, e1, e2, e3, e4⟩, f0, f1, f2, f3, f4⟩ := HRc.out.pen
    cases b with
    | false =>
      have HO := hide (show stepO q s true = none from by
        have := HR.out.2
        show stp q s = none
        cases h : stp q s with
        | none => rfl
        | some x => rw [h] at this; cases this)
      have hz := (((((HRc.out.pen0 (.int .i64 0)).pen1 (.slice none 0 0)).pen2 (.int .i64 0)).pen3 (.slice none 0 0)).pen4 (.slice none 0 0))
      have hbz := (((((HDc.out.setCell (p := ⟨w.heap.size + 1 + 1, 0, none⟩) (show w.heap.size ≤ w.heap.size + 1 + 1 by omega) (.int .i64 0)).setCell (p := ⟨w.heap.size + 1 + 1, 1, none⟩) (show w.heap.size ≤ w.heap.size + 1 + 1 by omega) (.slice none 0 0)).setCell (p := ⟨w.heap.size + 1 + 1, 2, none⟩) (show w.heap.size ≤ w.heap.size + 1 + 1 by omega) (.int .i64 0)).setCell (p := ⟨w.heap.size + 1 + 1, 3, none⟩) (show w.heap.size ≤ w.heap.size + 1 + 1 by omega) (.slice none 0 0)).setCell (p := ⟨w.heap.size + 1 + 1, 4, none⟩) (show w.heap.size ≤ w.heap.size + 1 + 1 by omega) (.slice none 0 0))
      obtain ⟨⟨g0, g1, g2, g3, g4⟩, -⟩ := hz.pen
      clear hz HLX
      go_wp2
      exact bodyPost_ret (v := .tuple #[qv (.slice none 0 0) (.slice none 0 0) (.slice none 0 0) qu0, .bool false]) (by simp [results, Try.results11, go_sem, qu0, g0, g1, g2, g3, g4]) rfl ⟨by rw [HO.out]; exact AnsE.zero _ _ _, hbz⟩
    | true =>
      have HO := hide (show stepO q s true = some r from by
        have h1 := HR.out.1
        have h2 := HR.out.2
        show stp q s = some r
        cases h : stp q s with
        | none => rw [h] at h2; cases h2
        | some x => rw [h] at h1; rw [← h1]; rfl)
      obtain ⟨⟨y0, y1, y2, y3, y4⟩, -⟩ := HLX.out.box.pen
      obtain ⟨WZ, hWZ⟩ : ∃ WZ, ((((w2.setCell ⟨w.heap.size + 1 + 1, 0, none⟩ (.int .i64 r.win)).setCell ⟨w.heap.size + 1 + 1, 1, none⟩ (.slice x1 r.sent.length k1)).setCell ⟨w.heap.size + 1 + 1, 2, none⟩ (.int .i64 r.base)).setCell ⟨w.heap.size + 1 + 1, 3, none⟩ (.slice x3 r.got.length k3)).setCell ⟨w.heap.size + 1 + 1, 4, none⟩ (.slice x4 r.line.length k4) = WZ := ⟨_, rfl⟩
      obtain ⟨j1, j2, j3⟩ := putW5 HRc.out HDc.out (by omega) _ _ _ _ _ WZ hWZ
      have HF := hide (show AnsQ WZ w.heap.size WZ.heap.size (.slice x1 r.sent.length k1) (.slice x3 r.got.length k3) (.slice x4 r.line.length k4) r.sent r.got r.line from by
        refine AnsQ.of ((HLX.out.ans.o1.other j3 (fun k hk e => ?_)).mono (by omega)) ((HLX.out.ans.o3.other j3 (fun k hk e => ?_)).mono (by omega)) ((HLX.out.ans.o4.other j3 (fun k hk e => ?_)).mono (by omega)) HLX.out.ans.a13 HLX.out.ans.a14 HLX.out.ans.a34
        · have := (HLX.out.ans.o1.lt hk).1; simp only [Option.some.injEq] at e; omega
        · have := (HLX.out.ans.o3.lt hk).1; simp only [Option.some.injEq] at e; omega
        · have := (HLX.out.ans.o4.lt hk).1; simp only [Option.some.injEq] at e; omega)
      have HJ := hide (And.intro j1 j2)
      have HWZ := hide hWZ
      clear j1 j2 j3 hWZ HRc HDc HLX
      go_wp2
      rw [HWZ.out]
      clear e0 e1 e2 e3 e4 f0 f1 f2 f3 f4
      obtain ⟨⟨e0, e1, e2, e3, e4⟩, -⟩ := HJ.out.1.pen
      exact bodyPost_ret (v := .tuple #[qv (.slice x1 r.sent.length k1) (.slice x3 r.got.length k3) (.slice x4 r.line.length k4) r, .bool true]) (by simp [results, Try.results11, go_sem, e0, e1, e2, e3, e4]) rfl ⟨by rw [HO.out]; exact ⟨_, _, _, rfl, HF.out⟩, HJ.out.2⟩
end Go.Proofs.Ytfjdbenbiakbbaa
