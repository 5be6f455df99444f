/-
  A step that is told, and a queue that is drained: the program's text.
-/
import Derived.Test.YtfjdbenbiakbbaaJoin23
namespace Go.Proofs.Ytfjdbenbiakbbaa
open Go.RowKit M
namespace M
/-- What StepQueue and its like answer, where gb tells whether the queue was good. -/
def stepO (q : Qu) (s : Lst) (gb : Bool) : Option Qu := if gb = true then stp q s else none
/-- A queue that is answered, with a bool and the like behind it. -/
def AnsE (w w' : World) (e : Ending) (r : Qu) (vs : List Value) : Prop := ∃ x1 x3 x4, e = .returned (.tuple (qv x1 x3 x4 r :: vs).toArray) ∧ AnsQ w' w.heap.size w'.heap.size x1 x3 x4 r.sent r.got r.line
theorem AnsE.zero (w w' : World) (vs : List Value) : AnsE w w' (.returned (.tuple (qv (.slice none 0 0) (.slice none 0 0) (.slice none 0 0) qu0 :: vs).toArray)) qu0 vs := ⟨_, _, _, rfl, AnsQ.nil _ _ _⟩
theorem PQ.new {w : World} {lo : Nat} {v1 v3 v4 : Value} {q : Qu} (h : AnsQ w lo w.heap.size v1 v3 v4 q.sent q.got q.line) (hlo : lo ≤ w.heap.size) : PQ (w.alloc (.cells (qarr v1 v3 v4 q) 32)) lo w.heap.size v1 v3 v4 q := by
  have hd := (Below.refl w.heap.size w).alloc (Nat.le_refl _) (.cells (qarr v1 v3 v4 q) 32)
  have h2 := h.down hd
  exact ⟨newW5 w _ _ _ _ _ 32, hlo, h2.o1, h2.o3, h2.o4, h.a13, h.a14, h.a34, fun e => by have := h.h1 _ e; omega, fun e => by have := h.h3 _ e; omega, fun e => by have := h.h4 _ e; omega⟩
end M
set_option maxRecDepth 20000 in
set_option maxHeartbeats 4000000 in
theorem impl_step (v1 v3 v4 : Value) (q : Qu) (s : Lst) (gb : Bool) (w : World) (hv : QuQ w v1 v3 v4 q) (hc : TxC w v1 q.sent) (hs : ShortQ q) (hn : ∀ x ∈ q.sent, x.size ≤ maxLen) (hx : s.tx.size ≤ maxLen) (hgb : BP gb (GoodQ q)) :
    Calls Try.prog 14 #[qv v1 v3 v4 q, s.v] w fun e w' => AnsE w w' e ((stepO q s gb).getD qu0) [.bool (stepO q s gb).isSome] ∧ Below w.heap.size w w' := by
  have HY := hide hv
  have HX := hide hx
  have HB := hide hgb
  obtain ⟨a1, c1, rfl⟩ := hv.s.form
  obtain ⟨a3, c3, rfl⟩ := hv.g.form
  obtain ⟨a4, c4, rfl⟩ := hv.l.form
  have hd := (((Below.refl w.heap.size w).alloc (Nat.le_refl _) (.cells (qarr (.slice a1 q.sent.length c1) (.slice a3 q.got.length c3) (.slice a4 q.line.length c4) q) 32)).alloc (by simp) (.cells #[.int .i64 s.kind, .int .i64 s.k, .string s.tx] 36)).alloc (by simp; omega) (.cells #[.int .i64 0, .slice none 0 0, .int .i64 0, .slice none 0 0, .slice none 0 0] 32)
  have HQ := hide (show Blk (((w.alloc (.cells (qarr (.slice a1 q.sent.length c1) (.slice a3 q.got.length c3) (.slice a4 q.line.length c4) q) 32)).alloc (.cells #[.int .i64 s.kind, .int .i64 s.k, .string s.tx] 36)).alloc (.cells #[.int .i64 0, .slice none 0 0, .int .i64 0, .slice none 0 0, .slice none 0 0] 32)) w.heap.size 5 (qf (.slice a1 q.sent.length c1) (.slice a3 q.got.length c3) (.slice a4 q.line.length c4) q) 32 from ((newW5 w _ _ _ _ _ 32).alloc _).alloc _)
  have HLb := hide (show Blk (((w.alloc (.cells (qarr (.slice a1 q.sent.length c1) (.slice a3 q.got.length c3) (.slice a4 q.line.length c4) q) 32)).alloc (.cells #[.int .i64 s.kind, .int .i64 s.k, .string s.tx] 36)).alloc (.cells #[.int .i64 0, .slice none 0 0, .int .i64 0, .slice none 0 0, .slice none 0 0] 32)) (w.heap.size + 1) 3 (ql s) 36 from by
    have := (newT3 (w.alloc (.cells (qarr (.slice a1 q.sent.length c1) (.slice a3 q.got.length c3) (.slice a4 q.line.length c4) q) 32)) (.int .i64 s.kind) (.int .i64 s.k) (.string s.tx) 36).alloc (.cells #[.int .i64 0, .slice none 0 0, .int .i64 0, .slice none 0 0, .slice none 0 0] 32)
    rw [World.size_alloc] at this; exact this)
  have HRb := hide (show Blk (((w.alloc (.cells (qarr (.slice a1 q.sent.length c1) (.slice a3 q.got.length c3) (.slice a4 q.line.length c4) q) 32)).alloc (.cells #[.int .i64 s.kind, .int .i64 s.k, .string s.tx] 36)).alloc (.cells #[.int .i64 0, .slice none 0 0, .int .i64 0, .slice none 0 0, .slice none 0 0] 32)) (w.heap.size + 1 + 1) 5 (w5 (.int .i64 0) (.slice none 0 0) (.int .i64 0) (.slice none 0 0) (.slice none 0 0)) 32 from by
    have := newW5 ((w.alloc (.cells (qarr (.slice a1 q.sent.length c1) (.slice a3 q.got.length c3) (.slice a4 q.line.length c4) q) 32)).alloc (.cells #[.int .i64 s.kind, .int .i64 s.k, .string s.tx] 36)) (.int .i64 0) (.slice none 0 0) (.int .i64 0) (.slice none 0 0) (.slice none 0 0) 32
    rw [World.size_alloc, World.size_alloc] at this; exact this)
  have HGc := hide (impl_goodQ _ _ _ q gb _ (hv.below hd) (hc.below hd) hs hn hgb)
  have hsz : (((w.alloc (.cells (qarr (.slice a1 q.sent.length c1) (.slice a3 q.got.length c3) (.slice a4 q.line.length c4) q) 32)).alloc (.cells #[.int .i64 s.kind, .int .i64 s.k, .string s.tx] 36)).alloc (.cells #[.int .i64 0, .slice none 0 0, .int .i64 0, .slice none 0 0, .slice none 0 0] 32)).heap.size = w.heap.size + 3 := by simp
  have HSZ := hide hsz
  have HD := hide hd
  obtain ⟨⟨y0, y1, y2, y3, y4⟩, -⟩ := HQ.out.pen
  clear hv hc hs hn hx hgb hd hsz
  go_enter Try.func14, Try.ntmps14
  go_wp2_with fail
  refine Calls.mono HGc.out ?_
  rintro e w1 ⟨rfl, hb1⟩
  have HQ1 := hide (HQ.out.down hb1)
  have HL1 := hide (HLb.out.down hb1)
  have HR1 := hide (HRb.out.down hb1)
  have HD1 := hide (HD.out.trans (hb1.mono HD.out.size))
  have hs1 : w.heap.size + 3 ≤ w1.heap.size := by have := hb1.size; have := HSZ.out; omega
  clear hb1 HQ HLb HRb HGc HD HSZ y0 y1 y2 y3 y4
  obtain ⟨⟨e0, e1, e2, e3, e4⟩, f0, f1, f2, f3, f4⟩ := HR1.out.pen
  cases gb with
  | false =>
    have hz := (((((HR1.out.pen0 (.int .i64 0)).pen1 (.slice none 0 0)).pen2 (.int .i64 0)).pen3 (.slice none 0 0)).pen4 (.slice none 0 0))
    have hbz := ((((HD1.out.setCell (p := ⟨w.heap.size + 1 + 1, 0, none⟩) (show w.heap.size ≤ w.heap.size + 1 + 1 by omega) (.int .i64 0)).setCell (p := ⟨w.heap.size + 1 + 1, 1, none⟩) (show w.heap.size ≤ w.heap.size + 1 + 1 by omega) (.slice none 0 0)).setCell (p := ⟨w.heap.size + 1 + 1, 2, none⟩) (show w.heap.size ≤ w.heap.size + 1 + 1 by omega) (.int .i64 0)).setCell (p := ⟨w.heap.size + 1 + 1, 3, none⟩) (show w.heap.size ≤ w.heap.size + 1 + 1 by omega) (.slice none 0 0)).setCell (p := ⟨w.heap.size + 1 + 1, 4, none⟩) (show w.heap.size ≤ w.heap.size + 1 + 1 by omega) (.slice none 0 0)
    obtain ⟨⟨g0, g1, g2, g3, g4⟩, -⟩ := hz.pen
    clear hz
    go_wp2
    exact bodyPost_ret (v := .tuple #[qv (.slice none 0 0) (.slice none 0 0) (.slice none 0 0) qu0, .bool false]) (by simp [results, Try.results14, go_sem, qu0, g0, g1, g2, g3, g4]) rfl ⟨AnsE.zero _ _ _, hbz⟩
  | true =>
  have hgq : GoodQ q := HB.out.1 rfl
  have HG := hide hgq
  obtain ⟨⟨y0, y1, y2, y3, y4⟩, -⟩ := HQ1.out.pen
  clear hgq e0 e1 e2 e3 e4 f0 f1 f2 f3 f4
  go_wp2_with fail
  refine (copy_queue _ _ _ q _ (HY.out.below HD1.out) HG.out).mono ?_
  rintro e w2 ⟨⟨u1, u3, u4, rfl, hA⟩, hb2⟩
  obtain ⟨b1, d1, rfl⟩ := hA.o1.form
  obtain ⟨b3, d3, rfl⟩ := hA.o3.form
  obtain ⟨b4, d4, rfl⟩ := hA.o4.form
  have hP := PQ.new hA hb2.size
  have hd3 := (Below.refl w2.heap.size w2).alloc (Nat.le_refl _) (.cells (qarr (.slice b1 q.sent.length d1) (.slice b3 q.got.length d3) (.slice b4 q.line.length d4) q) 32)
  have HL3 := hide ((HL1.out.down hb2).down hd3)
  have HR3 := hide ((HR1.out.down hb2).down hd3)
  have HD3 := hide ((HD1.out.trans (hb2.mono HD1.out.size)).trans (hd3.mono (HD1.out.trans (hb2.mono HD1.out.size)).size))
  have hs3 : w1.heap.size ≤ (w2.alloc (.cells (qarr (.slice b1 q.sent.length d1) (.slice b3 q.got.length d3) (.slice b4 q.line.length d4) q) 32)).heap.size := by have := hb2.size; simp; omega
  have HP := hide hP
  obtain ⟨⟨l0, l1, l2⟩, -⟩ := HL3.out.trp
  have hs2 := hb2.size
  clear hP hb2 hd3 hA HL1 HR1 HD1 HQ1 y0 y1 y2 y3 y4
  go_wp2_with fail
  refine (do_step w1.heap.size w2.heap.size (.slice b1 q.sent.length d1) (.slice b3 q.got.length d3) (.slice b4 q.line.length d4) q s _ HP.out hs3 HG.out HX.out).mono ?_
  rintro e w4 ⟨rfl, ⟨x1, x3, x4, hP4, hM4⟩⟩
  have hmn : ∀ k, Mine w2.heap.size (.slice b1 q.sent.length d1) (.slice b3 q.got.length d3) (.slice b4 q.line.length d4) k → w1.heap.size ≤ k := HP.out.mine
  have hlow := hM4.chg.low (B := w1.heap.size) hmn hs3
  have hR4 := HR3.out.chg hM4.chg (fun hk => by have := hmn _ hk; omega)
  have HR4 := hide hR4
  have HD4 := hide (HD3.out.trans (hlow.mono (show w.heap.size ≤ w1.heap.size by omega)))
  obtain ⟨⟨e0, e1, e2, e3, e4⟩, f0, f1, f2, f3, f4⟩ := HR4.out.pen
  clear hM4 hmn hlow hR4 l0 l1 l2 HP HL3 HR3 HD3
  cases hst : stp q s with
  | none =>
    have HO := hide (show stepO q s true = none from hst)
    clear hP4
    have hz := (((((HR4.out.pen0 (.int .i64 0)).pen1 (.slice none 0 0)).pen2 (.int .i64 0)).pen3 (.slice none 0 0)).pen4 (.slice none 0 0))
    have hbz := ((((HD4.out.setCell (p := ⟨w.heap.size + 1 + 1, 0, none⟩) (show w.heap.size ≤ w.heap.size + 1 + 1 by omega) (.int .i64 0)).setCell (p := ⟨w.heap.size + 1 + 1, 1, none⟩) (show w.heap.size ≤ w.heap.size + 1 + 1 by omega) (.slice none 0 0)).setCell (p := ⟨w.heap.size + 1 + 1, 2, none⟩) (show w.heap.size ≤ w.heap.size + 1 + 1 by omega) (.int .i64 0)).setCell (p := ⟨w.heap.size + 1 + 1, 3, none⟩) (show w.heap.size ≤ w.heap.size + 1 + 1 by omega) (.slice none 0 0)).setCell (p := ⟨w.heap.size + 1 + 1, 4, none⟩) (show w.heap.size ≤ w.heap.size + 1 + 1 by omega) (.slice none 0 0)
    obtain ⟨⟨g0, g1, g2, g3, g4⟩, -⟩ := hz.pen
    clear hz hst
    simp only [Option.isSome_none]
    go_wp2
    exact bodyPost_ret (v := .tuple #[qv (.slice none 0 0) (.slice none 0 0) (.slice none 0 0) qu0, .bool false]) (by simp [results, Try.results14, go_sem, qu0, g0, g1, g2, g3, g4]) rfl ⟨by rw [HO.out]; exact AnsE.zero _ _ _, hbz⟩
  | some r =>
    have HO := hide (show stepO q s true = some r from hst)
    rw [hst] at hP4
    have hP5 : PQ w4 w1.heap.size w2.heap.size x1 x3 x4 r := hP4
    obtain ⟨m1, k1, rfl⟩ := hP5.o1.form
    obtain ⟨m3, k3, rfl⟩ := hP5.o3.form
    obtain ⟨m4, k4, rfl⟩ := hP5.o4.form
    have HP4 := hide hP5
    clear hP5
    obtain ⟨⟨y0, y1, y2, y3, y4⟩, -⟩ := HP4.out.box.pen
    clear hP4 hst
    obtain ⟨WZ, hWZ⟩ : ∃ WZ, ((((w4.setCell ⟨w.heap.size + 1 + 1, 0, none⟩ (.int .i64 r.win)).setCell ⟨w.heap.size + 1 + 1, 1, none⟩ (.slice m1 r.sent.length k1)).setCell ⟨w.heap.size + 1 + 1, 2, none⟩ (.int .i64 r.base)).setCell ⟨w.heap.size + 1 + 1, 3, none⟩ (.slice m3 r.got.length k3)).setCell ⟨w.heap.size + 1 + 1, 4, none⟩ (.slice m4 r.line.length k4) = WZ := ⟨_, rfl⟩
    obtain ⟨j1, j2, j3⟩ := putW5 HR4.out HD4.out (by omega) _ _ _ _ _ WZ hWZ
    have HF := hide (show AnsQ WZ w.heap.size WZ.heap.size (.slice m1 r.sent.length k1) (.slice m3 r.got.length k3) (.slice m4 r.line.length k4) r.sent r.got r.line from by
      have hm := HP4.out.mine
      refine AnsQ.of ((HP4.out.o1.other j3 (fun k hk e => ?_)).mono (by omega)) ((HP4.out.o3.other j3 (fun k hk e => ?_)).mono (by omega)) ((HP4.out.o4.other j3 (fun k hk e => ?_)).mono (by omega)) HP4.out.a13 HP4.out.a14 HP4.out.a34
      · have := hm k (.inr (.inl hk)); simp only [Option.some.injEq] at e; omega
      · have := hm k (.inr (.inr (.inl hk))); simp only [Option.some.injEq] at e; omega
      · have := hm k (.inr (.inr (.inr hk))); simp only [Option.some.injEq] at e; omega)
    have HJ := hide (And.intro j1 j2)
    have HWZ := hide hWZ
    clear j1 j2 j3 hWZ HR4 HP4 HD4
    simp only [Option.isSome_some]
    go_wp2
    rw [HWZ.out]
    clear e0 e1 e2 e3 e4 f0 f1 f2 f3 f4
    obtain ⟨⟨e0, e1, e2, e3, e4⟩, -⟩ := HJ.out.1.pen
    exact bodyPost_ret (v := .tuple #[qv (.slice m1 r.sent.length k1) (.slice m3 r.got.length k3) (.slice m4 r.line.length k4) r, .bool true]) (by simp [results, Try.results14, go_sem, e0, e1, e2, e3, e4]) rfl ⟨by rw [HO.out]; exact ⟨_, _, _, rfl, HF.out⟩, HJ.out.2⟩
end Go.Proofs.Ytfjdbenbiakbbaa
