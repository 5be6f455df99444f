/-
  A queue that is drained: the specification's text.
-/
import Derived.Test.YtfjdbenbiakbbaaJoin35
import Derived.Test.YtfjdbenbiakbbaaJoin36
namespace Go.Proofs.Ytfjdbenbiakbbaa
open Go.RowKit M
namespace M
theorem Blk.lowB {W W' : World} {lo g n : Nat} {f : Nat → Value} {t : TypeId} (h : Blk W g n f t) (hb : Below lo W W') (hg : g < lo) : Blk W' g n f t := by
  unfold Blk; rw [hb.block g hg]; exact h
/-- While a queue is drained in its own box: that box, that of the answer, the lists. -/
structure DQ (w W : World) (v1 v3 v4 : Value) (q : Qu) : Prop where
  low : Below w.heap.size w W
  arg : Blk W w.heap.size 5 (qf v1 v3 v4 q) 32
  res : Blk W (w.heap.size + 1) 5 (w5 (.int .i64 0) (.slice none 0 0) (.int .i64 0) (.slice none 0 0) (.slice none 0 0)) 32
  ans : AnsQ W (w.heap.size + 2) W.heap.size v1 v3 v4 q.sent q.got q.line
  big : w.heap.size + 2 ≤ W.heap.size
section
variable {w W W' : World} {v1 v3 v4 u1 u3 u4 : Value} {q q2 : Qu}
theorem DQ.put (h1 : Below w.heap.size w W) (h2 : Blk W w.heap.size 5 (qf v1 v3 v4 q) 32) (h3 : Blk W (w.heap.size + 1) 5 (w5 (.int .i64 0) (.slice none 0 0) (.int .i64 0) (.slice none 0 0) (.slice none 0 0)) 32) (h4 : AnsQ W (w.heap.size + 2) W.heap.size u1 u3 u4 q2.sent q2.got q2.line) (h5 : w.heap.size + 2 ≤ W.heap.size) :
    ∀ WZ, ((((W.setCell ⟨w.heap.size, 0, none⟩ (.int .i64 q2.win)).setCell ⟨w.heap.size, 1, none⟩ u1).setCell ⟨w.heap.size, 2, none⟩ (.int .i64 q2.base)).setCell ⟨w.heap.size, 3, none⟩ u3).setCell ⟨w.heap.size, 4, none⟩ u4 = WZ → DQ w WZ u1 u3 u4 q2 := by
  intro WZ hWZ
  obtain ⟨j1, j2, j3⟩ := putW5 h2 h1 (Nat.le_refl _) _ _ _ _ _ WZ hWZ
  refine ⟨j2, j1, h3.gb j3 (fun e => by simp only [Option.some.injEq] at e; omega), AnsQ.of (h4.o1.other j3 (fun k hk e => ?_)) (h4.o3.other j3 (fun k hk e => ?_)) (h4.o4.other j3 (fun k hk e => ?_)) h4.a13 h4.a14 h4.a34, Nat.le_trans h5 j3.size⟩
  · have := (h4.o1.lt hk).1; simp only [Option.some.injEq] at e; omega
  · have := (h4.o3.lt hk).1; simp only [Option.some.injEq] at e; omega
  · have := (h4.o4.lt hk).1; simp only [Option.some.injEq] at e; omega
theorem DQ.next (h : DQ w W v1 v3 v4 q) (hb : Below (w.heap.size + 2) W W') (ha : AnsQ W' (w.heap.size + 2) W'.heap.size u1 u3 u4 q2.sent q2.got q2.line) :
    ∀ WZ, ((((W'.setCell ⟨w.heap.size, 0, none⟩ (.int .i64 q2.win)).setCell ⟨w.heap.size, 1, none⟩ u1).setCell ⟨w.heap.size, 2, none⟩ (.int .i64 q2.base)).setCell ⟨w.heap.size, 3, none⟩ u3).setCell ⟨w.heap.size, 4, none⟩ u4 = WZ → DQ w WZ u1 u3 u4 q2 :=
  DQ.put (h.low.trans (hb.mono (by omega))) (h.arg.lowB hb (by omega)) (h.res.lowB hb (by omega)) ha (Nat.le_trans h.big hb.size)
theorem DQ.clear (h : DQ w W v1 v3 v4 q) : DQ w (W.setCell ⟨w.heap.size, 4, none⟩ (.slice none 0 0)) v1 v3 (.slice none 0 0) { q with line := [] } := by
  have h2 := h.ans.set_other (g := w.heap.size) (by omega) 4 (.slice none 0 0)
  refine ⟨h.low.setCell (p := ⟨w.heap.size, 4, none⟩) (Nat.le_refl _) _, h.arg.pen4 _, h.res.set_other (by omega) _ _, ⟨h2.o1, h2.o3, OwnP.nil _ _, h.ans.a13, ?_, ?_, fun g hg => by rw [World.size_setCell]; exact h.ans.h1 g hg, fun g hg => by rw [World.size_setCell]; exact h.ans.h3 g hg, ?_⟩, by rw [World.size_setCell]; exact h.big⟩
  · intro g _ e; simp [Value.ownBlock] at e
  · intro g _ e; simp [Value.ownBlock] at e
  · intro g e; simp [Value.ownBlock] at e
end
end M
set_option maxRecDepth 20000 in
set_option maxHeartbeats 8000000 in
theorem spec_drain (v1 v3 v4 : Value) (q : Qu) (gb : Bool) (w : World) (hv : QuC w v1 v3 v4 q) (hs : ShortQ q) (hn : ∀ x ∈ q.sent, x.size ≤ maxLen) (hgb : BP gb (GoodQ q)) :
    Calls Try.prog 29 #[qv v1 v3 v4 q] w fun e w' => AnsE w w' e (if gb = true then (drn 40 q).1 else qu0) [.int .i64 (if gb = true then ((drn 40 q).2 : Int) else 0), .bool gb] ∧ Below w.heap.size w w' := by
  have HY := hide hv
  have HB := hide hgb
  have HSh := hide hs
  obtain ⟨a1, c1, rfl⟩ := hv.s.1.form
  obtain ⟨a3, c3, rfl⟩ := hv.g.1.form
  obtain ⟨a4, c4, rfl⟩ := hv.l.1.form
  have hC := CQ.new w (.slice a1 q.sent.length c1) (.slice a3 q.got.length c3) (.slice a4 q.line.length c4) q
  have HGc := hide (spec_goodQ _ _ _ q gb _ ⟨hv.s.1.below hC.low, hv.g.1.below hC.low, hv.l.1.below hC.low⟩ hs hn hgb)
  have HC := hide hC
  obtain ⟨⟨y0, y1, y2, y3, y4⟩, -⟩ := HC.out.arg.pen
  clear hv hs hn hgb hC
  go_enter Try.func29, Try.ntmps29
  go_wp2_with fail
  refine Calls.mono HGc.out ?_
  rintro e w1 ⟨rfl, hb1⟩
  have HC1 := hide (HC.out.down hb1)
  clear hb1 HC HGc y0 y1 y2 y3 y4
  cases gb with
  | false =>
    obtain ⟨⟨e0, e1, e2, e3, e4⟩, f0, f1, f2, f3, f4⟩ := HC1.out.res.pen
    have hz := (((((HC1.out.res.pen0 (.int .i64 0)).pen1 (.slice none 0 0)).pen2 (.int .i64 0)).pen3 (.slice none 0 0)).pen4 (.slice none 0 0))
    have hbz := (((((HC1.out.low.setCell (p := ⟨w.heap.size + 1, 0, none⟩) (show w.heap.size ≤ w.heap.size + 1 by omega) (.int .i64 0)).setCell (p := ⟨w.heap.size + 1, 1, none⟩) (show w.heap.size ≤ w.heap.size + 1 by omega) (.slice none 0 0)).setCell (p := ⟨w.heap.size + 1, 2, none⟩) (show w.heap.size ≤ w.heap.size + 1 by omega) (.int .i64 0)).setCell (p := ⟨w.heap.size + 1, 3, none⟩) (show w.heap.size ≤ w.heap.size + 1 by omega) (.slice none 0 0)).setCell (p := ⟨w.heap.size + 1, 4, none⟩) (show w.heap.size ≤ w.heap.size + 1 by omega) (.slice none 0 0))
    obtain ⟨⟨g0, g1, g2, g3, g4⟩, -⟩ := hz.pen
    clear hz
    go_wp2
    exact bodyPost_ret (v := .tuple #[qv (.slice none 0 0) (.slice none 0 0) (.slice none 0 0) qu0, .int .i64 0, .bool false]) (by simp [results, Try.results29, go_sem, qu0, g0, g1, g2, g3, g4]) rfl ⟨AnsE.zero _ _ _, hbz⟩
  | true =>
  have HG := hide (HB.out.1 rfl)
  obtain ⟨⟨y0, y1, y2, y3, y4⟩, -⟩ := HC1.out.arg.pen
  go_wp2_with fail
  refine (own_queue _ _ _ q _ (HY.out.below HC1.out.low) HSh.out).mono ?_
  rintro e w2 ⟨⟨u1, u3, u4, rfl, hA⟩, hb2⟩
  obtain ⟨b1, d1, rfl⟩ := hA.o1.form
  obtain ⟨b3, d3, rfl⟩ := hA.o3.form
  obtain ⟨b4, d4, rfl⟩ := hA.o4.form
  have hC2 := HC1.out.down hb2
  obtain ⟨W3, hW3⟩ : ∃ W3, ((((w2.setCell ⟨w.heap.size, 0, none⟩ (.int .i64 q.win)).setCell ⟨w.heap.size, 1, none⟩ (.slice b1 q.sent.length d1)).setCell ⟨w.heap.size, 2, none⟩ (.int .i64 q.base)).setCell ⟨w.heap.size, 3, none⟩ (.slice b3 q.got.length d3)).setCell ⟨w.heap.size, 4, none⟩ (.slice b4 q.line.length d4) = W3 := ⟨_, rfl⟩
  have HD0 := hide (DQ.put hC2.low hC2.arg hC2.res (hA.mono HC1.out.big (Nat.le_refl _)) hC2.big W3 hW3)
  obtain ⟨⟨x0, x1, x2, x3, x4⟩, f0, f1, f2, f3, f4⟩ := hC2.arg.pen
  have HW3 := hide hW3
  have HDZ := hide (Drg.zero HG.out)
  clear hA hb2 hC2 hW3 y0 y1 y2 y3 y4 HC1 HB HY
  go_upto_region 4 with fail
  rw [HW3.out]
  clear HW3 x0 x1 x2 x3 x4 f0 f1 f2 f3 f4
  go_wp2_with fail
  go_loopw [5] (fun n wr => ∃ (k : Nat) (q' : Qu) (x1 x3 x4 : Value), n = .int .i64 k ∧ Hid (DQ w wr x1 x3 x4 q') ∧ Hid (Drg q q' k) ∧ k ≤ 40) (fun n _ => 41 - (intOf n).toNat)
  case atStart => exact ⟨0, q, _, _, _, rfl, HD0, HDZ, by omega⟩
  case round =>
    obtain ⟨k, q', x1, x3, x4, rfl, HDr, HGr, hk40⟩ := hrel
    clear HD0 HDZ
    obtain ⟨m1, k1, rfl⟩ := HDr.out.ans.o1.form
    obtain ⟨m3, k3, rfl⟩ := HDr.out.ans.o3.form
    obtain ⟨m4, k4, rfl⟩ := HDr.out.ans.o4.form
    obtain ⟨⟨y0, y1, y2, y3, y4⟩, z0, z1, z2, z3, z4⟩ := HDr.out.arg.pen
    have hg' := HGr.out.good
    have h0 := hg'.b0
    have hs40 := hg'.s40
    by_cases hlt : q'.base < (q'.sent.length : Int)
    · obtain ⟨t, ht⟩ : ∃ t, q'.sent[q'.base.toNat]? = some t := ⟨_, List.getElem?_eq_getElem (by omega)⟩
      have hkb := HGr.out.le
      have HG2 := hide (HGr.out.succ ht)
      have hk : k + 1 ≤ 40 := by omega
      have hg1 := good_empty hg'
      have hs1 := try_send (x := ⟨#[]⟩) hg' ht
      have hg2 := (good_stp hg1 hs1).1
      have hs2 := try_take (q := q') (t := t) (x := ⟨#[]⟩)
      have hg3 := (good_stp hg2 hs2).1
      have hs3 := try_ack (x := ⟨#[]⟩) (t := t) hg'
      have HA1 := hide (And.intro hg1 hs1)
      have HA2 := hide (And.intro hg2 hs2)
      have HA3 := hide (And.intro hg3 hs3)
      obtain ⟨V0, hV0⟩ : ∃ V, wr.setCell ⟨w.heap.size, 4, none⟩ (.slice none 0 0) = V := ⟨_, rfl⟩
      have HV0 := hide (show DQ w V0 (.slice m1 q'.sent.length k1) (.slice m3 q'.got.length k3) (.slice none 0 0) { q' with line := [] } from hV0 ▸ HDr.out.clear)
      have HVV := hide hV0
      clear ht hg' hkb hg1 hs1 hg2 hs2 hg3 hs3 hV0
      go_upto_region 7 with fail
      rw [HVV.out]
      clear HVV y0 y1 y2 y3 y4 z0 z1 z2 z3 z4 HDr
      obtain ⟨⟨y0, y1, y2, y3, y4⟩, -⟩ := HV0.out.arg.pen
      have HCl0 := hide (show Calls Try.prog 41 #[qv _ _ _ ({ q' with line := [] } : Qu), (⟨2, q'.base, ⟨#[]⟩⟩ : Lst).v] V0 fun e w' => Sto _ (w.heap.size + 2) V0 w' e ({ q' with line := [⟨false, q'.base, t⟩] }) true from by
        have := spec_stp _ _ _ ({ q' with line := [] } : Qu) ⟨2, q'.base, ⟨#[]⟩⟩ (w.heap.size + 2) V0 HV0.out.ans HV0.out.big HA1.out.1 (by show ByteArray.size ⟨#[]⟩ ≤ maxLen; decide)
        rw [HA1.out.2] at this
        exact this)
      go_wp2_with fail
      refine Calls.mono HCl0.out ?_
      rintro e wp0 ⟨v1', v3', v4', rfl, hA, hBl, -⟩
      obtain ⟨r1, n1, s1, rfl⟩ : ∃ a n c, v1' = .slice a n c := (by obtain ⟨a, c, e⟩ := hA.o1.form; exact ⟨a, _, c, e⟩)
      obtain ⟨r3, n3, s3, rfl⟩ : ∃ a n c, v3' = .slice a n c := (by obtain ⟨a, c, e⟩ := hA.o3.form; exact ⟨a, _, c, e⟩)
      obtain ⟨r4, n4, s4, rfl⟩ : ∃ a n c, v4' = .slice a n c := (by obtain ⟨a, c, e⟩ := hA.o4.form; exact ⟨a, _, c, e⟩)
      obtain ⟨⟨g0, g1, g2, g3, g4⟩, t0, t1, t2, t3, t4⟩ := (HV0.out.arg.lowB hBl (by omega)).pen
      obtain ⟨V1, hV⟩ : ∃ V, ((((wp0.setCell ⟨w.heap.size, 0, none⟩ (.int .i64 q'.win)).setCell ⟨w.heap.size, 1, none⟩ (.slice r1 n1 s1)).setCell ⟨w.heap.size, 2, none⟩ (.int .i64 q'.base)).setCell ⟨w.heap.size, 3, none⟩ (.slice r3 n3 s3)).setCell ⟨w.heap.size, 4, none⟩ (.slice r4 n4 s4) = V := ⟨_, rfl⟩
      have HV1 := hide (DQ.next (q2 := { q' with line := [⟨false, q'.base, t⟩] }) HV0.out hBl hA V1 hV)
      have HVV := hide hV
      clear hV hA hBl HCl0 HV0 y0 y1 y2 y3 y4
      go_upto_region 8 with fail
      rw [HVV.out]
      clear HVV g0 g1 g2 g3 g4 t0 t1 t2 t3 t4
      obtain ⟨⟨y0, y1, y2, y3, y4⟩, -⟩ := HV1.out.arg.pen
      have HCl1 := hide (show Calls Try.prog 41 #[qv _ _ _ ({ q' with line := [⟨false, q'.base, t⟩] } : Qu), (⟨3, 0, ⟨#[]⟩⟩ : Lst).v] V1 fun e w' => Sto _ (w.heap.size + 2) V1 w' e ({ q' with got := gotT q' t, line := [⟨true, ((gotT q' t).length : Nat), ⟨#[]⟩⟩] }) true from by
        have := spec_stp _ _ _ ({ q' with line := [⟨false, q'.base, t⟩] } : Qu) ⟨3, 0, ⟨#[]⟩⟩ (w.heap.size + 2) V1 HV1.out.ans HV1.out.big HA2.out.1 (by show ByteArray.size ⟨#[]⟩ ≤ maxLen; decide)
        rw [HA2.out.2] at this
        exact this)
      go_wp2_with fail
      refine Calls.mono HCl1.out ?_
      rintro e wp1 ⟨v1', v3', v4', rfl, hA, hBl, -⟩
      obtain ⟨r1, n1, s1, rfl⟩ : ∃ a n c, v1' = .slice a n c := (by obtain ⟨a, c, e⟩ := hA.o1.form; exact ⟨a, _, c, e⟩)
      obtain ⟨r3, n3, s3, rfl⟩ : ∃ a n c, v3' = .slice a n c := (by obtain ⟨a, c, e⟩ := hA.o3.form; exact ⟨a, _, c, e⟩)
      obtain ⟨r4, n4, s4, rfl⟩ : ∃ a n c, v4' = .slice a n c := (by obtain ⟨a, c, e⟩ := hA.o4.form; exact ⟨a, _, c, e⟩)
      obtain ⟨⟨g0, g1, g2, g3, g4⟩, t0, t1, t2, t3, t4⟩ := (HV1.out.arg.lowB hBl (by omega)).pen
      obtain ⟨V2, hV⟩ : ∃ V, ((((wp1.setCell ⟨w.heap.size, 0, none⟩ (.int .i64 q'.win)).setCell ⟨w.heap.size, 1, none⟩ (.slice r1 n1 s1)).setCell ⟨w.heap.size, 2, none⟩ (.int .i64 q'.base)).setCell ⟨w.heap.size, 3, none⟩ (.slice r3 n3 s3)).setCell ⟨w.heap.size, 4, none⟩ (.slice r4 n4 s4) = V := ⟨_, rfl⟩
      have HV2 := hide (DQ.next (q2 := { q' with got := gotT q' t, line := [⟨true, ((gotT q' t).length : Nat), ⟨#[]⟩⟩] }) HV1.out hBl hA V2 hV)
      have HVV := hide hV
      clear hV hA hBl HCl1 HV1 y0 y1 y2 y3 y4
      go_upto_region 9 with fail
      rw [HVV.out]
      clear HVV g0 g1 g2 g3 g4 t0 t1 t2 t3 t4
      obtain ⟨⟨y0, y1, y2, y3, y4⟩, -⟩ := HV2.out.arg.pen
      have HCl2 := hide (show Calls Try.prog 41 #[qv _ _ _ ({ q' with got := gotT q' t, line := [⟨true, ((gotT q' t).length : Nat), ⟨#[]⟩⟩] } : Qu), (⟨3, 0, ⟨#[]⟩⟩ : Lst).v] V2 fun e w' => Sto _ (w.heap.size + 2) V2 w' e (rndQ q' t) true from by
        have := spec_stp _ _ _ ({ q' with got := gotT q' t, line := [⟨true, ((gotT q' t).length : Nat), ⟨#[]⟩⟩] } : Qu) ⟨3, 0, ⟨#[]⟩⟩ (w.heap.size + 2) V2 HV2.out.ans HV2.out.big HA3.out.1 (by show ByteArray.size ⟨#[]⟩ ≤ maxLen; decide)
        rw [HA3.out.2] at this
        exact this)
      go_wp2_with fail
      refine Calls.mono HCl2.out ?_
      rintro e wp2 ⟨v1', v3', v4', rfl, hA, hBl, -⟩
      obtain ⟨r1, n1, s1, rfl⟩ : ∃ a n c, v1' = .slice a n c := (by obtain ⟨a, c, e⟩ := hA.o1.form; exact ⟨a, _, c, e⟩)
      obtain ⟨r3, n3, s3, rfl⟩ : ∃ a n c, v3' = .slice a n c := (by obtain ⟨a, c, e⟩ := hA.o3.form; exact ⟨a, _, c, e⟩)
      obtain ⟨r4, n4, s4, rfl⟩ : ∃ a n c, v4' = .slice a n c := (by obtain ⟨a, c, e⟩ := hA.o4.form; exact ⟨a, _, c, e⟩)
      obtain ⟨⟨g0, g1, g2, g3, g4⟩, t0, t1, t2, t3, t4⟩ := (HV2.out.arg.lowB hBl (by omega)).pen
      obtain ⟨V3, hV⟩ : ∃ V, ((((wp2.setCell ⟨w.heap.size, 0, none⟩ (.int .i64 (rndQ q' t).win)).setCell ⟨w.heap.size, 1, none⟩ (.slice r1 n1 s1)).setCell ⟨w.heap.size, 2, none⟩ (.int .i64 (rndQ q' t).base)).setCell ⟨w.heap.size, 3, none⟩ (.slice r3 n3 s3)).setCell ⟨w.heap.size, 4, none⟩ (.slice r4 n4 s4) = V := ⟨_, rfl⟩
      have HV3 := hide (DQ.next (q2 := rndQ q' t) HV2.out hBl hA V3 hV)
      have HVV := hide hV
      clear hV hA hBl HCl2 HV2 y0 y1 y2 y3 y4
      go_upto_region 10 with fail
      rw [HVV.out]
      clear HVV g0 g1 g2 g3 g4 t0 t1 t2 t3 t4
      go_wp2
      go_roundw
      case rel => exact ⟨k + 1, _, _, _, _, by go_num, HV3, HG2, hk⟩
      case measure => simp [intOf]; omega
    · obtain ⟨hd1, hd2⟩ := HGr.out.stop (by omega)
      obtain ⟨WZ, hWZ⟩ : ∃ WZ, ((((wr.setCell ⟨w.heap.size + 1, 0, none⟩ (.int .i64 q'.win)).setCell ⟨w.heap.size + 1, 1, none⟩ (.slice m1 q'.sent.length k1)).setCell ⟨w.heap.size + 1, 2, none⟩ (.int .i64 q'.base)).setCell ⟨w.heap.size + 1, 3, none⟩ (.slice m3 q'.got.length k3)).setCell ⟨w.heap.size + 1, 4, none⟩ (.slice m4 q'.line.length k4) = WZ := ⟨_, rfl⟩
      obtain ⟨j1, j2, j3⟩ := putW5 HDr.out.res HDr.out.low (by omega) _ _ _ _ _ WZ hWZ
      have HF := hide (show AnsQ WZ w.heap.size WZ.heap.size (.slice m1 q'.sent.length k1) (.slice m3 q'.got.length k3) (.slice m4 q'.line.length k4) q'.sent q'.got q'.line from by
        refine AnsQ.of ((HDr.out.ans.o1.other j3 (fun k hk e => ?_)).mono (by omega)) ((HDr.out.ans.o3.other j3 (fun k hk e => ?_)).mono (by omega)) ((HDr.out.ans.o4.other j3 (fun k hk e => ?_)).mono (by omega)) HDr.out.ans.a13 HDr.out.ans.a14 HDr.out.ans.a34
        · have := (HDr.out.ans.o1.lt hk).1; simp only [Option.some.injEq] at e; omega
        · have := (HDr.out.ans.o3.lt hk).1; simp only [Option.some.injEq] at e; omega
        · have := (HDr.out.ans.o4.lt hk).1; simp only [Option.some.injEq] at e; omega)
      obtain ⟨⟨e0, e1, e2, e3, e4⟩, f0, f1, f2, f3, f4⟩ := HDr.out.res.pen
      have HJ := hide (And.intro j1 j2)
      have HWZ := hide hWZ
      have HDD := hide (And.intro hd1 hd2)
      clear j1 j2 j3 hWZ HDr HGr hd1 hd2 hg'
      go_wp2
      rw [HWZ.out]
      clear e0 e1 e2 e3 e4 f0 f1 f2 f3 f4
      obtain ⟨⟨e0, e1, e2, e3, e4⟩, -⟩ := HJ.out.1.pen
      exact bodyPost_ret (v := .tuple #[qv (.slice m1 q'.sent.length k1) (.slice m3 q'.got.length k3) (.slice m4 q'.line.length k4) q', .int .i64 (k : Int), .bool true]) (by simp [results, Try.results29, go_sem, e0, e1, e2, e3, e4]) rfl ⟨by
        rw [HDD.out.1, HDD.out.2]; exact ⟨_, _, _, rfl, HF.out⟩, HJ.out.2⟩
end Go.Proofs.Ytfjdbenbiakbbaa
