/-
  A packet that is taken: the specification's text.
-/
import Derived.Test.YtfjdbenbiakbbaaJoin29
namespace Go.Proofs.Ytfjdbenbiakbbaa
open Go.RowKit M
namespace M
theorem PQ.all4 {W W2 : World} {B g : Nat} {v1 v3 v4 u4 : Value} {q q2 : Qu} {l : Pks} (h : PQ W B g v1 v3 v4 q) (hp : Put4 B W W2 v4 u4 l) (_e1 : q2.win = q.win) (_e2 : q2.base = q.base) (e3 : q2.sent = q.sent) (e4 : q2.got = q.got) (e5 : q2.line = l) :
    PQ (((((W2.setCell ⟨g, 0, none⟩ (.int .i64 q2.win)).setCell ⟨g, 1, none⟩ v1).setCell ⟨g, 2, none⟩ (.int .i64 q2.base)).setCell ⟨g, 3, none⟩ v3).setCell ⟨g, 4, none⟩ u4) B g v1 v3 u4 q2 ∧ Mv g W v1 v3 v4 (((((W2.setCell ⟨g, 0, none⟩ (.int .i64 q2.win)).setCell ⟨g, 1, none⟩ v1).setCell ⟨g, 2, none⟩ (.int .i64 q2.base)).setCell ⟨g, 3, none⟩ v3).setCell ⟨g, 4, none⟩ u4) v1 v3 u4 := by
  obtain ⟨k1, k2⟩ := h.put4 hp.chg hp.own hp.sub
  have hnu := k1.n4
  refine ⟨⟨?_, h.lo, ?_, ?_, ?_, h.a13, k1.a14, k1.a34, h.n1, h.n3, hnu⟩, ?_, k2.sub⟩
  · exact (((((h.box.chg hp.chg h.n4).pen0 _).pen1 _).pen2 _).pen3 _).pen4 _
  · unfold OwnT; rw [e3]; exact (owns_set (owns_set (owns_set (owns_set (owns_set (owns_chg h.o1 hp.chg (fun k hk e => h.a14 k hk e)) h.n1 0 _) h.n1 1 _) h.n1 2 _) h.n1 3 _) h.n1 4 _)
  · unfold OwnT; rw [e4]; exact (owns_set (owns_set (owns_set (owns_set (owns_set (owns_chg h.o3 hp.chg (fun k hk e => h.a34 k hk e)) h.n3 0 _) h.n3 1 _) h.n3 2 _) h.n3 3 _) h.n3 4 _)
  · unfold OwnP; rw [e5]; exact (owns_set (owns_set (owns_set (owns_set (owns_set hp.own hnu 0 _) hnu 1 _) hnu 2 _) hnu 3 _) hnu 4 _)
  · refine (hp.chg.mono (fun k e => ?_)).trans (((((set_chg _ _ _ _).and (set_chg _ _ _ _)).and (set_chg _ _ _ _)).and (set_chg _ _ _ _)).and (set_chg _ _ _ _)) (fun k e => .inl (.inl e))
    exact .inr (.inr (.inr e))
end M
set_option maxRecDepth 20000 in
set_option maxHeartbeats 8000000 in
theorem s3_ack (v1 v3 v4 : Value) (q : Qu) (kind k : Int) (x : ByteArray) (lo : Nat) (w : World) (h : AnsQ w lo w.heap.size v1 v3 v4 q.sent q.got q.line) (hlo : lo ≤ w.heap.size) (hg : GoodQ q) (n : Nat) (hkn : k = (n : Int)) (p : Pk) (hp : q.line[n]? = some p) (hk : kind = 3) (ha : p.ack = true) :
    Calls Try.prog 41 #[qv v1 v3 v4 q, .agg #[.int .i64 kind, .int .i64 k, .string x]] w fun e w' => Sto (MineL v1 v3 v4) lo w w' e (takeQ q n p) true := by
  obtain ⟨a1, c1, rfl⟩ := h.o1.form
  obtain ⟨a3, c3, rfl⟩ := h.o3.form
  obtain ⟨a4, c4, rfl⟩ := h.o4.form
  have hw0 := hg.w0
  have hw1 := hg.w1
  have hb0 := hg.b0
  have hbg := hg.bg
  have hgs := hg.gs
  have hs40 := hg.s40
  have hl40 := hg.l40
  subst hk
  have HAk := hide ha
  clear ha
  obtain ⟨W, hW⟩ : ∃ W, (((w.alloc (.cells (qarr (.slice a1 q.sent.length c1) (.slice a3 q.got.length c3) (.slice a4 q.line.length c4) q) 32)).alloc (.cells #[.int .i64 3, .int .i64 k, .string x] 36)).alloc (.cells #[.int .i64 0, .slice none 0 0, .int .i64 0, .slice none 0 0, .slice none 0 0] 32)) = W := ⟨_, rfl⟩
  have HQ := hide (show SQ (MineL (.slice a1 q.sent.length c1) (.slice a3 q.got.length c3) (.slice a4 q.line.length c4)) w W lo (.slice a1 q.sent.length c1) (.slice a3 q.got.length c3) (.slice a4 q.line.length c4) q ⟨3, k, x⟩ from hW ▸ SQ.new h hlo ⟨3, k, x⟩)
  have HW := hide hW
  have HSZ := hide (show W.heap.size = w.heap.size + 3 from by rw [← hW]; simp)
  clear hW
  subst hkn
  have hnl : n < q.line.length := (List.getElem?_eq_some_iff.1 hp).1
  have hin : inB (n : Int) 0 ((q.line.length : Int) - 1) = true := (inB_iff _ _ _).2 ⟨by omega, by omega⟩
  have i0 : (0 : Int) ≤ (n : Int) := by omega
  have i1 : (n : Int) < (q.line.length : Int) := by omega
  obtain ⟨a, c, hv4, hrr⟩ := HQ.out.pq.o4.pks
  simp only [Value.slice.injEq, true_and] at hv4
  obtain ⟨rfl, rfl⟩ := hv4
  obtain ⟨b4, o4, rfl, hb4, hrow⟩ := hrr (by omega)
  obtain ⟨z0, z1, z2⟩ := hrow n p hp
  obtain ⟨⟨-, -, -, -, y4⟩, -⟩ := HQ.out.pq.box.pen
  obtain ⟨⟨l0, l1, -⟩, -⟩ := HQ.out.lb.trp
  obtain ⟨W1, hW1⟩ : ∃ W1, W.alloc (.cells #[.bool p.ack, .int .i64 p.no, .string p.tx] 88) = W1 := ⟨_, rfl⟩
  have hd1 : Below W.heap.size W W1 := by rw [← hW1]; exact (Below.refl W.heap.size W).alloc (Nat.le_refl _) _
  have HQ1 := hide (HQ.out.down hd1)
  have HPb := hide (show Blk W1 W.heap.size 3 (qp p) 88 from by rw [← hW1]; exact newT3 W _ _ _ _)
  have HW1 := hide hW1
  have HSZ1 := hide (show W1.heap.size = W.heap.size + 1 from by rw [← hW1]; simp)
  obtain ⟨⟨k0, k1, -⟩, -⟩ := HQ1.out.lb.trp
  obtain ⟨⟨x0, x1, x2, x3, x4⟩, -⟩ := HQ1.out.pq.box.pen
  obtain ⟨⟨p0, p1, p2⟩, -⟩ := HPb.out.trp
  clear h hrr hrow hd1 hW1
  go_enter Try.func41, Try.ntmps41
  go_upto_region 13 with (go_at_call 68; refine (spec_in _ _ _ _).mono ?_; rintro e w' ⟨rfl, rfl⟩; rw [hin])
  rw [HW.out]
  go_upto_region 14 with fail
  rw [HW1.out]
  clear z0 z1 z2 y4 l0 l1 HW1
  go_wp2_with fail
  refine (without_pks _ q.line n _ HQ1.out.pq.o4.c (by omega) hnl).mono ?_
  rintro e w2 ⟨⟨m4, n4, j4, rfl, hO⟩, hb2⟩
  have hle2 := HQ1.out.le
  have hP := (HQ1.out.pq).put4 (W2 := w2) (Below.chg hb2 _) (OwnP.mono hO (by have := HSZ.out; have := HSZ1.out; omega)) (fun j e => .inr (hO.lt e).1)
  have hS := HQ1.out.move hP.1 hP.2
  obtain ⟨⟨-, -, -, -, g4⟩, -, -, -, -, t4⟩ := (HQ1.out.pq.down hb2).box.pen
  have hPb2 := (HPb.out.down hb2).set_other (g' := w.heap.size) (by have := HSZ.out; omega) 4 (.slice m4 n4 j4)
  obtain ⟨W3, hW3⟩ : ∃ W3, w2.setCell ⟨w.heap.size, 4, none⟩ (.slice m4 n4 j4) = W3 := ⟨_, rfl⟩
  rw [hW3] at hS hPb2
  have HS := hide (show SQ _ w W3 lo (.slice a1 q.sent.length c1) (.slice a3 q.got.length c3) (.slice m4 n4 j4) (outQ q n) ⟨3, (n : Int), x⟩ from hS)
  have HPc := hide hPb2
  have HW3 := hide hW3
  have HSZ3 := hide (show W.heap.size + 1 ≤ W3.heap.size from by rw [← hW3, World.size_setCell]; have := hb2.size; have := HSZ1.out; omega)
  clear hW3 hS hP hO hb2 hPb2 HQ1 HPb HQ k0 k1 x0 x1 x2 x3 x4 p0 p1 p2
  obtain ⟨⟨k0, k1, -⟩, -⟩ := HS.out.lb.trp
  go_upto_region 21 with fail
  rw [HW3.out]
  clear HW3 g4 t4
  have HT := hide (take_ack (q := q) (k := n) HAk.out)
  obtain ⟨ack, no, tx⟩ := p
  have ha := HAk.out
  simp only at ha
  subst ha
  obtain ⟨⟨b0, b1, b2⟩, -⟩ := HPc.out.trp
  obtain ⟨⟨-, -, y2, -, -⟩, -, -, g2, -, -⟩ := HS.out.pq.box.pen
  rw [show (outQ q n).base = q.base from rfl] at y2
  by_cases hlt : q.base < no
  · have HP := hide (HS.out.pq.base no)
    have HS2 := hide (HS.out.move HP.out.1 HP.out.2)
    obtain ⟨W5, hW5⟩ : ∃ W5, W3.setCell ⟨w.heap.size, 2, none⟩ (.int .i64 no) = W5 := ⟨_, rfl⟩
    have HS3 := hide (show SQ _ w W5 lo (.slice a1 q.sent.length c1) (.slice a3 q.got.length c3) (.slice m4 n4 j4) (takeQ q n ⟨true, no, tx⟩) ⟨3, (n : Int), x⟩ from by
      have h2 := HS2.out
      rw [hW5] at h2
      rw [HT.out, show max q.base no = no by omega]
      exact h2)
    have HW5 := hide hW5
    clear hW5 HS2 HP
    go_upto_region 26 with fail
    rw [HW5.out]
    clear HW5 b0 b1 b2 y2 g2 k0 k1
    obtain ⟨WZ, hWZ⟩ : ∃ WZ, ((((W5.setCell ⟨w.heap.size + 1 + 1, 0, none⟩ (.int .i64 (takeQ q n ⟨true, no, tx⟩).win)).setCell ⟨w.heap.size + 1 + 1, 1, none⟩ (.slice a1 q.sent.length c1)).setCell ⟨w.heap.size + 1 + 1, 2, none⟩ (.int .i64 (takeQ q n ⟨true, no, tx⟩).base)).setCell ⟨w.heap.size + 1 + 1, 3, none⟩ (.slice a3 q.got.length c3)).setCell ⟨w.heap.size + 1 + 1, 4, none⟩ (.slice m4 n4 j4) = WZ := ⟨_, rfl⟩
    have HFz := hide (HS3.out.fin WZ hWZ)
    have HWZ := hide hWZ
    obtain ⟨⟨e0, e1, e2, e3, e4⟩, f0, f1, f2, f3, f4⟩ := HS3.out.rb.pen
    obtain ⟨⟨y0, y1, y2, y3, y4⟩, -⟩ := HS3.out.pq.box.pen
    clear hWZ HS HS3 HPc
    go_wp2
    rw [HWZ.out]
    clear e0 e1 e2 e3 e4 f0 f1 f2 f3 f4 y0 y1 y2 y3 y4
    obtain ⟨⟨e0, e1, e2, e3, e4⟩, -⟩ := HFz.out.1.pen
    exact bodyPost_ret (v := .tuple #[qv (.slice a1 q.sent.length c1) (.slice a3 q.got.length c3) (.slice m4 n4 j4) (takeQ q n ⟨true, no, tx⟩), .bool true]) (by simp [results, Try.results41, go_sem, e0, e1, e2, e3, e4]) rfl ⟨_, _, _, rfl, HFz.out.2⟩
  · have HS3 := hide (show SQ _ w W3 lo (.slice a1 q.sent.length c1) (.slice a3 q.got.length c3) (.slice m4 n4 j4) (takeQ q n ⟨true, no, tx⟩) ⟨3, (n : Int), x⟩ from by
      rw [HT.out, show max q.base no = q.base by omega]
      exact HS.out)
    go_upto_region 26 with fail
    clear b0 b1 b2 y2 g2 k0 k1
    obtain ⟨WZ, hWZ⟩ : ∃ WZ, ((((W3.setCell ⟨w.heap.size + 1 + 1, 0, none⟩ (.int .i64 (takeQ q n ⟨true, no, tx⟩).win)).setCell ⟨w.heap.size + 1 + 1, 1, none⟩ (.slice a1 q.sent.length c1)).setCell ⟨w.heap.size + 1 + 1, 2, none⟩ (.int .i64 (takeQ q n ⟨true, no, tx⟩).base)).setCell ⟨w.heap.size + 1 + 1, 3, none⟩ (.slice a3 q.got.length c3)).setCell ⟨w.heap.size + 1 + 1, 4, none⟩ (.slice m4 n4 j4) = WZ := ⟨_, rfl⟩
    have HFz := hide (HS3.out.fin WZ hWZ)
    have HWZ := hide hWZ
    obtain ⟨⟨e0, e1, e2, e3, e4⟩, f0, f1, f2, f3, f4⟩ := HS3.out.rb.pen
    obtain ⟨⟨y0, y1, y2, y3, y4⟩, -⟩ := HS3.out.pq.box.pen
    clear hWZ HS HS3 HPc
    go_wp2
    rw [HWZ.out]
    clear e0 e1 e2 e3 e4 f0 f1 f2 f3 f4 y0 y1 y2 y3 y4
    obtain ⟨⟨e0, e1, e2, e3, e4⟩, -⟩ := HFz.out.1.pen
    exact bodyPost_ret (v := .tuple #[qv (.slice a1 q.sent.length c1) (.slice a3 q.got.length c3) (.slice m4 n4 j4) (takeQ q n ⟨true, no, tx⟩), .bool true]) (by simp [results, Try.results41, go_sem, e0, e1, e2, e3, e4]) rfl ⟨_, _, _, rfl, HFz.out.2⟩
set_option maxRecDepth 20000 in
set_option maxHeartbeats 8000000 in
theorem s3_txt (v1 v3 v4 : Value) (q : Qu) (kind k : Int) (x : ByteArray) (lo : Nat) (w : World) (h : AnsQ w lo w.heap.size v1 v3 v4 q.sent q.got q.line) (hlo : lo ≤ w.heap.size) (hg : GoodQ q) (n : Nat) (hkn : k = (n : Int)) (p : Pk) (hp : q.line[n]? = some p) (hk : kind = 3) (ha : p.ack = false) :
    Calls Try.prog 41 #[qv v1 v3 v4 q, .agg #[.int .i64 kind, .int .i64 k, .string x]] w fun e w' => Sto (MineL v1 v3 v4) lo w w' e (takeQ q n p) true := by
  obtain ⟨a1, c1, rfl⟩ := h.o1.form
  obtain ⟨a3, c3, rfl⟩ := h.o3.form
  obtain ⟨a4, c4, rfl⟩ := h.o4.form
  have hw0 := hg.w0
  have hw1 := hg.w1
  have hb0 := hg.b0
  have hbg := hg.bg
  have hgs := hg.gs
  have hs40 := hg.s40
  have hl40 := hg.l40
  subst hk
  have HAk := hide ha
  clear ha
  obtain ⟨W, hW⟩ : ∃ W, (((w.alloc (.cells (qarr (.slice a1 q.sent.length c1) (.slice a3 q.got.length c3) (.slice a4 q.line.length c4) q) 32)).alloc (.cells #[.int .i64 3, .int .i64 k, .string x] 36)).alloc (.cells #[.int .i64 0, .slice none 0 0, .int .i64 0, .slice none 0 0, .slice none 0 0] 32)) = W := ⟨_, rfl⟩
  have HQ := hide (show SQ (MineL (.slice a1 q.sent.length c1) (.slice a3 q.got.length c3) (.slice a4 q.line.length c4)) w W lo (.slice a1 q.sent.length c1) (.slice a3 q.got.length c3) (.slice a4 q.line.length c4) q ⟨3, k, x⟩ from hW ▸ SQ.new h hlo ⟨3, k, x⟩)
  have HW := hide hW
  have HSZ := hide (show W.heap.size = w.heap.size + 3 from by rw [← hW]; simp)
  clear hW
  subst hkn
  have hnl : n < q.line.length := (List.getElem?_eq_some_iff.1 hp).1
  have hin : inB (n : Int) 0 ((q.line.length : Int) - 1) = true := (inB_iff _ _ _).2 ⟨by omega, by omega⟩
  have i0 : (0 : Int) ≤ (n : Int) := by omega
  have i1 : (n : Int) < (q.line.length : Int) := by omega
  obtain ⟨a, c, hv4, hrr⟩ := HQ.out.pq.o4.pks
  simp only [Value.slice.injEq, true_and] at hv4
  obtain ⟨rfl, rfl⟩ := hv4
  obtain ⟨b4, o4, rfl, hb4, hrow⟩ := hrr (by omega)
  obtain ⟨z0, z1, z2⟩ := hrow n p hp
  obtain ⟨⟨-, -, -, -, y4⟩, -⟩ := HQ.out.pq.box.pen
  obtain ⟨⟨l0, l1, -⟩, -⟩ := HQ.out.lb.trp
  obtain ⟨W1, hW1⟩ : ∃ W1, W.alloc (.cells #[.bool p.ack, .int .i64 p.no, .string p.tx] 88) = W1 := ⟨_, rfl⟩
  have hd1 : Below W.heap.size W W1 := by rw [← hW1]; exact (Below.refl W.heap.size W).alloc (Nat.le_refl _) _
  have HQ1 := hide (HQ.out.down hd1)
  have HPb := hide (show Blk W1 W.heap.size 3 (qp p) 88 from by rw [← hW1]; exact newT3 W _ _ _ _)
  have HW1 := hide hW1
  have HSZ1 := hide (show W1.heap.size = W.heap.size + 1 from by rw [← hW1]; simp)
  obtain ⟨⟨k0, k1, -⟩, -⟩ := HQ1.out.lb.trp
  obtain ⟨⟨x0, x1, x2, x3, x4⟩, -⟩ := HQ1.out.pq.box.pen
  obtain ⟨⟨p0, p1, p2⟩, -⟩ := HPb.out.trp
  clear h hrr hrow hd1 hW1
  go_enter Try.func41, Try.ntmps41
  go_upto_region 13 with (go_at_call 68; refine (spec_in _ _ _ _).mono ?_; rintro e w' ⟨rfl, rfl⟩; rw [hin])
  rw [HW.out]
  go_upto_region 14 with fail
  rw [HW1.out]
  clear z0 z1 z2 y4 l0 l1 HW1
  go_wp2_with fail
  refine (without_pks _ q.line n _ HQ1.out.pq.o4.c (by omega) hnl).mono ?_
  rintro e w2 ⟨⟨m4, n4, j4, rfl, hO⟩, hb2⟩
  have hle2 := HQ1.out.le
  have hP := (HQ1.out.pq).put4 (W2 := w2) (Below.chg hb2 _) (OwnP.mono hO (by have := HSZ.out; have := HSZ1.out; omega)) (fun j e => .inr (hO.lt e).1)
  have hS := HQ1.out.move hP.1 hP.2
  obtain ⟨⟨-, -, -, -, g4⟩, -, -, -, -, t4⟩ := (HQ1.out.pq.down hb2).box.pen
  have hPb2 := (HPb.out.down hb2).set_other (g' := w.heap.size) (by have := HSZ.out; omega) 4 (.slice m4 n4 j4)
  obtain ⟨W3, hW3⟩ : ∃ W3, w2.setCell ⟨w.heap.size, 4, none⟩ (.slice m4 n4 j4) = W3 := ⟨_, rfl⟩
  rw [hW3] at hS hPb2
  have HS := hide (show SQ _ w W3 lo (.slice a1 q.sent.length c1) (.slice a3 q.got.length c3) (.slice m4 n4 j4) (outQ q n) ⟨3, (n : Int), x⟩ from hS)
  have HPc := hide hPb2
  have HW3 := hide hW3
  have HSZ3 := hide (show W.heap.size + 1 ≤ W3.heap.size from by rw [← hW3, World.size_setCell]; have := hb2.size; have := HSZ1.out; omega)
  clear hW3 hS hP hO hb2 hPb2 HQ1 HPb HQ k0 k1 x0 x1 x2 x3 x4 p0 p1 p2
  obtain ⟨⟨k0, k1, -⟩, -⟩ := HS.out.lb.trp
  go_upto_region 21 with fail
  rw [HW3.out]
  clear HW3 g4 t4
  have HT := hide (take_txt (q := q) (k := n) HAk.out)
  obtain ⟨ack, no, tx⟩ := p
  have ha := HAk.out
  simp only at ha
  subst ha
  obtain ⟨⟨b0, b1, b2⟩, -⟩ := HPc.out.trp
  obtain ⟨⟨-, -, -, y3, -⟩, -⟩ := HS.out.pq.box.pen
  by_cases hno : no = (q.got.length : Int)
  · have hne : (no == (q.got.length : Int)) = true := by simpa using hno
    have TBd := (Below.refl W3.heap.size W3).alloc (Nat.le_refl _) (.cells #[.string tx] 9)
    have hQ1 := HS.out.down TBd
    have hown : OwnT (W3.alloc (.cells #[.string tx] 9)) lo (.slice a3 q.got.length c3) q.got := hQ1.pq.o3
    have hlit := lit_txc (w := W3.alloc (.cells #[.string tx] 9)) (x := tx) (heap_alloc_new W3 (.cells #[.string tx] 9))
    have HQ1 := hide hQ1
    have HNO := hide hno
    clear hno TBd hQ1
    go_upto_region 28 with fail
    go_wp2_with (at_builtin; refine wpList_app _ rfl _ _ rfl lo q.got [tx] _ _ rfl hown rfl hlit (by simp; omega) (by have := HS.out.big; simp; omega) ?_)
    intro m3 n3 j3 w5 hO hgr hbk
    have hP := HQ1.out.pq.put3 (W2 := w5) (u3 := .slice m3 n3 j3) (Chg.gb hgr (fun k e => e)) hO (fun j e => by
      rcases hbk with h' | h'
      · exact .inl (by rw [← h']; exact e)
      · rw [h'] at e; simp at e; exact .inr (by simp; omega))
    have hS5 := HQ1.out.move hP.1 hP.2
    obtain ⟨⟨-, -, -, w3', -⟩, -, -, -, t3', -⟩ := (HQ1.out.pq.box.chg (Chg.gb (S := fun j => (Value.slice a3 q.got.length c3).ownBlock = some j) hgr (fun k e => e)) HQ1.out.pq.n3).pen
    have hnn : n3 = q.got.length + 1 := by have := hO.len; simpa using this
    subst hnn
    obtain ⟨W6, hW6⟩ : ∃ W6, w5.setCell ⟨w.heap.size, 3, none⟩ (.slice m3 (q.got.length + 1) j3) = W6 := ⟨_, rfl⟩
    rw [hW6] at hS5
    have HS6 := hide (show SQ _ w W6 lo (.slice a1 q.sent.length c1) (.slice m3 (q.got.length + 1) j3) (.slice m4 n4 j4) { outQ q n with got := q.got ++ [tx] } ⟨3, (n : Int), x⟩ from hS5)
    have HW6 := hide hW6
    have HTT := hide (show takeQ q n ⟨false, no, tx⟩ = putQ { outQ q n with got := q.got ++ [tx] } ⟨true, (q.got.length : Int) + 1, ⟨#[]⟩⟩ from by
      rw [HT.out, got_eq (by exact HNO.out)]
      have : (((outQ q n).got ++ [tx]).length : Int) = (q.got.length : Int) + 1 := by simp [outQ]
      simp only [this]
      rfl)
    clear hW6 hS5 hP hO hgr hbk hown hlit HQ1 HS
    go_upto_region 29 with fail
    rw [HW6.out]
    clear HW6 y3 b0 b1 b2 k0 k1 w3' t3'
    obtain ⟨⟨r0, r1, r2, r3, r4⟩, s0, s1, s2, s3, s4⟩ := HS6.out.pq.box.pen
    go_wp2_with fail
    refine (sput_yes _ _ _ { outQ q n with got := q.got ++ [tx] } (⟨true, (q.got.length : Int) + 1, ⟨#[]⟩⟩ : Pk) lo _ HS6.out.pq.o1.txs HS6.out.pq.o3.txs HS6.out.pq.o4 (by have := HSZ.out; have := HS6.out.big; omega) (by have := out_len hnl; show ({ outQ q n with got := q.got ++ [tx] }).line.length < 40; show (outQ q n).line.length < 40; omega)).mono ?_
    rintro e wp ⟨u5, rfl, hpp⟩
    obtain ⟨q4, n5, j5, rfl⟩ := own_slice hpp.own
    have hAll := HS6.out.pq.all4 (q2 := putQ { outQ q n with got := q.got ++ [tx] } (⟨true, (q.got.length : Int) + 1, ⟨#[]⟩⟩ : Pk)) hpp rfl rfl rfl rfl rfl
    have hbx := (HS6.out.pq.box.chg hpp.chg HS6.out.pq.n4).pen
    obtain ⟨⟨c0', c1', c2', c3', c4'⟩, d0, d1, d2, d3, d4⟩ := hbx
    have HS7 := hide (HS6.out.move hAll.1 hAll.2)
    obtain ⟨W7, hW7⟩ : ∃ W7, ((((wp.setCell ⟨w.heap.size, 0, none⟩ (.int .i64 (putQ { outQ q n with got := q.got ++ [tx] } (⟨true, (q.got.length : Int) + 1, ⟨#[]⟩⟩ : Pk)).win)).setCell ⟨w.heap.size, 1, none⟩ (.slice a1 q.sent.length c1)).setCell ⟨w.heap.size, 2, none⟩ (.int .i64 (putQ { outQ q n with got := q.got ++ [tx] } (⟨true, (q.got.length : Int) + 1, ⟨#[]⟩⟩ : Pk)).base)).setCell ⟨w.heap.size, 3, none⟩ (.slice m3 (q.got.length + 1) j3)).setCell ⟨w.heap.size, 4, none⟩ (.slice q4 n5 j5) = W7 := ⟨_, rfl⟩
    have HS8 := hide (show SQ _ w W7 lo (.slice a1 q.sent.length c1) (.slice m3 (q.got.length + 1) j3) (.slice q4 n5 j5) (takeQ q n ⟨false, no, tx⟩) ⟨3, (n : Int), x⟩ from by
      have h2 := HS7.out
      rw [hW7] at h2
      rw [HTT.out]
      exact h2)
    have HW7 := hide hW7
    clear hW7 HS7 hAll hpp
    go_upto_region 30 with fail
    rw [HW7.out]
    clear HW7 c0' c1' c2' c3' c4' d0 d1 d2 d3 d4 r0 r1 r2 r3 r4 s0 s1 s2 s3 s4
    obtain ⟨WZ, hWZ⟩ : ∃ WZ, ((((W7.setCell ⟨w.heap.size + 1 + 1, 0, none⟩ (.int .i64 (takeQ q n ⟨false, no, tx⟩).win)).setCell ⟨w.heap.size + 1 + 1, 1, none⟩ (.slice a1 q.sent.length c1)).setCell ⟨w.heap.size + 1 + 1, 2, none⟩ (.int .i64 (takeQ q n ⟨false, no, tx⟩).base)).setCell ⟨w.heap.size + 1 + 1, 3, none⟩ (.slice m3 (q.got.length + 1) j3)).setCell ⟨w.heap.size + 1 + 1, 4, none⟩ (.slice q4 n5 j5) = WZ := ⟨_, rfl⟩
    have HFz := hide (HS8.out.fin WZ hWZ)
    have HWZ := hide hWZ
    obtain ⟨⟨e0, e1, e2, e3, e4⟩, f0, f1, f2, f3, f4⟩ := HS8.out.rb.pen
    obtain ⟨⟨y0, y1, y2, y3, y4⟩, -⟩ := HS8.out.pq.box.pen
    clear hWZ HS8
    go_wp2
    rw [HWZ.out]
    clear e0 e1 e2 e3 e4 f0 f1 f2 f3 f4 y0 y1 y2 y3 y4
    obtain ⟨⟨e0, e1, e2, e3, e4⟩, -⟩ := HFz.out.1.pen
    exact bodyPost_ret (v := .tuple #[qv (.slice a1 q.sent.length c1) (.slice m3 (q.got.length + 1) j3) (.slice q4 n5 j5) (takeQ q n ⟨false, no, tx⟩), .bool true]) (by simp [results, Try.results41, go_sem, e0, e1, e2, e3, e4]) rfl ⟨_, _, _, rfl, HFz.out.2⟩
  · have hne : (no == (q.got.length : Int)) = false := by simpa using hno
    have HNO := hide hno
    have HTT := hide (show takeQ q n ⟨false, no, tx⟩ = putQ (outQ q n) ⟨true, (q.got.length : Int), ⟨#[]⟩⟩ from by
      rw [HT.out, got_ne (by exact HNO.out)]
      rfl)
    clear hno
    go_upto_region 29 with fail
    clear y3 b0 b1 b2 k0 k1
    obtain ⟨⟨r0, r1, r2, r3, r4⟩, s0, s1, s2, s3, s4⟩ := HS.out.pq.box.pen
    go_wp2_with fail
    refine (sput_yes _ _ _ (outQ q n) (⟨true, (q.got.length : Int), ⟨#[]⟩⟩ : Pk) lo _ HS.out.pq.o1.txs HS.out.pq.o3.txs HS.out.pq.o4 (by have := HSZ.out; have := HS.out.big; omega) (by have := out_len hnl; show ((outQ q n)).line.length < 40;  omega)).mono ?_
    rintro e wp ⟨u5, rfl, hpp⟩
    obtain ⟨q4, n5, j5, rfl⟩ := own_slice hpp.own
    have hAll := HS.out.pq.all4 (q2 := putQ (outQ q n) (⟨true, (q.got.length : Int), ⟨#[]⟩⟩ : Pk)) hpp rfl rfl rfl rfl rfl
    have hbx := (HS.out.pq.box.chg hpp.chg HS.out.pq.n4).pen
    obtain ⟨⟨c0', c1', c2', c3', c4'⟩, d0, d1, d2, d3, d4⟩ := hbx
    have HS7 := hide (HS.out.move hAll.1 hAll.2)
    obtain ⟨W7, hW7⟩ : ∃ W7, ((((wp.setCell ⟨w.heap.size, 0, none⟩ (.int .i64 (putQ (outQ q n) (⟨true, (q.got.length : Int), ⟨#[]⟩⟩ : Pk)).win)).setCell ⟨w.heap.size, 1, none⟩ (.slice a1 q.sent.length c1)).setCell ⟨w.heap.size, 2, none⟩ (.int .i64 (putQ (outQ q n) (⟨true, (q.got.length : Int), ⟨#[]⟩⟩ : Pk)).base)).setCell ⟨w.heap.size, 3, none⟩ (.slice a3 q.got.length c3)).setCell ⟨w.heap.size, 4, none⟩ (.slice q4 n5 j5) = W7 := ⟨_, rfl⟩
    have HS8 := hide (show SQ _ w W7 lo (.slice a1 q.sent.length c1) (.slice a3 q.got.length c3) (.slice q4 n5 j5) (takeQ q n ⟨false, no, tx⟩) ⟨3, (n : Int), x⟩ from by
      have h2 := HS7.out
      rw [hW7] at h2
      rw [HTT.out]
      exact h2)
    have HW7 := hide hW7
    clear hW7 HS7 hAll hpp
    go_upto_region 30 with fail
    rw [HW7.out]
    clear HW7 c0' c1' c2' c3' c4' d0 d1 d2 d3 d4 r0 r1 r2 r3 r4 s0 s1 s2 s3 s4
    obtain ⟨WZ, hWZ⟩ : ∃ WZ, ((((W7.setCell ⟨w.heap.size + 1 + 1, 0, none⟩ (.int .i64 (takeQ q n ⟨false, no, tx⟩).win)).setCell ⟨w.heap.size + 1 + 1, 1, none⟩ (.slice a1 q.sent.length c1)).setCell ⟨w.heap.size + 1 + 1, 2, none⟩ (.int .i64 (takeQ q n ⟨false, no, tx⟩).base)).setCell ⟨w.heap.size + 1 + 1, 3, none⟩ (.slice a3 q.got.length c3)).setCell ⟨w.heap.size + 1 + 1, 4, none⟩ (.slice q4 n5 j5) = WZ := ⟨_, rfl⟩
    have HFz := hide (HS8.out.fin WZ hWZ)
    have HWZ := hide hWZ
    obtain ⟨⟨e0, e1, e2, e3, e4⟩, f0, f1, f2, f3, f4⟩ := HS8.out.rb.pen
    obtain ⟨⟨y0, y1, y2, y3, y4⟩, -⟩ := HS8.out.pq.box.pen
    clear hWZ HS8
    go_wp2
    rw [HWZ.out]
    clear e0 e1 e2 e3 e4 f0 f1 f2 f3 f4 y0 y1 y2 y3 y4
    obtain ⟨⟨e0, e1, e2, e3, e4⟩, -⟩ := HFz.out.1.pen
    exact bodyPost_ret (v := .tuple #[qv (.slice a1 q.sent.length c1) (.slice a3 q.got.length c3) (.slice q4 n5 j5) (takeQ q n ⟨false, no, tx⟩), .bool true]) (by simp [results, Try.results41, go_sem, e0, e1, e2, e3, e4]) rfl ⟨_, _, _, rfl, HFz.out.2⟩
end Go.Proofs.Ytfjdbenbiakbbaa
