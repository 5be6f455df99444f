/-
  A packet that is taken, lost or doubled: the specification's text.
-/
import Derived.Test.YtfjdbenbiakbbaaJoin28
namespace Go.Proofs.Ytfjdbenbiakbbaa
open Go.RowKit M
set_option maxRecDepth 20000 in
set_option maxHeartbeats 8000000 in
theorem sk_no (v1 v3 v4 : Value) (q : Qu) (kind k : Int) (x : ByteArray) (lo : Nat) (w : World) (h : AnsQ w lo w.heap.size v1 v3 v4 q.sent q.got q.line) (hlo : lo ≤ w.heap.size) (hg : GoodQ q) (hk1 : kind ≠ 1) (hk2 : kind ≠ 2) (hin : inB k 0 ((q.line.length : Int) - 1) = false) :
    Calls Try.prog 41 #[qv v1 v3 v4 q, .agg #[.int .i64 kind, .int .i64 k, .string x]] w fun e w' => Sto (MineL v1 v3 v4) lo w w' e q false := by
  obtain ⟨a1, c1, rfl⟩ := h.o1.form
  obtain ⟨a3, c3, rfl⟩ := h.o3.form
  obtain ⟨a4, c4, rfl⟩ := h.o4.form
  have hw0 := hg.w0
  have hw1 := hg.w1
  have hb0 := hg.b0
  have hbg := hg.bg
  have hgs := hg.gs
  have hs40 := hg.s40
  have hl40 := hg.l40
  have hd := (((Below.refl w.heap.size w).alloc (Nat.le_refl _) (.cells (qarr (.slice a1 q.sent.length c1) (.slice a3 q.got.length c3) (.slice a4 q.line.length c4) q) 32)).alloc (by simp) (.cells #[.int .i64 kind, .int .i64 k, .string x] 36)).alloc (by simp; omega) (.cells (qarr (.slice a1 q.sent.length c1) (.slice a3 q.got.length c3) (.slice a4 q.line.length c4) q) 32)
  have HF := hide (fun b => Sto.same (S := MineL (.slice a1 q.sent.length c1) (.slice a3 q.got.length c3) (.slice a4 q.line.length c4)) h hlo b hd)
  clear h hd
  go_enter Try.func41, Try.ntmps41
  go_wp2_with (go_at_call 68; refine (spec_in _ _ _ _).mono ?_; rintro e w' ⟨rfl, rfl⟩; rw [hin])
  exact bodyPost_ret (v := .tuple #[qv (.slice a1 q.sent.length c1) (.slice a3 q.got.length c3) (.slice a4 q.line.length c4) q, .bool false]) (by simp [results, Try.results41, go_sem]) rfl (HF.out false)
set_option maxRecDepth 20000 in
set_option maxHeartbeats 8000000 in
theorem sk_other (v1 v3 v4 : Value) (q : Qu) (kind k : Int) (x : ByteArray) (lo : Nat) (w : World) (h : AnsQ w lo w.heap.size v1 v3 v4 q.sent q.got q.line) (hlo : lo ≤ w.heap.size) (hg : GoodQ q) (n : Nat) (hkn : k = (n : Int)) (p : Pk) (hp : q.line[n]? = some p) (hk1 : kind ≠ 1) (hk2 : kind ≠ 2) (hk3 : kind ≠ 3) (hk4 : kind ≠ 4) (hk5 : kind ≠ 5) :
    Calls Try.prog 41 #[qv v1 v3 v4 q, .agg #[.int .i64 kind, .int .i64 k, .string x]] w fun e w' => Sto (MineL v1 v3 v4) lo w w' e q false := by
  obtain ⟨a1, c1, rfl⟩ := h.o1.form
  obtain ⟨a3, c3, rfl⟩ := h.o3.form
  obtain ⟨a4, c4, rfl⟩ := h.o4.form
  have hw0 := hg.w0
  have hw1 := hg.w1
  have hb0 := hg.b0
  have hbg := hg.bg
  have hgs := hg.gs
  have hs40 := hg.s40
  have hl40 := hg.l40
  obtain ⟨W, hW⟩ : ∃ W, (((w.alloc (.cells (qarr (.slice a1 q.sent.length c1) (.slice a3 q.got.length c3) (.slice a4 q.line.length c4) q) 32)).alloc (.cells #[.int .i64 kind, .int .i64 k, .string x] 36)).alloc (.cells #[.int .i64 0, .slice none 0 0, .int .i64 0, .slice none 0 0, .slice none 0 0] 32)) = W := ⟨_, rfl⟩
  have HQ := hide (show SQ (MineL (.slice a1 q.sent.length c1) (.slice a3 q.got.length c3) (.slice a4 q.line.length c4)) w W lo (.slice a1 q.sent.length c1) (.slice a3 q.got.length c3) (.slice a4 q.line.length c4) q ⟨kind, k, x⟩ from hW ▸ SQ.new h hlo ⟨kind, k, x⟩)
  have HW := hide hW
  have HSZ := hide (show W.heap.size = w.heap.size + 3 from by rw [← hW]; simp)
  clear hW
  subst hkn
  have hnl : n < q.line.length := (List.getElem?_eq_some_iff.1 hp).1
  have hin : inB (n : Int) 0 ((q.line.length : Int) - 1) = true := (inB_iff _ _ _).2 ⟨by omega, by omega⟩
  have i0 : (0 : Int) ≤ (n : Int) := by omega
  have i1 : (n : Int) < (q.line.length : Int) := by omega
  obtain ⟨a, c, hv4, hrr⟩ := HQ.out.pq.o4.pks
  simp only [Value.slice.injEq, true_and] at hv4
  obtain ⟨rfl, rfl⟩ := hv4
  obtain ⟨b4, o4, rfl, hb4, hrow⟩ := hrr (by omega)
  obtain ⟨z0, z1, z2⟩ := hrow n p hp
  obtain ⟨⟨-, -, -, -, y4⟩, -⟩ := HQ.out.pq.box.pen
  obtain ⟨⟨l0, l1, -⟩, -⟩ := HQ.out.lb.trp
  obtain ⟨W1, hW1⟩ : ∃ W1, W.alloc (.cells #[.bool p.ack, .int .i64 p.no, .string p.tx] 88) = W1 := ⟨_, rfl⟩
  have hd1 : Below W.heap.size W W1 := by rw [← hW1]; exact (Below.refl W.heap.size W).alloc (Nat.le_refl _) _
  have HQ1 := hide (HQ.out.down hd1)
  have HPb := hide (show Blk W1 W.heap.size 3 (qp p) 88 from by rw [← hW1]; exact newT3 W _ _ _ _)
  have HW1 := hide hW1
  have HSZ1 := hide (show W1.heap.size = W.heap.size + 1 from by rw [← hW1]; simp)
  obtain ⟨⟨k0, k1, -⟩, -⟩ := HQ1.out.lb.trp
  obtain ⟨⟨x0, x1, x2, x3, x4⟩, -⟩ := HQ1.out.pq.box.pen
  obtain ⟨⟨p0, p1, p2⟩, -⟩ := HPb.out.trp
  clear h hrr hrow hd1 hW1
  go_enter Try.func41, Try.ntmps41
  go_upto_region 13 with (go_at_call 68; refine (spec_in _ _ _ _).mono ?_; rintro e w' ⟨rfl, rfl⟩; rw [hin])
  rw [HW.out]
  go_upto_region 14 with fail
  rw [HW1.out]
  clear z0 z1 z2 y4 l0 l1 HW1
  go_upto_region 15 with fail
  clear k0 k1 x0 x1 x2 x3 x4 p0 p1 p2
  obtain ⟨WZ, hWZ⟩ : ∃ WZ, ((((W1.setCell ⟨w.heap.size + 1 + 1, 0, none⟩ (.int .i64 q.win)).setCell ⟨w.heap.size + 1 + 1, 1, none⟩ (.slice a1 q.sent.length c1)).setCell ⟨w.heap.size + 1 + 1, 2, none⟩ (.int .i64 q.base)).setCell ⟨w.heap.size + 1 + 1, 3, none⟩ (.slice a3 q.got.length c3)).setCell ⟨w.heap.size + 1 + 1, 4, none⟩ (.slice (some ⟨b4, o4, none⟩) q.line.length c4) = WZ := ⟨_, rfl⟩
  have HFz := hide (HQ1.out.fin WZ hWZ)
  have HWZ := hide hWZ
  obtain ⟨⟨e0, e1, e2, e3, e4⟩, f0, f1, f2, f3, f4⟩ := HQ1.out.rb.pen
  obtain ⟨⟨y0, y1, y2, y3, y4⟩, -⟩ := HQ1.out.pq.box.pen
  clear hWZ HQ HQ1 HPb
  go_wp2
  rw [HWZ.out]
  clear e0 e1 e2 e3 e4 f0 f1 f2 f3 f4 y0 y1 y2 y3 y4
  obtain ⟨⟨e0, e1, e2, e3, e4⟩, -⟩ := HFz.out.1.pen
  exact bodyPost_ret (v := .tuple #[qv (.slice a1 q.sent.length c1) (.slice a3 q.got.length c3) (.slice (some ⟨b4, o4, none⟩) q.line.length c4) q, .bool false]) (by simp [results, Try.results41, go_sem, e0, e1, e2, e3, e4]) rfl ⟨_, _, _, rfl, HFz.out.2⟩
set_option maxRecDepth 20000 in
set_option maxHeartbeats 8000000 in
theorem s5_yes (v1 v3 v4 : Value) (q : Qu) (kind k : Int) (x : ByteArray) (lo : Nat) (w : World) (h : AnsQ w lo w.heap.size v1 v3 v4 q.sent q.got q.line) (hlo : lo ≤ w.heap.size) (hg : GoodQ q) (n : Nat) (hkn : k = (n : Int)) (p : Pk) (hp : q.line[n]? = some p) (hk : kind = 5) (hl : q.line.length < 40) :
    Calls Try.prog 41 #[qv v1 v3 v4 q, .agg #[.int .i64 kind, .int .i64 k, .string x]] w fun e w' => Sto (MineL v1 v3 v4) lo w w' e (putQ q p) true := by
  obtain ⟨a1, c1, rfl⟩ := h.o1.form
  obtain ⟨a3, c3, rfl⟩ := h.o3.form
  obtain ⟨a4, c4, rfl⟩ := h.o4.form
  have hw0 := hg.w0
  have hw1 := hg.w1
  have hb0 := hg.b0
  have hbg := hg.bg
  have hgs := hg.gs
  have hs40 := hg.s40
  have hl40 := hg.l40
  subst hk
  obtain ⟨W, hW⟩ : ∃ W, (((w.alloc (.cells (qarr (.slice a1 q.sent.length c1) (.slice a3 q.got.length c3) (.slice a4 q.line.length c4) q) 32)).alloc (.cells #[.int .i64 5, .int .i64 k, .string x] 36)).alloc (.cells #[.int .i64 0, .slice none 0 0, .int .i64 0, .slice none 0 0, .slice none 0 0] 32)) = W := ⟨_, rfl⟩
  have HQ := hide (show SQ (MineL (.slice a1 q.sent.length c1) (.slice a3 q.got.length c3) (.slice a4 q.line.length c4)) w W lo (.slice a1 q.sent.length c1) (.slice a3 q.got.length c3) (.slice a4 q.line.length c4) q ⟨5, k, x⟩ from hW ▸ SQ.new h hlo ⟨5, k, x⟩)
  have HW := hide hW
  have HSZ := hide (show W.heap.size = w.heap.size + 3 from by rw [← hW]; simp)
  clear hW
  subst hkn
  have hnl : n < q.line.length := (List.getElem?_eq_some_iff.1 hp).1
  have hin : inB (n : Int) 0 ((q.line.length : Int) - 1) = true := (inB_iff _ _ _).2 ⟨by omega, by omega⟩
  have i0 : (0 : Int) ≤ (n : Int) := by omega
  have i1 : (n : Int) < (q.line.length : Int) := by omega
  obtain ⟨a, c, hv4, hrr⟩ := HQ.out.pq.o4.pks
  simp only [Value.slice.injEq, true_and] at hv4
  obtain ⟨rfl, rfl⟩ := hv4
  obtain ⟨b4, o4, rfl, hb4, hrow⟩ := hrr (by omega)
  obtain ⟨z0, z1, z2⟩ := hrow n p hp
  obtain ⟨⟨-, -, -, -, y4⟩, -⟩ := HQ.out.pq.box.pen
  obtain ⟨⟨l0, l1, -⟩, -⟩ := HQ.out.lb.trp
  obtain ⟨W1, hW1⟩ : ∃ W1, W.alloc (.cells #[.bool p.ack, .int .i64 p.no, .string p.tx] 88) = W1 := ⟨_, rfl⟩
  have hd1 : Below W.heap.size W W1 := by rw [← hW1]; exact (Below.refl W.heap.size W).alloc (Nat.le_refl _) _
  have HQ1 := hide (HQ.out.down hd1)
  have HPb := hide (show Blk W1 W.heap.size 3 (qp p) 88 from by rw [← hW1]; exact newT3 W _ _ _ _)
  have HW1 := hide hW1
  have HSZ1 := hide (show W1.heap.size = W.heap.size + 1 from by rw [← hW1]; simp)
  obtain ⟨⟨k0, k1, -⟩, -⟩ := HQ1.out.lb.trp
  obtain ⟨⟨x0, x1, x2, x3, x4⟩, -⟩ := HQ1.out.pq.box.pen
  obtain ⟨⟨p0, p1, p2⟩, -⟩ := HPb.out.trp
  have HC := hide (show Calls Try.prog 69 #[qv (.slice a1 q.sent.length c1) (.slice a3 q.got.length c3) (.slice (some ⟨b4, o4, none⟩) q.line.length c4) q, p.v] W1 fun e w' => ∃ u4, e = .returned (.tuple #[qv (.slice a1 q.sent.length c1) (.slice a3 q.got.length c3) u4 (putQ q p), .bool true]) ∧ Put4 lo W1 w' (.slice (some ⟨b4, o4, none⟩) q.line.length c4) u4 (q.line ++ [p]) from sput_yes _ _ _ q p lo _ HQ1.out.pq.o1.txs HQ1.out.pq.o3.txs HQ1.out.pq.o4 (by have := HSZ.out; have := HSZ1.out; omega) hl)
  clear hl
  clear h hrr hrow hd1 hW1
  go_enter Try.func41, Try.ntmps41
  go_upto_region 13 with (go_at_call 68; refine (spec_in _ _ _ _).mono ?_; rintro e w' ⟨rfl, rfl⟩; rw [hin])
  rw [HW.out]
  go_upto_region 14 with fail
  rw [HW1.out]
  clear z0 z1 z2 y4 l0 l1 HW1
  go_wp2_with fail
  refine Calls.mono HC.out ?_
  rintro e wp ⟨u4, rfl, hpp⟩
  obtain ⟨m4, n4, j4, rfl⟩ := own_slice hpp.own
  obtain ⟨WZ, hWZ⟩ : ∃ WZ, ((((wp.setCell ⟨w.heap.size + 1 + 1, 0, none⟩ (.int .i64 (putQ q p).win)).setCell ⟨w.heap.size + 1 + 1, 1, none⟩ (.slice a1 q.sent.length c1)).setCell ⟨w.heap.size + 1 + 1, 2, none⟩ (.int .i64 (putQ q p).base)).setCell ⟨w.heap.size + 1 + 1, 3, none⟩ (.slice a3 q.got.length c3)).setCell ⟨w.heap.size + 1 + 1, 4, none⟩ (.slice m4 n4 j4) = WZ := ⟨_, rfl⟩
  obtain ⟨⟨e0, e1, e2, e3, e4⟩, f0, f1, f2, f3, f4⟩ := (HQ1.out.rb4 hpp).pen
  obtain ⟨j1, -, j3⟩ := putW5 (B0 := 0) (w := wp) (HQ1.out.rb4 hpp) (Below.refl 0 wp) (Nat.zero_le _) _ _ _ _ _ WZ hWZ
  have HFz := hide (And.intro j1 (HQ1.out.ans4 hpp j3))
  have HWZ := hide hWZ
  clear hWZ j1 j3 hpp HC k0 k1 x0 x1 x2 x3 x4 p0 p1 p2
  go_wp2
  rw [HWZ.out]
  clear e0 e1 e2 e3 e4 f0 f1 f2 f3 f4
  obtain ⟨⟨e0, e1, e2, e3, e4⟩, -⟩ := HFz.out.1.pen
  exact bodyPost_ret (v := .tuple #[qv (.slice a1 q.sent.length c1) (.slice a3 q.got.length c3) (.slice m4 n4 j4) (putQ q p), .bool true]) (by simp [results, Try.results41, go_sem, e0, e1, e2, e3, e4]) rfl ⟨_, _, _, rfl, HFz.out.2⟩
set_option maxRecDepth 20000 in
set_option maxHeartbeats 8000000 in
theorem s5_full (v1 v3 v4 : Value) (q : Qu) (kind k : Int) (x : ByteArray) (lo : Nat) (w : World) (h : AnsQ w lo w.heap.size v1 v3 v4 q.sent q.got q.line) (hlo : lo ≤ w.heap.size) (hg : GoodQ q) (n : Nat) (hkn : k = (n : Int)) (p : Pk) (hp : q.line[n]? = some p) (hk : kind = 5) (hl : q.line.length = 40) :
    Calls Try.prog 41 #[qv v1 v3 v4 q, .agg #[.int .i64 kind, .int .i64 k, .string x]] w fun e w' => Sto (MineL v1 v3 v4) lo w w' e (q) false := by
  obtain ⟨a1, c1, rfl⟩ := h.o1.form
  obtain ⟨a3, c3, rfl⟩ := h.o3.form
  obtain ⟨a4, c4, rfl⟩ := h.o4.form
  have hw0 := hg.w0
  have hw1 := hg.w1
  have hb0 := hg.b0
  have hbg := hg.bg
  have hgs := hg.gs
  have hs40 := hg.s40
  have hl40 := hg.l40
  subst hk
  obtain ⟨W, hW⟩ : ∃ W, (((w.alloc (.cells (qarr (.slice a1 q.sent.length c1) (.slice a3 q.got.length c3) (.slice a4 q.line.length c4) q) 32)).alloc (.cells #[.int .i64 5, .int .i64 k, .string x] 36)).alloc (.cells #[.int .i64 0, .slice none 0 0, .int .i64 0, .slice none 0 0, .slice none 0 0] 32)) = W := ⟨_, rfl⟩
  have HQ := hide (show SQ (MineL (.slice a1 q.sent.length c1) (.slice a3 q.got.length c3) (.slice a4 q.line.length c4)) w W lo (.slice a1 q.sent.length c1) (.slice a3 q.got.length c3) (.slice a4 q.line.length c4) q ⟨5, k, x⟩ from hW ▸ SQ.new h hlo ⟨5, k, x⟩)
  have HW := hide hW
  have HSZ := hide (show W.heap.size = w.heap.size + 3 from by rw [← hW]; simp)
  clear hW
  subst hkn
  have hnl : n < q.line.length := (List.getElem?_eq_some_iff.1 hp).1
  have hin : inB (n : Int) 0 ((q.line.length : Int) - 1) = true := (inB_iff _ _ _).2 ⟨by omega, by omega⟩
  have i0 : (0 : Int) ≤ (n : Int) := by omega
  have i1 : (n : Int) < (q.line.length : Int) := by omega
  obtain ⟨a, c, hv4, hrr⟩ := HQ.out.pq.o4.pks
  simp only [Value.slice.injEq, true_and] at hv4
  obtain ⟨rfl, rfl⟩ := hv4
  obtain ⟨b4, o4, rfl, hb4, hrow⟩ := hrr (by omega)
  obtain ⟨z0, z1, z2⟩ := hrow n p hp
  obtain ⟨⟨-, -, -, -, y4⟩, -⟩ := HQ.out.pq.box.pen
  obtain ⟨⟨l0, l1, -⟩, -⟩ := HQ.out.lb.trp
  obtain ⟨W1, hW1⟩ : ∃ W1, W.alloc (.cells #[.bool p.ack, .int .i64 p.no, .string p.tx] 88) = W1 := ⟨_, rfl⟩
  have hd1 : Below W.heap.size W W1 := by rw [← hW1]; exact (Below.refl W.heap.size W).alloc (Nat.le_refl _) _
  have HQ1 := hide (HQ.out.down hd1)
  have HPb := hide (show Blk W1 W.heap.size 3 (qp p) 88 from by rw [← hW1]; exact newT3 W _ _ _ _)
  have HW1 := hide hW1
  have HSZ1 := hide (show W1.heap.size = W.heap.size + 1 from by rw [← hW1]; simp)
  obtain ⟨⟨k0, k1, -⟩, -⟩ := HQ1.out.lb.trp
  obtain ⟨⟨x0, x1, x2, x3, x4⟩, -⟩ := HQ1.out.pq.box.pen
  obtain ⟨⟨p0, p1, p2⟩, -⟩ := HPb.out.trp
  have HC := hide (show Calls Try.prog 69 #[qv (.slice a1 q.sent.length c1) (.slice a3 q.got.length c3) (.slice (some ⟨b4, o4, none⟩) q.line.length c4) q, p.v] W1 fun e w' => ∃ u4, e = .returned (.tuple #[qv (.slice a1 q.sent.length c1) (.slice a3 q.got.length c3) u4 (q), .bool false]) ∧ Put4 lo W1 w' (.slice (some ⟨b4, o4, none⟩) q.line.length c4) u4 (q.line) from (sput_no _ _ _ q p _ HQ1.out.pq.rd hl).mono (fun e w' hh => ⟨_, hh.1, HQ1.out.pq.o4.down hh.2, Below.chg hh.2 _, fun j e => .inl e⟩))
  clear hl
  clear h hrr hrow hd1 hW1
  go_enter Try.func41, Try.ntmps41
  go_upto_region 13 with (go_at_call 68; refine (spec_in _ _ _ _).mono ?_; rintro e w' ⟨rfl, rfl⟩; rw [hin])
  rw [HW.out]
  go_upto_region 14 with fail
  rw [HW1.out]
  clear z0 z1 z2 y4 l0 l1 HW1
  go_wp2_with fail
  refine Calls.mono HC.out ?_
  rintro e wp ⟨u4, rfl, hpp⟩
  obtain ⟨m4, n4, j4, rfl⟩ := own_slice hpp.own
  obtain ⟨WZ, hWZ⟩ : ∃ WZ, ((((wp.setCell ⟨w.heap.size + 1 + 1, 0, none⟩ (.int .i64 (q).win)).setCell ⟨w.heap.size + 1 + 1, 1, none⟩ (.slice a1 q.sent.length c1)).setCell ⟨w.heap.size + 1 + 1, 2, none⟩ (.int .i64 (q).base)).setCell ⟨w.heap.size + 1 + 1, 3, none⟩ (.slice a3 q.got.length c3)).setCell ⟨w.heap.size + 1 + 1, 4, none⟩ (.slice m4 n4 j4) = WZ := ⟨_, rfl⟩
  obtain ⟨⟨e0, e1, e2, e3, e4⟩, f0, f1, f2, f3, f4⟩ := (HQ1.out.rb4 hpp).pen
  obtain ⟨j1, -, j3⟩ := putW5 (B0 := 0) (w := wp) (HQ1.out.rb4 hpp) (Below.refl 0 wp) (Nat.zero_le _) _ _ _ _ _ WZ hWZ
  have HFz := hide (And.intro j1 (HQ1.out.ans4 hpp j3))
  have HWZ := hide hWZ
  clear hWZ j1 j3 hpp HC k0 k1 x0 x1 x2 x3 x4 p0 p1 p2
  go_wp2
  rw [HWZ.out]
  clear e0 e1 e2 e3 e4 f0 f1 f2 f3 f4
  obtain ⟨⟨e0, e1, e2, e3, e4⟩, -⟩ := HFz.out.1.pen
  exact bodyPost_ret (v := .tuple #[qv (.slice a1 q.sent.length c1) (.slice a3 q.got.length c3) (.slice m4 n4 j4) (q), .bool false]) (by simp [results, Try.results41, go_sem, e0, e1, e2, e3, e4]) rfl ⟨_, _, _, rfl, HFz.out.2⟩
set_option maxRecDepth 20000 in
set_option maxHeartbeats 8000000 in
theorem s4_yes (v1 v3 v4 : Value) (q : Qu) (kind k : Int) (x : ByteArray) (lo : Nat) (w : World) (h : AnsQ w lo w.heap.size v1 v3 v4 q.sent q.got q.line) (hlo : lo ≤ w.heap.size) (hg : GoodQ q) (n : Nat) (hkn : k = (n : Int)) (p : Pk) (hp : q.line[n]? = some p) (hk : kind = 4) :
    Calls Try.prog 41 #[qv v1 v3 v4 q, .agg #[.int .i64 kind, .int .i64 k, .string x]] w fun e w' => Sto (MineL v1 v3 v4) lo w w' e (outQ q n) true := by
  obtain ⟨a1, c1, rfl⟩ := h.o1.form
  obtain ⟨a3, c3, rfl⟩ := h.o3.form
  obtain ⟨a4, c4, rfl⟩ := h.o4.form
  have hw0 := hg.w0
  have hw1 := hg.w1
  have hb0 := hg.b0
  have hbg := hg.bg
  have hgs := hg.gs
  have hs40 := hg.s40
  have hl40 := hg.l40
  subst hk
  obtain ⟨W, hW⟩ : ∃ W, (((w.alloc (.cells (qarr (.slice a1 q.sent.length c1) (.slice a3 q.got.length c3) (.slice a4 q.line.length c4) q) 32)).alloc (.cells #[.int .i64 4, .int .i64 k, .string x] 36)).alloc (.cells #[.int .i64 0, .slice none 0 0, .int .i64 0, .slice none 0 0, .slice none 0 0] 32)) = W := ⟨_, rfl⟩
  have HQ := hide (show SQ (MineL (.slice a1 q.sent.length c1) (.slice a3 q.got.length c3) (.slice a4 q.line.length c4)) w W lo (.slice a1 q.sent.length c1) (.slice a3 q.got.length c3) (.slice a4 q.line.length c4) q ⟨4, k, x⟩ from hW ▸ SQ.new h hlo ⟨4, k, x⟩)
  have HW := hide hW
  have HSZ := hide (show W.heap.size = w.heap.size + 3 from by rw [← hW]; simp)
  clear hW
  subst hkn
  have hnl : n < q.line.length := (List.getElem?_eq_some_iff.1 hp).1
  have hin : inB (n : Int) 0 ((q.line.length : Int) - 1) = true := (inB_iff _ _ _).2 ⟨by omega, by omega⟩
  have i0 : (0 : Int) ≤ (n : Int) := by omega
  have i1 : (n : Int) < (q.line.length : Int) := by omega
  obtain ⟨a, c, hv4, hrr⟩ := HQ.out.pq.o4.pks
  simp only [Value.slice.injEq, true_and] at hv4
  obtain ⟨rfl, rfl⟩ := hv4
  obtain ⟨b4, o4, rfl, hb4, hrow⟩ := hrr (by omega)
  obtain ⟨z0, z1, z2⟩ := hrow n p hp
  obtain ⟨⟨-, -, -, -, y4⟩, -⟩ := HQ.out.pq.box.pen
  obtain ⟨⟨l0, l1, -⟩, -⟩ := HQ.out.lb.trp
  obtain ⟨W1, hW1⟩ : ∃ W1, W.alloc (.cells #[.bool p.ack, .int .i64 p.no, .string p.tx] 88) = W1 := ⟨_, rfl⟩
  have hd1 : Below W.heap.size W W1 := by rw [← hW1]; exact (Below.refl W.heap.size W).alloc (Nat.le_refl _) _
  have HQ1 := hide (HQ.out.down hd1)
  have HPb := hide (show Blk W1 W.heap.size 3 (qp p) 88 from by rw [← hW1]; exact newT3 W _ _ _ _)
  have HW1 := hide hW1
  have HSZ1 := hide (show W1.heap.size = W.heap.size + 1 from by rw [← hW1]; simp)
  obtain ⟨⟨k0, k1, -⟩, -⟩ := HQ1.out.lb.trp
  obtain ⟨⟨x0, x1, x2, x3, x4⟩, -⟩ := HQ1.out.pq.box.pen
  obtain ⟨⟨p0, p1, p2⟩, -⟩ := HPb.out.trp
  clear h hrr hrow hd1 hW1
  go_enter Try.func41, Try.ntmps41
  go_upto_region 13 with (go_at_call 68; refine (spec_in _ _ _ _).mono ?_; rintro e w' ⟨rfl, rfl⟩; rw [hin])
  rw [HW.out]
  go_upto_region 14 with fail
  rw [HW1.out]
  clear z0 z1 z2 y4 l0 l1 HW1
  go_wp2_with fail
  refine (without_pks _ q.line n _ HQ1.out.pq.o4.c (by omega) hnl).mono ?_
  rintro e w2 ⟨⟨m4, n4, j4, rfl, hO⟩, hb2⟩
  have hle2 := HQ1.out.le
  have hP := (HQ1.out.pq).put4 (W2 := w2) (Below.chg hb2 _) (OwnP.mono hO (by have := HSZ.out; have := HSZ1.out; omega)) (fun j e => .inr (hO.lt e).1)
  have hS := HQ1.out.move hP.1 hP.2
  obtain ⟨⟨-, -, -, -, g4⟩, -, -, -, -, t4⟩ := (HQ1.out.pq.down hb2).box.pen
  have hPb2 := (HPb.out.down hb2).set_other (g' := w.heap.size) (by have := HSZ.out; omega) 4 (.slice m4 n4 j4)
  obtain ⟨W3, hW3⟩ : ∃ W3, w2.setCell ⟨w.heap.size, 4, none⟩ (.slice m4 n4 j4) = W3 := ⟨_, rfl⟩
  rw [hW3] at hS hPb2
  have HS := hide (show SQ _ w W3 lo (.slice a1 q.sent.length c1) (.slice a3 q.got.length c3) (.slice m4 n4 j4) (outQ q n) ⟨4, (n : Int), x⟩ from hS)
  have HPc := hide hPb2
  have HW3 := hide hW3
  have HSZ3 := hide (show W.heap.size + 1 ≤ W3.heap.size from by rw [← hW3, World.size_setCell]; have := hb2.size; have := HSZ1.out; omega)
  clear hW3 hS hP hO hb2 hPb2 HQ1 HPb HQ k0 k1 x0 x1 x2 x3 x4 p0 p1 p2
  obtain ⟨⟨k0, k1, -⟩, -⟩ := HS.out.lb.trp
  go_upto_region 21 with fail
  rw [HW3.out]
  clear HW3 g4 t4
  go_upto_region 22 with fail
  clear k0 k1
  obtain ⟨WZ, hWZ⟩ : ∃ WZ, ((((W3.setCell ⟨w.heap.size + 1 + 1, 0, none⟩ (.int .i64 (outQ q n).win)).setCell ⟨w.heap.size + 1 + 1, 1, none⟩ (.slice a1 q.sent.length c1)).setCell ⟨w.heap.size + 1 + 1, 2, none⟩ (.int .i64 (outQ q n).base)).setCell ⟨w.heap.size + 1 + 1, 3, none⟩ (.slice a3 q.got.length c3)).setCell ⟨w.heap.size + 1 + 1, 4, none⟩ (.slice m4 n4 j4) = WZ := ⟨_, rfl⟩
  have HFz := hide (HS.out.fin WZ hWZ)
  have HWZ := hide hWZ
  obtain ⟨⟨e0, e1, e2, e3, e4⟩, f0, f1, f2, f3, f4⟩ := HS.out.rb.pen
  obtain ⟨⟨y0, y1, y2, y3, y4⟩, -⟩ := HS.out.pq.box.pen
  clear hWZ HS HPc
  go_wp2
  rw [HWZ.out]
  clear e0 e1 e2 e3 e4 f0 f1 f2 f3 f4 y0 y1 y2 y3 y4
  obtain ⟨⟨e0, e1, e2, e3, e4⟩, -⟩ := HFz.out.1.pen
  exact bodyPost_ret (v := .tuple #[qv (.slice a1 q.sent.length c1) (.slice a3 q.got.length c3) (.slice m4 n4 j4) (outQ q n), .bool true]) (by simp [results, Try.results41, go_sem, e0, e1, e2, e3, e4]) rfl ⟨_, _, _, rfl, HFz.out.2⟩
end Go.Proofs.Ytfjdbenbiakbbaa
