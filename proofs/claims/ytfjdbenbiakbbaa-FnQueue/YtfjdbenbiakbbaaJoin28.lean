/-
  A text that is sent: the specification's text.
-/
import Derived.Test.YtfjdbenbiakbbaaJoin27
namespace Go.Proofs.Ytfjdbenbiakbbaa
open Go.RowKit M
namespace M
theorem own_slice {w : World} {B : Nat} {v : Value} {l : Pks} (h : OwnP w B v l) : ∃ a n c, v = .slice a n c := by
  obtain ⟨a, c, e⟩ := h.form
  exact ⟨_, _, _, e⟩
theorem cell_so {W : World} {g b o o' : Nat} {u c : Value} (h : W.cell? ⟨b, o', none⟩ = some c) (hne : b ≠ g) (hlt : b < W.heap.size) : (W.setCell ⟨g, o, none⟩ u).cell? ⟨b, o', none⟩ = some c := by
  have e := (set_chg W g o u).block b hlt hne
  simp only [World.cell?] at h ⊢
  rw [e]; exact h
theorem SQ.rb4 {S : Nat → Prop} {w W W2 : World} {lo : Nat} {v1 v3 v4 u4 : Value} {q : Qu} {st : Lst} {l : Pks} (h : SQ S w W lo v1 v3 v4 q st) (hp : Put4 lo W W2 v4 u4 l) : Blk W2 (w.heap.size + 1 + 1) 5 (w5 (.int .i64 0) (.slice none 0 0) (.int .i64 0) (.slice none 0 0) (.slice none 0 0)) 32 :=
  h.rb.chg hp.chg (fun e => by have := h.mn _ (.inr (.inr (.inr e))); omega)
theorem SQ.ans4 {S : Nat → Prop} {w W W2 WZ : World} {lo : Nat} {v1 v3 v4 u4 : Value} {q : Qu} {st : Lst} {l : Pks} (h : SQ S w W lo v1 v3 v4 q st) (hp : Put4 lo W W2 v4 u4 l) (hj : W2.grownBy WZ (some (w.heap.size + 1 + 1))) :
    AnsQ WZ lo WZ.heap.size v1 v3 u4 q.sent q.got l ∧ Below lo w WZ ∧ Chg S w WZ := by
  have hle := h.le
  have hbig := h.big
  have h1 := owns_chg h.pq.o1 hp.chg (fun k hk e => h.pq.a14 k hk e)
  have h3 := owns_chg h.pq.o3 hp.chg (fun k hk e => h.pq.a34 k hk e)
  refine ⟨AnsQ.of (owns_other h1 hj (fun k hk e => ?_)) (owns_other h3 hj (fun k hk e => ?_)) (hp.own.other hj (fun k hk e => ?_)) h.pq.a13 (fun k hv hu => (hp.sub k hu).elim (fun e => h.pq.a14 k hv e) (fun e => absurd (h.pq.o1.lt hv).2 (by omega))) (fun k hv hu => (hp.sub k hu).elim (fun e => h.pq.a34 k hv e) (fun e => absurd (h.pq.o3.lt hv).2 (by omega))), ?_, ?_⟩
  · have := h.mn k (.inr (.inl hk)); simp only [Option.some.injEq] at e; omega
  · have := h.mn k (.inr (.inr (.inl hk))); simp only [Option.some.injEq] at e; omega
  · simp only [Option.some.injEq] at e
    rcases hp.sub k hk with h' | h'
    · have := h.mn k (.inr (.inr (.inr h'))); omega
    · omega
  · have hl := h.low.trans (hp.chg.low (fun k e => (h.pq.o4.lt e).1) (Nat.le_trans hle (by omega)))
    exact hl.grown hj (Nat.le_trans hle hl.size) (fun j hj => by simp only [Option.some.injEq] at hj; omega)
  · exact (h.chg.trans hp.chg (fun k e => h.sub k (.inr (.inr (.inr e))))).trans (Chg.gb (S := fun k => k = w.heap.size + 1 + 1) hj (fun k e => by simp only [Option.some.injEq] at e; exact e.symm)) (fun k e => .inr (by omega))
end M
set_option maxRecDepth 20000 in
set_option maxHeartbeats 8000000 in
theorem s2_yes (v1 v3 v4 : Value) (q : Qu) (kind k : Int) (x : ByteArray) (lo : Nat) (w : World) (h : AnsQ w lo w.heap.size v1 v3 v4 q.sent q.got q.line) (hlo : lo ≤ w.heap.size) (hg : GoodQ q) (hk : kind = 2) (t : ByteArray) (ht : sAt q k = some t) (hl : q.line.length < 40) :
    Calls Try.prog 41 #[qv v1 v3 v4 q, .agg #[.int .i64 kind, .int .i64 k, .string x]] w fun e w' => Sto (MineL v1 v3 v4) lo w w' e (putQ q ⟨false, k, t⟩) true := by
  obtain ⟨a1, c1, rfl⟩ := h.o1.form
  obtain ⟨a3, c3, rfl⟩ := h.o3.form
  obtain ⟨a4, c4, rfl⟩ := h.o4.form
  have hw0 := hg.w0
  have hw1 := hg.w1
  have hb0 := hg.b0
  have hbg := hg.bg
  have hgs := hg.gs
  have hs40 := hg.s40
  have hl40 := hg.l40
  obtain ⟨W, hW⟩ : ∃ W, (((w.alloc (.cells (qarr (.slice a1 q.sent.length c1) (.slice a3 q.got.length c3) (.slice a4 q.line.length c4) q) 32)).alloc (.cells #[.int .i64 kind, .int .i64 k, .string x] 36)).alloc (.cells #[.int .i64 0, .slice none 0 0, .int .i64 0, .slice none 0 0, .slice none 0 0] 32)) = W := ⟨_, rfl⟩
  have HQ := hide (show SQ (MineL (.slice a1 q.sent.length c1) (.slice a3 q.got.length c3) (.slice a4 q.line.length c4)) w W lo (.slice a1 q.sent.length c1) (.slice a3 q.got.length c3) (.slice a4 q.line.length c4) q ⟨kind, k, x⟩ from hW ▸ SQ.new h hlo ⟨kind, k, x⟩)
  have HW := hide hW
  have HSZ := hide (show W.heap.size = w.heap.size + 3 from by rw [← hW]; simp)
  clear hW
  subst hk
  have hwr : IntKind.i64.wrap (q.base + q.win) = q.base + q.win := by rw [IntKind.wrap_i64]; omega
  have hwr2 : IntKind.i64.wrap (q.base + q.win - 1) = q.base + q.win - 1 := by rw [IntKind.wrap_i64]; omega
  obtain ⟨t0, t1, t2, t3⟩ := sAt_some ht
  have hin : inB k q.base (q.base + q.win - 1) = true := (inB_iff _ _ _).2 ⟨t0, by omega⟩
  have i0 : 0 ≤ k := by omega
  have i1 : k < (q.sent.length : Int) := by omega
  have i2 : ¬ (q.sent.length : Int) ≤ k := by omega
  obtain ⟨a, c, hv1, hrr⟩ := h.o1.txs
  simp only [Value.slice.injEq, true_and] at hv1
  obtain ⟨rfl, rfl⟩ := hv1
  obtain ⟨b1, o1, rfl, hb1, hrow⟩ := hrr (by omega)
  have hx1 := hrow _ t t2
  have hW1 : W.cell? ⟨b1, o1 + k.toNat, none⟩ = some (.string t) := by
    have : W.heap[b1]? = w.heap[b1]? := by
      rw [← HW.out]
      exact ((((Below.refl w.heap.size w).alloc (Nat.le_refl _) _).alloc (by simp) _).alloc (by simp; omega) _).block b1 hb1
    simp only [World.cell?, this]
    simpa [World.cell?] using hx1
  have hK0 : W.drew.cell? ⟨w.heap.size, 0, none⟩ = some (.int .i64 q.win) ∧ W.drew.cell? ⟨w.heap.size, 1, none⟩ = some (.slice (some ⟨b1, o1, none⟩) q.sent.length c1) ∧ W.drew.cell? ⟨w.heap.size, 2, none⟩ = some (.int .i64 q.base) ∧ W.drew.cell? ⟨w.heap.size, 3, none⟩ = some (.slice a3 q.got.length c3) ∧ W.drew.cell? ⟨w.heap.size, 4, none⟩ = some (.slice a4 q.line.length c4) ∧ W.drew.cell? ⟨w.heap.size + 1, 1, none⟩ = some (.int .i64 k) ∧ W.drew.cell? ⟨b1, o1 + k.toNat, none⟩ = some (.string t) := ⟨HQ.out.pq.box.pen.1.1, HQ.out.pq.box.pen.1.2.1, HQ.out.pq.box.pen.1.2.2.1, HQ.out.pq.box.pen.1.2.2.2.1, HQ.out.pq.box.pen.1.2.2.2.2, HQ.out.lb.trp.1.2.1, hW1⟩
  have hK00 : W.cell? ⟨w.heap.size, 0, none⟩ = some (.int .i64 q.win) ∧ W.cell? ⟨w.heap.size, 1, none⟩ = some (.slice (some ⟨b1, o1, none⟩) q.sent.length c1) ∧ W.cell? ⟨w.heap.size, 2, none⟩ = some (.int .i64 q.base) ∧ W.cell? ⟨w.heap.size, 3, none⟩ = some (.slice a3 q.got.length c3) ∧ W.cell? ⟨w.heap.size, 4, none⟩ = some (.slice a4 q.line.length c4) ∧ W.cell? ⟨w.heap.size + 1, 1, none⟩ = some (.int .i64 k) ∧ W.cell? ⟨b1, o1 + k.toNat, none⟩ = some (.string t) := hK0
  have HP := hide (show Calls Try.prog 69 #[qv (.slice (some ⟨b1, o1, none⟩) q.sent.length c1) (.slice a3 q.got.length c3) (.slice a4 q.line.length c4) q, (⟨false, k, t⟩ : Pk).v] W.drew fun e w' => ∃ u4, e = .returned (.tuple #[qv (.slice (some ⟨b1, o1, none⟩) q.sent.length c1) (.slice a3 q.got.length c3) u4 (putQ q ⟨false, k, t⟩), .bool true]) ∧ Put4 lo W.drew w' (.slice a4 q.line.length c4) u4 (q.line ++ [⟨false, k, t⟩]) from by
    have hd := (Below.refl W.heap.size W).drew
    have hq := (HQ.out.pq.down hd)
    exact sput_yes _ _ _ q (⟨false, k, t⟩ : Pk) lo _ hq.o1.txs hq.o3.txs hq.o4 (by have := HSZ.out; show lo ≤ W.heap.size; omega) hl)
  have HAp := hide (show ∀ j, (Value.slice a4 q.line.length c4).ownBlock = some j → j < w.heap.size ∧ j ≠ b1 from fun j hj => ⟨h.h4 j hj, fun e => h.a14 b1 rfl (by rw [← e]; exact hj)⟩)
  have HQ2 := hide (HQ.out.down (Below.refl W.heap.size W).drew)
  have n1 : w.heap.size ≠ w.heap.size + 1 + 1 := by omega
  have n2 : w.heap.size + 1 ≠ w.heap.size + 1 + 1 := by omega
  have n3 : b1 ≠ w.heap.size + 1 + 1 := by omega
  have HK2 := hide (show ∀ w' u4, Put4 lo W.drew w' (.slice a4 q.line.length c4) u4 (q.line ++ [⟨false, k, t⟩]) → (Blk w' w.heap.size 5 (qf (.slice (some ⟨b1, o1, none⟩) q.sent.length c1) (.slice a3 q.got.length c3) (.slice a4 q.line.length c4) q) 32 ∧ Blk w' (w.heap.size + 1) 3 (ql ⟨2, k, x⟩) 36 ∧ w'.cell? ⟨b1, o1 + k.toNat, none⟩ = some (.string t)) ∧ b1 < w'.heap.size from fun w' u4 hp => by
    have hn : ∀ g, w.heap.size ≤ g → ¬ (fun j => (Value.slice a4 q.line.length c4).ownBlock = some j) g := fun g hg e => by have := (HAp.out g e).1; omega
    have hlt : b1 < W.drew.heap.size := by have := HSZ.out; show b1 < W.heap.size; omega
    refine ⟨⟨HQ2.out.pq.box.chg hp.chg (hn _ (Nat.le_refl _)), HQ2.out.lb.chg hp.chg (hn _ (by omega)), ?_⟩, Nat.lt_of_lt_of_le hlt hp.chg.size⟩
    have e1 := hp.chg.block b1 hlt (fun e => (HAp.out b1 e).2 rfl)
    have e2 : W.drew.cell? ⟨b1, o1 + k.toNat, none⟩ = some (.string t) := hW1
    simp only [World.cell?] at e2 ⊢
    rw [e1]; exact e2)
  have HK9 := hide (show ∀ (wp : World) (z1 z2 z3 z4 z5 : Value), Blk wp w.heap.size 5 (qf (.slice (some ⟨b1, o1, none⟩) q.sent.length c1) (.slice a3 q.got.length c3) (.slice a4 q.line.length c4) q) 32 → Blk wp (w.heap.size + 1) 3 (ql ⟨2, k, x⟩) 36 → wp.cell? ⟨b1, o1 + k.toNat, none⟩ = some (.string t) → b1 < wp.heap.size → ∀ W, ((((wp.setCell ⟨w.heap.size + 1 + 1, 0, none⟩ z1).setCell ⟨w.heap.size + 1 + 1, 1, none⟩ z2).setCell ⟨w.heap.size + 1 + 1, 2, none⟩ z3).setCell ⟨w.heap.size + 1 + 1, 3, none⟩ z4).setCell ⟨w.heap.size + 1 + 1, 4, none⟩ z5 = W → W.cell? ⟨w.heap.size, 0, none⟩ = some (.int .i64 q.win) ∧ W.cell? ⟨w.heap.size, 1, none⟩ = some (.slice (some ⟨b1, o1, none⟩) q.sent.length c1) ∧ W.cell? ⟨w.heap.size, 2, none⟩ = some (.int .i64 q.base) ∧ W.cell? ⟨w.heap.size, 3, none⟩ = some (.slice a3 q.got.length c3) ∧ W.cell? ⟨w.heap.size, 4, none⟩ = some (.slice a4 q.line.length c4) ∧ W.cell? ⟨w.heap.size + 1, 1, none⟩ = some (.int .i64 k) ∧ W.cell? ⟨b1, o1 + k.toNat, none⟩ = some (.string t) from fun wp z1 z2 z3 z4 z5 hB hL hT hlt W hW => by
    subst hW
    have g1 := (((((hB.set_other n1 0 z1).set_other n1 1 z2).set_other n1 2 z3).set_other n1 3 z4).set_other n1 4 z5).pen.1
    have g2 := (((((hL.set_other n2 0 z1).set_other n2 1 z2).set_other n2 2 z3).set_other n2 3 z4).set_other n2 4 z5).trp.1
    refine ⟨g1.1, g1.2.1, g1.2.2.1, g1.2.2.2.1, g1.2.2.2.2, g2.2.1, ?_⟩
    exact cell_so (cell_so (cell_so (cell_so (cell_so hT n3 hlt) n3 (by simpa using hlt)) n3 (by simpa using hlt)) n3 (by simpa using hlt)) n3 (by simpa using hlt))
  clear h hrr hrow ht t0 t1 t2 t3 hx1 hl
  go_enter Try.func41, Try.ntmps41
  go_upto_region 10 with (go_at_call 68; refine (spec_in _ _ _ _).mono ?_; rintro e w' ⟨rfl, rfl⟩; rw [hin])
  rw [HW.out]
  go_region_held3 (fun W => W.cell? ⟨w.heap.size, 0, none⟩ = some (.int .i64 q.win) ∧ W.cell? ⟨w.heap.size, 1, none⟩ = some (.slice (some ⟨b1, o1, none⟩) q.sent.length c1) ∧ W.cell? ⟨w.heap.size, 2, none⟩ = some (.int .i64 q.base) ∧ W.cell? ⟨w.heap.size, 3, none⟩ = some (.slice a3 q.got.length c3) ∧ W.cell? ⟨w.heap.size, 4, none⟩ = some (.slice a4 q.line.length c4) ∧ W.cell? ⟨w.heap.size + 1, 1, none⟩ = some (.int .i64 k) ∧ W.cell? ⟨b1, o1 + k.toNat, none⟩ = some (.string t)) (first
    | with_reducible exact hK0
    | with_reducible exact hK00
    | with_reducible exact hK1
    | with_reducible exact hK9) (first
    | (go_at_call 69; with_reducible refine Calls.mono HP.out ?_; rintro e wp ⟨u4, rfl, hp⟩; obtain ⟨⟨hB, hLb, hT⟩, hlt⟩ := HK2.out _ _ hp; have hK1 : wp.cell? ⟨w.heap.size, 0, none⟩ = some (.int .i64 q.win) ∧ wp.cell? ⟨w.heap.size, 1, none⟩ = some (.slice (some ⟨b1, o1, none⟩) q.sent.length c1) ∧ wp.cell? ⟨w.heap.size, 2, none⟩ = some (.int .i64 q.base) ∧ wp.cell? ⟨w.heap.size, 3, none⟩ = some (.slice a3 q.got.length c3) ∧ wp.cell? ⟨w.heap.size, 4, none⟩ = some (.slice a4 q.line.length c4) ∧ wp.cell? ⟨w.heap.size + 1, 1, none⟩ = some (.int .i64 k) ∧ wp.cell? ⟨b1, o1 + k.toNat, none⟩ = some (.string t) := ⟨hB.pen.1.1, hB.pen.1.2.1, hB.pen.1.2.2.1, hB.pen.1.2.2.2.1, hB.pen.1.2.2.2.2, hLb.trp.1.2.1, hT⟩; obtain ⟨x4, n4, k4, rfl⟩ := own_slice hp.own; obtain ⟨⟨e0, e1, e2, e3, e4⟩, f0, f1, f2, f3, f4⟩ := (HQ2.out.rb4 hp).pen; have hK9 := HK9.out wp (.int .i64 (putQ q ⟨false, k, t⟩).win) (.slice (some ⟨b1, o1, none⟩) q.sent.length c1) (.int .i64 (putQ q ⟨false, k, t⟩).base) (.slice a3 q.got.length c3) (.slice x4 n4 k4) hB hLb hT hlt _ rfl))
  all_goals
    obtain ⟨WZ, hWZ⟩ : ∃ WZ, ((((wp.setCell ⟨w.heap.size + 1 + 1, 0, none⟩ (.int .i64 (putQ q ⟨false, k, t⟩).win)).setCell ⟨w.heap.size + 1 + 1, 1, none⟩ (.slice (some ⟨b1, o1, none⟩) q.sent.length c1)).setCell ⟨w.heap.size + 1 + 1, 2, none⟩ (.int .i64 (putQ q ⟨false, k, t⟩).base)).setCell ⟨w.heap.size + 1 + 1, 3, none⟩ (.slice a3 q.got.length c3)).setCell ⟨w.heap.size + 1 + 1, 4, none⟩ (.slice x4 n4 k4) = WZ := ⟨_, rfl⟩
    obtain ⟨j1, -, j3⟩ := putW5 (B0 := 0) (w := wp) (HQ2.out.rb4 hp) (Below.refl 0 wp) (Nat.zero_le _) _ _ _ _ _ WZ hWZ
    have HFz := hide (And.intro j1 (HQ2.out.ans4 hp j3))
    have HWZ := hide hWZ
    clear hWZ j1 j3 hK1 hK9 hK0 hK00 hB hLb hT
    go_wp2
    rw [HWZ.out]
    clear e0 e1 e2 e3 e4 f0 f1 f2 f3 f4
    obtain ⟨⟨e0, e1, e2, e3, e4⟩, -⟩ := HFz.out.1.pen
    exact bodyPost_ret (v := .tuple #[qv (.slice (some ⟨b1, o1, none⟩) q.sent.length c1) (.slice a3 q.got.length c3) (.slice x4 n4 k4) (putQ q ⟨false, k, t⟩), .bool true]) (by simp [results, Try.results41, go_sem, e0, e1, e2, e3, e4]) rfl ⟨_, _, _, rfl, HFz.out.2⟩
set_option maxRecDepth 20000 in
set_option maxHeartbeats 8000000 in
theorem s2_full (v1 v3 v4 : Value) (q : Qu) (kind k : Int) (x : ByteArray) (lo : Nat) (w : World) (h : AnsQ w lo w.heap.size v1 v3 v4 q.sent q.got q.line) (hlo : lo ≤ w.heap.size) (hg : GoodQ q) (hk : kind = 2) (t : ByteArray) (ht : sAt q k = some t) (hl : q.line.length = 40) :
    Calls Try.prog 41 #[qv v1 v3 v4 q, .agg #[.int .i64 kind, .int .i64 k, .string x]] w fun e w' => Sto (MineL v1 v3 v4) lo w w' e (q) false := by
  obtain ⟨a1, c1, rfl⟩ := h.o1.form
  obtain ⟨a3, c3, rfl⟩ := h.o3.form
  obtain ⟨a4, c4, rfl⟩ := h.o4.form
  have hw0 := hg.w0
  have hw1 := hg.w1
  have hb0 := hg.b0
  have hbg := hg.bg
  have hgs := hg.gs
  have hs40 := hg.s40
  have hl40 := hg.l40
  obtain ⟨W, hW⟩ : ∃ W, (((w.alloc (.cells (qarr (.slice a1 q.sent.length c1) (.slice a3 q.got.length c3) (.slice a4 q.line.length c4) q) 32)).alloc (.cells #[.int .i64 kind, .int .i64 k, .string x] 36)).alloc (.cells #[.int .i64 0, .slice none 0 0, .int .i64 0, .slice none 0 0, .slice none 0 0] 32)) = W := ⟨_, rfl⟩
  have HQ := hide (show SQ (MineL (.slice a1 q.sent.length c1) (.slice a3 q.got.length c3) (.slice a4 q.line.length c4)) w W lo (.slice a1 q.sent.length c1) (.slice a3 q.got.length c3) (.slice a4 q.line.length c4) q ⟨kind, k, x⟩ from hW ▸ SQ.new h hlo ⟨kind, k, x⟩)
  have HW := hide hW
  have HSZ := hide (show W.heap.size = w.heap.size + 3 from by rw [← hW]; simp)
  clear hW
  subst hk
  have hwr : IntKind.i64.wrap (q.base + q.win) = q.base + q.win := by rw [IntKind.wrap_i64]; omega
  have hwr2 : IntKind.i64.wrap (q.base + q.win - 1) = q.base + q.win - 1 := by rw [IntKind.wrap_i64]; omega
  obtain ⟨t0, t1, t2, t3⟩ := sAt_some ht
  have hin : inB k q.base (q.base + q.win - 1) = true := (inB_iff _ _ _).2 ⟨t0, by omega⟩
  have i0 : 0 ≤ k := by omega
  have i1 : k < (q.sent.length : Int) := by omega
  have i2 : ¬ (q.sent.length : Int) ≤ k := by omega
  obtain ⟨a, c, hv1, hrr⟩ := h.o1.txs
  simp only [Value.slice.injEq, true_and] at hv1
  obtain ⟨rfl, rfl⟩ := hv1
  obtain ⟨b1, o1, rfl, hb1, hrow⟩ := hrr (by omega)
  have hx1 := hrow _ t t2
  have hW1 : W.cell? ⟨b1, o1 + k.toNat, none⟩ = some (.string t) := by
    have : W.heap[b1]? = w.heap[b1]? := by
      rw [← HW.out]
      exact ((((Below.refl w.heap.size w).alloc (Nat.le_refl _) _).alloc (by simp) _).alloc (by simp; omega) _).block b1 hb1
    simp only [World.cell?, this]
    simpa [World.cell?] using hx1
  have hK0 : W.drew.cell? ⟨w.heap.size, 0, none⟩ = some (.int .i64 q.win) ∧ W.drew.cell? ⟨w.heap.size, 1, none⟩ = some (.slice (some ⟨b1, o1, none⟩) q.sent.length c1) ∧ W.drew.cell? ⟨w.heap.size, 2, none⟩ = some (.int .i64 q.base) ∧ W.drew.cell? ⟨w.heap.size, 3, none⟩ = some (.slice a3 q.got.length c3) ∧ W.drew.cell? ⟨w.heap.size, 4, none⟩ = some (.slice a4 q.line.length c4) ∧ W.drew.cell? ⟨w.heap.size + 1, 1, none⟩ = some (.int .i64 k) ∧ W.drew.cell? ⟨b1, o1 + k.toNat, none⟩ = some (.string t) := ⟨HQ.out.pq.box.pen.1.1, HQ.out.pq.box.pen.1.2.1, HQ.out.pq.box.pen.1.2.2.1, HQ.out.pq.box.pen.1.2.2.2.1, HQ.out.pq.box.pen.1.2.2.2.2, HQ.out.lb.trp.1.2.1, hW1⟩
  have hK00 : W.cell? ⟨w.heap.size, 0, none⟩ = some (.int .i64 q.win) ∧ W.cell? ⟨w.heap.size, 1, none⟩ = some (.slice (some ⟨b1, o1, none⟩) q.sent.length c1) ∧ W.cell? ⟨w.heap.size, 2, none⟩ = some (.int .i64 q.base) ∧ W.cell? ⟨w.heap.size, 3, none⟩ = some (.slice a3 q.got.length c3) ∧ W.cell? ⟨w.heap.size, 4, none⟩ = some (.slice a4 q.line.length c4) ∧ W.cell? ⟨w.heap.size + 1, 1, none⟩ = some (.int .i64 k) ∧ W.cell? ⟨b1, o1 + k.toNat, none⟩ = some (.string t) := hK0
  have HP := hide (show Calls Try.prog 69 #[qv (.slice (some ⟨b1, o1, none⟩) q.sent.length c1) (.slice a3 q.got.length c3) (.slice a4 q.line.length c4) q, (⟨false, k, t⟩ : Pk).v] W.drew fun e w' => ∃ u4, e = .returned (.tuple #[qv (.slice (some ⟨b1, o1, none⟩) q.sent.length c1) (.slice a3 q.got.length c3) u4 (q), .bool false]) ∧ Put4 lo W.drew w' (.slice a4 q.line.length c4) u4 (q.line) from by
    have hd := (Below.refl W.heap.size W).drew
    have hq := (HQ.out.pq.down hd)
    refine (sput_no _ _ _ q (⟨false, k, t⟩ : Pk) _ hq.rd hl).mono ?_
    rintro e w' ⟨rfl, hb⟩
    exact ⟨_, rfl, hq.o4.down hb, Below.chg hb _, fun j e => .inl e⟩)
  have HAp := hide (show ∀ j, (Value.slice a4 q.line.length c4).ownBlock = some j → j < w.heap.size ∧ j ≠ b1 from fun j hj => ⟨h.h4 j hj, fun e => h.a14 b1 rfl (by rw [← e]; exact hj)⟩)
  have HQ2 := hide (HQ.out.down (Below.refl W.heap.size W).drew)
  have n1 : w.heap.size ≠ w.heap.size + 1 + 1 := by omega
  have n2 : w.heap.size + 1 ≠ w.heap.size + 1 + 1 := by omega
  have n3 : b1 ≠ w.heap.size + 1 + 1 := by omega
  have HK2 := hide (show ∀ w' u4, Put4 lo W.drew w' (.slice a4 q.line.length c4) u4 (q.line) → (Blk w' w.heap.size 5 (qf (.slice (some ⟨b1, o1, none⟩) q.sent.length c1) (.slice a3 q.got.length c3) (.slice a4 q.line.length c4) q) 32 ∧ Blk w' (w.heap.size + 1) 3 (ql ⟨2, k, x⟩) 36 ∧ w'.cell? ⟨b1, o1 + k.toNat, none⟩ = some (.string t)) ∧ b1 < w'.heap.size from fun w' u4 hp => by
    have hn : ∀ g, w.heap.size ≤ g → ¬ (fun j => (Value.slice a4 q.line.length c4).ownBlock = some j) g := fun g hg e => by have := (HAp.out g e).1; omega
    have hlt : b1 < W.drew.heap.size := by have := HSZ.out; show b1 < W.heap.size; omega
    refine ⟨⟨HQ2.out.pq.box.chg hp.chg (hn _ (Nat.le_refl _)), HQ2.out.lb.chg hp.chg (hn _ (by omega)), ?_⟩, Nat.lt_of_lt_of_le hlt hp.chg.size⟩
    have e1 := hp.chg.block b1 hlt (fun e => (HAp.out b1 e).2 rfl)
    have e2 : W.drew.cell? ⟨b1, o1 + k.toNat, none⟩ = some (.string t) := hW1
    simp only [World.cell?] at e2 ⊢
    rw [e1]; exact e2)
  have HK9 := hide (show ∀ (wp : World) (z1 z2 z3 z4 z5 : Value), Blk wp w.heap.size 5 (qf (.slice (some ⟨b1, o1, none⟩) q.sent.length c1) (.slice a3 q.got.length c3) (.slice a4 q.line.length c4) q) 32 → Blk wp (w.heap.size + 1) 3 (ql ⟨2, k, x⟩) 36 → wp.cell? ⟨b1, o1 + k.toNat, none⟩ = some (.string t) → b1 < wp.heap.size → ∀ W, ((((wp.setCell ⟨w.heap.size + 1 + 1, 0, none⟩ z1).setCell ⟨w.heap.size + 1 + 1, 1, none⟩ z2).setCell ⟨w.heap.size + 1 + 1, 2, none⟩ z3).setCell ⟨w.heap.size + 1 + 1, 3, none⟩ z4).setCell ⟨w.heap.size + 1 + 1, 4, none⟩ z5 = W → W.cell? ⟨w.heap.size, 0, none⟩ = some (.int .i64 q.win) ∧ W.cell? ⟨w.heap.size, 1, none⟩ = some (.slice (some ⟨b1, o1, none⟩) q.sent.length c1) ∧ W.cell? ⟨w.heap.size, 2, none⟩ = some (.int .i64 q.base) ∧ W.cell? ⟨w.heap.size, 3, none⟩ = some (.slice a3 q.got.length c3) ∧ W.cell? ⟨w.heap.size, 4, none⟩ = some (.slice a4 q.line.length c4) ∧ W.cell? ⟨w.heap.size + 1, 1, none⟩ = some (.int .i64 k) ∧ W.cell? ⟨b1, o1 + k.toNat, none⟩ = some (.string t) from fun wp z1 z2 z3 z4 z5 hB hL hT hlt W hW => by
    subst hW
    have g1 := (((((hB.set_other n1 0 z1).set_other n1 1 z2).set_other n1 2 z3).set_other n1 3 z4).set_other n1 4 z5).pen.1
    have g2 := (((((hL.set_other n2 0 z1).set_other n2 1 z2).set_other n2 2 z3).set_other n2 3 z4).set_other n2 4 z5).trp.1
    refine ⟨g1.1, g1.2.1, g1.2.2.1, g1.2.2.2.1, g1.2.2.2.2, g2.2.1, ?_⟩
    exact cell_so (cell_so (cell_so (cell_so (cell_so hT n3 hlt) n3 (by simpa using hlt)) n3 (by simpa using hlt)) n3 (by simpa using hlt)) n3 (by simpa using hlt))
  clear h hrr hrow ht t0 t1 t2 t3 hx1 hl
  go_enter Try.func41, Try.ntmps41
  go_upto_region 10 with (go_at_call 68; refine (spec_in _ _ _ _).mono ?_; rintro e w' ⟨rfl, rfl⟩; rw [hin])
  rw [HW.out]
  go_region_held3 (fun W => W.cell? ⟨w.heap.size, 0, none⟩ = some (.int .i64 q.win) ∧ W.cell? ⟨w.heap.size, 1, none⟩ = some (.slice (some ⟨b1, o1, none⟩) q.sent.length c1) ∧ W.cell? ⟨w.heap.size, 2, none⟩ = some (.int .i64 q.base) ∧ W.cell? ⟨w.heap.size, 3, none⟩ = some (.slice a3 q.got.length c3) ∧ W.cell? ⟨w.heap.size, 4, none⟩ = some (.slice a4 q.line.length c4) ∧ W.cell? ⟨w.heap.size + 1, 1, none⟩ = some (.int .i64 k) ∧ W.cell? ⟨b1, o1 + k.toNat, none⟩ = some (.string t)) (first
    | with_reducible exact hK0
    | with_reducible exact hK00
    | with_reducible exact hK1
    | with_reducible exact hK9) (first
    | (go_at_call 69; with_reducible refine Calls.mono HP.out ?_; rintro e wp ⟨u4, rfl, hp⟩; obtain ⟨⟨hB, hLb, hT⟩, hlt⟩ := HK2.out _ _ hp; have hK1 : wp.cell? ⟨w.heap.size, 0, none⟩ = some (.int .i64 q.win) ∧ wp.cell? ⟨w.heap.size, 1, none⟩ = some (.slice (some ⟨b1, o1, none⟩) q.sent.length c1) ∧ wp.cell? ⟨w.heap.size, 2, none⟩ = some (.int .i64 q.base) ∧ wp.cell? ⟨w.heap.size, 3, none⟩ = some (.slice a3 q.got.length c3) ∧ wp.cell? ⟨w.heap.size, 4, none⟩ = some (.slice a4 q.line.length c4) ∧ wp.cell? ⟨w.heap.size + 1, 1, none⟩ = some (.int .i64 k) ∧ wp.cell? ⟨b1, o1 + k.toNat, none⟩ = some (.string t) := ⟨hB.pen.1.1, hB.pen.1.2.1, hB.pen.1.2.2.1, hB.pen.1.2.2.2.1, hB.pen.1.2.2.2.2, hLb.trp.1.2.1, hT⟩; obtain ⟨x4, n4, k4, rfl⟩ := own_slice hp.own; obtain ⟨⟨e0, e1, e2, e3, e4⟩, f0, f1, f2, f3, f4⟩ := (HQ2.out.rb4 hp).pen; have hK9 := HK9.out wp (.int .i64 (q).win) (.slice (some ⟨b1, o1, none⟩) q.sent.length c1) (.int .i64 (q).base) (.slice a3 q.got.length c3) (.slice x4 n4 k4) hB hLb hT hlt _ rfl))
  all_goals
    obtain ⟨WZ, hWZ⟩ : ∃ WZ, ((((wp.setCell ⟨w.heap.size + 1 + 1, 0, none⟩ (.int .i64 (q).win)).setCell ⟨w.heap.size + 1 + 1, 1, none⟩ (.slice (some ⟨b1, o1, none⟩) q.sent.length c1)).setCell ⟨w.heap.size + 1 + 1, 2, none⟩ (.int .i64 (q).base)).setCell ⟨w.heap.size + 1 + 1, 3, none⟩ (.slice a3 q.got.length c3)).setCell ⟨w.heap.size + 1 + 1, 4, none⟩ (.slice x4 n4 k4) = WZ := ⟨_, rfl⟩
    obtain ⟨j1, -, j3⟩ := putW5 (B0 := 0) (w := wp) (HQ2.out.rb4 hp) (Below.refl 0 wp) (Nat.zero_le _) _ _ _ _ _ WZ hWZ
    have HFz := hide (And.intro j1 (HQ2.out.ans4 hp j3))
    have HWZ := hide hWZ
    clear hWZ j1 j3 hK1 hK9 hK0 hK00 hB hLb hT
    go_wp2
    rw [HWZ.out]
    clear e0 e1 e2 e3 e4 f0 f1 f2 f3 f4
    obtain ⟨⟨e0, e1, e2, e3, e4⟩, -⟩ := HFz.out.1.pen
    exact bodyPost_ret (v := .tuple #[qv (.slice (some ⟨b1, o1, none⟩) q.sent.length c1) (.slice a3 q.got.length c3) (.slice x4 n4 k4) (q), .bool false]) (by simp [results, Try.results41, go_sem, e0, e1, e2, e3, e4]) rfl ⟨_, _, _, rfl, HFz.out.2⟩
end Go.Proofs.Ytfjdbenbiakbbaa
