/-
  A queue copied, a step that is told, and a queue that is drained: the program's text.
-/
import Derived.Test.YtfjdbenbiakbbaaQuV
import Derived.Test.YtfjdbenbiakbbaaQuD
namespace Go.Proofs.Ytfjdbenbiakbbaa
open Go.RowKit M
open Go.Sort (grow)
namespace M
/-- While a queue is copied: the argument's box and that of the answer. -/
structure CQ (w W : World) (v1 v3 v4 : Value) (q : Qu) : Prop where
  low : Below w.heap.size w W
  arg : Blk W w.heap.size 5 (qf v1 v3 v4 q) 32
  res : Blk W (w.heap.size + 1) 5 (w5 (.int .i64 0) (.slice none 0 0) (.int .i64 0) (.slice none 0 0) (.slice none 0 0)) 32
  big : w.heap.size + 2 ≤ W.heap.size
theorem CQ.down {w W W' : World} {v1 v3 v4 : Value} {q : Qu} (h : CQ w W v1 v3 v4 q) (hb : Below W.heap.size W W') : CQ w W' v1 v3 v4 q :=
  ⟨h.low.trans (hb.mono h.low.size), h.arg.down hb, h.res.down hb, Nat.le_trans h.big hb.size⟩
theorem CQ.new (w : World) (v1 v3 v4 : Value) (q : Qu) : CQ w ((w.alloc (.cells (qarr v1 v3 v4 q) 32)).alloc (.cells #[.int .i64 0, .slice none 0 0, .int .i64 0, .slice none 0 0, .slice none 0 0] 32)) v1 v3 v4 q := by
  refine ⟨((Below.refl _ w).alloc (Nat.le_refl _) _).alloc (by simp) _, (newW5 w _ _ _ _ _ 32).alloc _, ?_, by simp⟩
  have := newW5 (w.alloc (.cells (qarr v1 v3 v4 q) 32)) (.int .i64 0) (.slice none 0 0) (.int .i64 0) (.slice none 0 0) (.slice none 0 0) 32
  rw [World.size_alloc] at this; exact this
theorem GoodQ.sent12 {q : Qu} (h : GoodQ q) : ∀ x ∈ q.sent, x.size ≤ 12 := fun x hx => by
  obtain ⟨i, hi⟩ := List.getElem?_of_mem hx
  exact h.tx i x hi
theorem GoodQ.got12 {q : Qu} (h : GoodQ q) : ∀ x ∈ q.got, x.size ≤ 12 := fun x hx => by
  rw [got_take h] at hx
  exact h.sent12 x (List.mem_of_mem_take hx)
theorem GoodQ.line12 {q : Qu} (h : GoodQ q) : ∀ p ∈ q.line, p.tx.size ≤ 12 := fun p hp => by
  obtain ⟨i, hi⟩ := List.getElem?_of_mem hp
  exact h.tx12 hi
theorem GoodQ.short {q : Qu} (h : GoodQ q) : ShortQ q := ⟨by have := h.s40; omega, by have := h.s40; have := h.gs; omega, by have := h.l40; omega⟩
end M
set_option maxRecDepth 20000 in
set_option maxHeartbeats 8000000 in
theorem copy_queue (v1 v3 v4 : Value) (q : Qu) (w : World) (hv : QuQ w v1 v3 v4 q) (hg : GoodQ q) :
    Calls Try.prog 45 #[qv v1 v3 v4 q] w fun e w' => (∃ u1 u3 u4, e = .returned (qv u1 u3 u4 q) ∧ AnsQ w' w.heap.size w'.heap.size u1 u3 u4 q.sent q.got q.line) ∧ Below w.heap.size w w' := by
  have HY := hide hv
  have HG := hide hg
  have HS := hide hg.short
  obtain ⟨a1, c1, rfl⟩ := hv.s.form
  obtain ⟨a3, c3, rfl⟩ := hv.g.form
  obtain ⟨a4, c4, rfl⟩ := hv.l.form
  clear hv hg
  obtain ⟨A, hA⟩ : ∃ A, (w.alloc (.cells (qarr (.slice a1 q.sent.length c1) (.slice a3 q.got.length c3) (.slice a4 q.line.length c4) q) 32)).alloc (.cells #[.int .i64 0, .slice none 0 0, .int .i64 0, .slice none 0 0, .slice none 0 0] 32) = A := ⟨_, rfl⟩
  have hC0 : CQ w A (.slice a1 q.sent.length c1) (.slice a3 q.got.length c3) (.slice a4 q.line.length c4) q := hA ▸ CQ.new w _ _ _ q
  have hC0d : CQ w A.drew (.slice a1 q.sent.length c1) (.slice a3 q.got.length c3) (.slice a4 q.line.length c4) q := hC0.down (Below.refl _ _).drew
  have HA := hide hA
  have HK := hide (show ∀ W, CQ w W (.slice a1 q.sent.length c1) (.slice a3 q.got.length c3) (.slice a4 q.line.length c4) q → W.cell? ⟨w.heap.size, 0, none⟩ = some (.int .i64 q.win) ∧ W.cell? ⟨w.heap.size, 1, none⟩ = some (.slice a1 q.sent.length c1) ∧ W.cell? ⟨w.heap.size, 2, none⟩ = some (.int .i64 q.base) ∧ W.cell? ⟨w.heap.size, 3, none⟩ = some (.slice a3 q.got.length c3) ∧ W.cell? ⟨w.heap.size, 4, none⟩ = some (.slice a4 q.line.length c4) from fun W h => ⟨h.arg.pen.1.1, h.arg.pen.1.2.1, h.arg.pen.1.2.2.1, h.arg.pen.1.2.2.2.1, h.arg.pen.1.2.2.2.2⟩)
  have HT1 := hide (show ∀ W, CQ w W (.slice a1 q.sent.length c1) (.slice a3 q.got.length c3) (.slice a4 q.line.length c4) q → Calls Try.prog 72 #[.slice a1 q.sent.length c1] W fun e W' => (∃ a n c, e = .returned (.slice a n c) ∧ OwnT W' W.heap.size (.slice a n c) q.sent) ∧ CQ w W' (.slice a1 q.sent.length c1) (.slice a3 q.got.length c3) (.slice a4 q.line.length c4) q ∧ Below W.heap.size W W' from fun W h => (copy_names _ q.sent W (HY.out.s.below h.low) HS.out.s HG.out.sent12).mono (by
    rintro e W' ⟨hh, hb⟩
    exact ⟨hh, h.down hb, hb⟩))
  have HT3 := hide (show ∀ W, CQ w W (.slice a1 q.sent.length c1) (.slice a3 q.got.length c3) (.slice a4 q.line.length c4) q → Calls Try.prog 72 #[.slice a3 q.got.length c3] W fun e W' => (∃ a n c, e = .returned (.slice a n c) ∧ OwnT W' W.heap.size (.slice a n c) q.got) ∧ CQ w W' (.slice a1 q.sent.length c1) (.slice a3 q.got.length c3) (.slice a4 q.line.length c4) q ∧ Below W.heap.size W W' from fun W h => (copy_names _ q.got W (HY.out.g.below h.low) HS.out.g HG.out.got12).mono (by
    rintro e W' ⟨hh, hb⟩
    exact ⟨hh, h.down hb, hb⟩))
  have HT4 := hide (show ∀ W, CQ w W (.slice a1 q.sent.length c1) (.slice a3 q.got.length c3) (.slice a4 q.line.length c4) q → Calls Try.prog 73 #[.slice a4 q.line.length c4] W fun e W' => (∃ a n c, e = .returned (.slice a n c) ∧ OwnP W' W.heap.size (.slice a n c) q.line) ∧ CQ w W' (.slice a1 q.sent.length c1) (.slice a3 q.got.length c3) (.slice a4 q.line.length c4) q ∧ Below W.heap.size W W' from fun W h => (copy_line _ q.line W (HY.out.l.below h.low) HS.out.l HG.out.line12).mono (by
    rintro e W' ⟨hh, hb⟩
    exact ⟨hh, h.down hb, hb⟩))
  have n1 : w.heap.size ≠ w.heap.size + 1 := by omega
  clear hA
  go_enter Try.func45, Try.ntmps45
  go_upto_region 1 with fail
  rw [HA.out]
  go_region_held3 (fun W => W.cell? ⟨w.heap.size, 0, none⟩ = some (.int .i64 q.win) ∧ W.cell? ⟨w.heap.size, 1, none⟩ = some (.slice a1 q.sent.length c1) ∧ W.cell? ⟨w.heap.size, 2, none⟩ = some (.int .i64 q.base) ∧ W.cell? ⟨w.heap.size, 3, none⟩ = some (.slice a3 q.got.length c3) ∧ W.cell? ⟨w.heap.size, 4, none⟩ = some (.slice a4 q.line.length c4)) (first
    | with_reducible exact HK.out _ hC0d
    | with_reducible exact HK.out _ hC0
    | with_reducible exact HK.out _ hC1
    | with_reducible exact HK.out _ hC2
    | with_reducible exact HK.out _ hC3
    | with_reducible exact hKS) (first
    | (go_at_call_of 72 (Value.slice a1 q.sent.length c1); with_reducible refine Calls.mono (HT1.out _ (by first | with_reducible exact hC0d | with_reducible exact hC0)) ?_; rintro e wa ⟨⟨x1, n1', k1, rfl, hO1⟩, hC1, hb1⟩)
    | (go_at_call_of 72 (Value.slice a3 q.got.length c3); with_reducible refine Calls.mono (HT3.out _ (by with_reducible exact hC1)) ?_; rintro e wb ⟨⟨x3, n3', k3, rfl, hO3⟩, hC2, hb2⟩)
    | (go_at_call 73; with_reducible refine Calls.mono (HT4.out _ (by with_reducible exact hC2)) ?_; rintro e wc ⟨⟨x4, n4', k4, rfl, hO4⟩, hC3, hb3⟩; obtain ⟨⟨e0, e1, e2, e3, e4⟩, f0, f1, f2, f3, f4⟩ := hC3.res.pen; have hKS := (((((hC3.arg.set_other n1 0 (.int .i64 q.win)).set_other n1 1 (.slice x1 n1' k1)).set_other n1 2 (.int .i64 q.base)).set_other n1 3 (.slice x3 n3' k3)).set_other n1 4 (.slice x4 n4' k4)).pen.1))
  all_goals
    obtain ⟨WZ, hWZ⟩ : ∃ WZ, ((((wc.setCell ⟨w.heap.size + 1, 0, none⟩ (.int .i64 q.win)).setCell ⟨w.heap.size + 1, 1, none⟩ (.slice x1 n1' k1)).setCell ⟨w.heap.size + 1, 2, none⟩ (.int .i64 q.base)).setCell ⟨w.heap.size + 1, 3, none⟩ (.slice x3 n3' k3)).setCell ⟨w.heap.size + 1, 4, none⟩ (.slice x4 n4' k4) = WZ := ⟨_, rfl⟩
    obtain ⟨j1, j2, j3⟩ := putW5 hC3.res hC3.low (by omega) _ _ _ _ _ WZ hWZ
    have HF := hide (show AnsQ WZ w.heap.size WZ.heap.size (.slice x1 n1' k1) (.slice x3 n3' k3) (.slice x4 n4' k4) q.sent q.got q.line from by
      have g0 := hC0.big
      have g1 := hC1.big
      have g2 := hC2.big
      have g0d : A.drew.heap.size = A.heap.size := rfl
      have o1 := (hO1.down hb2).down hb3
      have o3 := hO3.down hb3
      refine AnsQ.of ((o1.other j3 (fun k hk e => ?_)).mono (by omega)) ((o3.other j3 (fun k hk e => ?_)).mono (by omega)) ((hO4.other j3 (fun k hk e => ?_)).mono (by omega)) (fun k hk e => ?_) (fun k hk e => ?_) (fun k hk e => ?_)
      · have := (o1.lt hk).1; simp only [Option.some.injEq] at e; omega
      · have := (o3.lt hk).1; simp only [Option.some.injEq] at e; omega
      · have := (hO4.lt hk).1; simp only [Option.some.injEq] at e; omega
      · have := (hO1.lt hk).2; have := (hO3.lt e).1; omega
      · have := (hO1.lt hk).2; have := (hO4.lt e).1; have := hb2.size; omega
      · have := (hO3.lt hk).2; have := (hO4.lt e).1; omega)
    have HJ := hide (And.intro j1 j2)
    have HWZ := hide hWZ
    clear j1 j2 j3 hWZ hKS hO1 hO3 hO4 hb1 hb2 hb3 hC0 hC0d hC1 hC2 hC3 HK HT1 HT3 HT4
    go_wp2
    rw [HWZ.out]
    clear e0 e1 e2 e3 e4 f0 f1 f2 f3 f4
    obtain ⟨⟨e0, e1, e2, e3, e4⟩, -⟩ := HJ.out.1.pen
    exact bodyPost_ret (v := qv (.slice x1 n1' k1) (.slice x3 n3' k3) (.slice x4 n4' k4) q) (by simp [results, Try.results45, go_sem, e0, e1, e2, e3, e4]) rfl ⟨⟨_, _, _, rfl, HF.out⟩, HJ.out.2⟩
end Go.Proofs.Ytfjdbenbiakbbaa
