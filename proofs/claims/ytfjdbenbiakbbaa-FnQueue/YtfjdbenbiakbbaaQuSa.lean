/-
  A queue copied, and a list of packets without one: the specification's text.
-/
import Derived.Test.YtfjdbenbiakbbaaQuW
namespace Go.Proofs.Ytfjdbenbiakbbaa
open Go.RowKit M
namespace M
/-- A queue's lists, read, within their capacities. -/
structure QuC (w : World) (v1 v3 v4 : Value) (q : Qu) : Prop where
  s : TxC w v1 q.sent
  g : TxC w v3 q.got
  l : PkC w v4 q.line
theorem QuC.below {w w' : World} {v1 v3 v4 : Value} {q : Qu} (h : QuC w v1 v3 v4 q) (hb : Below w.heap.size w w') : QuC w' v1 v3 v4 q := ⟨h.s.below hb, h.g.below hb, h.l.below hb⟩
theorem AnsQ.c {w : World} {lo hi : Nat} {v1 v3 v4 : Value} {q : Qu} (h : AnsQ w lo hi v1 v3 v4 q.sent q.got q.line) : QuC w v1 v3 v4 q := ⟨h.o1.c, h.o3.c, h.o4.c⟩
section
variable {w W W' : World} {v1 v3 v4 : Value} {q : Qu}
theorem CQ.gb {row : Option Nat} (h : CQ w W v1 v3 v4 q) (hg : W.grownBy W' row) (hr : ∀ g, row = some g → w.heap.size + 2 ≤ g) : CQ w W' v1 v3 v4 q :=
  ⟨h.low.trans (gbT_low hg (fun g e => by have := hr g e; omega) h.low.size), h.arg.gb hg (fun e => by have := hr _ e.symm; omega), h.res.gb hg (fun e => by have := hr _ e.symm; omega), Nat.le_trans h.big hg.size⟩
theorem CQ.set1 (h : CQ w W v1 v3 v4 q) (u : Value) : CQ w (W.setCell ⟨w.heap.size, 1, none⟩ u) u v3 v4 q :=
  ⟨h.low.setCell (p := ⟨w.heap.size, 1, none⟩) (Nat.le_refl _) u, h.arg.pen1 u, h.res.set_other (by omega) _ _, by rw [World.size_setCell]; exact h.big⟩
theorem CQ.set3 (h : CQ w W v1 v3 v4 q) (u : Value) : CQ w (W.setCell ⟨w.heap.size, 3, none⟩ u) v1 u v4 q :=
  ⟨h.low.setCell (p := ⟨w.heap.size, 3, none⟩) (Nat.le_refl _) u, h.arg.pen3 u, h.res.set_other (by omega) _ _, by rw [World.size_setCell]; exact h.big⟩
theorem CQ.set4 (h : CQ w W v1 v3 v4 q) (u : Value) : CQ w (W.setCell ⟨w.heap.size, 4, none⟩ u) v1 v3 u q :=
  ⟨h.low.setCell (p := ⟨w.heap.size, 4, none⟩) (Nat.le_refl _) u, h.arg.pen4 u, h.res.set_other (by omega) _ _, by rw [World.size_setCell]; exact h.big⟩
end
end M
set_option maxRecDepth 20000 in
set_option maxHeartbeats 4000000 in
theorem own_queue (v1 v3 v4 : Value) (q : Qu) (w : World) (hv : QuC w v1 v3 v4 q) (hs : ShortQ q) :
    Calls Try.prog 42 #[qv v1 v3 v4 q] w fun e w' => (∃ u1 u3 u4, e = .returned (qv u1 u3 u4 q) ∧ AnsQ w' w.heap.size w'.heap.size u1 u3 u4 q.sent q.got q.line) ∧ Below w.heap.size w w' := by
  have HY := hide hv
  have HS := hide hs
  obtain ⟨a1, c1, rfl⟩ := hv.s.1.form
  obtain ⟨a3, c3, rfl⟩ := hv.g.1.form
  obtain ⟨a4, c4, rfl⟩ := hv.l.1.form
  clear hv hs
  obtain ⟨A, hA⟩ : ∃ A, (w.alloc (.cells (qarr (.slice a1 q.sent.length c1) (.slice a3 q.got.length c3) (.slice a4 q.line.length c4) q) 32)).alloc (.cells #[.int .i64 0, .slice none 0 0, .int .i64 0, .slice none 0 0, .slice none 0 0] 32) = A := ⟨_, rfl⟩
  have HAsz := hide (show A.heap.size = w.heap.size + 2 from by rw [← hA]; simp)
  have HT := hide (show CQ w A (.slice a1 q.sent.length c1) (.slice a3 q.got.length c3) (.slice a4 q.line.length c4) q from hA ▸ CQ.new w _ _ _ q)
  have HA := hide hA
  clear hA
  go_enter Try.func42, Try.ntmps42
  go_upto_region 1 with fail
  rw [HA.out]
  clear HA
  have hd1 := (Below.refl A.heap.size A).alloc (Nat.le_refl _) (.cells #[] 9)
  have hT1 := HT.out.down hd1
  have hY1 := HY.out.below hT1.low
  have hown1 := OwnT.lit0 A
  have hb1 : w.heap.size + 2 ≤ A.heap.size := HT.out.big
  obtain ⟨⟨-, y, -, -, -⟩, -⟩ := hT1.arg.pen
  go_wp2_with (at_builtin; refine wpList_app _ rfl _ _ rfl A.heap.size [] q.sent _ _ rfl hown1 rfl hY1.s (by have := HS.out.s; simp; omega) (by simp) ?_)
  intro x1 n1 k1 w1 hO1 hgr1 _
  have hU1 := hT1.gb hgr1 (fun g hg => Nat.le_trans hb1 (hown1.lt hg).1)
  have hP1 : OwnT w1 A.heap.size (.slice x1 n1 k1) q.sent := hO1
  obtain ⟨⟨-, z, -, -, -⟩, -, fz, -, -, -⟩ := hU1.arg.pen
  obtain ⟨V1, hV1⟩ : ∃ V, w1.setCell ⟨w.heap.size, 1, none⟩ (.slice x1 n1 k1) = V := ⟨_, rfl⟩
  have HT1' := hide (show CQ w V1 (.slice x1 n1 k1) (.slice a3 q.got.length c3) (.slice a4 q.line.length c4) q from by rw [← hV1]; exact hU1.set1 _)
  have HN1 := hide (show OwnT V1 A.heap.size (.slice x1 n1 k1) q.sent from by rw [← hV1]; exact owns_set hP1 (fun e => by have := (hP1.lt e).1; omega) _ _)
  have HSz1 := hide (show A.heap.size ≤ V1.heap.size ∧ ∀ g, (Value.slice x1 n1 k1).ownBlock = some g → A.heap.size ≤ g ∧ g < V1.heap.size from ⟨by rw [← hV1, World.size_setCell]; exact Nat.le_trans hd1.size hgr1.size, fun g hg => (HN1.out.lt hg)⟩)
  have HVV := hide hV1
  clear hV1 hP1 hU1 hO1 hgr1 hown1 hY1 hT1 hd1 hb1 y HT
  have HT := hide HT1'.out
  have HO1 := hide HN1.out
  clear HT1' HN1
  go_upto_region 2 with fail
  rw [HVV.out]
  clear HVV z fz
  have hd3 := (Below.refl V1.heap.size V1).alloc (Nat.le_refl _) (.cells #[] 9)
  have hT3 := HT.out.down hd3
  have hY3 := HY.out.below hT3.low
  have hown3 := OwnT.lit0 V1
  have hb3 : w.heap.size + 2 ≤ V1.heap.size := HT.out.big
  obtain ⟨⟨-, -, -, y, -⟩, -⟩ := hT3.arg.pen
  have hO13 := HO1.out.down hd3
  go_wp2_with (at_builtin; refine wpList_app _ rfl _ _ rfl V1.heap.size [] q.got _ _ rfl hown3 rfl hY3.g (by have := HS.out.g; simp; omega) (by simp) ?_)
  intro x3 n3 k3 w3 hO3 hgr3 _
  have hU3 := hT3.gb hgr3 (fun g hg => Nat.le_trans hb3 (hown3.lt hg).1)
  have hP3 : OwnT w3 V1.heap.size (.slice x3 n3 k3) q.got := hO3
  obtain ⟨⟨-, -, -, z, -⟩, -, -, -, fz, -⟩ := hU3.arg.pen
  obtain ⟨V3, hV3⟩ : ∃ V, w3.setCell ⟨w.heap.size, 3, none⟩ (.slice x3 n3 k3) = V := ⟨_, rfl⟩
  have HT3' := hide (show CQ w V3 (.slice x1 n1 k1) (.slice x3 n3 k3) (.slice a4 q.line.length c4) q from by rw [← hV3]; exact hU3.set3 _)
  have HN3 := hide (show OwnT V3 V1.heap.size (.slice x3 n3 k3) q.got from by rw [← hV3]; exact owns_set hP3 (fun e => by have := (hP3.lt e).1; omega) _ _)
  have HN13 := hide (show OwnT V3 A.heap.size (.slice x1 n1 k1) q.sent from by
    rw [← hV3]
    exact owns_set (owns_other hO13 hgr3 (fun g hg e => by have h1 := (HO1.out.lt hg).2; have h2 := (hown3.lt e.symm).1; omega)) (fun e => by have := (hO13.lt e).1; have := HAsz.out; omega) _ _)
  have HSz3 := hide (show V1.heap.size ≤ V3.heap.size ∧ ∀ g, (Value.slice x3 n3 k3).ownBlock = some g → V1.heap.size ≤ g ∧ g < V3.heap.size from ⟨by rw [← hV3, World.size_setCell]; exact Nat.le_trans hd3.size hgr3.size, fun g hg => (HN3.out.lt hg)⟩)
  have HVV := hide hV3
  clear hV3 hP3 hU3 hO3 hgr3 hown3 hY3 hT3 hd3 hb3 y HT HO1 hO13
  have HT := hide HT3'.out
  have HO3 := hide HN3.out
  have HO1 := hide HN13.out
  clear HT3' HN3 HN13
  go_upto_region 3 with fail
  rw [HVV.out]
  clear HVV z fz
  have hd4 := (Below.refl V3.heap.size V3).alloc (Nat.le_refl _) (.cells #[] 88)
  have hT4 := HT.out.down hd4
  have hY4 := HY.out.below hT4.low
  have hown4 := OwnP.lit0 V3
  have hb4 : w.heap.size + 2 ≤ V3.heap.size := HT.out.big
  obtain ⟨⟨-, -, -, -, y⟩, -⟩ := hT4.arg.pen
  have hO14 := HO1.out.down hd4
  have hO34 := HO3.out.down hd4
  go_wp2_with (at_builtin; refine wpList_appP _ rfl _ _ rfl V3.heap.size [] q.line _ _ rfl hown4 rfl hY4.l (by have := HS.out.l; simp; omega) (by simp) ?_)
  intro x4 n4 k4 w4 hO4 hgr4 _
  have hU4 := hT4.gb hgr4 (fun g hg => Nat.le_trans hb4 (hown4.lt hg).1)
  have hP4 : OwnP w4 V3.heap.size (.slice x4 n4 k4) q.line := hO4
  obtain ⟨⟨-, -, -, -, z⟩, -, -, -, -, fz⟩ := hU4.arg.pen
  obtain ⟨V4, hV4⟩ : ∃ V, w4.setCell ⟨w.heap.size, 4, none⟩ (.slice x4 n4 k4) = V := ⟨_, rfl⟩
  have HT4' := hide (show CQ w V4 (.slice x1 n1 k1) (.slice x3 n3 k3) (.slice x4 n4 k4) q from by rw [← hV4]; exact hU4.set4 _)
  have HN4 := hide (show OwnP V4 V3.heap.size (.slice x4 n4 k4) q.line from by rw [← hV4]; exact owns_set hP4 (fun e => by have := (hP4.lt e).1; omega) _ _)
  have HN14 := hide (show OwnT V4 A.heap.size (.slice x1 n1 k1) q.sent from by
    rw [← hV4]
    exact owns_set (owns_other hO14 hgr4 (fun g hg e => by have h1 := (HO1.out.lt hg).2; have h2 := (hown4.lt e.symm).1; omega)) (fun e => by have := (hO14.lt e).1; have := HAsz.out; omega) _ _)
  have HN34 := hide (show OwnT V4 V1.heap.size (.slice x3 n3 k3) q.got from by
    rw [← hV4]
    exact owns_set (owns_other hO34 hgr4 (fun g hg e => by have h1 := (HO3.out.lt hg).2; have h2 := (hown4.lt e.symm).1; omega)) (fun e => by have := (hO34.lt e).1; have := HAsz.out; have := HSz1.out.1; omega) _ _)
  have HSz4 := hide (show V3.heap.size ≤ V4.heap.size ∧ ∀ g, (Value.slice x4 n4 k4).ownBlock = some g → V3.heap.size ≤ g ∧ g < V4.heap.size from ⟨by rw [← hV4, World.size_setCell]; exact Nat.le_trans hd4.size hgr4.size, fun g hg => (HN4.out.lt hg)⟩)
  have HVV := hide hV4
  clear hV4 hP4 hU4 hO4 hgr4 hown4 hY4 hT4 hd4 hb4 y HT HO1 hO14 HO3 hO34
  have HT := hide HT4'.out
  have HO4 := hide HN4.out
  have HO1 := hide HN14.out
  have HO3 := hide HN34.out
  clear HT4' HN4 HN14 HN34
  go_upto_region 4 with fail
  rw [HVV.out]
  clear HVV z fz
  obtain ⟨⟨y0, y1, y2, y3, y4⟩, -⟩ := HT.out.arg.pen
  obtain ⟨⟨e0, e1, e2, e3, e4⟩, f0, f1, f2, f3, f4⟩ := HT.out.res.pen
  obtain ⟨WZ, hWZ⟩ : ∃ WZ, ((((V4.setCell ⟨w.heap.size + 1, 0, none⟩ (.int .i64 q.win)).setCell ⟨w.heap.size + 1, 1, none⟩ (.slice x1 n1 k1)).setCell ⟨w.heap.size + 1, 2, none⟩ (.int .i64 q.base)).setCell ⟨w.heap.size + 1, 3, none⟩ (.slice x3 n3 k3)).setCell ⟨w.heap.size + 1, 4, none⟩ (.slice x4 n4 k4) = WZ := ⟨_, rfl⟩
  obtain ⟨j1, j2, j3⟩ := putW5 HT.out.res HT.out.low (by omega) _ _ _ _ _ WZ hWZ
  have HAb := hide (show w.heap.size + 2 ≤ A.heap.size from by have := HAsz.out; omega)
  have HF := hide (show AnsQ WZ w.heap.size WZ.heap.size (.slice x1 n1 k1) (.slice x3 n3 k3) (.slice x4 n4 k4) q.sent q.got q.line from by
    have g0 := HAb.out
    have g1 := HSz1.out
    have g3 := HSz3.out
    have g4 := HSz4.out
    refine AnsQ.of ((HO1.out.other j3 (fun k hk e => ?_)).mono (by omega)) ((HO3.out.other j3 (fun k hk e => ?_)).mono (by omega)) ((HO4.out.other j3 (fun k hk e => ?_)).mono (by omega)) (fun k hk e => ?_) (fun k hk e => ?_) (fun k hk e => ?_)
    · have := (HO1.out.lt hk).1; simp only [Option.some.injEq] at e; omega
    · have := (HO3.out.lt hk).1; simp only [Option.some.injEq] at e; omega
    · have := (HO4.out.lt hk).1; simp only [Option.some.injEq] at e; omega
    · have := g1.2 k hk; have := g3.2 k e; omega
    · have := g1.2 k hk; have := g4.2 k e; omega
    · have := g3.2 k hk; have := g4.2 k e; omega)
  have HJ := hide (And.intro j1 j2)
  have HWZ := hide hWZ
  clear j1 j2 j3 hWZ HT HO1 HO3 HO4 HSz1 HSz3 HSz4
  go_wp2
  rw [HWZ.out]
  clear e0 e1 e2 e3 e4 f0 f1 f2 f3 f4
  obtain ⟨⟨e0, e1, e2, e3, e4⟩, -⟩ := HJ.out.1.pen
  exact bodyPost_ret (v := qv (.slice x1 n1 k1) (.slice x3 n3 k3) (.slice x4 n4 k4) q) (by simp [results, Try.results42, go_sem, e0, e1, e2, e3, e4]) rfl ⟨⟨_, _, _, rfl, HF.out⟩, HJ.out.2⟩
namespace M
/-- An append whose run is known, as one step of a region that draws. -/
theorem step_append_run {P : Program} {ops : Array Oper} {o : Oper} {a : Act} {w w' : World} {K : Act → World → Prop} {Q : Exit → Act → World → Prop} {E : Prop} {v : Value}
    (hg : o.guard = none) (s x : Operand) (t : TypeId) (hop : o.op = Op.call { callee := Callee.builtin Builtin.append, args := #[s, x], argTypes := #[t, t] }) (vs vx : Value) (hs : a.eval s = vs) (hx : a.eval x = vx)
    (hrun : (Builtin.append_ #[t, t] o.type #[vs, vx]).run P w = .ok v w') (hK : K (a.put o.dst v) w') :
    if Region.wanted o (yielded ops a.tmps) = true then Oper.wp P o a w K Q else E := by
  have hw : Region.wanted o (yielded ops a.tmps) = true := by simp [Region.wanted, hg]
  rw [if_pos hw]
  unfold Oper.wp
  simp [execOp, hop, resolve, invoke, builtin, hs, hx, hrun, Result.andThen]
  exact hK
/-- Packets appended to a row of the call's own. -/
theorem run_appP (w : World) (ty B : Nat) (l0 l : Pks) (v u : Value) (hown : OwnP w B v l0) (hu : PkC w u l) (hl : l0.length + l.length ≤ 2097152) (hbase : B ≤ w.heap.size) :
    ∃ a' n' c' w', (Builtin.append_ #[30, 30] ty #[v, u]).run Try.prog w = .ok (.slice a' n' c') w' ∧ OwnP w' B (.slice a' n' c') (l0 ++ l) ∧ w.grownBy w' v.ownBlock ∧ ((Value.slice a' n' c').ownBlock = v.ownBlock ∨ (Value.slice a' n' c').ownBlock = some w.heap.size) := by
  obtain ⟨i0, hi, hz0, hz1, hz2⟩ := info_parts info_pk
  obtain ⟨au, cu, rfl, -, hn, hrow⟩ := hu.parts
  cases au with
  | none =>
    obtain ⟨rfl, rfl⟩ := hn rfl
    have hr := run_append_owned_none (P := Try.prog) (w := w) B 30 ty 88 i0 3 Try.underlying30 hi _ _ _ hown
    obtain ⟨a', c', rfl⟩ := hown.form
    exact ⟨_, _, _, _, hr, by rw [List.append_nil]; exact hown, gbT_refl w _, .inl rfl⟩
  | some ad =>
    obtain ⟨v', w', hr, hown', hgr, -, hblk⟩ := run_append_own_at (P := Try.prog) (w := w) B 30 ty 88 i0 _ 3 32 Try.underlying30 hi hz0 hz1 hz2 rfl (by decide) v _ _ hown ad l.length cu (cellsP l) (cellsP_len l) hu.1.src (cellsP_one l) (by unfold maxLen; omega) (by omega) hbase
    have hO : OwnP w' B v' (l0 ++ l) := by
      unfold OwnP
      rw [List.length_append, cellsP_app]; exact hown'
    obtain ⟨a', c', rfl⟩ := hO.form
    exact ⟨_, _, _, _, hr, hO, hgr, hblk⟩
end M
end Go.Proofs.Ytfjdbenbiakbbaa
