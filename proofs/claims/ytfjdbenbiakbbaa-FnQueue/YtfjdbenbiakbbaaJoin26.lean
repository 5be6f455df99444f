/-
  Texts that follow one another, joined: QuSa, QuSb.
-/
import Derived.Test.YtfjdbenbiakbbaaJoin23
/-
  A queue copied, and a list of packets without one: the specification's text.
-/
namespace Go.Proofs.Ytfjdbenbiakbbaa
open Go.RowKit M
namespace M
/-- A queue's lists, read, within their capacities. -/
structure QuC (w : World) (v1 v3 v4 : Value) (q : Qu) : Prop where
  s : TxC w v1 q.sent
  g : TxC w v3 q.got
  l : PkC w v4 q.line
theorem QuC.below {w w' : World} {v1 v3 v4 : Value} {q : Qu} (h : QuC w v1 v3 v4 q) (hb : Below w.heap.size w w') : QuC w' v1 v3 v4 q := ⟨h.s.below hb, h.g.below hb, h.l.below hb⟩
theorem AnsQ.c {w : World} {lo hi : Nat} {v1 v3 v4 : Value} {q : Qu} (h : AnsQ w lo hi v1 v3 v4 q.sent q.got q.line) : QuC w v1 v3 v4 q := ⟨h.o1.c, h.o3.c, h.o4.c⟩
section
variable {w W W' : World} {v1 v3 v4 : Value} {q : Qu}
theorem CQ.gb {row : Option Nat} (h : CQ w W v1 v3 v4 q) (hg : W.grownBy W' row) (hr : ∀ g, row = some g → w.heap.size + 2 ≤ g) : CQ w W' v1 v3 v4 q :=
  ⟨h.low.trans (gbT_low hg (fun g e => by have := hr g e; omega) h.low.size), h.arg.gb hg (fun e => by have := hr _ e.symm; omega), h.res.gb hg (fun e => by have := hr _ e.symm; omega), Nat.le_trans h.big hg.size⟩
theorem CQ.set1 (h : CQ w W v1 v3 v4 q) (u : Value) : CQ w (W.setCell ⟨w.heap.size, 1, none⟩ u) u v3 v4 q :=
  ⟨h.low.setCell (p := ⟨w.heap.size, 1, none⟩) (Nat.le_refl _) u, h.arg.pen1 u, h.res.set_other (by omega) _ _, by rw [World.size_setCell]; exact h.big⟩
theorem CQ.set3 (h : CQ w W v1 v3 v4 q) (u : Value) : CQ w (W.setCell ⟨w.heap.size, 3, none⟩ u) v1 u v4 q :=
  ⟨h.low.setCell (p := ⟨w.heap.size, 3, none⟩) (Nat.le_refl _) u, h.arg.pen3 u, h.res.set_other (by omega) _ _, by rw [World.size_setCell]; exact h.big⟩
theorem CQ.set4 (h : CQ w W v1 v3 v4 q) (u : Value) : CQ w (W.setCell ⟨w.heap.size, 4, none⟩ u) v1 v3 u q :=
  ⟨h.low.setCell (p := ⟨w.heap.size, 4, none⟩) (Nat.le_refl _) u, h.arg.pen4 u, h.res.set_other (by omega) _ _, by rw [World.size_setCell]; exact h.big⟩
end
end M
set_option maxRecDepth 20000 in
set_option maxHeartbeats 4000000 in
theorem own_queue (v1 v3 v4 : Value) (q : Qu) (w : World) (hv : QuC w v1 v3 v4 q) (hs : ShortQ q) :
    Calls Try.prog 42 #[qv v1 v3 v4 q] w fun e w' => (∃ u1 u3 u4, e = .returned (qv u1 u3 u4 q) ∧ AnsQ w' w.heap.size w'.heap.size u1 u3 u4 q.sent q.got q.line) ∧ Below w.heap.size w w' := by
  have HY := hide hv
  have HS := hide hs
  obtain ⟨a1, c1, rfl⟩ := hv.s.1.form
  obtain ⟨a3, c3, rfl⟩ := hv.g.1.form
  obtain ⟨a4, c4, rfl⟩ := hv.l.1.form
  clear hv hs
  obtain ⟨A, hA⟩ : ∃ A, (w.alloc (.cells (qarr (.slice a1 q.sent.length c1) (.slice a3 q.got.length c3) (.slice a4 q.line.length c4) q) 32)).alloc (.cells #[.int .i64 0, .slice none 0 0, .int .i64 0, .slice none 0 0, .slice none 0 0] 32) = A := ⟨_, rfl⟩
  have HAsz := hide (show A.heap.size = w.heap.size + 2 from by rw [← hA]; simp)
  have HT := hide (show CQ w A (.slice a1 q.sent.length c1) (.slice a3 q.got.length c3) (.slice a4 q.line.length c4) q from hA ▸ CQ.new w _ _ _ q)
  have HA := hide hA
  clear hA
  go_enter Try.func42, Try.ntmps42
  go_upto_region 1 with fail
  rw [HA.out]
  clear HA
  have hd1 := (Below.refl A.heap.size A).alloc (Nat.le_refl _) (.cells #[] 9)
  have hT1 := HT.out.down hd1
  have hY1 := HY.out.below hT1.low
  have hown1 := OwnT.lit0 A
  have hb1 : w.heap.size + 2 ≤ A.heap.size := HT.out.big
  obtain ⟨⟨-, y, -, -, -⟩, -⟩ := hT1.arg.pen
  go_wp2_with (at_builtin; refine wpList_app _ rfl _ _ rfl A.heap.size [] q.sent _ _ rfl hown1 rfl hY1.s (by have := HS.out.s; simp; omega) (by simp) ?_)
  intro x1 n1 k1 w1 hO1 hgr1 _
  have hU1 := hT1.gb hgr1 (fun g hg => Nat.le_trans hb1 (hown1.lt hg).1)
  have hP1 : OwnT w1 A.heap.size (.slice x1 n1 k1) q.sent := hO1
  obtain ⟨⟨-, z, -, -, -⟩, -, fz, -, -, -⟩ := hU1.arg.pen
  obtain ⟨V1, hV1⟩ : ∃ V, w1.setCell ⟨w.heap.size, 1, none⟩ (.slice x1 n1 k1) = V := ⟨_, rfl⟩
  have HT1' := hide (show CQ w V1 (.slice x1 n1 k1) (.slice a3 q.got.length c3) (.slice a4 q.line.length c4) q from by rw [← hV1]; exact hU1.set1 _)
  have HN1 := hide (show OwnT V1 A.heap.size (.slice x1 n1 k1) q.sent from by rw [← hV1]; exact owns_set hP1 (fun e => by have := (hP1.lt e).1; omega) _ _)
  have HSz1 := hide (show A.heap.size ≤ V1.heap.size ∧ ∀ g, (Value.slice x1 n1 k1).ownBlock = some g → A.heap.size ≤ g ∧ g < V1.heap.size from ⟨by rw [← hV1, World.size_setCell]; exact Nat.le_trans hd1.size hgr1.size, fun g hg => (HN1.out.lt hg)⟩)
  have HVV := hide hV1
  clear hV1 hP1 hU1 hO1 hgr1 hown1 hY1 hT1 hd1 hb1 y HT
  have HT := hide HT1'.out
  have HO1 := hide HN1.out
  clear HT1' HN1
  go_upto_region 2 with fail
  rw [HVV.out]
  clear HVV z fz
  have hd3 := (Below.refl V1.heap.size V1).alloc (Nat.le_refl _) (.cells #[] 9)
  have hT3 := HT.out.down hd3
  have hY3 := HY.out.below hT3.low
  have hown3 := OwnT.lit0 V1
  have hb3 : w.heap.size + 2 ≤ V1.heap.size := HT.out.big
  obtain ⟨⟨-, -, -, y, -⟩, -⟩ := hT3.arg.pen
  have hO13 := HO1.out.down hd3
  go_wp2_with (at_builtin; refine wpList_app _ rfl _ _ rfl V1.heap.size [] q.got _ _ rfl hown3 rfl hY3.g (by have := HS.out.g; simp; omega) (by simp) ?_)
  intro x3 n3 k3 w3 hO3 hgr3 _
  have hU3 := hT3.gb hgr3 (fun g hg => Nat.le_trans hb3 (hown3.lt hg).1)
  have hP3 : OwnT w3 V1.heap.size (.slice x3 n3 k3) q.got := hO3
  obtain ⟨⟨-, -, -, z, -⟩, -, -, -, fz, -⟩ := hU3.arg.pen
  obtain ⟨V3, hV3⟩ : ∃ V, w3.setCell ⟨w.heap.size, 3, none⟩ (.slice x3 n3 k3) = V := ⟨_, rfl⟩
  have HT3' := hide (show CQ w V3 (.slice x1 n1 k1) (.slice x3 n3 k3) (.slice a4 q.line.length c4) q from by rw [← hV3]; exact hU3.set3 _)
  have HN3 := hide (show OwnT V3 V1.heap.size (.slice x3 n3 k3) q.got from by rw [← hV3]; exact owns_set hP3 (fun e => by have := (hP3.lt e).1; omega) _ _)
  have HN13 := hide (show OwnT V3 A.heap.size (.slice x1 n1 k1) q.sent from by
    rw [← hV3]
    exact owns_set (owns_other hO13 hgr3 (fun g hg e => by have h1 := (HO1.out.lt hg).2; have h2 := (hown3.lt e.symm).1; omega)) (fun e => by have := (hO13.lt e).1; have := HAsz.out; omega) _ _)
  have HSz3 := hide (show V1.heap.size ≤ V3.heap.size ∧ ∀ g, (Value.slice x3 n3 k3).ownBlock = some g → V1.heap.size ≤ g ∧ g < V3.heap.size from ⟨by rw [← hV3, World.size_setCell]; exact Nat.le_trans hd3.size hgr3.size, fun g hg => (HN3.out.lt hg)⟩)
  have HVV := hide hV3
  clear hV3 hP3 hU3 hO3 hgr3 hown3 hY3 hT3 hd3 hb3 y HT HO1 hO13
  have HT := hide HT3'.out
  have HO3 := hide HN3.out
  have HO1 := hide HN13.out
  clear HT3' HN3 HN13
  go_upto_region 3 with fail
  rw [HVV.out]
  clear HVV z fz
  have hd4 := (Below.refl V3.heap.size V3).alloc (Nat.le_refl _) (.cells #[] 88)
  have hT4 := HT.out.down hd4
  have hY4 := HY.out.below hT4.low
  have hown4 := OwnP.lit0 V3
  have hb4 : w.heap.size + 2 ≤ V3.heap.size := HT.out.big
  obtain ⟨⟨-, -, -, -, y⟩, -⟩ := hT4.arg.pen
  have hO14 := HO1.out.down hd4
  have hO34 := HO3.out.down hd4
  go_wp2_with (at_builtin; refine wpList_appP _ rfl _ _ rfl V3.heap.size [] q.line _ _ rfl hown4 rfl hY4.l (by have := HS.out.l; simp; omega) (by simp) ?_)
  intro x4 n4 k4 w4 hO4 hgr4 _
  have hU4 := hT4.gb hgr4 (fun g hg => Nat.le_trans hb4 (hown4.lt hg).1)
  have hP4 : OwnP w4 V3.heap.size (.slice x4 n4 k4) q.line := hO4
  obtain ⟨⟨-, -, -, -, z⟩, -, -, -, -, fz⟩ := hU4.arg.pen
  obtain ⟨V4, hV4⟩ : ∃ V, w4.setCell ⟨w.heap.size, 4, none⟩ (.slice x4 n4 k4) = V := ⟨_, rfl⟩
  have HT4' := hide (show CQ w V4 (.slice x1 n1 k1) (.slice x3 n3 k3) (.slice x4 n4 k4) q from by rw [← hV4]; exact hU4.set4 _)
  have HN4 := hide (show OwnP V4 V3.heap.size (.slice x4 n4 k4) q.line from by rw [← hV4]; exact owns_set hP4 (fun e => by have := (hP4.lt e).1; omega) _ _)
  have HN14 := hide (show OwnT V4 A.heap.size (.slice x1 n1 k1) q.sent from by
    rw [← hV4]
    exact owns_set (owns_other hO14 hgr4 (fun g hg e => by have h1 := (HO1.out.lt hg).2; have h2 := (hown4.lt e.symm).1; omega)) (fun e => by have := (hO14.lt e).1; have := HAsz.out; omega) _ _)
  have HN34 := hide (show OwnT V4 V1.heap.size (.slice x3 n3 k3) q.got from by
    rw [← hV4]
    exact owns_set (owns_other hO34 hgr4 (fun g hg e => by have h1 := (HO3.out.lt hg).2; have h2 := (hown4.lt e.symm).1; omega)) (fun e => by have := (hO34.lt e).1; have := HAsz.out; have := HSz1.out.1; omega) _ _)
  have HSz4 := hide (show V3.heap.size ≤ V4.heap.size ∧ ∀ g, (Value.slice x4 n4 k4).ownBlock = some g → V3.heap.size ≤ g ∧ g < V4.heap.size from ⟨by rw [← hV4, World.size_setCell]; exact Nat.le_trans hd4.size hgr4.size, fun g hg => (HN4.out.lt hg)⟩)
  have HVV := hide hV4
  clear hV4 hP4 hU4 hO4 hgr4 hown4 hY4 hT4 hd4 hb4 y HT HO1 hO14 HO3 hO34
  have HT := hide HT4'.out
  have HO4 := hide HN4.out
  have HO1 := hide HN14.out
  have HO3 := hide HN34.out
  clear HT4' HN4 HN14 HN34
  go_upto_region 4 with fail
  rw [HVV.out]
  clear HVV z fz
  obtain ⟨⟨y0, y1, y2, y3, y4⟩, -⟩ := HT.out.arg.pen
  obtain ⟨⟨e0, e1, e2, e3, e4⟩, f0, f1, f2, f3, f4⟩ := HT.out.res.pen
  obtain ⟨WZ, hWZ⟩ : ∃ WZ, ((((V4.setCell ⟨w.heap.size + 1, 0, none⟩ (.int .i64 q.win)).setCell ⟨w.heap.size + 1, 1, none⟩ (.slice x1 n1 k1)).setCell ⟨w.heap.size + 1, 2, none⟩ (.int .i64 q.base)).setCell ⟨w.heap.size + 1, 3, none⟩ (.slice x3 n3 k3)).setCell ⟨w.heap.size + 1, 4, none⟩ (.slice x4 n4 k4) = WZ := ⟨_, rfl⟩
  obtain ⟨j1, j2, j3⟩ := putW5 HT.out.res HT.out.low (by omega) _ _ _ _ _ WZ hWZ
  have HAb := hide (show w.heap.size + 2 ≤ A.heap.size from by have := HAsz.out; omega)
  have HF := hide (show AnsQ WZ w.heap.size WZ.heap.size (.slice x1 n1 k1) (.slice x3 n3 k3) (.slice x4 n4 k4) q.sent q.got q.line from by
    have g0 := HAb.out
    have g1 := HSz1.out
    have g3 := HSz3.out
    have g4 := HSz4.out
    refine AnsQ.of ((HO1.out.other j3 (fun k hk e => ?_)).mono (by omega)) ((HO3.out.other j3 (fun k hk e => ?_)).mono (by omega)) ((HO4.out.other j3 (fun k hk e => ?_)).mono (by omega)) (fun k hk e => ?_) (fun k hk e => ?_) (fun k hk e => ?_)
    · have := (HO1.out.lt hk).1; simp only [Option.some.injEq] at e; omega
    · have := (HO3.out.lt hk).1; simp only [Option.some.injEq] at e; omega
    · have := (HO4.out.lt hk).1; simp only [Option.some.injEq] at e; omega
    · have := g1.2 k hk; have := g3.2 k e; omega
    · have := g1.2 k hk; have := g4.2 k e; omega
    · have := g3.2 k hk; have := g4.2 k e; omega)
  have HJ := hide (And.intro j1 j2)
  have HWZ := hide hWZ
  clear j1 j2 j3 hWZ HT HO1 HO3 HO4 HSz1 HSz3 HSz4
  go_wp2
  rw [HWZ.out]
  clear e0 e1 e2 e3 e4 f0 f1 f2 f3 f4
  obtain ⟨⟨e0, e1, e2, e3, e4⟩, -⟩ := HJ.out.1.pen
  exact bodyPost_ret (v := qv (.slice x1 n1 k1) (.slice x3 n3 k3) (.slice x4 n4 k4) q) (by simp [results, Try.results42, go_sem, e0, e1, e2, e3, e4]) rfl ⟨⟨_, _, _, rfl, HF.out⟩, HJ.out.2⟩
namespace M
/-- An append whose run is known, as one step of a region that draws. -/
theorem step_append_run {P : Program} {ops : Array Oper} {o : Oper} {a : Act} {w w' : World} {K : Act → World → Prop} {Q : Exit → Act → World → Prop} {E : Prop} {v : Value}
    (hg : o.guard = none) (s x : Operand) (t : TypeId) (hop : o.op = Op.call { callee := Callee.builtin Builtin.append, args := #[s, x], argTypes := #[t, t] }) (vs vx : Value) (hs : a.eval s = vs) (hx : a.eval x = vx)
    (hrun : (Builtin.append_ #[t, t] o.type #[vs, vx]).run P w = .ok v w') (hK : K (a.put o.dst v) w') :
    if Region.wanted o (yielded ops a.tmps) = true then Oper.wp P o a w K Q else E := by
  have hw : Region.wanted o (yielded ops a.tmps) = true := by simp [Region.wanted, hg]
  rw [if_pos hw]
  unfold Oper.wp
  simp [execOp, hop, resolve, invoke, builtin, hs, hx, hrun, Result.andThen]
  exact hK
/-- Packets appended to a row of the call's own. -/
theorem run_appP (w : World) (ty B : Nat) (l0 l : Pks) (v u : Value) (hown : OwnP w B v l0) (hu : PkC w u l) (hl : l0.length + l.length ≤ 2097152) (hbase : B ≤ w.heap.size) :
    ∃ a' n' c' w', (Builtin.append_ #[30, 30] ty #[v, u]).run Try.prog w = .ok (.slice a' n' c') w' ∧ OwnP w' B (.slice a' n' c') (l0 ++ l) ∧ w.grownBy w' v.ownBlock ∧ ((Value.slice a' n' c').ownBlock = v.ownBlock ∨ (Value.slice a' n' c').ownBlock = some w.heap.size) := by
  obtain ⟨i0, hi, hz0, hz1, hz2⟩ := info_parts info_pk
  obtain ⟨au, cu, rfl, -, hn, hrow⟩ := hu.parts
  cases au with
  | none =>
    obtain ⟨rfl, rfl⟩ := hn rfl
    have hr := run_append_owned_none (P := Try.prog) (w := w) B 30 ty 88 i0 3 Try.underlying30 hi _ _ _ hown
    obtain ⟨a', c', rfl⟩ := hown.form
    exact ⟨_, _, _, _, hr, by rw [List.append_nil]; exact hown, gbT_refl w _, .inl rfl⟩
  | some ad =>
    obtain ⟨v', w', hr, hown', hgr, -, hblk⟩ := run_append_own_at (P := Try.prog) (w := w) B 30 ty 88 i0 _ 3 32 Try.underlying30 hi hz0 hz1 hz2 rfl (by decide) v _ _ hown ad l.length cu (cellsP l) (cellsP_len l) hu.1.src (cellsP_one l) (by unfold maxLen; omega) (by omega) hbase
    have hO : OwnP w' B v' (l0 ++ l) := by
      unfold OwnP
      rw [List.length_append, cellsP_app]; exact hown'
    obtain ⟨a', c', rfl⟩ := hO.form
    exact ⟨_, _, _, _, hr, hO, hgr, hblk⟩
end M
end Go.Proofs.Ytfjdbenbiakbbaa

/-
  A list of packets without one, and a packet that is put on the line: the specification's text.
-/
namespace Go.Proofs.Ytfjdbenbiakbbaa
open Go.RowKit M
set_option maxRecDepth 20000 in
set_option maxHeartbeats 4000000 in
theorem without_pks (v : Value) (l : Pks) (k : Nat) (w : World) (hv : PkC w v l) (hn : l.length ≤ 1048576) (hk : k < l.length) :
    Calls Try.prog 70 #[v, .int .i64 (k : Int)] w fun e w' => (∃ a n c, e = .returned (.slice a n c) ∧ OwnP w' w.heap.size (.slice a n c) (l.take k ++ l.drop (k + 1))) ∧ Below w.heap.size w w' := by
  obtain ⟨a, cap, rfl, hcap, -, hr⟩ := hv.parts
  obtain ⟨b, off, rfl, hb, hrow⟩ := hr (by omega)
  have hWl : Below w.heap.size w (w.alloc (.cells #[] 88)).drew := ((Below.refl w.heap.size w).alloc (Nat.le_refl _) _).drew
  have hown : OwnP (w.alloc (.cells #[] 88)).drew w.heap.size (.slice (some ⟨w.heap.size, 0, none⟩) 0 0) [] := (OwnP.lit0 w).down (Below.refl _ _).drew
  have hsub1 : ∀ W, Below w.heap.size w W → PkC W (.slice (some ⟨b, off, none⟩) k cap) (l.take k) := fun W hW => by
    have hl : (l.take k).length = k := by rw [List.length_take]; omega
    refine ⟨⟨some ⟨b, off, none⟩, cap, by rw [hl], fun _ => ⟨b, off, rfl, Nat.lt_of_lt_of_le hb hW.size, fun i x hi => ?_⟩⟩, some ⟨b, off, none⟩, cap, by rw [hl], by omega, fun e => by cases e⟩
    rw [List.getElem?_take] at hi
    split at hi
    · exact (hrow i x hi).below hW hb
    · cases hi
  have hsub2 : ∀ W, Below w.heap.size w W → PkC W (.slice (if cap = k + 1 then some ⟨b, off, none⟩ else some ⟨b, off + (k + 1) * 3, none⟩) (l.length - (k + 1)) (cap - (k + 1))) (l.drop (k + 1)) := fun W hW => by
    have hl : (l.drop (k + 1)).length = l.length - (k + 1) := by rw [List.length_drop]
    split
    · have h0 : l.length - (k + 1) = 0 := by omega
      refine ⟨⟨_, _, by rw [hl], fun h => absurd h (by omega)⟩, _, _, by rw [hl], by omega, fun e => by cases e⟩
    · refine ⟨⟨_, _, by rw [hl], fun _ => ⟨b, off + (k + 1) * 3, rfl, Nat.lt_of_lt_of_le hb hW.size, fun i x hi => ?_⟩⟩, _, _, by rw [hl], by omega, fun e => by cases e⟩
      rw [List.getElem?_drop] at hi
      have := (hrow _ x hi).below hW hb
      rw [show off + (k + 1) * 3 + i * 3 = off + (k + 1 + i) * 3 by omega]
      exact this
  obtain ⟨a9, n9, c9, w9, hr9, hO9, hg9, -⟩ := run_appP (w.alloc (.cells #[] 88)).drew 30 w.heap.size [] (l.take k) _ _ hown (hsub1 _ hWl) (by rw [List.length_take]; simp; omega) hWl.size
  have hW9 : Below w.heap.size w w9 := hWl.grown hg9 hWl.size (fun j hj => (hown.lt hj).1)
  obtain ⟨a8, n8, c8, w8, hr8, hO8, hg8, -⟩ := run_appP w9 30 w.heap.size ([] ++ l.take k) (l.drop (k + 1)) _ _ hO9 (hsub2 _ hW9) (by simp only [List.nil_append, List.length_take, List.length_drop]; omega) hW9.size
  have hW8 : Below w.heap.size w w8 := hW9.grown hg8 hW9.size (fun j hj => (hO9.lt hj).1)
  rw [List.nil_append] at hO8
  have HF := hide (And.intro hO8 hW8)
  have hwr : IntKind.i64.wrap ((k : Int) + 1) = ((k + 1 : Nat) : Int) := by rw [IntKind.wrap_i64]; omega
  have i0 : (0 : Int) ≤ (k : Int) := by omega
  have i1 : (k : Int) ≤ (cap : Int) := by omega
  have i2 : ((k + 1 : Nat) : Int) ≤ (l.length : Int) := by omega
  have i4 : (0 : Int) ≤ (k : Int) + 1 ∧ (k : Int) + 1 ≤ (l.length : Int) := by omega
  have i5 := i4.1
  have i6 := i4.2
  have i3 : (l.length : Int) ≤ (cap : Int) := by omega
  clear hr hrow hsub1 hsub2 hO9 hg9 hO8 hg8 hW9 hW8 hWl hown hv
  go_enter Try.func70, Try.ntmps70
  go_upto_region 1 with fail
  go_region_law (first
    | (refine step_append_run rfl _ _ 30 rfl _ _ (by simp [Act.eval]) (by simp [Act.eval]) hr9 ?_)
    | (refine step_append_run rfl _ _ 30 rfl _ _ (by simp [Act.eval]) (by simp [Act.eval]) hr8 ?_))
  all_goals
    clear hr8 hr9
    go_wp2
    all_goals
      go_ret
      exact ⟨⟨_, _, _, rfl, HF.out.1⟩, HF.out.2⟩
namespace M
/-- Only one list's block may have turned; the list that is told is there, or new. -/
structure Put4 (lo : Nat) (w w' : World) (v4 u4 : Value) (l : Pks) : Prop where
  own : OwnP w' lo u4 l
  chg : Chg (fun k => v4.ownBlock = some k) w w'
  sub : ∀ k, u4.ownBlock = some k → v4.ownBlock = some k ∨ w.heap.size ≤ k
end M
set_option maxHeartbeats 2000000 in
theorem sput_no (v1 v3 v4 : Value) (q : Qu) (p : Pk) (w : World) (hv : QuQ w v1 v3 v4 q) (hl : q.line.length = 40) :
    Calls Try.prog 69 #[qv v1 v3 v4 q, p.v] w fun e w' => e = .returned (.tuple #[qv v1 v3 v4 q, .bool false]) ∧ Below w.heap.size w w' := by
  obtain ⟨a1, c1, rfl⟩ := hv.s.form
  obtain ⟨a3, c3, rfl⟩ := hv.g.form
  obtain ⟨a4, c4, rfl⟩ := hv.l.form
  have hl2 : (q.line.length : Int) = 40 := by omega
  have hd := (((Below.refl w.heap.size w).alloc (Nat.le_refl _) (.cells (qarr (.slice a1 q.sent.length c1) (.slice a3 q.got.length c3) (.slice a4 q.line.length c4) q) 32)).alloc (by simp) (.cells #[.bool p.ack, .int .i64 p.no, .string p.tx] 88)).alloc (by simp; omega) (.cells (qarr (.slice a1 q.sent.length c1) (.slice a3 q.got.length c3) (.slice a4 q.line.length c4) q) 32)
  clear hv hl
  go_enter Try.func69, Try.ntmps69
  go_wp2
  exact bodyPost_ret (v := .tuple #[qv (.slice a1 q.sent.length c1) (.slice a3 q.got.length c3) (.slice a4 q.line.length c4) q, .bool false]) (by simp [results, Try.results69, go_sem]) rfl ⟨rfl, hd⟩
set_option maxRecDepth 20000 in
set_option maxHeartbeats 4000000 in
theorem sput_yes (v1 v3 v4 : Value) (q : Qu) (p : Pk) (lo : Nat) (w : World) (h1 : TxsOf w v1 q.sent) (h3 : TxsOf w v3 q.got) (h4 : OwnP w lo v4 q.line) (hlo : lo ≤ w.heap.size) (hl : q.line.length < 40) :
    Calls Try.prog 69 #[qv v1 v3 v4 q, p.v] w fun e w' => ∃ u4, e = .returned (.tuple #[qv v1 v3 u4 (putQ q p), .bool true]) ∧ Put4 lo w w' v4 u4 (q.line ++ [p]) := by
  obtain ⟨a1, c1, rfl⟩ := h1.form
  obtain ⟨a3, c3, rfl⟩ := h3.form
  obtain ⟨a4, c4, rfl⟩ := h4.form
  have hl2 : ((q.line.length : Int) == 40) = false := by simp; omega
  have hd := (((Below.refl w.heap.size w).alloc (Nat.le_refl _) (.cells (qarr (.slice a1 q.sent.length c1) (.slice a3 q.got.length c3) (.slice a4 q.line.length c4) q) 32)).alloc (by simp) (.cells #[.bool p.ack, .int .i64 p.no, .string p.tx] 88)).alloc (by simp; omega) (.cells #[.int .i64 0, .slice none 0 0, .int .i64 0, .slice none 0 0, .slice none 0 0] 32)
  obtain ⟨W, hW⟩ : ∃ W, (((w.alloc (.cells (qarr (.slice a1 q.sent.length c1) (.slice a3 q.got.length c3) (.slice a4 q.line.length c4) q) 32)).alloc (.cells #[.bool p.ack, .int .i64 p.no, .string p.tx] 88)).alloc (.cells #[.int .i64 0, .slice none 0 0, .int .i64 0, .slice none 0 0, .slice none 0 0] 32)) = W := ⟨_, rfl⟩
  rw [hW] at hd
  have hq : Blk W w.heap.size 5 (qf (.slice a1 q.sent.length c1) (.slice a3 q.got.length c3) (.slice a4 q.line.length c4) q) 32 := by rw [← hW]; exact ((newW5 w _ _ _ _ _ 32).alloc _).alloc _
  have hp : Blk W (w.heap.size + 1) 3 (qp p) 88 := by
    have := (newT3 (w.alloc (.cells (qarr (.slice a1 q.sent.length c1) (.slice a3 q.got.length c3) (.slice a4 q.line.length c4) q) 32)) (.bool p.ack) (.int .i64 p.no) (.string p.tx) 88).alloc (.cells #[.int .i64 0, .slice none 0 0, .int .i64 0, .slice none 0 0, .slice none 0 0] 32)
    rw [World.size_alloc, hW] at this; exact this
  have hz : Blk W (w.heap.size + 1 + 1) 5 (w5 (.int .i64 0) (.slice none 0 0) (.int .i64 0) (.slice none 0 0) (.slice none 0 0)) 32 := by
    have := newW5 ((w.alloc (.cells (qarr (.slice a1 q.sent.length c1) (.slice a3 q.got.length c3) (.slice a4 q.line.length c4) q) 32)).alloc (.cells #[.bool p.ack, .int .i64 p.no, .string p.tx] 88)) (.int .i64 0) (.slice none 0 0) (.int .i64 0) (.slice none 0 0) (.slice none 0 0) 32
    rw [World.size_alloc, World.size_alloc, hW] at this; exact this
  have HSZ := hide (show W.heap.size = w.heap.size + 3 from by rw [← hW]; simp)
  have HW := hide hW
  have hdl := (Below.refl W.heap.size W).alloc (Nat.le_refl _) (.cells #[.bool p.ack, .int .i64 p.no, .string p.tx] 88)
  have hown := (h4.down hd).down hdl
  have hlit := lit_pk (p := p) (newT3 W (.bool p.ack) (.int .i64 p.no) (.string p.tx) 88)
  obtain ⟨⟨y0, y1, y2, y3, y4⟩, -⟩ := hq.pen
  obtain ⟨⟨b0, b1, b2⟩, -⟩ := hp.trp
  have HQ := hide (hq.down hdl)
  have HZ := hide (hz.down hdl)
  have HD := hide (hd.trans (hdl.mono hd.size))
  have H4 := hide h4
  clear h1 h3 h4 hd hdl hW hq hp hz
  go_enter Try.func69, Try.ntmps69
  go_upto_region 3 with fail
  rw [HW.out]
  go_wp2_with (at_builtin; refine wpList_appP _ rfl _ _ rfl lo q.line [p] _ _ rfl hown rfl hlit (by simp; omega) (by have := HSZ.out; simp; omega) ?_)
  intro x n k w1 hO hgr hbk
  have hlt4 : ∀ j, (Value.slice a4 q.line.length c4).ownBlock = some j → j < w.heap.size := fun j hj => (H4.out.lt hj).2
  have hQ1 := HQ.out.gb hgr (fun e => by have := hlt4 _ e.symm; omega)
  have hZ1 := HZ.out.gb hgr (fun e => by have := hlt4 _ e.symm; omega)
  obtain ⟨⟨g0, g1, g2, g3, g4⟩, -, -, -, -, t4⟩ := hQ1.pen
  have hQ2 := hQ1.pen4 (.slice x n k)
  have hZ2 := hZ1.set_other (g' := w.heap.size) (by omega) 4 (.slice x n k)
  obtain ⟨⟨q0, q1, q2, q3, q4⟩, -⟩ := hQ2.pen
  obtain ⟨⟨e0, e1, e2, e3, e4⟩, f0, f1, f2, f3, f4⟩ := hZ2.pen
  obtain ⟨W2, hW2⟩ : ∃ W2, w1.setCell ⟨w.heap.size, 4, none⟩ (.slice x n k) = W2 := ⟨_, rfl⟩
  obtain ⟨WZ, hWZ⟩ : ∃ WZ, ((((W2.setCell ⟨w.heap.size + 1 + 1, 0, none⟩ (.int .i64 q.win)).setCell ⟨w.heap.size + 1 + 1, 1, none⟩ (.slice a1 q.sent.length c1)).setCell ⟨w.heap.size + 1 + 1, 2, none⟩ (.int .i64 q.base)).setCell ⟨w.heap.size + 1 + 1, 3, none⟩ (.slice a3 q.got.length c3)).setCell ⟨w.heap.size + 1 + 1, 4, none⟩ (.slice x n k) = WZ := ⟨_, rfl⟩
  have hZz : Blk WZ (w.heap.size + 1 + 1) 5 (qf (.slice a1 q.sent.length c1) (.slice a3 q.got.length c3) (.slice x n k) q) 32 := by
    rw [← hWZ, ← hW2]
    exact ((((hZ2.pen0 _).pen1 _).pen2 _).pen3 _).pen4 _
  have hcz : Chg (fun j => j = w.heap.size ∨ j = w.heap.size + 1 + 1) w1 WZ := by
    rw [← hWZ, ← hW2]
    have s4 : Chg (fun j => j = w.heap.size ∨ j = w.heap.size + 1 + 1) w1 (w1.setCell ⟨w.heap.size, 4, none⟩ (.slice x n k)) := (set_chg _ _ _ _).mono (fun _ e => .inl e)
    have sr : ∀ (A : World) (i : Nat) (u : Value), Chg (fun j => j = w.heap.size ∨ j = w.heap.size + 1 + 1) A (A.setCell ⟨w.heap.size + 1 + 1, i, none⟩ u) := fun A i u => (set_chg _ _ _ _).mono (fun _ e => .inr e)
    exact ((((s4.and (sr _ _ _)).and (sr _ _ _)).and (sr _ _ _)).and (sr _ _ _)).and (sr _ _ _)
  have HF := hide (show Put4 lo w WZ (.slice a4 q.line.length c4) (.slice x n k) (q.line ++ [p]) from by
    have hb1 : ∀ j, (Value.slice x n k).ownBlock = some j → (Value.slice a4 q.line.length c4).ownBlock = some j ∨ w.heap.size + 3 ≤ j := fun j hj => by
      rcases hbk with h' | h'
      · exact .inl (by rw [← h']; exact hj)
      · rw [h'] at hj; simp at hj; exact .inr (by have := HSZ.out; omega)
    refine ⟨owns_chg hO hcz (fun j hj e => ?_), ?_, fun j hj => (hb1 j hj).imp id (fun h' => by omega)⟩
    · rcases hb1 j hj with h' | h'
      · have := hlt4 j h'; rcases e with e | e <;> omega
      · rcases e with e | e <;> omega
    · have hA : Chg (fun j => (Value.slice a4 q.line.length c4).ownBlock = some j) w (W.alloc (.cells #[.bool p.ack, .int .i64 p.no, .string p.tx] 88)) := Below.chg HD.out _
      refine (hA.and (Chg.gb hgr (fun j e => e))).trans hcz (fun j e => .inr ?_)
      rcases e with e | e <;> omega)
  have HW2 := hide hW2
  have HWZ := hide (show (((((w1.setCell ⟨w.heap.size, 4, none⟩ (.slice x n k)).setCell ⟨w.heap.size + 1 + 1, 0, none⟩ (.int .i64 q.win)).setCell ⟨w.heap.size + 1 + 1, 1, none⟩ (.slice a1 q.sent.length c1)).setCell ⟨w.heap.size + 1 + 1, 2, none⟩ (.int .i64 q.base)).setCell ⟨w.heap.size + 1 + 1, 3, none⟩ (.slice a3 q.got.length c3)).setCell ⟨w.heap.size + 1 + 1, 4, none⟩ (.slice x n k) = WZ from by rw [hW2]; exact hWZ)
  have HZz := hide hZz
  clear hW2 hWZ hcz hZz hQ1 hQ2 hZ1 hZ2 hO hgr hbk hlt4 hown hlit HQ HZ HD y0 y1 y2 y3 y4 b0 b1 b2 HW2
  go_wp2
  rw [HWZ.out]
  clear e0 e1 e2 e3 e4 f0 f1 f2 f3 f4 q0 q1 q2 q3 q4 g0 g1 g2 g3 g4 t4
  obtain ⟨⟨e0, e1, e2, e3, e4⟩, -⟩ := HZz.out.pen
  exact bodyPost_ret (v := .tuple #[qv (.slice a1 q.sent.length c1) (.slice a3 q.got.length c3) (.slice x n k) (putQ q p), .bool true]) (by simp [results, Try.results69, go_sem, e0, e1, e2, e3, e4, putQ]) rfl ⟨_, rfl, HF.out⟩
end Go.Proofs.Ytfjdbenbiakbbaa
