/-
  A list of packets without one, and a packet that is put on the line: the specification's text.
-/
import Derived.Test.YtfjdbenbiakbbaaQuSa
namespace Go.Proofs.Ytfjdbenbiakbbaa
open Go.RowKit M
set_option maxRecDepth 20000 in
set_option maxHeartbeats 4000000 in
theorem without_pks (v : Value) (l : Pks) (k : Nat) (w : World) (hv : PkC w v l) (hn : l.length ≤ 1048576) (hk : k < l.length) :
    Calls Try.prog 70 #[v, .int .i64 (k : Int)] w fun e w' => (∃ a n c, e = .returned (.slice a n c) ∧ OwnP w' w.heap.size (.slice a n c) (l.take k ++ l.drop (k + 1))) ∧ Below w.heap.size w w' := by
  obtain ⟨a, cap, rfl, hcap, -, hr⟩ := hv.parts
  obtain ⟨b, off, rfl, hb, hrow⟩ := hr (by omega)
  have hWl : Below w.heap.size w (w.alloc (.cells #[] 88)).drew := ((Below.refl w.heap.size w).alloc (Nat.le_refl _) _).drew
  have hown : OwnP (w.alloc (.cells #[] 88)).drew w.heap.size (.slice (some ⟨w.heap.size, 0, none⟩) 0 0) [] := (OwnP.lit0 w).down (Below.refl _ _).drew
  have hsub1 : ∀ W, Below w.heap.size w W → PkC W (.slice (some ⟨b, off, none⟩) k cap) (l.take k) := fun W hW => by
    have hl : (l.take k).length = k := by rw [List.length_take]; omega
    refine ⟨⟨some ⟨b, off, none⟩, cap, by rw [hl], fun _ => ⟨b, off, rfl, Nat.lt_of_lt_of_le hb hW.size, fun i x hi => ?_⟩⟩, some ⟨b, off, none⟩, cap, by rw [hl], by omega, fun e => by cases e⟩
    rw [List.getElem?_take] at hi
    split at hi
    · exact (hrow i x hi).below hW hb
    · cases hi
  have hsub2 : ∀ W, Below w.heap.size w W → PkC W (.slice (if cap = k + 1 then some ⟨b, off, none⟩ else some ⟨b, off + (k + 1) * 3, none⟩) (l.length - (k + 1)) (cap - (k + 1))) (l.drop (k + 1)) := fun W hW => by
    have hl : (l.drop (k + 1)).length = l.length - (k + 1) := by rw [List.length_drop]
    split
    · have h0 : l.length - (k + 1) = 0 := by omega
      refine ⟨⟨_, _, by rw [hl], fun h => absurd h (by omega)⟩, _, _, by rw [hl], by omega, fun e => by cases e⟩
    · refine ⟨⟨_, _, by rw [hl], fun _ => ⟨b, off + (k + 1) * 3, rfl, Nat.lt_of_lt_of_le hb hW.size, fun i x hi => ?_⟩⟩, _, _, by rw [hl], by omega, fun e => by cases e⟩
      rw [List.getElem?_drop] at hi
      have := (hrow _ x hi).below hW hb
      rw [show off + (k + 1) * 3 + i * 3 = off + (k + 1 + i) * 3 by omega]
      exact this
  obtain ⟨a9, n9, c9, w9, hr9, hO9, hg9, -⟩ := run_appP (w.alloc (.cells #[] 88)).drew 30 w.heap.size [] (l.take k) _ _ hown (hsub1 _ hWl) (by rw [List.length_take]; simp; omega) hWl.size
  have hW9 : Below w.heap.size w w9 := hWl.grown hg9 hWl.size (fun j hj => (hown.lt hj).1)
  obtain ⟨a8, n8, c8, w8, hr8, hO8, hg8, -⟩ := run_appP w9 30 w.heap.size ([] ++ l.take k) (l.drop (k + 1)) _ _ hO9 (hsub2 _ hW9) (by simp only [List.nil_append, List.length_take, List.length_drop]; omega) hW9.size
  have hW8 : Below w.heap.size w w8 := hW9.grown hg8 hW9.size (fun j hj => (hO9.lt hj).1)
  rw [List.nil_append] at hO8
  have HF := hide (And.intro hO8 hW8)
  have hwr : IntKind.i64.wrap ((k : Int) + 1) = ((k + 1 : Nat) : Int) := by rw [IntKind.wrap_i64]; omega
  have i0 : (0 : Int) ≤ (k : Int) := by omega
  have i1 : (k : Int) ≤ (cap : Int) := by omega
  have i2 : ((k + 1 : Nat) : Int) ≤ (l.length : Int) := by omega
  have i4 : (0 : Int) ≤ (k : Int) + 1 ∧ (k : Int) + 1 ≤ (l.length : Int) := by omega
  have i5 := i4.1
  have i6 := i4.2
  have i3 : (l.length : Int) ≤ (cap : Int) := by omega
  clear hr hrow hsub1 hsub2 hO9 hg9 hO8 hg8 hW9 hW8 hWl hown hv
  go_enter Try.func70, Try.ntmps70
  go_upto_region 1 with fail
  go_region_law (first
    | (refine step_append_run rfl _ _ 30 rfl _ _ (by simp [Act.eval]) (by simp [Act.eval]) hr9 ?_)
    | (refine step_append_run rfl _ _ 30 rfl _ _ (by simp [Act.eval]) (by simp [Act.eval]) hr8 ?_))
  all_goals
    clear hr8 hr9
    go_wp2
    all_goals
      go_ret
      exact ⟨⟨_, _, _, rfl, HF.out.1⟩, HF.out.2⟩
namespace M
/-- Only one list's block may have turned; the list that is told is there, or new. -/
structure Put4 (lo : Nat) (w w' : World) (v4 u4 : Value) (l : Pks) : Prop where
  own : OwnP w' lo u4 l
  chg : Chg (fun k => v4.ownBlock = some k) w w'
  sub : ∀ k, u4.ownBlock = some k → v4.ownBlock = some k ∨ w.heap.size ≤ k
end M
set_option maxHeartbeats 2000000 in
theorem sput_no (v1 v3 v4 : Value) (q : Qu) (p : Pk) (w : World) (hv : QuQ w v1 v3 v4 q) (hl : q.line.length = 40) :
    Calls Try.prog 69 #[qv v1 v3 v4 q, p.v] w fun e w' => e = .returned (.tuple #[qv v1 v3 v4 q, .bool false]) ∧ Below w.heap.size w w' := by
  obtain ⟨a1, c1, rfl⟩ := hv.s.form
  obtain ⟨a3, c3, rfl⟩ := hv.g.form
  obtain ⟨a4, c4, rfl⟩ := hv.l.form
  have hl2 : (q.line.length : Int) = 40 := by omega
  have hd := (((Below.refl w.heap.size w).alloc (Nat.le_refl _) (.cells (qarr (.slice a1 q.sent.length c1) (.slice a3 q.got.length c3) (.slice a4 q.line.length c4) q) 32)).alloc (by simp) (.cells #[.bool p.ack, .int .i64 p.no, .string p.tx] 88)).alloc (by simp; omega) (.cells (qarr (.slice a1 q.sent.length c1) (.slice a3 q.got.length c3) (.slice a4 q.line.length c4) q) 32)
  clear hv hl
  go_enter Try.func69, Try.ntmps69
  go_wp2
  exact bodyPost_ret (v := .tuple #[qv (.slice a1 q.sent.length c1) (.slice a3 q.got.length c3) (.slice a4 q.line.length c4) q, .bool false]) (by simp [results, Try.results69, go_sem]) rfl ⟨rfl, hd⟩
set_option maxRecDepth 20000 in
set_option maxHeartbeats 4000000 in
theorem sput_yes (v1 v3 v4 : Value) (q : Qu) (p : Pk) (lo : Nat) (w : World) (h1 : TxsOf w v1 q.sent) (h3 : TxsOf w v3 q.got) (h4 : OwnP w lo v4 q.line) (hlo : lo ≤ w.heap.size) (hl : q.line.length < 40) :
    Calls Try.prog 69 #[qv v1 v3 v4 q, p.v] w fun e w' => ∃ u4, e = .returned (.tuple #[qv v1 v3 u4 (putQ q p), .bool true]) ∧ Put4 lo w w' v4 u4 (q.line ++ [p]) := by
  obtain ⟨a1, c1, rfl⟩ := h1.form
  obtain ⟨a3, c3, rfl⟩ := h3.form
  obtain ⟨a4, c4, rfl⟩ := h4.form
  have hl2 : ((q.line.length : Int) == 40) = false := by simp; omega
  have hd := (((Below.refl w.heap.size w).alloc (Nat.le_refl _) (.cells (qarr (.slice a1 q.sent.length c1) (.slice a3 q.got.length c3) (.slice a4 q.line.length c4) q) 32)).alloc (by simp) (.cells #[.bool p.ack, .int .i64 p.no, .string p.tx] 88)).alloc (by simp; omega) (.cells #[.int .i64 0, .slice none 0 0, .int .i64 0, .slice none 0 0, .slice none 0 0] 32)
  obtain ⟨W, hW⟩ : ∃ W, (((w.alloc (.cells (qarr (.slice a1 q.sent.length c1) (.slice a3 q.got.length c3) (.slice a4 q.line.length c4) q) 32)).alloc (.cells #[.bool p.ack, .int .i64 p.no, .string p.tx] 88)).alloc (.cells #[.int .i64 0, .slice none 0 0, .int .i64 0, .slice none 0 0, .slice none 0 0] 32)) = W := ⟨_, rfl⟩
  rw [hW] at hd
  have hq : Blk W w.heap.size 5 (qf (.slice a1 q.sent.length c1) (.slice a3 q.got.length c3) (.slice a4 q.line.length c4) q) 32 := by rw [← hW]; exact ((newW5 w _ _ _ _ _ 32).alloc _).alloc _
  have hp : Blk W (w.heap.size + 1) 3 (qp p) 88 := by
    have := (newT3 (w.alloc (.cells (qarr (.slice a1 q.sent.length c1) (.slice a3 q.got.length c3) (.slice a4 q.line.length c4) q) 32)) (.bool p.ack) (.int .i64 p.no) (.string p.tx) 88).alloc (.cells #[.int .i64 0, .slice none 0 0, .int .i64 0, .slice none 0 0, .slice none 0 0] 32)
    rw [World.size_alloc, hW] at this; exact this
  have hz : Blk W (w.heap.size + 1 + 1) 5 (w5 (.int .i64 0) (.slice none 0 0) (.int .i64 0) (.slice none 0 0) (.slice none 0 0)) 32 := by
    have := newW5 ((w.alloc (.cells (qarr (.slice a1 q.sent.length c1) (.slice a3 q.got.length c3) (.slice a4 q.line.length c4) q) 32)).alloc (.cells #[.bool p.ack, .int .i64 p.no, .string p.tx] 88)) (.int .i64 0) (.slice none 0 0) (.int .i64 0) (.slice none 0 0) (.slice none 0 0) 32
    rw [World.size_alloc, World.size_alloc, hW] at this; exact this
  have HSZ := hide (show W.heap.size = w.heap.size + 3 from by rw [← hW]; simp)
  have HW := hide hW
  have hdl := (Below.refl W.heap.size W).alloc (Nat.le_refl _) (.cells #[.bool p.ack, .int .i64 p.no, .string p.tx] 88)
  have hown := (h4.down hd).down hdl
  have hlit := lit_pk (p := p) (newT3 W (.bool p.ack) (.int .i64 p.no) (.string p.tx) 88)
  obtain ⟨⟨y0, y1, y2, y3, y4⟩, -⟩ := hq.pen
  obtain ⟨⟨b0, b1, b2⟩, -⟩ := hp.trp
  have HQ := hide (hq.down hdl)
  have HZ := hide (hz.down hdl)
  have HD := hide (hd.trans (hdl.mono hd.size))
  have H4 := hide h4
  clear h1 h3 h4 hd hdl hW hq hp hz
  go_enter Try.func69, Try.ntmps69
  go_upto_region 3 with fail
  rw [HW.out]
  go_wp2_with (at_builtin; refine wpList_appP _ rfl _ _ rfl lo q.line [p] _ _ rfl hown rfl hlit (by simp; omega) (by have := HSZ.out; simp; omega) ?_)
  intro x n k w1 hO hgr hbk
  have hlt4 : ∀ j, (Value.slice a4 q.line.length c4).ownBlock = some j → j < w.heap.size := fun j hj => (H4.out.lt hj).2
  have hQ1 := HQ.out.gb hgr (fun e => by have := hlt4 _ e.symm; omega)
  have hZ1 := HZ.out.gb hgr (fun e => by have := hlt4 _ e.symm; omega)
  obtain ⟨⟨g0, g1, g2, g3, g4⟩, -, -, -, -, t4⟩ := hQ1.pen
  have hQ2 := hQ1.pen4 (.slice x n k)
  have hZ2 := hZ1.set_other (g' := w.heap.size) (by omega) 4 (.slice x n k)
  obtain ⟨⟨q0, q1, q2, q3, q4⟩, -⟩ := hQ2.pen
  obtain ⟨⟨e0, e1, e2, e3, e4⟩, f0, f1, f2, f3, f4⟩ := hZ2.pen
  obtain ⟨W2, hW2⟩ : ∃ W2, w1.setCell ⟨w.heap.size, 4, none⟩ (.slice x n k) = W2 := ⟨_, rfl⟩
  obtain ⟨WZ, hWZ⟩ : ∃ WZ, ((((W2.setCell ⟨w.heap.size + 1 + 1, 0, none⟩ (.int .i64 q.win)).setCell ⟨w.heap.size + 1 + 1, 1, none⟩ (.slice a1 q.sent.length c1)).setCell ⟨w.heap.size + 1 + 1, 2, none⟩ (.int .i64 q.base)).setCell ⟨w.heap.size + 1 + 1, 3, none⟩ (.slice a3 q.got.length c3)).setCell ⟨w.heap.size + 1 + 1, 4, none⟩ (.slice x n k) = WZ := ⟨_, rfl⟩
  have hZz : Blk WZ (w.heap.size + 1 + 1) 5 (qf (.slice a1 q.sent.length c1) (.slice a3 q.got.length c3) (.slice x n k) q) 32 := by
    rw [← hWZ, ← hW2]
    exact ((((hZ2.pen0 _).pen1 _).pen2 _).pen3 _).pen4 _
  have hcz : Chg (fun j => j = w.heap.size ∨ j = w.heap.size + 1 + 1) w1 WZ := by
    rw [← hWZ, ← hW2]
    have s4 : Chg (fun j => j = w.heap.size ∨ j = w.heap.size + 1 + 1) w1 (w1.setCell ⟨w.heap.size, 4, none⟩ (.slice x n k)) := (set_chg _ _ _ _).mono (fun _ e => .inl e)
    have sr : ∀ (A : World) (i : Nat) (u : Value), Chg (fun j => j = w.heap.size ∨ j = w.heap.size + 1 + 1) A (A.setCell ⟨w.heap.size + 1 + 1, i, none⟩ u) := fun A i u => (set_chg _ _ _ _).mono (fun _ e => .inr e)
    exact ((((s4.and (sr _ _ _)).and (sr _ _ _)).and (sr _ _ _)).and (sr _ _ _)).and (sr _ _ _)
  have HF := hide (show Put4 lo w WZ (.slice a4 q.line.length c4) (.slice x n k) (q.line ++ [p]) from by
    have hb1 : ∀ j, (Value.slice x n k).ownBlock = some j → (Value.slice a4 q.line.length c4).ownBlock = some j ∨ w.heap.size + 3 ≤ j := fun j hj => by
      rcases hbk with h' | h'
      · exact .inl (by rw [← h']; exact hj)
      · rw [h'] at hj; simp at hj; exact .inr (by have := HSZ.out; omega)
    refine ⟨owns_chg hO hcz (fun j hj e => ?_), ?_, fun j hj => (hb1 j hj).imp id (fun h' => by omega)⟩
    · rcases hb1 j hj with h' | h'
      · have := hlt4 j h'; rcases e with e | e <;> omega
      · rcases e with e | e <;> omega
    · have hA : Chg (fun j => (Value.slice a4 q.line.length c4).ownBlock = some j) w (W.alloc (.cells #[.bool p.ack, .int .i64 p.no, .string p.tx] 88)) := Below.chg HD.out _
      refine (hA.and (Chg.gb hgr (fun j e => e))).trans hcz (fun j e => .inr ?_)
      rcases e with e | e <;> omega)
  have HW2 := hide hW2
  have HWZ := hide (show (((((w1.setCell ⟨w.heap.size, 4, none⟩ (.slice x n k)).setCell ⟨w.heap.size + 1 + 1, 0, none⟩ (.int .i64 q.win)).setCell ⟨w.heap.size + 1 + 1, 1, none⟩ (.slice a1 q.sent.length c1)).setCell ⟨w.heap.size + 1 + 1, 2, none⟩ (.int .i64 q.base)).setCell ⟨w.heap.size + 1 + 1, 3, none⟩ (.slice a3 q.got.length c3)).setCell ⟨w.heap.size + 1 + 1, 4, none⟩ (.slice x n k) = WZ from by rw [hW2]; exact hWZ)
  have HZz := hide hZz
  clear hW2 hWZ hcz hZz hQ1 hQ2 hZ1 hZ2 hO hgr hbk hlt4 hown hlit HQ HZ HD y0 y1 y2 y3 y4 b0 b1 b2 HW2
  go_wp2
  rw [HWZ.out]
  clear e0 e1 e2 e3 e4 f0 f1 f2 f3 f4 q0 q1 q2 q3 q4 g0 g1 g2 g3 g4 t4
  obtain ⟨⟨e0, e1, e2, e3, e4⟩, -⟩ := HZz.out.pen
  exact bodyPost_ret (v := .tuple #[qv (.slice a1 q.sent.length c1) (.slice a3 q.got.length c3) (.slice x n k) (putQ q p), .bool true]) (by simp [results, Try.results69, go_sem, e0, e1, e2, e3, e4, putQ]) rfl ⟨_, rfl, HF.out⟩
end Go.Proofs.Ytfjdbenbiakbbaa
