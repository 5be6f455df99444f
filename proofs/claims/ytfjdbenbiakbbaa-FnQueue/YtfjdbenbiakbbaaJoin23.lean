/-
  Texts that follow one another, joined: QuD, QuW.
-/
import Derived.Test.YtfjdbenbiakbbaaJoin6
import Derived.Test.YtfjdbenbiakbbaaJoin22
/-
  A queue that is played and one that is drained: plain mathematics.
-/
namespace Go.Proofs.Ytfjdbenbiakbbaa
open Go.RowKit M
namespace M
theorem good_empty {q : Qu} (h : GoodQ q) : GoodQ { q with line := [] } :=
  ⟨h.w0, h.w1, h.s40, h.gs, h.b0, h.bg, by simp, h.tx, h.beg, by simp⟩
/-- Whose beginning has come has come whole when it is as long. -/
theorem got_all {q : Qu} (h : GoodQ q) (he : q.got.length = q.sent.length) : q.got = q.sent := by
  apply List.ext_getElem?
  intro i
  by_cases hi : i < q.got.length
  · have h2 : i < q.sent.length := by omega
    have := h.beg i _ hi (List.getElem?_eq_getElem h2)
    rw [this, List.getElem?_eq_getElem h2]
  · rw [List.getElem?_eq_none (by omega), List.getElem?_eq_none (by omega)]
theorem got_take {q : Qu} (h : GoodQ q) : q.got = q.sent.take q.got.length := by
  apply List.ext_getElem?
  intro i
  have hgs := h.gs
  by_cases hi : i < q.got.length
  · have h2 : i < q.sent.length := by omega
    have := h.beg i _ hi (List.getElem?_eq_getElem h2)
    rw [this, List.getElem?_take_of_lt hi, List.getElem?_eq_getElem h2]
  · rw [List.getElem?_eq_none (by omega), List.getElem?_eq_none (by rw [List.length_take]; omega)]
/-- What has come behind one try of the text t, that has the number Base. -/
def gotT (q : Qu) (t : ByteArray) : Txs := if q.base = q.got.length then q.got ++ [t] else q.got
/-- One try on an empty line. -/
def rndQ (q : Qu) (t : ByteArray) : Qu := ⟨q.win, q.sent, ((gotT q t).length : Nat), gotT q t, []⟩
theorem gotT_gt {q : Qu} (h : GoodQ q) (t : ByteArray) : q.base < ((gotT q t).length : Nat) := by
  have := h.bg
  unfold gotT
  split
  · simp only [List.length_append, List.length_cons, List.length_nil]; omega
  · omega
/-- The three steps of a try. -/
theorem try_send {q : Qu} {t x : ByteArray} (h : GoodQ q) (ht : q.sent[q.base.toNat]? = some t) : stp { q with line := [] } ⟨2, q.base, x⟩ = some { q with line := [⟨false, q.base, t⟩] } := by
  have h0 := h.w0
  have hs : sAt { q with line := [] } q.base = some t := by
    unfold sAt
    rw [if_pos ⟨Int.le_refl _, by dsimp only; omega⟩]
    exact ht
  unfold stp
  rw [if_neg (by dsimp only; omega), if_pos rfl]
  dsimp only
  rw [hs]
  simp [putQ]
theorem try_take {q : Qu} {t x : ByteArray} : stp { q with line := [⟨false, q.base, t⟩] } ⟨3, 0, x⟩ = some { q with got := gotT q t, line := [⟨true, ((gotT q t).length : Nat), ⟨#[]⟩⟩] } := by
  unfold stp
  rw [if_neg (by dsimp only; omega), if_neg (by dsimp only; omega)]
  simp only [kAt, Int.le_refl, if_true, Int.toNat_zero, List.getElem?_cons_zero]
  rw [if_neg (by decide)]
  simp only [takeQ, outQ, Bool.false_eq_true, if_false, List.take_zero, List.drop_succ_cons, List.drop_zero, List.append_nil]
  unfold gotQ gotT
  dsimp only
  split <;> simp [putQ]
theorem try_ack {q : Qu} {t x : ByteArray} (h : GoodQ q) : stp { q with got := gotT q t, line := [⟨true, ((gotT q t).length : Nat), ⟨#[]⟩⟩] } ⟨3, 0, x⟩ = some (rndQ q t) := by
  have hg := gotT_gt h t
  unfold stp
  rw [if_neg (by dsimp only; omega), if_neg (by dsimp only; omega)]
  simp only [kAt, Int.le_refl, if_true, Int.toNat_zero, List.getElem?_cons_zero]
  rw [if_neg (by decide)]
  simp only [if_true, takeQ, outQ, ackQ, List.take_zero, List.drop_succ_cons, List.drop_zero, List.nil_append]
  rw [if_pos hg]
  rfl
theorem good_rnd {q : Qu} {t : ByteArray} (h : GoodQ q) (ht : q.sent[q.base.toNat]? = some t) : GoodQ (rndQ q t) := by
  have e := good_empty h
  have a := (good_stp e (try_send (x := ⟨#[]⟩) h ht)).1
  have b := (good_stp a (try_take (x := ⟨#[]⟩))).1
  exact (good_stp b (try_ack (x := ⟨#[]⟩) h)).1
/-- Draining, f tries at most. -/
def drn : Nat → Qu → Qu × Nat
  | 0, q => (q, 0)
  | f + 1, q => match q.sent[q.base.toNat]? with
    | none => (q, 0)
    | some t => ((drn f (rndQ q t)).1, (drn f (rndQ q t)).2 + 1)
theorem drn_sent : ∀ (f : Nat) (q : Qu), (drn f q).1.sent = q.sent ∧ (drn f q).1.win = q.win
  | 0, q => ⟨rfl, rfl⟩
  | f + 1, q => by
    unfold drn
    split
    · exact ⟨rfl, rfl⟩
    · exact drn_sent f _
theorem drn_end : ∀ (f : Nat) (q : Qu), GoodQ q → (q.sent.length : Int) - q.base ≤ f → GoodQ (drn f q).1 ∧ (drn f q).1.base = q.sent.length ∧ ((drn f q).2 : Int) ≤ q.sent.length - q.base
  | 0, q, h, hf => by
    have := h.bg
    have := h.gs
    exact ⟨h, by show q.base = _; omega, by show ((0 : Nat) : Int) ≤ _; omega⟩
  | f + 1, q, h, hf => by
    have hb := h.bg
    have hgs := h.gs
    have h0 := h.b0
    unfold drn
    split
    · rename_i hn
      have : q.sent.length ≤ q.base.toNat := by
        rcases Nat.lt_or_ge q.base.toNat q.sent.length with h' | h'
        · rw [List.getElem?_eq_getElem h'] at hn; cases hn
        · exact h'
      exact ⟨h, by show q.base = _; omega, by show ((0 : Nat) : Int) ≤ _; omega⟩
    · rename_i t ht
      have hr := good_rnd h ht
      have hg := gotT_gt h t
      have hs : (rndQ q t).sent = q.sent := rfl
      have hbb : (rndQ q t).base = ((gotT q t).length : Nat) := rfl
      obtain ⟨a, b, c⟩ := drn_end f (rndQ q t) hr (by rw [hs, hbb]; omega)
      rw [hs] at b c
      rw [hbb] at c
      exact ⟨a, b, by dsimp only; omega⟩
/-- Drained: all has come. -/
theorem drained {f : Nat} {q : Qu} (h : GoodQ q) (hf : (q.sent.length : Int) - q.base ≤ f) : (drn f q).1.got = q.sent := by
  obtain ⟨a, b, c⟩ := drn_end f q h hf
  have hs := (drn_sent f q).1
  have h1 := a.bg
  have h2 := a.gs
  have := got_all a (by rw [hs] at h2 ⊢; omega)
  rw [this, hs]
/-- Steps that are played: the queue, and whether each was done. -/
def ply (q : Qu) : List Lst → Qu × List Bool
  | [] => (q, [])
  | s :: l => match stp q s with
    | none => ((ply q l).1, false :: (ply q l).2)
    | some q' => ((ply q' l).1, true :: (ply q' l).2)
theorem ply_len : ∀ (l : List Lst) (q : Qu), (ply q l).2.length = l.length
  | [], q => rfl
  | s :: l, q => by
    unfold ply
    split <;> simp [ply_len l]
theorem good_ply : ∀ (l : List Lst) (q : Qu), GoodQ q → GoodQ (ply q l).1
  | [], q, h => h
  | s :: l, q, h => by
    unfold ply
    split
    · exact good_ply l q h
    · rename_i q' hq
      exact good_ply l q' (good_stp h hq).1
theorem ply_snoc : ∀ (l : List Lst) (q : Qu) (s : Lst), ply q (l ++ [s]) = match stp (ply q l).1 s with
    | none => ((ply q l).1, (ply q l).2 ++ [false])
    | some q' => (q', (ply q l).2 ++ [true])
  | [], q, s => by
    simp only [List.nil_append, ply]
  | a :: l, q, s => by
    rw [List.cons_append]
    cases hq : stp q a with
    | none =>
      have e1 : ∀ m, ply q (a :: m) = ((ply q m).1, false :: (ply q m).2) := fun m => by rw [ply]; simp only [hq]
      rw [e1, e1, ply_snoc l q s]
      dsimp only
      cases stp (ply q l).1 s <;> rfl
    | some q' =>
      have e1 : ∀ m, ply q (a :: m) = ((ply q' m).1, true :: (ply q' m).2) := fun m => by rw [ply]; simp only [hq]
      rw [e1, e1, ply_snoc l q' s]
      dsimp only
      cases stp (ply q' l).1 s <;> rfl
/-- The texts that were put. -/
def putsOf : List Lst → List Bool → Txs
  | s :: l, d :: ds => if d = true ∧ s.kind = 1 then s.tx :: putsOf l ds else putsOf l ds
  | _, _ => []
theorem stp_sent {q q' : Qu} {s : Lst} (h : stp q s = some q') : q'.sent = q.sent ++ (if s.kind = 1 then [s.tx] else []) := by
  unfold stp at h
  split at h
  · rename_i hk
    rw [if_pos hk]
    split at h
    · cases h
    · cases h; rfl
  · rename_i hk
    rw [if_neg hk, List.append_nil]
    split at h
    · split at h
      · cases h
      · split at h
        · cases h
        · cases h; rfl
    · split at h
      · cases h
      · split at h
        · split at h
          · cases h
          · cases h; rfl
        · split at h
          · cases h
            unfold takeQ
            split
            · rfl
            · unfold gotQ; split <;> rfl
          · split at h
            · cases h; rfl
            · cases h
theorem ply_sent : ∀ (l : List Lst) (q : Qu), (ply q l).1.sent = q.sent ++ putsOf l (ply q l).2
  | [], q => by simp [ply, putsOf]
  | s :: l, q => by
    unfold ply
    split
    · rw [ply_sent l q]
      simp [putsOf]
    · rename_i q' hq
      rw [ply_sent l q', stp_sent hq]
      by_cases hk : s.kind = 1 <;> simp [putsOf, hk]
end M
end Go.Proofs.Ytfjdbenbiakbbaa

/-
  A queue copied, a step that is told, and a queue that is drained: the program's text.
-/
namespace Go.Proofs.Ytfjdbenbiakbbaa
open Go.RowKit M
open Go.Sort (grow)
namespace M
/-- While a queue is copied: the argument's box and that of the answer. -/
structure CQ (w W : World) (v1 v3 v4 : Value) (q : Qu) : Prop where
  low : Below w.heap.size w W
  arg : Blk W w.heap.size 5 (qf v1 v3 v4 q) 32
  res : Blk W (w.heap.size + 1) 5 (w5 (.int .i64 0) (.slice none 0 0) (.int .i64 0) (.slice none 0 0) (.slice none 0 0)) 32
  big : w.heap.size + 2 ≤ W.heap.size
theorem CQ.down {w W W' : World} {v1 v3 v4 : Value} {q : Qu} (h : CQ w W v1 v3 v4 q) (hb : Below W.heap.size W W') : CQ w W' v1 v3 v4 q :=
  ⟨h.low.trans (hb.mono h.low.size), h.arg.down hb, h.res.down hb, Nat.le_trans h.big hb.size⟩
theorem CQ.new (w : World) (v1 v3 v4 : Value) (q : Qu) : CQ w ((w.alloc (.cells (qarr v1 v3 v4 q) 32)).alloc (.cells #[.int .i64 0, .slice none 0 0, .int .i64 0, .slice none 0 0, .slice none 0 0] 32)) v1 v3 v4 q := by
  refine ⟨((Below.refl _ w).alloc (Nat.le_refl _) _).alloc (by simp) _, (newW5 w _ _ _ _ _ 32).alloc _, ?_, by simp⟩
  have := newW5 (w.alloc (.cells (qarr v1 v3 v4 q) 32)) (.int .i64 0) (.slice none 0 0) (.int .i64 0) (.slice none 0 0) (.slice none 0 0) 32
  rw [World.size_alloc] at this; exact this
theorem GoodQ.sent12 {q : Qu} (h : GoodQ q) : ∀ x ∈ q.sent, x.size ≤ 12 := fun x hx => by
  obtain ⟨i, hi⟩ := List.getElem?_of_mem hx
  exact h.tx i x hi
theorem GoodQ.got12 {q : Qu} (h : GoodQ q) : ∀ x ∈ q.got, x.size ≤ 12 := fun x hx => by
  rw [got_take h] at hx
  exact h.sent12 x (List.mem_of_mem_take hx)
theorem GoodQ.line12 {q : Qu} (h : GoodQ q) : ∀ p ∈ q.line, p.tx.size ≤ 12 := fun p hp => by
  obtain ⟨i, hi⟩ := List.getElem?_of_mem hp
  exact h.tx12 hi
theorem GoodQ.short {q : Qu} (h : GoodQ q) : ShortQ q := ⟨by have := h.s40; omega, by have := h.s40; have := h.gs; omega, by have := h.l40; omega⟩
end M
set_option maxRecDepth 20000 in
set_option maxHeartbeats 8000000 in
theorem copy_queue (v1 v3 v4 : Value) (q : Qu) (w : World) (hv : QuQ w v1 v3 v4 q) (hg : GoodQ q) :
    Calls Try.prog 45 #[qv v1 v3 v4 q] w fun e w' => (∃ u1 u3 u4, e = .returned (qv u1 u3 u4 q) ∧ AnsQ w' w.heap.size w'.heap.size u1 u3 u4 q.sent q.got q.line) ∧ Below w.heap.size w w' := by
  have HY := hide hv
  have HG := hide hg
  have HS := hide hg.short
  obtain ⟨a1, c1, rfl⟩ := hv.s.form
  obtain ⟨a3, c3, rfl⟩ := hv.g.form
  obtain ⟨a4, c4, rfl⟩ := hv.l.form
  clear hv hg
  obtain ⟨A, hA⟩ : ∃ A, (w.alloc (.cells (qarr (.slice a1 q.sent.length c1) (.slice a3 q.got.length c3) (.slice a4 q.line.length c4) q) 32)).alloc (.cells #[.int .i64 0, .slice none 0 0, .int .i64 0, .slice none 0 0, .slice none 0 0] 32) = A := ⟨_, rfl⟩
  have hC0 : CQ w A (.slice a1 q.sent.length c1) (.slice a3 q.got.length c3) (.slice a4 q.line.length c4) q := hA ▸ CQ.new w _ _ _ q
  have hC0d : CQ w A.drew (.slice a1 q.sent.length c1) (.slice a3 q.got.length c3) (.slice a4 q.line.length c4) q := hC0.down (Below.refl _ _).drew
  have HA := hide hA
  have HK := hide (show ∀ W, CQ w W (.slice a1 q.sent.length c1) (.slice a3 q.got.length c3) (.slice a4 q.line.length c4) q → W.cell? ⟨w.heap.size, 0, none⟩ = some (.int .i64 q.win) ∧ W.cell? ⟨w.heap.size, 1, none⟩ = some (.slice a1 q.sent.length c1) ∧ W.cell? ⟨w.heap.size, 2, none⟩ = some (.int .i64 q.base) ∧ W.cell? ⟨w.heap.size, 3, none⟩ = some (.slice a3 q.got.length c3) ∧ W.cell? ⟨w.heap.size, 4, none⟩ = some (.slice a4 q.line.length c4) from fun W h => ⟨h.arg.pen.1.1, h.arg.pen.1.2.1, h.arg.pen.1.2.2.1, h.arg.pen.1.2.2.2.1, h.arg.pen.1.2.2.2.2⟩)
  have HT1 := hide (show ∀ W, CQ w W (.slice a1 q.sent.length c1) (.slice a3 q.got.length c3) (.slice a4 q.line.length c4) q → Calls Try.prog 72 #[.slice a1 q.sent.length c1] W fun e W' => (∃ a n c, e = .returned (.slice a n c) ∧ OwnT W' W.heap.size (.slice a n c) q.sent) ∧ CQ w W' (.slice a1 q.sent.length c1) (.slice a3 q.got.length c3) (.slice a4 q.line.length c4) q ∧ Below W.heap.size W W' from fun W h => (copy_names _ q.sent W (HY.out.s.below h.low) HS.out.s HG.out.sent12).mono (by
    rintro e W' ⟨hh, hb⟩
    exact ⟨hh, h.down hb, hb⟩))
  have HT3 := hide (show ∀ W, CQ w W (.slice a1 q.sent.length c1) (.slice a3 q.got.length c3) (.slice a4 q.line.length c4) q → Calls Try.prog 72 #[.slice a3 q.got.length c3] W fun e W' => (∃ a n c, e = .returned (.slice a n c) ∧ OwnT W' W.heap.size (.slice a n c) q.got) ∧ CQ w W' (.slice a1 q.sent.length c1) (.slice a3 q.got.length c3) (.slice a4 q.line.length c4) q ∧ Below W.heap.size W W' from fun W h => (copy_names _ q.got W (HY.out.g.below h.low) HS.out.g HG.out.got12).mono (by
    rintro e W' ⟨hh, hb⟩
    exact ⟨hh, h.down hb, hb⟩))
  have HT4 := hide (show ∀ W, CQ w W (.slice a1 q.sent.length c1) (.slice a3 q.got.length c3) (.slice a4 q.line.length c4) q → Calls Try.prog 73 #[.slice a4 q.line.length c4] W fun e W' => (∃ a n c, e = .returned (.slice a n c) ∧ OwnP W' W.heap.size (.slice a n c) q.line) ∧ CQ w W' (.slice a1 q.sent.length c1) (.slice a3 q.got.length c3) (.slice a4 q.line.length c4) q ∧ Below W.heap.size W W' from fun W h => (copy_line _ q.line W (HY.out.l.below h.low) HS.out.l HG.out.line12).mono (by
    rintro e W' ⟨hh, hb⟩
    exact ⟨hh, h.down hb, hb⟩))
  have n1 : w.heap.size ≠ w.heap.size + 1 := by omega
  clear hA
  go_enter Try.func45, Try.ntmps45
  go_upto_region 1 with fail
  rw [HA.out]
  go_region_held3 (fun W => W.cell? ⟨w.heap.size, 0, none⟩ = some (.int .i64 q.win) ∧ W.cell? ⟨w.heap.size, 1, none⟩ = some (.slice a1 q.sent.length c1) ∧ W.cell? ⟨w.heap.size, 2, none⟩ = some (.int .i64 q.base) ∧ W.cell? ⟨w.heap.size, 3, none⟩ = some (.slice a3 q.got.length c3) ∧ W.cell? ⟨w.heap.size, 4, none⟩ = some (.slice a4 q.line.length c4)) (first
    | with_reducible exact HK.out _ hC0d
    | with_reducible exact HK.out _ hC0
    | with_reducible exact HK.out _ hC1
    | with_reducible exact HK.out _ hC2
    | with_reducible exact HK.out _ hC3
    | with_reducible exact hKS) (first
    | (go_at_call_of 72 (Value.slice a1 q.sent.length c1); with_reducible refine Calls.mono (HT1.out _ (by first | with_reducible exact hC0d | with_reducible exact hC0)) ?_; rintro e wa ⟨⟨x1, n1', k1, rfl, hO1⟩, hC1, hb1⟩)
    | (go_at_call_of 72 (Value.slice a3 q.got.length c3); with_reducible refine Calls.mono (HT3.out _ (by with_reducible exact hC1)) ?_; rintro e wb ⟨⟨x3, n3', k3, rfl, hO3⟩, hC2, hb2⟩)
    | (go_at_call 73; with_reducible refine Calls.mono (HT4.out _ (by with_reducible exact hC2)) ?_; rintro e wc ⟨⟨x4, n4', k4, rfl, hO4⟩, hC3, hb3⟩; obtain ⟨⟨e0, e1, e2, e3, e4⟩, f0, f1, f2, f3, f4⟩ := hC3.res.pen; have hKS := (((((hC3.arg.set_other n1 0 (.int .i64 q.win)).set_other n1 1 (.slice x1 n1' k1)).set_other n1 2 (.int .i64 q.base)).set_other n1 3 (.slice x3 n3' k3)).set_other n1 4 (.slice x4 n4' k4)).pen.1))
  all_goals
    obtain ⟨WZ, hWZ⟩ : ∃ WZ, ((((wc.setCell ⟨w.heap.size + 1, 0, none⟩ (.int .i64 q.win)).setCell ⟨w.heap.size + 1, 1, none⟩ (.slice x1 n1' k1)).setCell ⟨w.heap.size + 1, 2, none⟩ (.int .i64 q.base)).setCell ⟨w.heap.size + 1, 3, none⟩ (.slice x3 n3' k3)).setCell ⟨w.heap.size + 1, 4, none⟩ (.slice x4 n4' k4) = WZ := ⟨_, rfl⟩
    obtain ⟨j1, j2, j3⟩ := putW5 hC3.res hC3.low (by omega) _ _ _ _ _ WZ hWZ
    have HF := hide (show AnsQ WZ w.heap.size WZ.heap.size (.slice x1 n1' k1) (.slice x3 n3' k3) (.slice x4 n4' k4) q.sent q.got q.line from by
      have g0 := hC0.big
      have g1 := hC1.big
      have g2 := hC2.big
      have g0d : A.drew.heap.size = A.heap.size := rfl
      have o1 := (hO1.down hb2).down hb3
      have o3 := hO3.down hb3
      refine AnsQ.of ((o1.other j3 (fun k hk e => ?_)).mono (by omega)) ((o3.other j3 (fun k hk e => ?_)).mono (by omega)) ((hO4.other j3 (fun k hk e => ?_)).mono (by omega)) (fun k hk e => ?_) (fun k hk e => ?_) (fun k hk e => ?_)
      · have := (o1.lt hk).1; simp only [Option.some.injEq] at e; omega
      · have := (o3.lt hk).1; simp only [Option.some.injEq] at e; omega
      · have := (hO4.lt hk).1; simp only [Option.some.injEq] at e; omega
      · have := (hO1.lt hk).2; have := (hO3.lt e).1; omega
      · have := (hO1.lt hk).2; have := (hO4.lt e).1; have := hb2.size; omega
      · have := (hO3.lt hk).2; have := (hO4.lt e).1; omega)
    have HJ := hide (And.intro j1 j2)
    have HWZ := hide hWZ
    clear j1 j2 j3 hWZ hKS hO1 hO3 hO4 hb1 hb2 hb3 hC0 hC0d hC1 hC2 hC3 HK HT1 HT3 HT4
    go_wp2
    rw [HWZ.out]
    clear e0 e1 e2 e3 e4 f0 f1 f2 f3 f4
    obtain ⟨⟨e0, e1, e2, e3, e4⟩, -⟩ := HJ.out.1.pen
    exact bodyPost_ret (v := qv (.slice x1 n1' k1) (.slice x3 n3' k3) (.slice x4 n4' k4) q) (by simp [results, Try.results45, go_sem, e0, e1, e2, e3, e4]) rfl ⟨⟨_, _, _, rfl, HF.out⟩, HJ.out.2⟩
end Go.Proofs.Ytfjdbenbiakbbaa
