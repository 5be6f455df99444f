/-
  Texts that follow one another, joined: QuDg, QuDh.
-/
import Derived.Test.YtfjdbenbiakbbaaJoin38
import Derived.Deep.CutRange
import Derived.Test.YtfjdbenbiakbbaaJoin23
/-
  A queue and a step that are drawn.
-/
namespace Go.Proofs.Ytfjdbenbiakbbaa
open Go.RowKit M
namespace M
/-- While a step is drawn for a queue: the reader, the boxes of the answer, the queue in its box, the step's box, if it is there. -/
structure SE (w W : World) (B cb N g : Nat) (v1 v3 v4 : Value) (q : Qu) (o : Option Nat) : Prop where
  c : CurAt W B cb N
  low : Below w.heap.size w W
  r1 : Blk W w.heap.size 5 (w5 (.int .i64 0) (.slice none 0 0) (.int .i64 0) (.slice none 0 0) (.slice none 0 0)) 32
  r2 : Blk W (w.heap.size + 1) 3 (t3 (.int .i64 0) (.int .i64 0) (.string ⟨#[]⟩)) 36
  hc : cb = w.heap.size + 2
  bx : Blk W g 5 (qf v1 v3 v4 q) 32
  gl : w.heap.size + 3 ≤ g
  ans : AnsQ W (w.heap.size + 3) W.heap.size v1 v3 v4 q.sent q.got q.line
  box : ∀ k, o = some k → Blk W k 3 (t3 (.int .i64 0) (.int .i64 0) (.string ⟨#[]⟩)) 36 ∧ g < k
section
variable {w W W' : World} {B cb N N' g : Nat} {v1 v3 v4 : Value} {q : Qu} {o : Option Nat}
theorem SE.draw (h : SE w W B cb N g v1 v3 v4 q o) (hcu : CurAt W' B cb N') (hb : But cb W W') : SE w W' B cb N' g v1 v3 v4 q o := by
  have hc := h.hc
  have hg := h.gl
  refine ⟨hcu, h.low.trans (hb.below (by omega) h.low.size), hb.blk h.r1 (by omega), hb.blk h.r2 (by omega), h.hc, hb.blk h.bx (by omega), h.gl, ?_, fun k hk => ⟨hb.blk (h.box k hk).1 (by have := (h.box k hk).2; omega), (h.box k hk).2⟩⟩
  exact AnsQ.of (hb.owns h.ans.o1 (by omega)) (hb.owns h.ans.o3 (by omega)) (hb.owns h.ans.o4 (by omega)) h.ans.a13 h.ans.a14 h.ans.a34
theorem SE.down (h : SE w W B cb N g v1 v3 v4 q o) (hb : Below W.heap.size W W') : SE w W' B cb N g v1 v3 v4 q o :=
  ⟨h.c.below hb, h.low.trans (hb.mono h.low.size), h.r1.down hb, h.r2.down hb, h.hc, h.bx.down hb, h.gl, (h.ans.down hb).mono (Nat.le_refl _) hb.size, fun k hk => ⟨(h.box k hk).1.down hb, (h.box k hk).2⟩⟩
theorem SE.drew (h : SE w W B cb N g v1 v3 v4 q o) : SE w W.drew B cb N g v1 v3 v4 q o := h.down (Below.refl _ _).drew
theorem SE.alloc (h : SE w W B cb N g v1 v3 v4 q none) : SE w (W.alloc (.cells #[.int .i64 0, .int .i64 0, .string ⟨#[]⟩] 36)) B cb N g v1 v3 v4 q (some W.heap.size) := by
  have hd := (Below.refl W.heap.size W).alloc (Nat.le_refl _) (.cells #[.int .i64 0, .int .i64 0, .string ⟨#[]⟩] 36)
  have h2 := h.down hd
  refine ⟨h2.c, h2.low, h2.r1, h2.r2, h2.hc, h2.bx, h2.gl, h2.ans, fun k hk => ?_⟩
  simp only [Option.some.injEq] at hk
  subst hk
  exact ⟨newT3 W _ _ _ 36, h.bx.lt⟩
/-- With the step in its box. -/
structure SF (w W : World) (B cb N g k : Nat) (v1 v3 v4 : Value) (q : Qu) (s : Lst) : Prop where
  e : SE w W B cb N g v1 v3 v4 q none
  sb : Blk W k 3 (ql s) 36
  gk : g < k
theorem SF.draw {k : Nat} {s : Lst} (h : SF w W B cb N g k v1 v3 v4 q s) (hcu : CurAt W' B cb N') (hb : But cb W W') : SF w W' B cb N' g k v1 v3 v4 q s :=
  ⟨h.e.draw hcu hb, hb.blk h.sb (by have := h.gk; have := h.e.gl; have := h.e.hc; omega), h.gk⟩
theorem SF.drew {k : Nat} {s : Lst} (h : SF w W B cb N g k v1 v3 v4 q s) : SF w W.drew B cb N g k v1 v3 v4 q s := ⟨h.e.drew, h.sb.down (Below.refl _ _).drew, h.gk⟩
theorem SF.put1 {k : Nat} {s : Lst} (h : SF w W B cb N g k v1 v3 v4 q s) (x : Int) : SF w (W.setCell ⟨k, 1, none⟩ (.int .i64 x)) B cb N g k v1 v3 v4 q { s with k := x } := by
  have hgk := h.gk
  have hg := h.e.gl
  have hc := h.e.hc
  have hlow : Below k W (W.setCell ⟨k, 1, none⟩ (.int .i64 x)) := (Below.refl k W).setCell (p := ⟨k, 1, none⟩) (Nat.le_refl _) _
  have hgr : W.grownBy (W.setCell ⟨k, 1, none⟩ (.int .i64 x)) (some k) := gbT_set (gbT_refl W (some k))
  have hblk : ∀ {j n : Nat} {f : Nat → Value} {t : TypeId}, Blk W j n f t → j < k → Blk (W.setCell ⟨k, 1, none⟩ (.int .i64 x)) j n f t := fun hj hlt => hj.gb hgr (fun e => by simp only [Option.some.injEq] at e; omega)
  refine ⟨⟨h.e.c.lowC hlow (by omega), h.e.low.trans (hlow.mono (by omega)), hblk h.e.r1 (by omega), hblk h.e.r2 (by omega), h.e.hc, hblk h.e.bx hgk, h.e.gl, ?_, fun k hk => by cases hk⟩, h.sb.l1 x, hgk⟩
  refine AnsQ.of (h.e.ans.o1.other hgr (fun j hj e => ?_)) (h.e.ans.o3.other hgr (fun j hj e => ?_)) (h.e.ans.o4.other hgr (fun j hj e => ?_)) h.e.ans.a13 h.e.ans.a14 h.e.ans.a34
  · exact h.e.ans.o1.ne_blk h.sb (by decide) (by rw [hj, e])
  · exact h.e.ans.o3.ne_blk h.sb (by decide) (by rw [hj, e])
  · exact h.e.ans.o4.ne_blk h.sb (by decide) (by rw [hj, e])
theorem SF.more {k : Nat} {s : Lst} (h : SF w W B cb N g k v1 v3 v4 q s) : SF w W B cb (N + 1) g k v1 v3 v4 q s := ⟨⟨h.e.c.more (Nat.le_succ _), h.e.low, h.e.r1, h.e.r2, h.e.hc, h.e.bx, h.e.gl, h.e.ans, h.e.box⟩, h.sb, h.gk⟩
theorem SE.set {k : Nat} (h : SE w W B cb N g v1 v3 v4 q (some k)) (s : Lst) : SF w (((W.setCell ⟨k, 0, none⟩ (.int .i64 s.kind)).setCell ⟨k, 1, none⟩ (.int .i64 s.k)).setCell ⟨k, 2, none⟩ (.string s.tx)) B cb N g k v1 v3 v4 q s := by
  obtain ⟨hb, hgk⟩ := h.box k rfl
  have hg := h.gl
  have hc := h.hc
  have hlow : Below k W (((W.setCell ⟨k, 0, none⟩ (.int .i64 s.kind)).setCell ⟨k, 1, none⟩ (.int .i64 s.k)).setCell ⟨k, 2, none⟩ (.string s.tx)) :=
    (((Below.refl k W).setCell (p := ⟨k, 0, none⟩) (Nat.le_refl _) _).setCell (p := ⟨k, 1, none⟩) (Nat.le_refl _) _).setCell (p := ⟨k, 2, none⟩) (Nat.le_refl _) _
  have hgr : W.grownBy (((W.setCell ⟨k, 0, none⟩ (.int .i64 s.kind)).setCell ⟨k, 1, none⟩ (.int .i64 s.k)).setCell ⟨k, 2, none⟩ (.string s.tx)) (some k) :=
    gbT_set (o := 2) (gbT_set (o := 1) (gbT_set (o := 0) (gbT_refl W (some k))))
  have hblk : ∀ {j n : Nat} {f : Nat → Value} {t : TypeId}, Blk W j n f t → j < k → Blk (((W.setCell ⟨k, 0, none⟩ (.int .i64 s.kind)).setCell ⟨k, 1, none⟩ (.int .i64 s.k)).setCell ⟨k, 2, none⟩ (.string s.tx)) j n f t := fun hj hlt => hj.gb hgr (fun e => by simp only [Option.some.injEq] at e; omega)
  refine ⟨⟨h.c.lowC hlow (by omega), h.low.trans (hlow.mono (by omega)), hblk h.r1 (by omega), hblk h.r2 (by omega), h.hc, hblk h.bx hgk, h.gl, ?_, fun k hk => by cases hk⟩, hb.putT3 _ _ _, hgk⟩
  refine AnsQ.of (h.ans.o1.other hgr (fun j hj e => ?_)) (h.ans.o3.other hgr (fun j hj e => ?_)) (h.ans.o4.other hgr (fun j hj e => ?_)) h.ans.a13 h.ans.a14 h.ans.a34
  · exact h.ans.o1.ne_blk hb (by decide) (by rw [hj, e])
  · exact h.ans.o3.ne_blk hb (by decide) (by rw [hj, e])
  · exact h.ans.o4.ne_blk hb (by decide) (by rw [hj, e])
theorem SE.fresh (h : SE w W B cb N g v1 v3 v4 q none) (s : Lst) : SF w (W.alloc (.cells #[.int .i64 s.kind, .int .i64 s.k, .string s.tx] 36)) B cb N g W.heap.size v1 v3 v4 q s :=
  ⟨h.down ((Below.refl W.heap.size W).alloc (Nat.le_refl _) _), newT3 W _ _ _ 36, h.bx.lt⟩
end
/-- A queue and a step in memory of the call's own. -/
def DrawnS (w w' : World) (e : Ending) : Prop := ∃ v1 v3 v4 q s, e = .returned (.tuple #[qv v1 v3 v4 q, Lst.v s]) ∧ AnsQ w' w.heap.size w'.heap.size v1 v3 v4 q.sent q.got q.line ∧ ShortQ q ∧ (∀ x ∈ q.sent, x.size ≤ maxLen) ∧ s.tx.size ≤ maxLen
end M
set_option maxRecDepth 20000 in
set_option maxHeartbeats 4000000 in
theorem draw_step (v : Value) (n : Nat) (f : Nat → Nat) (w : World) (hv : OctetsOf w v n f) (hn : n ≤ 1048576) :
    Calls Try.prog 36 #[v] w fun e w' => DrawnS w w' e ∧ Below w.heap.size w w' := by
  obtain ⟨a, cap, rfl⟩ := hv.form
  obtain ⟨A, hA0⟩ : ∃ A, (w.alloc (.cells #[.int .i64 0, .slice none 0 0, .int .i64 0, .slice none 0 0, .slice none 0 0] 32)).alloc (.cells #[.int .i64 0, .int .i64 0, .string ⟨#[]⟩] 36) = A := ⟨_, rfl⟩
  have hal : Below w.heap.size w A := hA0 ▸ ((Below.refl w.heap.size w).alloc (Nat.le_refl _) (.cells #[.int .i64 0, .slice none 0 0, .int .i64 0, .slice none 0 0, .slice none 0 0] 32)).alloc (by simp) _
  have HSZ := hide (show A.heap.size = w.heap.size + 2 from by rw [← hA0]; simp)
  have hal2 := (Below.refl A.heap.size A).alloc (Nat.le_refl _) (.cells #[.slice a n cap, .int .i64 0, .int .u64 0] 84)
  have HC := hide (cur_new (hv.below hal) hn)
  have HB := hide (And.intro hal hal2)
  have HR1 := hide (show Blk A w.heap.size 5 (w5 (.int .i64 0) (.slice none 0 0) (.int .i64 0) (.slice none 0 0) (.slice none 0 0)) 32 from hA0 ▸ (newW5 w (.int .i64 0) (.slice none 0 0) (.int .i64 0) (.slice none 0 0) (.slice none 0 0) 32).alloc _)
  have HR2 := hide (show Blk A (w.heap.size + 1) 3 (t3 (.int .i64 0) (.int .i64 0) (.string ⟨#[]⟩)) 36 from by
    have := newT3 (w.alloc (.cells #[.int .i64 0, .slice none 0 0, .int .i64 0, .slice none 0 0, .slice none 0 0] 32)) (.int .i64 0) (.int .i64 0) (.string ⟨#[]⟩) 36
    rw [World.size_alloc] at this
    rw [← hA0]; exact this)
  have HA0 := hide hA0
  clear hv hal hal2 hA0
  go_enter Try.func36, Try.ntmps36
  go_upto_region 1 with fail
  rw [HA0.out]
  clear HA0
  go_wp2_with fail
  refine (cur_queue A.heap.size A.heap.size 0 _ HC.out (by omega)).mono ?_
  rintro e w1 ⟨⟨v1, v3, v4, q, rfl, hA, hs, hm, hl41, hb0, hb1⟩, hc1, ho1⟩
  obtain ⟨a1, c1, rfl⟩ := hA.o1.form
  obtain ⟨a3, c3, rfl⟩ := hA.o3.form
  obtain ⟨a4, c4, rfl⟩ := hA.o4.form
  have hA3 := hA.mono (show w.heap.size + 3 ≤ (A.alloc (.cells #[.slice a n cap, .int .i64 0, .int .u64 0] 84)).heap.size from by have := HSZ.out; rw [World.size_alloc]; omega) (Nat.le_refl _)
  have hsz1 : w.heap.size + 3 ≤ w1.heap.size := by have := HSZ.out; have h2 := ho1.size; rw [World.size_alloc] at h2; omega
  have hlow := HB.out.1.trans ((HB.out.2.trans (ho1.below (Nat.le_refl _) HB.out.2.size)).mono HB.out.1.size)
  have hr1 := ho1.blk (HR1.out.down HB.out.2) (by have := HSZ.out; omega)
  have hr2 := ho1.blk (HR2.out.down HB.out.2) (by have := HSZ.out; omega)
  have hd := (Below.refl w1.heap.size w1).alloc (Nat.le_refl _) (.cells (qarr (.slice a1 q.sent.length c1) (.slice a3 q.got.length c3) (.slice a4 q.line.length c4) q) 32)
  have hSE : SE w (w1.alloc (.cells (qarr (.slice a1 q.sent.length c1) (.slice a3 q.got.length c3) (.slice a4 q.line.length c4) q) 32)) A.heap.size A.heap.size (0 + 2200) w1.heap.size (.slice a1 q.sent.length c1) (.slice a3 q.got.length c3) (.slice a4 q.line.length c4) q none :=
    ⟨hc1.below hd, hlow.trans (hd.mono hlow.size), hr1.down hd, hr2.down hd, HSZ.out, newW5 w1 _ _ _ _ _ 32, hsz1, (hA3.down hd).mono (Nat.le_refl _) hd.size, fun k hk => by cases hk⟩
  have HF := hide (And.intro hs hm)
  clear hA hA3 hs hm hc1 ho1 HC HB HR1 HR2 hlow hr1 hr2 hd hsz1
  go_upto_region 3 with fail
  obtain ⟨g, hg⟩ : ∃ g, w1.heap.size = g := ⟨_, rfl⟩
  obtain ⟨W2, hW⟩ : ∃ W, w1.alloc (.cells (qarr (.slice a1 q.sent.length c1) (.slice a3 q.got.length c3) (.slice a4 q.line.length c4) q) 32) = W := ⟨_, rfl⟩
  rw [hg] at hSE ⊢
  rw [hW] at hSE ⊢
  obtain ⟨cb, hcb⟩ : ∃ c, A.heap.size = c := ⟨_, rfl⟩
  rw [hcb] at hSE ⊢
  clear hg hW hcb HSZ
  have hF1 := hSE
  have hF0 := hSE.drew
  have HL4 := hide (show ∀ W o N, SE w W cb cb N g (.slice a1 q.sent.length c1) (.slice a3 q.got.length c3) (.slice a4 q.line.length c4) q o → W.cell? ⟨g, 4, none⟩ = some (.slice a4 q.line.length c4) from fun W o N hW => hW.bx.pen.1.2.2.2.2)
  have HP5 := hide (show ∀ W o N, SE w W cb cb N g (.slice a1 q.sent.length c1) (.slice a3 q.got.length c3) (.slice a4 q.line.length c4) q o → N ≤ 100000 → Calls Try.prog 58 #[.pointer (some ⟨cb, 0, none⟩), .int .i64 5] W fun e W' => (∃ z : Nat, e = .returned (.int .i64 (z : Int)) ∧ z ≤ 5) ∧ SE w W' cb cb (N + 1) g (.slice a1 q.sent.length c1) (.slice a3 q.got.length c3) (.slice a4 q.line.length c4) q o from fun W o N hW hN => (cur_pick cb cb N 5 W hW.c (by omega) (by omega)).mono (by
    rintro e W' ⟨⟨z, hz, he⟩, hc, hb⟩
    exact ⟨⟨z, he, by omega⟩, hW.draw hc hb⟩))
  have HPL := hide (show ∀ W o N, SE w W cb cb N g (.slice a1 q.sent.length c1) (.slice a3 q.got.length c3) (.slice a4 q.line.length c4) q o → N ≤ 100000 → Calls Try.prog 58 #[.pointer (some ⟨cb, 0, none⟩), .int .i64 (IntKind.i64.wrap ((q.line.length : Int) + 1))] W fun e W' => (∃ z : Nat, e = .returned (.int .i64 (z : Int)) ∧ z ≤ 42) ∧ SE w W' cb cb (N + 1) g (.slice a1 q.sent.length c1) (.slice a3 q.got.length c3) (.slice a4 q.line.length c4) q o from fun W o N hW hN => by
    rw [show IntKind.i64.wrap ((q.line.length : Int) + 1) = ((q.line.length + 1 : Nat) : Int) from by rw [IntKind.wrap_i64]; omega]
    refine (cur_pick cb cb N (q.line.length + 1) W hW.c (by omega) (by omega)).mono ?_
    rintro e W' ⟨⟨z, hz, he⟩, hc, hb⟩
    exact ⟨⟨z, he, by omega⟩, hW.draw hc hb⟩)
  have HLA := hide (show ∀ W o N ob, SE w W cb cb N g (.slice a1 q.sent.length c1) (.slice a3 q.got.length c3) (.slice a4 q.line.length c4) q o → (W.alloc ob).cell? ⟨g, 4, none⟩ = some (.slice a4 q.line.length c4) from fun W o N ob hW => (hW.bx.alloc ob).pen.1.2.2.2.2)
  have c4' := HL4.out _ _ _ hF1
  have n4' := fun ob => HLA.out _ _ _ ob hF1
  have n4d := fun ob => HLA.out _ _ _ ob hF0
  have c4d := HL4.out _ _ _ hF0
  go_cut [6] from 12 (fun p wx => ∃ (k N : Nat) (s : Lst), p = .pointer (some ⟨k, 0, none⟩) ∧ N ≤ 2300 ∧ s.tx = ⟨#[]⟩ ∧ Hid (SF w wx cb cb N g k (.slice a1 q.sent.length c1) (.slice a3 q.got.length c3) (.slice a4 q.line.length c4) q s))
  case first =>
    go_region_held3 (fun W => W.cell? ⟨g, 4, none⟩ = some (.slice a4 q.line.length c4)) (first
      | (with_reducible exact HL4.out _ _ _ (by with_reducible assumption))
      | (with_reducible exact HL4.out _ _ _ (SE.drew (by with_reducible assumption)))
      | (with_reducible exact HL4.out _ _ _ (SE.alloc (by with_reducible assumption)))
      | (with_reducible exact HL4.out _ _ _ (SE.alloc (by with_reducible assumption)).drew)
      | (with_reducible exact HL4.out _ _ _ (SE.fresh (by with_reducible assumption) ⟨_, _, _⟩).e)
      | (with_reducible exact HL4.out _ _ _ (SE.set (by with_reducible assumption) ⟨_, _, _⟩).e)) (first
      | (go_at_call 58; with_reducible refine Calls.mono (HP5.out _ _ _ (by first | assumption | exact SE.alloc (by assumption) | exact (SE.alloc (by assumption)).drew | exact SE.drew (by assumption)) (by omega)) ?_; rintro e wp ⟨⟨z5, rfl, hz5⟩, hSp⟩; have cp := HL4.out _ _ _ hSp; have np := fun ob => HLA.out _ _ _ ob hSp; first | (obtain ⟨⟨knp0, knp1, knp2⟩, fnp0, fnp1, fnp2⟩ := (hSp.box _ rfl).1.trp) | skip)
      | (go_at_call 58; with_reducible refine Calls.mono (HPL.out _ _ _ (by first | assumption | exact SE.alloc (by assumption) | exact (SE.alloc (by assumption)).drew | exact SE.drew (by assumption)) (by omega)) ?_; rintro e wq ⟨⟨zl, rfl, hzl⟩, hSq⟩; have cq := HL4.out _ _ _ hSq; have nq := fun ob => HLA.out _ _ _ ob hSq; first | (obtain ⟨⟨knq0, knq1, knq2⟩, fnq0, fnq1, fnq2⟩ := (hSq.box _ rfl).1.trp) | skip))
    all_goals
      have hw : IntKind.i64.wrap (1 + (z5 : Int)) = 1 + (z5 : Int) := by rw [IntKind.wrap_i64]; omega
      simp only [hw]
      clear hw
      go_wp2_with fail
      go_meet
      first
        | (have hz := SE.set hSq ⟨1 + (z5 : Int), (zl : Int), ⟨#[]⟩⟩; refine ⟨_, _, ⟨1 + (z5 : Int), (zl : Int), ⟨#[]⟩⟩, rfl, ?_, rfl, hide hz⟩; omega)
        | (have hz := SE.set hSp ⟨1 + (z5 : Int), (zl : Int), ⟨#[]⟩⟩; refine ⟨_, _, ⟨1 + (z5 : Int), (zl : Int), ⟨#[]⟩⟩, rfl, ?_, rfl, hide hz⟩; omega)
        | (have hz := SE.fresh hSq ⟨1 + (z5 : Int), (zl : Int), ⟨#[]⟩⟩; refine ⟨_, _, ⟨1 + (z5 : Int), (zl : Int), ⟨#[]⟩⟩, rfl, ?_, rfl, hide hz⟩; omega)
        | (have hz := SE.fresh hSp ⟨1 + (z5 : Int), (zl : Int), ⟨#[]⟩⟩; refine ⟨_, _, ⟨1 + (z5 : Int), (zl : Int), ⟨#[]⟩⟩, rfl, ?_, rfl, hide hz⟩; omega)
  case rest =>
  rename World => w5
  obtain ⟨k, N, s, rfl, hN, hst, HSF⟩ := hcut
  clear hF1 hF0 HL4 HLA HP5 HPL c4' c4d n4' n4d hSE
  obtain ⟨⟨d0, d1, d2⟩, f0, f1, f2⟩ := HSF.out.sb.trp
  go_upto_if 24 with fail
  go_cut [6] from 22 (fun p wx => ∃ (s' : Lst), p = .pointer (some ⟨k, 0, none⟩) ∧ s'.tx = ⟨#[]⟩ ∧ Hid (SF w wx cb cb (N + 1) g k (.slice a1 q.sent.length c1) (.slice a3 q.got.length c3) (.slice a4 q.line.length c4) q s'))
  case first =>
    by_cases hk2 : s.kind = 2
    · have hk3 : (s.kind == 2) = true := by simp [hk2]
      go_upto_region 5 with fail
      have hF1 := HSF.out
      have hF0 := HSF.out.drew
      have HPk := hide (show ∀ W, SF w W cb cb N g k (.slice a1 q.sent.length c1) (.slice a3 q.got.length c3) (.slice a4 q.line.length c4) q s → Calls Try.prog 58 #[.pointer (some ⟨cb, 0, none⟩), .int .i64 4] W fun e W' => (∃ z : Nat, e = .returned (.int .i64 (z : Int)) ∧ z ≤ 4) ∧ SF w W' cb cb (N + 1) g k (.slice a1 q.sent.length c1) (.slice a3 q.got.length c3) (.slice a4 q.line.length c4) q s from fun W hW => (cur_pick cb cb N 4 W hW.e.c (by omega) (by omega)).mono (by
        rintro e W' ⟨⟨z, hz, he⟩, hc, hb⟩
        exact ⟨⟨z, he, by omega⟩, hW.draw hc hb⟩))
      have m2 := hF1.e.bx.pen.1.2.2.1
      have m2d := hF0.e.bx.pen.1.2.2.1
      go_region_with (go_at_call 58; with_reducible refine Calls.mono (HPk.out _ (by assumption)) ?_; rintro e wp ⟨⟨z, rfl, hz⟩, hSp⟩; obtain ⟨⟨-, -, b2, -, -⟩, -⟩ := hSp.e.bx.pen; obtain ⟨⟨k0, k1, k2⟩, fk0, fk1, fk2⟩ := hSp.sb.trp)
      all_goals
        have hw : IntKind.i64.wrap (q.base + (z : Int)) = q.base + (z : Int) := by rw [IntKind.wrap_i64]; omega
        simp only [hw]
        clear hw
        have hy := hSp.put1 (q.base + (z : Int))
        go_wp2_with fail
        go_meet
        exact ⟨⟨s.kind, q.base + (z : Int), s.tx⟩, rfl, hst, hide hy⟩
    · have hk3 : (s.kind == 2) = false := by simp [hk2]
      have hz := HSF.out.more
      go_wp2_with fail
      go_meet
      exact ⟨s, rfl, hst, hide hz⟩
  case rest =>
  rename World => w6
  clear HSF d0 d1 d2 f0 f1 f2 hst
  obtain ⟨s', rfl, hst, HSF⟩ := hcut
  obtain ⟨⟨d0, d1, d2⟩, -⟩ := HSF.out.sb.trp
  obtain ⟨⟨y0, y1, y2, y3, y4⟩, -⟩ := HSF.out.e.bx.pen
  obtain ⟨⟨e0, e1, e2, e3, e4⟩, f0, f1, f2, f3, f4⟩ := HSF.out.e.r1.pen
  obtain ⟨⟨h0, h1, h2⟩, g0, g1, g2⟩ := HSF.out.e.r2.trp
  have hgk := HSF.out.gk
  have hgl := HSF.out.e.gl
  have ne1 : ¬ k = w.heap.size := by omega
  have ne2 : ¬ k = w.heap.size + 1 := by omega
  have ne3 : ¬ g = w.heap.size := by omega
  have ne4 : ¬ g = w.heap.size + 1 := by omega
  clear hgk hgl
  go_upto_region 6 with fail
  go_region
  obtain ⟨W7, hW7⟩ : ∃ W, ((((w6.setCell ⟨w.heap.size, 0, none⟩ (.int .i64 q.win)).setCell ⟨w.heap.size, 1, none⟩ (.slice a1 q.sent.length c1)).setCell ⟨w.heap.size, 2, none⟩ (.int .i64 q.base)).setCell ⟨w.heap.size, 3, none⟩ (.slice a3 q.got.length c3)).setCell ⟨w.heap.size, 4, none⟩ (.slice a4 q.line.length c4) = W := ⟨_, rfl⟩
  obtain ⟨W9, hW9⟩ : ∃ W, (((W7.setCell ⟨w.heap.size + 1, 0, none⟩ (.int .i64 s'.kind)).setCell ⟨w.heap.size + 1, 1, none⟩ (.int .i64 s'.k)).setCell ⟨w.heap.size + 1, 2, none⟩ (.string ⟨#[]⟩)).drew = W := ⟨_, rfl⟩
  have HJ := hide (show Blk W9 w.heap.size 5 (qf (.slice a1 q.sent.length c1) (.slice a3 q.got.length c3) (.slice a4 q.line.length c4) q) 32 ∧ Blk W9 (w.heap.size + 1) 3 (ql ⟨s'.kind, s'.k, ⟨#[]⟩⟩) 36 ∧ AnsQ W9 w.heap.size W9.heap.size (.slice a1 q.sent.length c1) (.slice a3 q.got.length c3) (.slice a4 q.line.length c4) q.sent q.got q.line ∧ Below w.heap.size w W9 from by
    have h := HSF.out.e
    obtain ⟨j1, j2, j3⟩ := putW5 h.r1 h.low (Nat.le_refl _) _ _ _ _ _ W7 hW7
    have r2 := h.r2.gb j3 (fun e => by simp only [Option.some.injEq] at e; omega)
    have hgr : W7.grownBy (((W7.setCell ⟨w.heap.size + 1, 0, none⟩ (.int .i64 s'.kind)).setCell ⟨w.heap.size + 1, 1, none⟩ (.int .i64 s'.k)).setCell ⟨w.heap.size + 1, 2, none⟩ (.string ⟨#[]⟩)) (some (w.heap.size + 1)) :=
      gbT_set (o := 2) (gbT_set (o := 1) (gbT_set (o := 0) (gbT_refl W7 (some (w.heap.size + 1)))))
    have hlow := ((j2.setCell (p := ⟨w.heap.size + 1, 0, none⟩) (Nat.le_succ _) (.int .i64 s'.kind)).setCell (p := ⟨w.heap.size + 1, 1, none⟩) (Nat.le_succ _) (.int .i64 s'.k)).setCell (p := ⟨w.heap.size + 1, 2, none⟩) (Nat.le_succ _) (.string ⟨#[]⟩)
    have ha := h.ans
    have hA : AnsQ (((W7.setCell ⟨w.heap.size + 1, 0, none⟩ (.int .i64 s'.kind)).setCell ⟨w.heap.size + 1, 1, none⟩ (.int .i64 s'.k)).setCell ⟨w.heap.size + 1, 2, none⟩ (.string ⟨#[]⟩)) (w.heap.size + 3) (((W7.setCell ⟨w.heap.size + 1, 0, none⟩ (.int .i64 s'.kind)).setCell ⟨w.heap.size + 1, 1, none⟩ (.int .i64 s'.k)).setCell ⟨w.heap.size + 1, 2, none⟩ (.string ⟨#[]⟩)).heap.size (.slice a1 q.sent.length c1) (.slice a3 q.got.length c3) (.slice a4 q.line.length c4) q.sent q.got q.line := by
      refine AnsQ.of ((ha.o1.other j3 (fun k hk e => ?_)).other hgr (fun k hk e => ?_)) ((ha.o3.other j3 (fun k hk e => ?_)).other hgr (fun k hk e => ?_)) ((ha.o4.other j3 (fun k hk e => ?_)).other hgr (fun k hk e => ?_)) ha.a13 ha.a14 ha.a34
      · have := (ha.o1.lt hk).1; simp only [Option.some.injEq] at e; omega
      · have := (ha.o1.lt hk).1; simp only [Option.some.injEq] at e; omega
      · have := (ha.o3.lt hk).1; simp only [Option.some.injEq] at e; omega
      · have := (ha.o3.lt hk).1; simp only [Option.some.injEq] at e; omega
      · have := (ha.o4.lt hk).1; simp only [Option.some.injEq] at e; omega
      · have := (ha.o4.lt hk).1; simp only [Option.some.injEq] at e; omega
    have hdr := (Below.refl (((W7.setCell ⟨w.heap.size + 1, 0, none⟩ (.int .i64 s'.kind)).setCell ⟨w.heap.size + 1, 1, none⟩ (.int .i64 s'.k)).setCell ⟨w.heap.size + 1, 2, none⟩ (.string ⟨#[]⟩)).heap.size (((W7.setCell ⟨w.heap.size + 1, 0, none⟩ (.int .i64 s'.kind)).setCell ⟨w.heap.size + 1, 1, none⟩ (.int .i64 s'.k)).setCell ⟨w.heap.size + 1, 2, none⟩ (.string ⟨#[]⟩))).drew
    rw [← hW9]
    exact ⟨(j1.gb hgr (fun e => by simp only [Option.some.injEq] at e; omega)).down hdr, (r2.putT3 _ _ _).down hdr, ((hA.down hdr).mono (by omega) (Nat.le_refl _)), hlow.drew⟩)
  rw [hW7, hW9]
  clear hW7 hW9 HSF d0 d1 d2 y0 y1 y2 y3 y4 e0 e1 e2 e3 e4 f0 f1 f2 f3 f4 h0 h1 h2 g0 g1 g2 ne1 ne2 ne3 ne4 hst
  obtain ⟨⟨e0, e1, e2, e3, e4⟩, -⟩ := HJ.out.1.pen
  obtain ⟨⟨h0, h1, h2⟩, -⟩ := HJ.out.2.1.trp
  go_wp2
  exact bodyPost_ret (v := .tuple #[qv (.slice a1 q.sent.length c1) (.slice a3 q.got.length c3) (.slice a4 q.line.length c4) q, .agg #[.int .i64 s'.kind, .int .i64 s'.k, .string ⟨#[]⟩]]) (by simp [results, Try.results36, go_sem, e0, e1, e2, e3, e4, h0, h1, h2]) rfl ⟨⟨_, _, _, q, ⟨s'.kind, s'.k, ⟨#[]⟩⟩, rfl, HJ.out.2.2.1, HF.out.1, HF.out.2, by show ByteArray.size ⟨#[]⟩ ≤ maxLen; decide⟩, HJ.out.2.2.2⟩
end Go.Proofs.Ytfjdbenbiakbbaa

/-
  What was sent, step by step; what has come is a beginning of it.
-/
namespace Go.Proofs.Ytfjdbenbiakbbaa
open Go.RowKit M
namespace M
theorem puts_snoc : ∀ (l : List Lst) (ds : List Bool) (s : Lst) (d : Bool), l.length = ds.length → putsOf (l ++ [s]) (ds ++ [d]) = putsOf l ds ++ (if d = true ∧ s.kind = 1 then [s.tx] else [])
  | [], [], s, d, _ => by
    simp only [List.nil_append, putsOf]
  | [], _ :: _, _, _, h => by simp at h
  | _ :: _, [], _, _, h => by simp at h
  | a :: l, b :: ds, s, d, h => by
    have ih := puts_snoc l ds s d (by simpa using h)
    simp only [List.cons_append, putsOf, ih]
    split <;> simp
theorem puts_len : ∀ (l : List Lst) (ds : List Bool), (putsOf l ds).length ≤ l.length
  | [], [] => by simp [putsOf]
  | [], _ :: _ => by simp [putsOf]
  | _ :: _, [] => by simp [putsOf]
  | a :: l, b :: ds => by
    have ih := puts_len l ds
    unfold putsOf
    split
    · simp; omega
    · simp; omega
/-- What has come is a beginning of what was sent. -/
theorem got_take2 {q : Qu} (h : GoodQ q) : q.sent.take q.got.length = q.got := by
  apply List.ext_getElem?
  intro i
  have hgs := h.gs
  by_cases hi : i < q.got.length
  · rw [List.getElem?_take, if_pos hi]
    have hs : q.sent[i]? = some q.sent[i] := List.getElem?_eq_getElem (by omega)
    rw [hs, h.beg i _ hi hs]
  · rw [List.getElem?_eq_none (by rw [List.length_take]; omega), List.getElem?_eq_none (by omega)]
end M
end Go.Proofs.Ytfjdbenbiakbbaa
