/-
  A queue that is drawn.
-/
import Derived.Test.YtfjdbenbiakbbaaJoin19
import Derived.Test.YtfjdbenbiakbbaaJoin33
import Derived.Deep.RegionLaw
import Derived.Deep.RegionHeld3
namespace Go.Proofs.Ytfjdbenbiakbbaa
open Go.RowKit M
open Go.Sort (grow)
namespace M
theorem CurAt.lowC {w w' : World} {B cb N lo : Nat} (h : CurAt w B cb N) (hb : Below lo w w') (hl : cb < lo) : CurAt w' B cb N := by
  obtain ⟨v, n, f, t, s, ht, hn, hB, hk, w0, h0, ho, hb0⟩ := h
  refine ⟨v, n, f, t, s, ht, hn, hB, ?_, w0, h0, ho, hb0.trans (hb.mono (by omega))⟩
  unfold Blk; rw [hb.block cb hl]; exact hk
theorem But.lowC {cb lo : Nat} {w w1 w2 : World} (h : But cb w w1) (hb : Below lo w1 w2) (hl : w.heap.size ≤ lo) : But cb w w2 :=
  ⟨hb.os.trans h.os, hb.tape.trans h.tape, hb.output.trans h.output, Nat.le_trans h.size hb.size, fun k hk hne => (hb.block k (by omega)).trans (h.block k hk hne)⟩
/-- While a queue is drawn: the reader, the answer's box, the queue behind g. -/
structure QD (w W : World) (B cb N g : Nat) (v1 v3 v4 : Value) (q : Qu) : Prop where
  c : CurAt W B cb N
  b : But cb w W
  l : cb < w.heap.size
  res : Blk W w.heap.size 5 (w5 (.int .i64 0) (.slice none 0 0) (.int .i64 0) (.slice none 0 0) (.slice none 0 0)) 32
  pq : PQ W (w.heap.size + 1) g v1 v3 v4 q
section
variable {w W W' : World} {B cb N N' g : Nat} {v1 v3 v4 u1 u3 u4 : Value} {q q' : Qu}
theorem QD.draw (h : QD w W B cb N g v1 v3 v4 q) (hc : CurAt W' B cb N') (hb : But cb W W') : QD w W' B cb N' g v1 v3 v4 q :=
  have hl := h.l
  have hlo := h.pq.lo
  ⟨hc, h.b.trans hb, h.l, hb.blk h.res (by omega), ⟨hb.blk h.pq.box (by omega), h.pq.lo, hb.owns h.pq.o1 (by omega), hb.owns h.pq.o3 (by omega), hb.owns h.pq.o4 (by omega), h.pq.a13, h.pq.a14, h.pq.a34, h.pq.n1, h.pq.n3, h.pq.n4⟩⟩
theorem QD.down (h : QD w W B cb N g v1 v3 v4 q) (hb : Below W.heap.size W W') : QD w W' B cb N g v1 v3 v4 q :=
  ⟨h.c.below hb, h.b.trans (But.of_below hb), h.l, h.res.down hb, h.pq.down hb⟩
theorem QD.more (h : QD w W B cb N g v1 v3 v4 q) (hN : N ≤ N') : QD w W B cb N' g v1 v3 v4 q := ⟨h.c.more hN, h.b, h.l, h.res, h.pq⟩
theorem QD.move (h : QD w W B cb N g v1 v3 v4 q) (hp : PQ W' (w.heap.size + 1) g u1 u3 u4 q') (hm : Mv g W v1 v3 v4 W' u1 u3 u4) : QD w W' B cb N g u1 u3 u4 q' := by
  have hl := h.l
  have hmn := h.pq.mine
  have hlow := hm.chg.low (B := w.heap.size + 1) hmn (Nat.le_trans h.pq.lo (Nat.le_of_lt h.pq.box.lt))
  exact ⟨h.c.lowC hlow (by omega), h.b.lowC hlow (by omega), h.l, h.res.chg hm.chg (fun hk => by have := hmn _ hk; omega), hp⟩
/-- The queue stored into the box of the answer. -/
theorem QD.fin (h : QD w W B cb N g v1 v3 v4 q) : ∀ WZ, (((((W.setCell ⟨w.heap.size, 0, none⟩ (.int .i64 q.win)).setCell ⟨w.heap.size, 1, none⟩ v1).setCell ⟨w.heap.size, 2, none⟩ (.int .i64 q.base)).setCell ⟨w.heap.size, 3, none⟩ v3).setCell ⟨w.heap.size, 4, none⟩ v4) = WZ →
    Blk WZ w.heap.size 5 (qf v1 v3 v4 q) 32 ∧ AnsQ WZ w.heap.size WZ.heap.size v1 v3 v4 q.sent q.got q.line ∧ CurAt WZ B cb N ∧ But cb w WZ := by
  intro WZ hWZ
  have hl := h.l
  obtain ⟨j1, j2, j3⟩ := putW5 (w := W) h.res (Below.refl w.heap.size W) (Nat.le_refl _) _ _ _ _ _ WZ hWZ
  have hm := h.pq.mine
  refine ⟨j1, AnsQ.of ((h.pq.o1.other j3 (fun k hk e => ?_)).mono (by omega)) ((h.pq.o3.other j3 (fun k hk e => ?_)).mono (by omega)) ((h.pq.o4.other j3 (fun k hk e => ?_)).mono (by omega)) h.pq.a13 h.pq.a14 h.pq.a34, h.c.lowC j2 (by omega), h.b.lowC j2 (Nat.le_refl _)⟩
  · have := hm k (.inr (.inl hk)); simp only [Option.some.injEq] at e; omega
  · have := hm k (.inr (.inr (.inl hk))); simp only [Option.some.injEq] at e; omega
  · have := hm k (.inr (.inr (.inr hk))); simp only [Option.some.injEq] at e; omega
theorem QD.new {w w3 : World} {B cb N : Nat} {v1 v3 v4 : Value} {q : Qu} (hc : CurAt w3 B cb N) (hb : But cb w w3) (hl : cb < w.heap.size) (hr : Blk w3 w.heap.size 5 (w5 (.int .i64 0) (.slice none 0 0) (.int .i64 0) (.slice none 0 0) (.slice none 0 0)) 32) (ha : AnsQ w3 (w.heap.size + 1) w3.heap.size v1 v3 v4 q.sent q.got q.line) : QD w (w3.alloc (.cells (qarr v1 v3 v4 q) 32)) B cb N w3.heap.size v1 v3 v4 q := by
  have hd := (Below.refl w3.heap.size w3).alloc (Nat.le_refl _) (.cells (qarr v1 v3 v4 q) 32)
  exact ⟨hc.below hd, hb.trans (But.of_below hd), hl, hr.down hd, PQ.new ha hr.lt⟩
end
theorem GoodQ.small {q : Qu} (h : GoodQ q) : ∀ x ∈ q.sent, x.size ≤ maxLen := fun x hx => by
  obtain ⟨i, hi⟩ := List.getElem?_of_mem hx
  have := h.tx i x hi
  unfold maxLen; omega
/-- A queue in memory of the call's own that need not be good. -/
def DrawnQ (w w' : World) (e : Ending) : Prop := ∃ v1 v3 v4 q, e = .returned (qv v1 v3 v4 q) ∧ AnsQ w' w.heap.size w'.heap.size v1 v3 v4 q.sent q.got q.line ∧ ShortQ q ∧ (∀ x ∈ q.sent, x.size ≤ maxLen) ∧ q.line.length ≤ 41 ∧ -1 ≤ q.base ∧ q.base ≤ 41
end M
set_option maxRecDepth 20000 in
set_option maxHeartbeats 8000000 in
theorem cur_queue (B cb N : Nat) (w : World) (h : CurAt w B cb N) (hN : N ≤ 800000) :
    Calls Try.prog 65 #[.pointer (some ⟨cb, 0, none⟩)] w fun e w' => DrawnQ w w' e ∧ CurAt w' B cb (N + 2200) ∧ But cb w w' := by
  have hal := (Below.refl w.heap.size w).alloc (Nat.le_refl _) (.cells #[.int .i64 0, .slice none 0 0, .int .i64 0, .slice none 0 0, .slice none 0 0] 32)
  have HC := hide (h.below hal)
  have HL := hide h.lt
  have HR0 := hide (newW5 w (.int .i64 0) (.slice none 0 0) (.int .i64 0) (.slice none 0 0) (.slice none 0 0) 32)
  have HBa := hide (But.of_below (cb := cb) hal)
  clear h hal
  go_enter Try.func65, Try.ntmps65
  go_wp2_with fail
  refine (cur_steps B cb N _ HC.out (by omega)).mono ?_
  rintro e w1 ⟨⟨v, l, rfl, ho, hl, hs⟩, hc1, ho1⟩
  have HO := hide (show ∀ W, But cb w1 W → OwnL W (w.alloc (.cells #[.int .i64 0, .slice none 0 0, .int .i64 0, .slice none 0 0, .slice none 0 0] 32)).heap.size v l from fun W hW => hW.owns ho (by have := HL.out; rw [World.size_alloc]; omega))
  have HS := hide hs
  have H1 := hide (show CurAt w1 B cb (N + 2100) ∧ But cb w w1 ∧ Blk w1 w.heap.size 5 (w5 (.int .i64 0) (.slice none 0 0) (.int .i64 0) (.slice none 0 0) (.slice none 0 0)) 32 from ⟨hc1, HBa.out.trans ho1, ho1.blk HR0.out (by have := HL.out; omega)⟩)
  have hsp := ho.split
  clear ho hs hc1 ho1 HC HR0 HBa
  obtain ⟨a, c, hv⟩ := (HO.out w1 (But.refl _ _)).form
  subst hv
  go_upto_if 11 with fail
  go_cut [3] from 11 (fun u wx => ∃ (u' : Lsts), Hid (∀ W, But cb w1 W → LstsOf W u u') ∧ u'.length ≤ 200 ∧ Hid (S12 u') ∧ Hid (wx = w1))
  case first =>
    by_cases hgt : 200 < l.length
    · have hd1 : decide ((200 : Int) < (l.length : Int)) = true := decide_eq_true (by omega)
      have hd2 : (200 : Int) < (l.length : Int) := by omega
      rcases hsp with ⟨-, rfl⟩ | ⟨gl, cap, he, hgl, hlt, hcap, hcm⟩
      · simp at hgt
      · simp only [Value.slice.injEq, true_and] at he
        obtain ⟨rfl, rfl⟩ := he
        have HU := hide (show ∀ W, But cb w1 W → LstsOf W (.slice (some ⟨gl, 0, none⟩) 60 c) (l.take 60) from fun W hW => by
          have h1 := HO.out W hW
          have hlen : (l.take 60).length = 60 := by rw [List.length_take]; omega
          refine ⟨some ⟨gl, 0, none⟩, c, by rw [hlen], fun _ => ⟨gl, 0, rfl, (h1.lt rfl).2, fun i d hi => ?_⟩⟩
          have hi2 : l[i]? = some d := by
            rw [List.getElem?_take] at hi
            split at hi
            · exact hi
            · cases hi
          rw [Nat.zero_add]; exact h1.l3 hi2)
        have hc60 : (60 : Int) ≤ (c : Int) := by omega
        have HS2 := hide (show S12 (l.take 60) from fun d hd => HS.out d (List.mem_of_mem_take hd))
        clear HO HS
        go_wp2_with fail
        go_meet
        exact ⟨l.take 60, HU, by rw [List.length_take]; omega, HS2, hide rfl⟩
    · have hd1 : decide ((200 : Int) < (l.length : Int)) = false := decide_eq_false (by omega)
      have hd2 : ¬ (200 : Int) < (l.length : Int) := by omega
      have HU := hide (show ∀ W, But cb w1 W → LstsOf W (.slice a l.length c) l from fun W hW => (HO.out W hW).lsts)
      clear HO
      go_wp2_with fail
      go_meet
      exact ⟨l, HU, by omega, HS, hide rfl⟩
  case rest =>
  obtain ⟨l2, HU, hl2, HS2, HWX⟩ := hcut
  have hwx := HWX.out
  subst hwx
  obtain ⟨a2, c2, hv2⟩ := (HU.out _ (But.refl _ _)).form
  subst hv2
  clear HO HS hsp HWX
  rename World => wS
  go_wp2_with fail
  refine (cur_pick B cb (N + 2100) 4 _ H1.out.1 (by omega) (by omega)).mono ?_
  rintro e w2 ⟨⟨x, hx, rfl⟩, hc2, ho2⟩
  have H2 := hide (show CurAt w2 B cb (N + 2101) ∧ But cb w w2 ∧ Blk w2 w.heap.size 5 (w5 (.int .i64 0) (.slice none 0 0) (.int .i64 0) (.slice none 0 0) (.slice none 0 0)) 32 from ⟨hc2, H1.out.2.1.trans ho2, ho2.blk H1.out.2.2 (by have := HL.out; omega)⟩)
  have HU2 := hide (HU.out w2 ho2)
  have HLN := hide (show LenL l2 from ⟨by unfold maxLen; omega, fun d hd => by have := HS2.out d hd; unfold maxLen; omega⟩)
  have hx4 : x < 4 := by omega
  have HPB := hide (show plB (1 + (x : Int)) l2 = true from by
    unfold plB
    rw [Bool.and_eq_true]
    exact ⟨(inB_iff _ _ _).2 ⟨by omega, by omega⟩, decide_eq_true hl2⟩)
  have HGQ := hide (show GoodQ (plQ (1 + (x : Int)) l2) from by
    unfold plQ; rw [if_pos HPB.out]
    exact good_ply _ _ (good_new (by omega) (by omega)))
  clear hc2 ho2 H1 HU HS2
  go_wp2_with fail
  refine (spec_play (1 + (x : Int)) _ l2 _ HU2.out HLN.out).mono ?_
  rintro e w3 ⟨⟨u1, u3, u4, uy, rfl, hA, -, -⟩, hb3⟩
  generalize plQ (1 + (x : Int)) l2 = q at *
  obtain ⟨a1, c1, rfl⟩ := hA.o1.form
  obtain ⟨a3, c3, rfl⟩ := hA.o3.form
  obtain ⟨a4, c4, rfl⟩ := hA.o4.form
  have HQ := hide (QD.new (H2.out.1.below hb3) (H2.out.2.1.trans (But.of_below hb3)) HL.out (H2.out.2.2.down hb3) (hA.mono (show w.heap.size + 1 ≤ w2.heap.size from H2.out.2.2.lt) (Nat.le_refl _)))
  clear hA hb3 H2 HU2 HLN HPB
  go_upto_region 5 with fail
  obtain ⟨g, hg⟩ : ∃ g, w3.heap.size = g := ⟨_, rfl⟩
  obtain ⟨W4, hW4⟩ : ∃ W, w3.alloc (.cells (qarr (.slice a1 q.sent.length c1) (.slice a3 q.got.length c3) (.slice a4 q.line.length c4) q) 32) = W := ⟨_, rfl⟩
  rw [hg] at HQ ⊢
  rw [hW4] at HQ ⊢
  clear hg hW4
  go_wp2_with fail
  refine (cur_pick B cb (N + 2101) 40 _ HQ.out.c (by omega) (by omega)).mono ?_
  rintro e w5 ⟨⟨y, hy, rfl⟩, hc5, ho5⟩
  have HQ5 := hide (HQ.out.draw hc5 ho5)
  clear hc5 ho5 HQ
  by_cases hy0 : y = 0
  · subst hy0
    go_upto_region 7 with fail
    have hF1 := HQ5.out
    have hF0 := HQ5.out.down (Below.refl w5.heap.size w5).drew
    have HS0 := hide (show ∀ W N', QD w W B cb N' g (.slice a1 q.sent.length c1) (.slice a3 q.got.length c3) (.slice a4 q.line.length c4) q → W.cell? ⟨g, 2, none⟩ = some (.int .i64 q.base) from fun W N' hW => hW.pq.box.pen.1.2.2.1)
    have HP := hide (show ∀ W, QD w W B cb (N + 2101 + 1) g (.slice a1 q.sent.length c1) (.slice a3 q.got.length c3) (.slice a4 q.line.length c4) q → Calls Try.prog 58 #[.pointer (some ⟨cb, 0, none⟩), .int .i64 3] W fun e W' => (∃ z : Nat, (z < 3 ∨ z = 0) ∧ e = .returned (.int .i64 (z : Int))) ∧ QD w W' B cb (N + 2101 + 1 + 1) g (.slice a1 q.sent.length c1) (.slice a3 q.got.length c3) (.slice a4 q.line.length c4) q from fun W hW => (cur_pick B cb (N + 2101 + 1) 3 W hW.c (by omega) (by omega)).mono (by
      rintro e W' ⟨hz, hc, hb⟩
      exact ⟨hz, hW.draw hc hb⟩))
    have hb0 := HGQ.out.b0
    have hb1 := HGQ.out.bg
    have hb2 := HGQ.out.gs
    have hb3 := HGQ.out.s40
    have HX := hide HQ5.out.pq.box
    clear HQ5
    have c2 := HS0.out _ _ hF1
    have c2d := HS0.out _ _ hF0
    go_region_with (go_at_call 58; with_reducible refine Calls.mono (HP.out _ (by assumption)) ?_; rintro e wp ⟨⟨z, hz, rfl⟩, hQp⟩; obtain ⟨⟨-, -, b2, -, -⟩, -, -, fz2, -, -⟩ := hQp.pq.box.pen)
    all_goals
      have hw1 : IntKind.i64.wrap ((z : Int) - 1) = (z : Int) - 1 := by rw [IntKind.wrap_i64]; omega
      have hw2 : IntKind.i64.wrap (q.base + ((z : Int) - 1)) = q.base + ((z : Int) - 1) := by rw [IntKind.wrap_i64]; omega
      simp only [hw1, hw2]
      clear hw1 hw2
      have hpb := hQp.pq.base (q.base + ((z : Int) - 1))
      have HZ := hide (hQp.move hpb.1 hpb.2)
      clear hpb hQp hF1 hF0 HS0 HP HX b2 fz2 c2 c2d
      obtain ⟨WZ, hWZ⟩ : ∃ WZ, (((((wp.setCell ⟨g, 2, none⟩ (.int .i64 (q.base + ((z : Int) - 1)))).setCell ⟨w.heap.size, 0, none⟩ (.int .i64 ({ q with base := q.base + ((z : Int) - 1) } : Qu).win)).setCell ⟨w.heap.size, 1, none⟩ (.slice a1 q.sent.length c1)).setCell ⟨w.heap.size, 2, none⟩ (.int .i64 ({ q with base := q.base + ((z : Int) - 1) } : Qu).base)).setCell ⟨w.heap.size, 3, none⟩ (.slice a3 q.got.length c3)).setCell ⟨w.heap.size, 4, none⟩ (.slice a4 q.line.length c4) = WZ := ⟨_, rfl⟩
      have HF := hide (HZ.out.fin WZ hWZ)
      obtain ⟨⟨d0, d1, d2, d3, d4⟩, -⟩ := HZ.out.pq.box.pen
      obtain ⟨⟨e0, e1, e2, e3, e4⟩, f0, f1, f2, f3, f4⟩ := HZ.out.res.pen
      have HWZ := hide hWZ
      clear hWZ HZ
      go_wp2
      rw [HWZ.out]
      clear e0 e1 e2 e3 e4 f0 f1 f2 f3 f4 d0 d1 d2 d3 d4
      obtain ⟨⟨e0, e1, e2, e3, e4⟩, -⟩ := HF.out.1.pen
      exact bodyPost_ret (v := qv (.slice a1 q.sent.length c1) (.slice a3 q.got.length c3) (.slice a4 q.line.length c4) ({ q with base := q.base + ((z : Int) - 1) } : Qu)) (by simp [results, Try.results65, go_sem, e0, e1, e2, e3, e4]) rfl ⟨⟨_, _, _, ({ q with base := q.base + ((z : Int) - 1) } : Qu), rfl, HF.out.2.1, ⟨HGQ.out.short.s, HGQ.out.short.g, HGQ.out.short.l⟩, HGQ.out.small, by have := HGQ.out.l40; first | omega | (simp; omega), by have := HGQ.out.b0; first | omega | (simp; omega), by have h1 := HGQ.out.bg; have h2 := HGQ.out.gs; have h3 := HGQ.out.s40; first | omega | (simp; omega)⟩, HF.out.2.2.1.more (by omega), HF.out.2.2.2⟩
  by_cases hy1 : y = 1
  · subst hy1
    have hg40 : q.got.length ≤ 40 := Nat.le_trans HGQ.out.gs HGQ.out.s40
    obtain ⟨⟨-, -, -, y3, -⟩, -⟩ := HQ5.out.pq.box.pen
    go_upto_region 12 with (at_builtin; have hal3 := (Below.refl w5.heap.size w5).alloc (Nat.le_refl _) (.cells #[.string ⟨#[122]⟩] 9); have HP4 := hide (HQ5.out.down hal3); have hlit := lit_txc (heap_alloc_new w5 (.cells #[.string ⟨#[122]⟩] 9)); refine wpList_app _ rfl _ _ rfl (w.heap.size + 1) q.got [⟨#[122]⟩] _ _ rfl HP4.out.pq.o3 rfl hlit (by simp; omega) (Nat.le_trans HP4.out.pq.lo (Nat.le_of_lt HP4.out.pq.box.lt)) ?_; intro a6 n6 c6 w6 hO6 hg6 hy6; have hpp := HP4.out.pq.put3 (W2 := w6) (Chg.gb hg6 (fun k e => e)) hO6 (fun k e => hy6.elim (fun h => .inl (h ▸ e)) (fun h => .inr (by rw [h] at e; simp only [Option.some.injEq] at e; omega))); have HZ := hide (HP4.out.move hpp.1 hpp.2); obtain ⟨⟨-, -, -, z3, -⟩, -, -, -, fz3, -⟩ := (HP4.out.pq.box.gb hg6 (fun e => HP4.out.pq.n3 e.symm)).pen; clear hal3 hlit hO6 hg6 hy6 hpp HP4 HQ5 y3)
    clear z3 fz3
    obtain ⟨WZ, hWZ⟩ : ∃ WZ, (((((w6.setCell ⟨g, 3, none⟩ (.slice a6 n6 c6)).setCell ⟨w.heap.size, 0, none⟩ (.int .i64 ({ q with got := q.got ++ [⟨#[122]⟩] } : Qu).win)).setCell ⟨w.heap.size, 1, none⟩ (.slice a1 q.sent.length c1)).setCell ⟨w.heap.size, 2, none⟩ (.int .i64 ({ q with got := q.got ++ [⟨#[122]⟩] } : Qu).base)).setCell ⟨w.heap.size, 3, none⟩ (.slice a6 n6 c6)).setCell ⟨w.heap.size, 4, none⟩ (.slice a4 q.line.length c4) = WZ := ⟨_, rfl⟩
    have HF := hide (HZ.out.fin WZ hWZ)
    obtain ⟨⟨d0, d1, d2, d3, d4⟩, -⟩ := HZ.out.pq.box.pen
    obtain ⟨⟨e0, e1, e2, e3, e4⟩, f0, f1, f2, f3, f4⟩ := HZ.out.res.pen
    have HWZ := hide hWZ
    clear hWZ HZ
    go_wp2
    rw [HWZ.out]
    clear e0 e1 e2 e3 e4 f0 f1 f2 f3 f4 d0 d1 d2 d3 d4
    obtain ⟨⟨e0, e1, e2, e3, e4⟩, -⟩ := HF.out.1.pen
    exact bodyPost_ret (v := qv (.slice a1 q.sent.length c1) (.slice a6 n6 c6) (.slice a4 q.line.length c4) ({ q with got := q.got ++ [⟨#[122]⟩] } : Qu)) (by simp [results, Try.results65, go_sem, e0, e1, e2, e3, e4]) rfl ⟨⟨_, _, _, ({ q with got := q.got ++ [⟨#[122]⟩] } : Qu), rfl, HF.out.2.1, ⟨HGQ.out.short.s, by simp; omega, HGQ.out.short.l⟩, HGQ.out.small, by have := HGQ.out.l40; first | omega | (simp; omega), by have := HGQ.out.b0; first | omega | (simp; omega), by have h1 := HGQ.out.bg; have h2 := HGQ.out.gs; have h3 := HGQ.out.s40; first | omega | (simp; omega)⟩, HF.out.2.2.1.more (by omega), HF.out.2.2.2⟩
  by_cases hy2 : y = 2
  · subst hy2
    obtain ⟨i0, hi, hz0, hz1, hz2⟩ := info_parts info_pk
    have hl40 := HGQ.out.l40
    have HP := hide (show ∀ W N', QD w W B cb N' g (.slice a1 q.sent.length c1) (.slice a3 q.got.length c3) (.slice a4 q.line.length c4) q → N' ≤ 900000 → Calls Try.prog 58 #[.pointer (some ⟨cb, 0, none⟩), .int .i64 9] W fun e W' => (∃ z : Nat, e = .returned (.int .i64 (z : Int))) ∧ QD w W' B cb (N' + 1) g (.slice a1 q.sent.length c1) (.slice a3 q.got.length c3) (.slice a4 q.line.length c4) q from fun W N' hW hN' => (cur_pick B cb N' 9 W hW.c (by omega) (by omega)).mono (by
      rintro e W' ⟨⟨z, -, hz⟩, hc, hb⟩
      exact ⟨⟨z, hz⟩, hW.draw hc hb⟩))
    have HO1 := hide (show ∀ W N', QD w W B cb N' g (.slice a1 q.sent.length c1) (.slice a3 q.got.length c3) (.slice a4 q.line.length c4) q → N' ≤ 900000 → Calls Try.prog 81 #[.pointer (some ⟨cb, 0, none⟩), .int .i64 2] W fun e W' => (∃ b : Bool, e = .returned (.bool b)) ∧ QD w W' B cb (N' + 1) g (.slice a1 q.sent.length c1) (.slice a3 q.got.length c3) (.slice a4 q.line.length c4) q from fun W N' hW hN' => (cur_one B cb N' 2 W hW.c (by omega) (by omega)).mono (by
      rintro e W' ⟨hz, hc, hb⟩
      exact ⟨hz, hW.draw hc hb⟩))
    have HX := hide (show ∀ W N', QD w W B cb N' g (.slice a1 q.sent.length c1) (.slice a3 q.got.length c3) (.slice a4 q.line.length c4) q → W.cell? ⟨g, 4, none⟩ = some (.slice a4 q.line.length c4) from fun W N' hW => hW.pq.box.pen.1.2.2.2.2)
    have HXA := hide (show ∀ W N' o, QD w W B cb N' g (.slice a1 q.sent.length c1) (.slice a3 q.got.length c3) (.slice a4 q.line.length c4) q → (W.alloc o).cell? ⟨g, 4, none⟩ = some (.slice a4 q.line.length c4) from fun W N' o hW => (hW.pq.box.alloc o).pen.1.2.2.2.2)
    have HG := hide (show ∀ (W w7 : World), PQ W (w.heap.size + 1) g (.slice a1 q.sent.length c1) (.slice a3 q.got.length c3) (.slice a4 q.line.length c4) q → W.grownBy w7 (Value.slice a4 q.line.length c4).ownBlock → w7.cell? ⟨g, 4, none⟩ = some (.slice a4 q.line.length c4) ∧ w7.frozen? ⟨g, 4, none⟩ = false from fun W w7 h1 hg => by
      have hbx := h1.box.gb hg (fun e => h1.n4 e.symm)
      exact ⟨hbx.pen.1.2.2.2.2, hbx.thaw 4⟩)
    go_upto_region 11 with fail
    have hF1 := HQ5.out
    have hF0 := HQ5.out.down (Below.refl w5.heap.size w5).drew
    have c2 := HX.out _ _ hF1
    have c2d := HX.out _ _ hF0
    clear HQ5
    go_region_law (first
      | (have hal7 := (Below.refl wo.heap.size wo).alloc (Nat.le_refl _) (.cells #[.bool bo, .int .i64 (z : Int), .string ⟨#[]⟩] 88); have hW := hQo.down hal7; have hlitB := newT3 wo (.bool bo) (.int .i64 (z : Int)) (.string ⟨#[]⟩) 88; have hbs := hQo.b.size; have hpl := hQo.pq.lo; have hpb := hQo.pq.box.lt; refine step_append_lies _ rfl (.tmp 44) (.tmp 50) 30 rfl (w.heap.size + 1) 88 i0 _ 3 32 Try.underlying30 hi hz0 hz1 hz2 rfl (by decide) (.slice a4 q.line.length c4) q.line.length _ (by simp [Act.eval]) hW.pq.o4 ⟨wo.heap.size, 0, none⟩ 1 1 (cellsP [⟨bo, (z : Int), ⟨#[]⟩⟩]) (by simp [Act.eval]) (cellsP_len [⟨bo, (z : Int), ⟨#[]⟩⟩]) (lit_pk (p := ⟨bo, (z : Int), ⟨#[]⟩⟩) hlitB).1.src (cellsP_one [⟨bo, (z : Int), ⟨#[]⟩⟩]) (by omega) (by unfold maxLen; omega) (by omega) (by simp; omega) _ rfl ?_; intro g7 cap7 w7 hown7 hgrow7 hat hlt7; obtain ⟨z0, z1⟩ := HG.out _ w7 hW.pq hgrow7)
      | (have hal7 := (Below.refl wp.heap.size wp).alloc (Nat.le_refl _) (.cells #[.bool bo, .int .i64 (z : Int), .string ⟨#[]⟩] 88); have hW := hQp.down hal7; have hlitB := newT3 wp (.bool bo) (.int .i64 (z : Int)) (.string ⟨#[]⟩) 88; have hbs := hQp.b.size; have hpl := hQp.pq.lo; have hpb := hQp.pq.box.lt; refine step_append_lies _ rfl (.tmp 44) (.tmp 50) 30 rfl (w.heap.size + 1) 88 i0 _ 3 32 Try.underlying30 hi hz0 hz1 hz2 rfl (by decide) (.slice a4 q.line.length c4) q.line.length _ (by simp [Act.eval]) hW.pq.o4 ⟨wp.heap.size, 0, none⟩ 1 1 (cellsP [⟨bo, (z : Int), ⟨#[]⟩⟩]) (by simp [Act.eval]) (cellsP_len [⟨bo, (z : Int), ⟨#[]⟩⟩]) (lit_pk (p := ⟨bo, (z : Int), ⟨#[]⟩⟩) hlitB).1.src (cellsP_one [⟨bo, (z : Int), ⟨#[]⟩⟩]) (by omega) (by unfold maxLen; omega) (by omega) (by simp; omega) _ rfl ?_; intro g7 cap7 w7 hown7 hgrow7 hat hlt7; obtain ⟨z0, z1⟩ := HG.out _ w7 hW.pq hgrow7)
      | ((first | (rw [if_pos (by rfl)]; go_simp) | skip); (go_at_call 58; with_reducible refine Calls.mono (HP.out _ _ (by assumption) (by omega)) ?_; rintro e wp ⟨⟨z, rfl⟩, hQp⟩; have mp := HX.out _ _ hQp; have np := fun o => HXA.out _ _ o hQp))
      | ((first | (rw [if_pos (by rfl)]; go_simp) | skip); (go_at_call 81; with_reducible refine Calls.mono (HO1.out _ _ (by assumption) (by omega)) ?_; rintro e wo ⟨⟨bo, rfl⟩, hQo⟩; have mo := HX.out _ _ hQo; have no := fun o => HXA.out _ _ o hQo)))
    all_goals
      have hO : OwnP w7 (w.heap.size + 1) (.slice (some ⟨g7, 0, none⟩) (q.line.length + 1) cap7) (q.line ++ [⟨bo, (z : Int), ⟨#[]⟩⟩]) := by
        unfold OwnP; rw [List.length_append, cellsP_app]; exact hown7
      have hP := hW.pq.put4 (W2 := w7) (Chg.gb hgrow7 (fun k e => e)) hO (fun k e => by
        simp only [Value.ownBlock, Option.some.injEq] at e
        subst e
        rcases hat with h' | h'
        · exact .inl h'
        · exact .inr (Nat.le_of_eq h'.symm))
      have HZ := hide (hW.move hP.1 hP.2)
      clear hP hO hown7 hgrow7 hat hlt7 hW hlitB z0 z1 HG HX HXA HP HO1 hF1 hF0 c2 c2d hQp hQo mp np mo no hal7 hbs hpl hpb
      obtain ⟨WZ, hWZ⟩ : ∃ WZ, (((((w7.setCell ⟨g, 4, none⟩ (.slice (some ⟨g7, 0, none⟩) (q.line.length + 1) cap7)).setCell ⟨w.heap.size, 0, none⟩ (.int .i64 ({ q with line := q.line ++ [⟨bo, (z : Int), ⟨#[]⟩⟩] } : Qu).win)).setCell ⟨w.heap.size, 1, none⟩ (.slice a1 q.sent.length c1)).setCell ⟨w.heap.size, 2, none⟩ (.int .i64 ({ q with line := q.line ++ [⟨bo, (z : Int), ⟨#[]⟩⟩] } : Qu).base)).setCell ⟨w.heap.size, 3, none⟩ (.slice a3 q.got.length c3)).setCell ⟨w.heap.size, 4, none⟩ (.slice (some ⟨g7, 0, none⟩) (q.line.length + 1) cap7) = WZ := ⟨_, rfl⟩
      have HF := hide (HZ.out.fin WZ hWZ)
      obtain ⟨⟨d0, d1, d2, d3, d4⟩, -⟩ := HZ.out.pq.box.pen
      obtain ⟨⟨e0, e1, e2, e3, e4⟩, f0, f1, f2, f3, f4⟩ := HZ.out.res.pen
      have HWZ := hide hWZ
      clear hWZ HZ
      go_wp2
      rw [HWZ.out]
      clear e0 e1 e2 e3 e4 f0 f1 f2 f3 f4 d0 d1 d2 d3 d4
      obtain ⟨⟨e0, e1, e2, e3, e4⟩, -⟩ := HF.out.1.pen
      exact bodyPost_ret (v := qv (.slice a1 q.sent.length c1) (.slice a3 q.got.length c3) (.slice (some ⟨g7, 0, none⟩) (q.line.length + 1) cap7) ({ q with line := q.line ++ [⟨bo, (z : Int), ⟨#[]⟩⟩] } : Qu)) (by simp [results, Try.results65, go_sem, e0, e1, e2, e3, e4]) rfl ⟨⟨_, _, _, ({ q with line := q.line ++ [⟨bo, (z : Int), ⟨#[]⟩⟩] } : Qu), rfl, HF.out.2.1, ⟨HGQ.out.short.s, HGQ.out.short.g, by simp; omega⟩, HGQ.out.small, by have := HGQ.out.l40; first | omega | (simp; omega), by have := HGQ.out.b0; first | omega | (simp; omega), by have h1 := HGQ.out.bg; have h2 := HGQ.out.gs; have h3 := HGQ.out.s40; first | omega | (simp; omega)⟩, HF.out.2.2.1.more (by omega), HF.out.2.2.2⟩
  have hn0 : ¬ (y : Int) = 0 := by omega
  have hn1 : ¬ (y : Int) = 1 := by omega
  have hn2 : ¬ (y : Int) = 2 := by omega
  have hm0 : ((y : Int) == 0) = false := by simpa using hn0
  have hm1 : ((y : Int) == 1) = false := by simpa using hn1
  have hm2 : ((y : Int) == 2) = false := by simpa using hn2
  obtain ⟨WZ, hWZ⟩ : ∃ WZ, ((((w5.setCell ⟨w.heap.size, 0, none⟩ (.int .i64 q.win)).setCell ⟨w.heap.size, 1, none⟩ (.slice a1 q.sent.length c1)).setCell ⟨w.heap.size, 2, none⟩ (.int .i64 q.base)).setCell ⟨w.heap.size, 3, none⟩ (.slice a3 q.got.length c3)).setCell ⟨w.heap.size, 4, none⟩ (.slice a4 q.line.length c4) = WZ := ⟨_, rfl⟩
  have HF := hide (HQ5.out.fin WZ hWZ)
  obtain ⟨⟨d0, d1, d2, d3, d4⟩, -⟩ := HQ5.out.pq.box.pen
  obtain ⟨⟨e0, e1, e2, e3, e4⟩, f0, f1, f2, f3, f4⟩ := HQ5.out.res.pen
  have HWZ := hide hWZ
  clear hWZ HQ5
  go_wp2
  rw [HWZ.out]
  clear e0 e1 e2 e3 e4 f0 f1 f2 f3 f4 d0 d1 d2 d3 d4
  obtain ⟨⟨e0, e1, e2, e3, e4⟩, -⟩ := HF.out.1.pen
  exact bodyPost_ret (v := qv (.slice a1 q.sent.length c1) (.slice a3 q.got.length c3) (.slice a4 q.line.length c4) q) (by simp [results, Try.results65, go_sem, e0, e1, e2, e3, e4]) rfl ⟨⟨_, _, _, q, rfl, HF.out.2.1, HGQ.out.short, HGQ.out.small, by have := HGQ.out.l40; first | omega | (simp; omega), by have := HGQ.out.b0; first | omega | (simp; omega), by have h1 := HGQ.out.bg; have h2 := HGQ.out.gs; have h3 := HGQ.out.s40; first | omega | (simp; omega)⟩, HF.out.2.2.1.more (by omega), HF.out.2.2.2⟩
end Go.Proofs.Ytfjdbenbiakbbaa
