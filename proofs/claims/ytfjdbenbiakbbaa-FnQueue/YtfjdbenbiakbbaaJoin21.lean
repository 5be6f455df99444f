/-
  Texts that follow one another, joined: QuR, QuT.
-/
import Derived.Test.YtfjdbenbiakbbaaJoin18
import Derived.Deep.RegionWith
/-
  A text put behind what was sent, a packet that leaves the line, a packet that is taken: the program's text.
-/
namespace Go.Proofs.Ytfjdbenbiakbbaa
open Go.RowKit M
open Go.Sort (grow)
namespace M
section
variable {g B : Nat} {w W W2 : World} {v1 v3 v4 u1 u3 u4 : Value} {q : Qu}
theorem PQ.keep {S : Nat → Prop} (h : PQ W B g v1 v3 v4 q) (hc : Chg S W W2) (hn : ∀ k, Mine g v1 v3 v4 k → ¬ S k) : PQ W2 B g v1 v3 v4 q :=
  ⟨h.box.chg hc (hn g (.inl rfl)), h.lo, owns_chg h.o1 hc (fun k e => hn k (.inr (.inl e))), owns_chg h.o3 hc (fun k e => hn k (.inr (.inr (.inl e)))), owns_chg h.o4 hc (fun k e => hn k (.inr (.inr (.inr e)))), h.a13, h.a14, h.a34, h.n1, h.n3, h.n4⟩
theorem Mv.step {S : Nat → Prop} (h : Mv g w v1 v3 v4 W u1 u3 u4) (hc : Chg S W W2) (hs : ∀ k, S k → w.heap.size ≤ k) : Mv g w v1 v3 v4 W2 u1 u3 u4 :=
  ⟨h.chg.trans hc (fun k e => .inr (hs k e)), h.sub⟩
theorem set_chg (W : World) (g o : Nat) (u : Value) : Chg (fun k => k = g) W (W.setCell ⟨g, o, none⟩ u) :=
  Chg.gb (gbT_set (gbT_refl W (some g))) (fun k e => by simp only [Option.some.injEq] at e; exact e.symm)
theorem Chg.and {S : Nat → Prop} {a b c : World} (h : Chg S a b) (h2 : Chg S b c) : Chg S a c := h.trans h2 (fun _ e => .inl e)
theorem PQ.mlt (h : PQ W B g v1 v3 v4 q) : ∀ k, Mine g v1 v3 v4 k → k < W.heap.size := by
  rintro k (rfl | e | e | e)
  · exact h.box.lt
  · exact (h.o1.lt e).2
  · exact (h.o3.lt e).2
  · exact (h.o4.lt e).2
end
end M
theorem text_no (B g : Nat) (v1 v3 v4 : Value) (q : Qu) (x : ByteArray) (w : World) (h : PQ w B g v1 v3 v4 q) (hs : q.sent.length ≤ 40) (hx : x.size ≤ maxLen) (hl : q.sent.length = 40 ∨ 12 < x.size) :
    Calls Try.prog 74 #[.pointer (some ⟨g, 0, none⟩), .string x] w fun e w' => e = .returned (.bool false) ∧ Below w.heap.size w w' := by
  obtain ⟨a1, c1, rfl⟩ := h.o1.form
  obtain ⟨⟨y0, y1, y2, y3, y4⟩, -⟩ := h.box.pen
  unfold maxLen at hx
  clear h y0 y2 y3 y4
  by_cases h40 : q.sent.length = 40
  · have hl2 : (q.sent.length : Int) = 40 := by omega
    clear hl
    go_enter Try.func74, Try.ntmps74
    go_wp2
    go_ret
    exact ⟨rfl, Below.refl _ _⟩
  · have hl2 : ((q.sent.length : Int) == 40) = false := by simp; omega
    have hl3 : (12 : Int) < (x.size : Int) := by omega
    clear hl h40
    go_enter Try.func74, Try.ntmps74
    go_wp2
    go_ret
    exact ⟨rfl, Below.refl _ _⟩
set_option maxRecDepth 20000 in
set_option maxHeartbeats 4000000 in
theorem put_text (B g : Nat) (v1 v3 v4 : Value) (q : Qu) (x : ByteArray) (w : World) (h : PQ w B g v1 v3 v4 q) (hB : B ≤ w.heap.size) (hl : q.sent.length < 40) (hx : x.size ≤ 12) :
    Calls Try.prog 74 #[.pointer (some ⟨g, 0, none⟩), .string x] w fun e w' => e = .returned (.bool true) ∧ ∃ u1, PQ w' B g u1 v3 v4 (sendQ q x) ∧ Mv g w v1 v3 v4 w' u1 v3 v4 := by
  obtain ⟨i0, hi, hz0, hz1, hz2⟩ := info_parts info_str
  obtain ⟨a1, c1, rfl⟩ := h.o1.form
  obtain ⟨⟨-, y1, -, -, -⟩, -⟩ := h.box.pen
  have HH := hide h
  have HX := hide (show ∀ w1, Below w.drew.heap.size w.drew w1 → w1.cell? ⟨g, 1, none⟩ = some (.slice a1 q.sent.length c1) ∧ (∀ o, (w1.alloc o).cell? ⟨g, 1, none⟩ = some (.slice a1 q.sent.length c1)) ∧ PQ (w1.alloc (.cells #[.string x] 9)) B g (.slice a1 q.sent.length c1) v3 v4 q ∧ TxC (w1.alloc (.cells #[.string x] 9)) (.slice (some ⟨w1.heap.size, 0, none⟩) 1 1) [x] ∧ B ≤ w1.heap.size from fun w1 hb => by
    have h1 := (HH.out.down (Below.refl w.heap.size w).drew).down hb
    refine ⟨h1.box.pen.1.2.1, fun o => (h1.box.alloc o).pen.1.2.1, h1.down ((Below.refl _ w1).alloc (Nat.le_refl _) _), lit_txc (heap_alloc_new w1 _), ?_⟩
    have h2 := hb.size
    have h3 : w.drew.heap.size = w.heap.size := rfl
    omega)
  have HMv := hide (show ∀ w1, Below w.drew.heap.size w.drew w1 → Below w.heap.size w (w1.alloc (.cells #[.string x] 9)) from fun w1 hb => by
    have h1 := (Below.refl w.heap.size w).drew.trans hb
    exact h1.alloc h1.size _)
  have HG := hide (show ∀ (W w7 : World), PQ W B g (.slice a1 q.sent.length c1) v3 v4 q → W.grownBy w7 (Value.slice a1 q.sent.length c1).ownBlock → w7.cell? ⟨g, 1, none⟩ = some (.slice a1 q.sent.length c1) ∧ w7.frozen? ⟨g, 1, none⟩ = false from fun W w7 h1 hg => by
    have hbx := h1.box.gb hg (fun e => h1.n1 e.symm)
    exact ⟨hbx.pen.1.2.1, hbx.thaw 1⟩)
  have hd40 : ((q.sent.length : Int) == 40) = false := by simp; omega
  have hd12 : decide ((12 : Int) < (x.size : Int)) = false := decide_eq_false (by omega)
  have hps : x.size ≤ 281474976710656 := by omega
  clear h
  go_enter Try.func74, Try.ntmps74
  go_upto_region 3 with fail
  go_region_law (first
    | (refine step_append_lies _ rfl (.tmp 20) (.tmp 23) 22 rfl B 9 i0 _ 1 16 Try.underlying22 hi hz0 hz1 hz2 rfl (by decide) (.slice a1 q.sent.length c1) q.sent.length _ (by simp [Act.eval]) hW.o1 ⟨w1.heap.size, 0, none⟩ 1 1 (sv [x]) (by simp [Act.eval]) (by rw [sv_len]; rfl) hlit.1.src (sv_one [x]) (by omega) (by unfold maxLen; omega) (by omega) (by simp; omega) _ rfl ?_; intro g7 cap7 w7 hown7 hgrow7 hat hlt7; obtain ⟨z0, z1⟩ := HG.out _ w7 hW hgrow7)
    | (rw [if_pos (by rfl)]; go_simp; go_at_call 88; refine (clone_s x _ hps).mono ?_; rintro e w1 ⟨rfl, hb1⟩; obtain ⟨m4, m5, hW, hlit, hB1⟩ := HX.out w1 hb1))
  all_goals
    have hO : OwnT w7 B (.slice (some ⟨g7, 0, none⟩) (q.sent.length + 1) cap7) (q.sent ++ [x]) := by
      unfold OwnT; rw [List.length_append, sv_app]; exact hown7
    have hP := hW.put1 (W2 := w7) (Chg.gb hgrow7 (fun k e => e)) hO (fun k e => by
      simp only [Value.ownBlock, Option.some.injEq] at e
      subst e
      rcases hat with h' | h'
      · exact .inl h'
      · exact .inr (Nat.le_of_eq h'.symm))
    have HF := hide (show PQ _ B g _ v3 v4 (sendQ q x) ∧ Mv g w (.slice a1 q.sent.length c1) v3 v4 _ _ v3 v4 from ⟨hP.1, (Mv.down (HMv.out w1 hb1)).trans hP.2⟩)
    clear hP hO hown7 hgrow7 hat hW hlit m4 m5 z0 z1 HG HX HMv HH y1
    go_wp2
    go_ret
    exact ⟨rfl, _, HF.out⟩
set_option maxHeartbeats 1000000 in
theorem leave_no (B g : Nat) (v1 v3 v4 : Value) (q : Qu) (k : Int) (w : World) (h : PQ w B g v1 v3 v4 q) (hl : q.line.length ≤ 40) (hk : inB k 0 ((q.line.length : Int) - 1) = false) :
    Calls Try.prog 77 #[.pointer (some ⟨g, 0, none⟩), .int .i64 k] w fun e w' => e = .returned (.tuple #[pk0.v, .bool false]) ∧ Below w.heap.size w w' := by
  have hbA := (Below.refl w.heap.size w).alloc (Nat.le_refl _) (.cells #[.bool false, .int .i64 0, .string ⟨#[]⟩] 88)
  obtain ⟨a4, c4, rfl⟩ := h.o4.form
  obtain ⟨⟨-, -, -, -, y4⟩, -⟩ := (h.box.alloc (.cells #[.bool false, .int .i64 0, .string ⟨#[]⟩] 88)).pen
  clear h
  go_enter Try.func77, Try.ntmps77
  go_wp2_with (go_at_call 63; refine (impl_in _ _ _ _).mono ?_; rintro e w' ⟨rfl, rfl⟩; rw [hk])
  exact bodyPost_ret (v := .tuple #[pk0.v, .bool false]) (by simp [results, Try.results77, go_sem, pk0]) rfl ⟨rfl, hbA⟩
set_option maxRecDepth 20000 in
set_option maxHeartbeats 4000000 in
theorem leave_line (B g : Nat) (v1 v3 v4 : Value) (q : Qu) (k : Nat) (p : Pk) (w : World) (h : PQ w B g v1 v3 v4 q) (hB : B ≤ w.heap.size) (hl : q.line.length ≤ 40) (hp : q.line[k]? = some p) :
    Calls Try.prog 77 #[.pointer (some ⟨g, 0, none⟩), .int .i64 (k : Int)] w fun e w' => e = .returned (.tuple #[p.v, .bool true]) ∧ ∃ u4, PQ w' B g v1 v3 u4 (outQ q k) ∧ Mv g w v1 v3 v4 w' v1 v3 u4 := by
  have hkl : k < q.line.length := (List.getElem?_eq_some_iff.1 hp).1
  have hg := h.box.lt
  have hk : inB (k : Int) 0 ((q.line.length : Int) - 1) = true := (inB_iff _ _ _).2 ⟨by omega, by omega⟩
  have hd2 := ((Below.refl w.heap.size w).alloc (Nat.le_refl _) (.cells #[.bool false, .int .i64 0, .string ⟨#[]⟩] 88)).alloc (by simp) (.cells #[.bool p.ack, .int .i64 p.no, .string p.tx] 88)
  have hA1 := h.down ((Below.refl w.heap.size w).alloc (Nat.le_refl _) (.cells #[.bool false, .int .i64 0, .string ⟨#[]⟩] 88))
  have hA2 := h.down hd2
  obtain ⟨a4, c4, rfl⟩ := h.o4.form
  obtain ⟨⟨-, -, -, -, y4⟩, -⟩ := hA1.box.pen
  obtain ⟨⟨-, -, -, -, y5⟩, -⟩ := hA2.box.pen
  obtain ⟨a, c, hv4, hr⟩ := hA1.o4.pks
  simp only [Value.slice.injEq, true_and] at hv4
  obtain ⟨rfl, rfl⟩ := hv4
  obtain ⟨b4, o4, rfl, hb4, hrow⟩ := hr (by omega)
  obtain ⟨z0, z1, z2⟩ := hrow k p hp
  have HH := hide h
  have HA2 := hide hA2
  have HC := hide (carried_pks _ q.line k _ hA2.o4.pks hl hkl)
  have HR := hide (show Blk ((w.alloc (.cells #[.bool false, .int .i64 0, .string ⟨#[]⟩] 88)).alloc (.cells #[.bool p.ack, .int .i64 p.no, .string p.tx] 88)) w.heap.size 3 (t3 (.bool false) (.int .i64 0) (.string ⟨#[]⟩)) 88 from (newT3 w _ _ _ _).alloc _)
  have HPb := hide (show Blk ((w.alloc (.cells #[.bool false, .int .i64 0, .string ⟨#[]⟩] 88)).alloc (.cells #[.bool p.ack, .int .i64 p.no, .string p.tx] 88)) (w.heap.size + 1) 3 (qp p) 88 from by
    have := newT3 (w.alloc (.cells #[.bool false, .int .i64 0, .string ⟨#[]⟩] 88)) (.bool p.ack) (.int .i64 p.no) (.string p.tx) 88
    rw [World.size_alloc] at this; exact this)
  have HD2 := hide hd2
  have hi0 : (0 : Int) ≤ (k : Int) := by omega
  have hi1 : (k : Int) < (q.line.length : Int) := by omega
  have hsz2 : ((w.alloc (.cells #[.bool false, .int .i64 0, .string ⟨#[]⟩] 88)).alloc (.cells #[.bool p.ack, .int .i64 p.no, .string p.tx] 88)).heap.size = w.heap.size + 2 := by simp
  have HSZ := hide hsz2
  clear h hA1 hA2 hr hrow hd2 hsz2
  go_enter Try.func77, Try.ntmps77
  go_wp2_with (first | (go_at_call 63; refine (impl_in _ _ _ _).mono ?_; rintro e w' ⟨rfl, rfl⟩; rw [hk]) | (go_at_call 91; fail))
  refine Calls.mono HC.out ?_
  rintro e w1 ⟨⟨a', n', c', rfl, hO⟩, hb1⟩
  have hQ1 := HA2.out.put4 (W2 := w1) (Below.chg hb1 _) (hO.mono (by have := HSZ.out; omega)) (fun j e => .inr (hO.lt e).1)
  have hP1 := HPb.out.down hb1
  have hR1 := HR.out.down hb1
  have hx4 := (HA2.out.down hb1).box.pen.1.2.2.2.2
  have hf4 := (HA2.out.down hb1).box.thaw 4
  have hP2 := hP1.set_other (g' := g) (by omega) 4 (.slice a' n' c')
  have hR2 := hR1.set_other (g' := g) (by omega) 4 (.slice a' n' c')
  obtain ⟨⟨p0, p1, p2⟩, -⟩ := hP2.trp
  obtain ⟨⟨r0, r1, r2⟩, f0, f1, f2⟩ := hR2.trp
  obtain ⟨W3, hW3⟩ : ∃ W3, w1.setCell ⟨g, 4, none⟩ (.slice a' n' c') = W3 := ⟨_, rfl⟩
  obtain ⟨W4, hW4⟩ : ∃ W4, ((W3.setCell ⟨w.heap.size, 0, none⟩ (.bool p.ack)).setCell ⟨w.heap.size, 1, none⟩ (.int .i64 p.no)).setCell ⟨w.heap.size, 2, none⟩ (.string p.tx) = W4 := ⟨_, rfl⟩
  have hc3 : Chg (fun j => j = w.heap.size) W3 W4 := by
    rw [← hW4]; exact ((set_chg _ _ _ _).and (set_chg _ _ _ _)).and (set_chg _ _ _ _)
  have HRz := hide (show Blk W4 w.heap.size 3 (qp p) 88 from by rw [← hW4, ← hW3]; exact hR2.putT3 _ _ _)
  have HF := hide (show ∃ u4, PQ W4 B g v1 v3 u4 (outQ q k) ∧ Mv g w v1 v3 (.slice (some ⟨b4, o4, none⟩) q.line.length c4) W4 v1 v3 u4 from by
    have hm := (Mv.down (g := g) (v1 := v1) (v3 := v3) (v4 := .slice (some ⟨b4, o4, none⟩) q.line.length c4) HD2.out).trans hQ1.2
    rw [hW3] at hm
    have hq := hQ1.1
    rw [hW3] at hq
    refine ⟨_, hq.keep hc3 (fun j hj e => ?_), hm.step hc3 (fun j e => Nat.le_of_eq e.symm)⟩
    subst e
    rcases hQ1.2.sub _ hj with h' | h'
    · have := HH.out.mlt _ h'; omega
    · have := HSZ.out; omega)
  have HW := hide (show ((((w1.setCell ⟨g, 4, none⟩ (.slice a' n' c')).setCell ⟨w.heap.size, 0, none⟩ (.bool p.ack)).setCell ⟨w.heap.size, 1, none⟩ (.int .i64 p.no)).setCell ⟨w.heap.size, 2, none⟩ (.string p.tx)) = W4 from by rw [hW3]; exact hW4)
  clear hW4 hW3 hc3 hQ1 hP1 hR1 hP2 hR2 hO hb1 y4 y5 z0 z1 z2
  go_wp2
  rw [HW.out]
  clear r0 r1 r2 f0 f1 f2 p0 p1 p2 hx4 hf4
  obtain ⟨⟨e0, e1, e2⟩, -⟩ := HRz.out.trp
  exact bodyPost_ret (v := .tuple #[p.v, .bool true]) (by simp [results, Try.results77, go_sem, e0, e1, e2]) rfl ⟨rfl, HF.out⟩
end Go.Proofs.Ytfjdbenbiakbbaa

/-
  A packet that is taken, a text that is sent, a packet that is doubled, and a step: the program's text.
-/
namespace Go.Proofs.Ytfjdbenbiakbbaa
open Go.RowKit M
open Go.Sort (grow)
namespace M
theorem GoodQ.tx12 {q : Qu} (h : GoodQ q) {k : Nat} {p : Pk} (hp : q.line[k]? = some p) : p.tx.size ≤ 12 := by
  rcases h.pk k p hp with ⟨_, _, _, e⟩ | ⟨_, _, _, _, e⟩
  · rw [e]; decide
  · exact h.tx _ _ e
theorem max_if (a b : Int) : max a b = if a < b then b else a := by split <;> omega
theorem got_eq {q : Qu} {p : Pk} (h : p.no = q.got.length) : gotQ q p = { q with got := q.got ++ [p.tx] } := by unfold gotQ; rw [if_pos h]
theorem got_ne {q : Qu} {p : Pk} (h : ¬ p.no = q.got.length) : gotQ q p = q := by unfold gotQ; rw [if_neg h]
theorem take_ack {q : Qu} {k : Nat} {p : Pk} (h : p.ack = true) : takeQ q k p = { outQ q k with base := max q.base p.no } := by
  unfold takeQ; rw [if_pos h]; unfold ackQ; rw [max_if]; rfl
theorem take_txt {q : Qu} {k : Nat} {p : Pk} (h : p.ack = false) : takeQ q k p = putQ (gotQ (outQ q k) p) ⟨true, ((gotQ (outQ q k) p).got.length : Nat), ⟨#[]⟩⟩ := by
  unfold takeQ; rw [if_neg (by rw [h]; decide)]
end M
set_option maxHeartbeats 1000000 in
theorem take_no (B g : Nat) (v1 v3 v4 : Value) (q : Qu) (k : Int) (w : World) (h : PQ w B g v1 v3 v4 q) (hl : q.line.length ≤ 40) (hk : inB k 0 ((q.line.length : Int) - 1) = false) :
    Calls Try.prog 76 #[.pointer (some ⟨g, 0, none⟩), .int .i64 k] w fun e w' => e = .returned (.bool false) ∧ Below w.heap.size w w' := by
  have HH := hide h
  clear h
  go_enter Try.func76, Try.ntmps76
  go_wp2_with fail
  refine (leave_no B g v1 v3 v4 q k _ HH.out hl hk).mono ?_
  rintro e w1 ⟨rfl, hb⟩
  have hb1 := hb.alloc hb.size (.cells #[.bool false, .int .i64 0, .string ⟨#[]⟩] 88)
  simp only [pk0]
  go_wp2
  go_ret
  exact ⟨rfl, hb1⟩
set_option maxRecDepth 20000 in
set_option maxHeartbeats 4000000 in
theorem take_yes (B g : Nat) (v1 v3 v4 : Value) (q : Qu) (k : Nat) (p : Pk) (w : World) (h : PQ w B g v1 v3 v4 q) (hB : B ≤ w.heap.size) (hg : GoodQ q) (hp : q.line[k]? = some p) :
    Calls Try.prog 76 #[.pointer (some ⟨g, 0, none⟩), .int .i64 (k : Int)] w fun e w' => e = .returned (.bool true) ∧ ∃ u3 u4, PQ w' B g v1 u3 u4 (takeQ q k p) ∧ Mv g w v1 v3 v4 w' v1 u3 u4 := by
  have HH := hide h
  have HP := hide hp
  have hl40 := hg.l40
  have hs40 := hg.s40
  have hgs := hg.gs
  have hkl : k < q.line.length := (List.getElem?_eq_some_iff.1 hp).1
  have hol := out_len hkl
  clear h hp hg
  obtain ⟨ack, no, tx⟩ := p
  go_enter Try.func76, Try.ntmps76
  go_wp2_with fail
  refine (leave_line B g v1 v3 v4 q k _ _ HH.out hB hl40 HP.out).mono ?_
  rintro e w1 ⟨rfl, u4, hQ1, hM1⟩
  cases ack with
  | true =>
    have hd := (Below.refl w1.heap.size w1).alloc (Nat.le_refl _) (.cells #[.bool true, .int .i64 no, .string tx] 88)
    have hQ2 := hQ1.down hd
    obtain ⟨⟨-, -, y2, -, -⟩, -, -, f2, -, -⟩ := hQ2.box.pen
    obtain ⟨⟨b0, b1, b2⟩, -⟩ := (newT3 w1 (.bool true) (.int .i64 no) (.string tx) 88).trp
    have HM2 := hide (hM1.trans (Mv.down hd))
    have HQ2 := hide hQ2
    have HT := hide (take_ack (q := q) (k := k) (p := ⟨true, no, tx⟩) rfl)
    clear hQ1 hM1 hd hQ2
    go_upto_region 5 with fail
    obtain ⟨W, hW⟩ : ∃ W, w1.alloc (.cells #[.bool true, .int .i64 no, .string tx] 88) = W := ⟨_, rfl⟩
    rw [hW] at y2 f2 b0 b1 b2 HM2 HQ2 ⊢
    clear hW
    go_region
    all_goals
      have hP := (HQ2.out.down (Below.refl W.heap.size W).drew).base (max q.base no)
      have HF := hide (show PQ _ B g v1 v3 u4 (takeQ q k ⟨true, no, tx⟩) ∧ Mv g w v1 v3 v4 _ v1 v3 u4 from ⟨by rw [HT.out]; exact hP.1, (HM2.out.trans (Mv.down (Below.refl W.heap.size W).drew)).trans hP.2⟩)
      clear hP y2 f2 b0 b1 b2
      go_wp2
      go_ret
      exact ⟨rfl, v3, u4, HF.out⟩
  | false =>
    have hd := (Below.refl w1.heap.size w1).alloc (Nat.le_refl _) (.cells #[.bool false, .int .i64 no, .string tx] 88)
    have hQ2 := hQ1.down hd
    obtain ⟨a3, c3, rfl⟩ := hQ1.o3.form
    obtain ⟨⟨-, -, -, y3, -⟩, -⟩ := hQ2.box.pen
    have hx := newT3 w1 (.bool false) (.int .i64 no) (.string tx) 88
    obtain ⟨⟨b0, b1, b2⟩, -⟩ := hx.trp
    have HM2 := hide (hM1.trans (Mv.down hd))
    have HQ2 := hide hQ2
    have HXB := hide hx
    have hsz : B ≤ w1.heap.size := Nat.le_trans hB hM1.chg.size
    have hg3 : (outQ q k).got = q.got := rfl
    rw [hg3] at y3
    have HT := hide (take_txt (q := q) (k := k) (p := ⟨false, no, tx⟩) rfl)
    clear hQ1 hM1 hd hQ2 hx hg3
    go_upto_region 7 with fail
    obtain ⟨W, hW⟩ : ∃ W, w1.alloc (.cells #[.bool false, .int .i64 no, .string tx] 88) = W := ⟨_, rfl⟩
    have hszW : B ≤ W.heap.size := by rw [← hW]; simp; omega
    rw [hW] at y3 b0 b1 b2 HM2 HQ2 HXB ⊢
    clear hW
    by_cases hno : no = (q.got.length : Int)
    · have hne : (no == (q.got.length : Int)) = true := by simpa using hno
      have HNO := hide hno
      clear hno
      go_big_quiet (fail)
      rename_i nq
      have hdn := below_drewN (Below.refl W.heap.size W) nq
      have hQ5 := HQ2.out.down hdn
      have hM5 := HM2.out.trans (Mv.down hdn)
      have hX5 := HXB.out.down hdn
      obtain ⟨W5, hW5⟩ : ∃ W5, W.drewN nq = W5 := ⟨_, rfl⟩
      have hsz5 : B ≤ W5.heap.size := by rw [← hW5]; exact Nat.le_trans hszW hdn.size
      rw [hW5] at hQ5 hM5 hX5 ⊢
      clear hW5 hdn y3 b0 b1 b2 HQ2 HM2 HXB
      obtain ⟨⟨-, -, -, y3, -⟩, -⟩ := hQ5.box.pen
      rw [show (outQ q k).got = q.got from rfl] at y3
      obtain ⟨⟨b0, b1, b2⟩, -⟩ := hX5.trp
      obtain ⟨i0, hi, hz0, hz1, hz2⟩ := info_parts info_str
      have hdl : Below W5.heap.size W5 ((W5.alloc (.cells #[.string tx] 9)).drew) := ((Below.refl W5.heap.size W5).alloc (Nat.le_refl _) _).drew
      have hQl := hQ5.down hdl
      have HQl := hide hQl
      have HMl := hide (hM5.trans (Mv.down hdl))
      have hlit : TxC ((W5.alloc (.cells #[.string tx] 9)).drew) (.slice (some ⟨W5.heap.size, 0, none⟩) 1 1) [tx] := (lit_txc (heap_alloc_new W5 _)).below (Below.refl _ _).drew
      have yl := (hQ5.box.alloc (.cells #[.string tx] 9)).pen.1.2.2.2.1
      rw [show (outQ q k).got = q.got from rfl] at yl
      have HG := hide (show ∀ w7 : World, ((W5.alloc (.cells #[.string tx] 9)).drew).grownBy w7 (Value.slice a3 q.got.length c3).ownBlock → w7.cell? ⟨g, 3, none⟩ = some (.slice a3 q.got.length c3) ∧ w7.frozen? ⟨g, 3, none⟩ = false from fun w7 hg => by
        have hbx := HQl.out.box.gb hg (fun e => HQl.out.n3 e.symm)
        exact ⟨hbx.pen.1.2.2.2.1, hbx.thaw 3⟩)
      have HO := hide (show ((W5.alloc (.cells #[.string tx] 9)).drew).ownsRow B 9 1 (.slice a3 q.got.length c3) q.got.length (sv q.got) from HQl.out.o3)
      clear hQ5 hM5 hX5 hQl hdl
      go_upto_region 8 with fail
      go_region_law (refine step_append_lies _ rfl (.tmp 39) (.tmp 42) 22 rfl B 9 i0 _ 1 16 Try.underlying22 hi hz0 hz1 hz2 rfl (by decide) (.slice a3 q.got.length c3) q.got.length _ (by simp [Act.eval]) HO.out ⟨W5.heap.size, 0, none⟩ 1 1 (sv [tx]) (by simp [Act.eval]) (by rw [sv_len]; rfl) hlit.1.src (sv_one [tx]) (by omega) (by unfold maxLen; omega) (by omega) (by simp; omega) _ rfl ?_; intro g7 cap7 w7 hown7 hgrow7 hat hlt7; obtain ⟨z0, z1⟩ := HG.out w7 hgrow7)
      all_goals
        have hO : OwnT w7 B (.slice (some ⟨g7, 0, none⟩) (q.got.length + 1) cap7) (q.got ++ [tx]) := by
          unfold OwnT; rw [List.length_append, sv_app]; exact hown7
        have hP := HQl.out.put3 (W2 := w7) (Chg.gb hgrow7 (fun k e => e)) hO (fun k e => by
          simp only [Value.ownBlock, Option.some.injEq] at e
          subst e
          rcases hat with h' | h'
          · exact .inl h'
          · exact .inr (Nat.le_of_eq h'.symm))
        have hM8 := HMl.out.trans hP.2
        have hP8 := hP.1
        obtain ⟨W8, hW8⟩ : ∃ W8, w7.setCell ⟨g, 3, none⟩ (.slice (some ⟨g7, 0, none⟩) (q.got.length + 1) cap7) = W8 := ⟨_, rfl⟩
        have y8 := hP8.box.pen.1.2.2.2.1
        rw [hW8] at hP8 hM8 y8
        have HP8 := hide hP8
        have HM8 := hide hM8
        have HW8 := hide hW8
        have hsz8 : B ≤ W8.heap.size := Nat.le_trans hB hM8.chg.size
        clear hP hO hown7 hgrow7 hat hlit yl HG HO HQl HMl y3 b0 b1 b2 hP8 hM8 hW8
        go_wp2_with (first | (rw [HW8.out]; fail) | fail)
        rw [HW8.out]
        clear HW8
        go_wp2_with fail
        refine (put_line B g _ _ _ _ ⟨true, ((q.got.length : Int) + 1), ⟨#[]⟩⟩ _ HP8.out hsz8 (by show (outQ q k).line.length < 40; omega) (by show ByteArray.size ⟨#[]⟩ ≤ 12; decide)).mono ?_
        rintro e w9 ⟨rfl, u5, hP9, hM9⟩
        have HF := hide (show PQ w9 B g v1 _ u5 (takeQ q k ⟨false, no, tx⟩) ∧ Mv g w v1 (.slice a3 q.got.length c3) v4 w9 v1 _ u5 from ⟨by
          rw [HT.out, got_eq (by exact HNO.out)]
          have : (((outQ q k).got ++ [tx]).length : Int) = (q.got.length : Int) + 1 := by simp [outQ]
          simp only [this]
          exact hP9, HM8.out.trans hM9⟩)
        clear hP9 hM9 y8 z0 z1
        go_wp2
        go_ret
        exact ⟨rfl, _, u5, HF.out⟩
    · have hne : (no == (q.got.length : Int)) = false := by simpa using hno
      have HNO := hide hno
      clear hno
      go_big_quiet (fail)
      rename_i nq
      have hdn := below_drewN (Below.refl W.heap.size W) nq
      have hQ5 := HQ2.out.down hdn
      have hM5 := HM2.out.trans (Mv.down hdn)
      obtain ⟨W5, hW5⟩ : ∃ W5, W.drewN nq = W5 := ⟨_, rfl⟩
      have hsz5 : B ≤ W5.heap.size := by rw [← hW5]; exact Nat.le_trans hszW hdn.size
      rw [hW5] at hQ5 hM5 ⊢
      clear hW5 hdn y3 b0 b1 b2 HQ2 HM2 HXB
      obtain ⟨⟨-, -, -, y3, -⟩, -⟩ := hQ5.box.pen
      rw [show (outQ q k).got = q.got from rfl] at y3
      have HP8 := hide hQ5
      have HM8 := hide hM5
      clear hQ5 hM5
      go_wp2_with fail
      refine (put_line B g _ _ _ _ ⟨true, (q.got.length : Int), ⟨#[]⟩⟩ _ HP8.out hsz5 (by omega) (by show ByteArray.size ⟨#[]⟩ ≤ 12; decide)).mono ?_
      rintro e w9 ⟨rfl, u5, hP9, hM9⟩
      have HF := hide (show PQ w9 B g v1 _ u5 (takeQ q k ⟨false, no, tx⟩) ∧ Mv g w v1 (.slice a3 q.got.length c3) v4 w9 v1 _ u5 from ⟨by
        rw [HT.out, got_ne (by exact HNO.out)]
        exact hP9, HM8.out.trans hM9⟩)
      clear hP9 hM9 y3
      go_wp2
      go_ret
      exact ⟨rfl, _, u5, HF.out⟩
end Go.Proofs.Ytfjdbenbiakbbaa
