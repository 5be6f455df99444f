/-
  Copies of packets, of lines and of queues in the program's text, in memory of their own; a packet put on the line, a text put behind what was sent.
-/
import Derived.Test.YtfjdbenbiakbbaaQuP
import Derived.Test.YtfjdbenbiakbbaaSgRp
import Derived.Deep.RegionHeld3
import Derived.Deep.Cut
namespace Go.Proofs.Ytfjdbenbiakbbaa
open Go.RowKit M
open Go.Sort (grow)
set_option maxHeartbeats 2000000 in
theorem copy_pk (p : Pk) (w : World) (hs : p.tx.size ≤ 281474976710656) :
    Calls Try.prog 89 #[p.v] w fun e w' => e = .returned p.v ∧ Below w.heap.size w w' := by
  obtain ⟨W0, hW0⟩ : ∃ W0, (w.alloc (.cells #[.bool p.ack, .int .i64 p.no, .string p.tx] 88)).alloc (.cells #[.bool false, .int .i64 0, .string ⟨#[]⟩] 88) = W0 := ⟨_, rfl⟩
  obtain ⟨s, hp⟩ : ∃ s, w.heap.size = s := ⟨_, rfl⟩
  have hL : Below w.heap.size w W0 := by
    rw [← hW0]; exact ((Below.refl _ w).alloc (Nat.le_refl _) _).alloc (by simp) _
  have hA : Blk W0 s 3 (qp p) 88 := by
    rw [← hW0, ← hp]; exact (newT3 w _ _ _ _).alloc _
  have hR : Blk W0 (s + 1) 3 (t3 (.bool false) (.int .i64 0) (.string ⟨#[]⟩)) 88 := by
    have := newT3 (w.alloc (.cells #[.bool p.ack, .int .i64 p.no, .string p.tx] 88)) (.bool false) (.int .i64 0) (.string ⟨#[]⟩) 88
    rw [World.size_alloc, hp, hW0] at this
    exact this
  obtain ⟨⟨a0, a1, a2⟩, -⟩ := hA.trp
  have k0 := cell_regrown a0
  have k1 := cell_regrown a1
  have k2 := cell_regrown a2
  have HR := hide (And.intro hL hR)
  have HE1 := hide (show ∀ q os, Calls Try.prog 88 #[.string p.tx] (grow (redrawn W0 q) os) fun e w'' => e = .returned (.string p.tx) ∧ ∃ p : Regrown, w'' = grow (redrawn W0 p.d) p.os from fun q os => Calls.regrown_of (clone_s p.tx _ hs))
  have HW := hide hW0
  have HP := hide hp
  clear hW0 hp hA hR hL a0 a1 a2 hs
  go_enter Try.func89, Try.ntmps89
  go_wp2
  rw [HW.out, HP.out]
  refine region_lastP rfl (by kernel_rfl) (by kernel_rfl) rfl (by kernel_rfl) ?_
  simp only [still, noop, List.dropLast, List.getLast?_cons_cons, List.getLast?_singleton, Option.map_some, Option.toList_some, List.cons_append, List.nil_append, List.getLast_cons_cons, List.getLast_singleton]
  repeat (go_big_quiet_step (exact HE1.out _ _))
  refine wpQuiet_nil ?_
  rintro _ ⟨⟨dq, osq⟩, rfl⟩
  have hL := HR.out.1.trans ((below_regrown W0 dq osq).mono HR.out.1.size)
  have hR := HR.out.2.down (below_regrown W0 dq osq)
  obtain ⟨W1, hW1⟩ : ∃ W1, grow (redrawn W0 dq) osq = W1 := ⟨_, rfl⟩
  rw [hW1] at hL hR ⊢
  clear hW1 HR HE1 k0 k1 k2
  obtain ⟨⟨c0, c1, c2⟩, f0, f1, f2⟩ := hR.trp
  obtain ⟨W2, hW2⟩ : ∃ W2, ((W1.setCell ⟨s + 1, 0, none⟩ (.bool p.ack)).setCell ⟨s + 1, 1, none⟩ (.int .i64 p.no)).setCell ⟨s + 1, 2, none⟩ (.string p.tx) = W2 := ⟨_, rfl⟩
  have HZ := hide (show Blk W2 (s + 1) 3 (qp p) 88 ∧ Below w.heap.size w W2 from by
    rw [← hW2]
    rw [HP.out] at hL ⊢
    exact ⟨hR.putT3 _ _ _, ((hL.setCell (p := ⟨s + 1, 0, none⟩) (Nat.le_succ s) _).setCell (p := ⟨s + 1, 1, none⟩) (Nat.le_succ s) _).setCell (p := ⟨s + 1, 2, none⟩) (Nat.le_succ s) _⟩)
  have HWZ := hide hW2
  clear hL hR hW2
  go_wp2
  rw [HWZ.out]
  obtain ⟨⟨e0, e1, e2⟩, -⟩ := HZ.out.1.trp
  exact bodyPost_ret (v := p.v) (by simp [results, Try.results89, go_sem, e0, e1, e2]) rfl ⟨rfl, HZ.out.2⟩
set_option maxHeartbeats 2000000 in
theorem copy_line (v : Value) (l : Pks) (w : World) (hv : PksOf w v l) (hn : l.length ≤ 1048576) (hnm : ∀ x ∈ l, x.tx.size ≤ 12) :
    Calls Try.prog 73 #[v] w fun e w' => (∃ a n c, e = .returned (.slice a n c) ∧ OwnP w' w.heap.size (.slice a n c) l) ∧ Below w.heap.size w w' := by
  obtain ⟨a, cap, rfl, hr⟩ := hv
  have HR := hide hr
  have HN := hide hnm
  clear hr hnm
  go_enter Try.func73, Try.ntmps73
  go_wp2
  go_loopw [3, 8] (fun o i wr => ∃ (k n c : Nat) (ao : Option Addr), k ≤ l.length ∧ i = .int .i64 k ∧ o = .slice ao n c ∧ Hid (OwnP wr w.heap.size (.slice ao n c) (l.take k)) ∧ Below w.heap.size w wr) (fun _ i _ => l.length - (intOf i).toNat)
  case atStart => exact ⟨0, 0, 0, none, Nat.zero_le _, rfl, rfl, hide (OwnP.nil _ _), Below.refl _ _⟩
  case round =>
    obtain ⟨k, n, c, ao, hk, rfl, rfl, HO, hbw⟩ := hrel
    by_cases hlt : k < l.length
    · obtain ⟨b, off, rfl, hb, hrow⟩ := HR.out (by omega)
      obtain ⟨p, hx⟩ : ∃ x, l[k]? = some x := ⟨l[k], List.getElem?_eq_getElem hlt⟩
      obtain ⟨c0, c1, c2⟩ := (hrow k p hx).below hbw hb
      have hxs : p.tx.size ≤ 281474976710656 := by have := HN.out p (List.mem_of_getElem? hx); omega
      have HX := hide hx
      have hbw1 := hbw.alloc hbw.size (.cells #[.bool p.ack, .int .i64 p.no, .string p.tx] 88)
      have HO1 := hide (HO.out.alloc (.cells #[.bool p.ack, .int .i64 p.no, .string p.tx] 88))
      clear hrow hx HR HN
      go_wp2_with fail
      refine (copy_pk p _ hxs).mono ?_
      rintro e w2 ⟨rfl, hb2⟩
      have hbw2 := hbw1.trans (hb2.mono hbw1.size)
      have hown := (HO1.out.down hb2).alloc (.cells #[.bool p.ack, .int .i64 p.no, .string p.tx] 88)
      have hlit := lit_pk (p := p) (newT3 w2 (.bool p.ack) (.int .i64 p.no) (.string p.tx) 88)
      clear hb2 HO HO1 c0 c1 c2 hbw1
      go_wp2_with (at_builtin; refine wpList_appP _ rfl _ _ rfl w.heap.size (l.take k) [p] _ _ rfl hown rfl hlit (by rw [List.length_take]; simp; omega) (by have := hbw2.size; simp; omega) ?_)
      intro a4 n4 c4 w4 hO4 hgr _
      have hbw4 : Below w.heap.size w w4 := (hbw2.alloc hbw2.size _).grown hgr (by have := hbw2.size; simp; omega) (fun j hj => (hown.lt hj).1)
      have HO4 := hide (show OwnP w4 w.heap.size (.slice a4 n4 c4) (l.take (k + 1)) from by rw [take_snocA HX.out]; exact hO4)
      clear hO4 hgr hown hlit hbw2
      go_wp2
      go_roundw
      case rel => exact ⟨k + 1, n4, c4, a4, by omega, by go_num, rfl, HO4, hbw4⟩
      case measure => simp [intOf]; omega
    · have HB := hide (show OwnP wr w.heap.size (.slice ao n c) l from by have := HO.out; rwa [List.take_of_length_le (by omega)] at this)
      clear HO HR HN
      go_wp2
      go_ret
      exact ⟨⟨_, _, _, rfl, HB.out⟩, hbw⟩
theorem line_full (B g : Nat) (v1 v3 v4 : Value) (q : Qu) (p : Pk) (w : World) (h : PQ w B g v1 v3 v4 q) (hl : q.line.length = 40) :
    Calls Try.prog 90 #[.pointer (some ⟨g, 0, none⟩), p.v] w fun e w' => e = .returned (.bool false) ∧ Below w.heap.size w w' := by
  have hbA := (Below.refl w.heap.size w).alloc (Nat.le_refl _) (.cells #[.bool p.ack, .int .i64 p.no, .string p.tx] 88)
  obtain ⟨a4, c4, rfl⟩ := h.o4.form
  obtain ⟨⟨y0, y1, y2, y3, y4⟩, -⟩ := (h.box.alloc (.cells #[.bool p.ack, .int .i64 p.no, .string p.tx] 88)).pen
  have hl2 : (q.line.length : Int) = 40 := by omega
  clear h hl y0 y1 y2 y3
  go_enter Try.func90, Try.ntmps90
  go_wp2
  go_ret
  exact ⟨rfl, hbA⟩
set_option maxRecDepth 20000 in
set_option maxHeartbeats 4000000 in
theorem put_line (B g : Nat) (v1 v3 v4 : Value) (q : Qu) (p : Pk) (w : World) (h : PQ w B g v1 v3 v4 q) (hB : B ≤ w.heap.size) (hl : q.line.length < 40) (hp : p.tx.size ≤ 12) :
    Calls Try.prog 90 #[.pointer (some ⟨g, 0, none⟩), p.v] w fun e w' => e = .returned (.bool true) ∧ ∃ u4, PQ w' B g v1 v3 u4 (putQ q p) ∧ Mv g w v1 v3 v4 w' v1 v3 u4 := by
  obtain ⟨i0, hi, hz0, hz1, hz2⟩ := info_parts info_pk
  obtain ⟨A, hA⟩ : ∃ A, w.alloc (.cells #[.bool p.ack, .int .i64 p.no, .string p.tx] 88) = A := ⟨_, rfl⟩
  have hd : Below w.heap.size w A := by rw [← hA]; exact (Below.refl w.heap.size w).alloc (Nat.le_refl _) _
  have hA1 : PQ A B g v1 v3 v4 q := h.down hd
  have hsz : A.heap.size = w.heap.size + 1 := by rw [← hA]; simp
  obtain ⟨a4, c4, rfl⟩ := h.o4.form
  have hx : Blk A w.heap.size 3 (qp p) 88 := by rw [← hA]; exact newT3 w _ _ _ _
  obtain ⟨⟨b0, b1, b2⟩, -⟩ := hx.trp
  obtain ⟨⟨-, -, -, -, y4⟩, -⟩ := hA1.box.pen
  obtain ⟨⟨-, -, -, -, y5⟩, -⟩ := (h.box.alloc (.cells #[.bool p.ack, .int .i64 p.no, .string p.tx] 88)).pen
  have HH := hide hA1
  have HA := hide hA
  have HX := hide (show ∀ w1, Below A.drew.heap.size A.drew w1 → w1.cell? ⟨g, 4, none⟩ = some (.slice a4 q.line.length c4) ∧ (∀ o, (w1.alloc o).cell? ⟨g, 4, none⟩ = some (.slice a4 q.line.length c4)) ∧ PQ (w1.alloc (.cells #[.bool p.ack, .int .i64 p.no, .string p.tx] 88)) B g v1 v3 (.slice a4 q.line.length c4) q ∧ Blk (w1.alloc (.cells #[.bool p.ack, .int .i64 p.no, .string p.tx] 88)) w1.heap.size 3 (qp p) 88 ∧ B ≤ w1.heap.size from fun w1 hb => by
    have h1 := (HH.out.down (Below.refl A.heap.size A).drew).down hb
    refine ⟨h1.box.pen.1.2.2.2.2, fun o => (h1.box.alloc o).pen.1.2.2.2.2, h1.down ((Below.refl _ w1).alloc (Nat.le_refl _) _), newT3 w1 _ _ _ _, ?_⟩
    have h2 := hb.size
    have h3 : A.drew.heap.size = A.heap.size := rfl
    omega)
  have HMv := hide (show ∀ w1, Below A.drew.heap.size A.drew w1 → Below w.heap.size w (w1.alloc (.cells #[.bool p.ack, .int .i64 p.no, .string p.tx] 88)) from fun w1 hb => by
    have h1 := hd.drew.trans (hb.mono hd.size)
    exact h1.alloc h1.size _)
  have HG := hide (show ∀ (W w7 : World), PQ W B g v1 v3 (.slice a4 q.line.length c4) q → W.grownBy w7 (Value.slice a4 q.line.length c4).ownBlock → w7.cell? ⟨g, 4, none⟩ = some (.slice a4 q.line.length c4) ∧ w7.frozen? ⟨g, 4, none⟩ = false from fun W w7 h1 hg => by
    have hbx := h1.box.gb hg (fun e => h1.n4 e.symm)
    exact ⟨hbx.pen.1.2.2.2.2, hbx.thaw 4⟩)
  have hne : ¬ (q.line.length : Int) = 40 := by omega
  have hps : p.tx.size ≤ 281474976710656 := by omega
  have hd40 : ((q.line.length : Int) == 40) = false := by simpa using hne
  clear h hd hA1 hx hA
  go_enter Try.func90, Try.ntmps90
  go_upto_region 3 with fail
  rw [HA.out]
  clear y5
  go_region_law (first
    | (refine step_append_lies _ rfl (.tmp 15) (.tmp 18) 30 rfl B 88 i0 _ 3 32 Try.underlying30 hi hz0 hz1 hz2 rfl (by decide) (.slice a4 q.line.length c4) q.line.length _ (by simp [Act.eval]) hW.o4 ⟨w1.heap.size, 0, none⟩ 1 1 (cellsP [p]) (by simp [Act.eval]) (cellsP_len [p]) (lit_pk hlitB).1.src (cellsP_one [p]) (by omega) (by unfold maxLen; omega) (by omega) (by simp; omega) _ rfl ?_; intro g7 cap7 w7 hown7 hgrow7 hat hlt7; obtain ⟨z0, z1⟩ := HG.out _ w7 hW hgrow7)
    | (rw [if_pos (by rfl)]; go_simp; go_at_call 89; refine (copy_pk p _ hps).mono ?_; rintro e w1 ⟨rfl, hb1⟩; obtain ⟨m4, m5, hW, hlitB, hB1⟩ := HX.out w1 hb1))
  all_goals
    have hO : OwnP w7 B (.slice (some ⟨g7, 0, none⟩) (q.line.length + 1) cap7) (q.line ++ [p]) := by
      unfold OwnP; rw [List.length_append, cellsP_app]; exact hown7
    have hP := hW.put4 (W2 := w7) (Chg.gb hgrow7 (fun k e => e)) hO (fun k e => by
      simp only [Value.ownBlock, Option.some.injEq] at e
      subst e
      rcases hat with h' | h'
      · exact .inl h'
      · exact .inr (Nat.le_of_eq h'.symm))
    have HF := hide (show PQ _ B g v1 v3 _ (putQ q p) ∧ Mv g w v1 v3 (.slice a4 q.line.length c4) _ v1 v3 _ from ⟨hP.1, (Mv.down (HMv.out w1 hb1)).trans hP.2⟩)
    clear hP hO hown7 hgrow7 hat hW hlitB m4 m5 z0 z1 HG HX HMv HH y4 b0 b1 b2
    go_wp2
    go_ret
    exact ⟨rfl, _, HF.out⟩
end Go.Proofs.Ytfjdbenbiakbbaa
