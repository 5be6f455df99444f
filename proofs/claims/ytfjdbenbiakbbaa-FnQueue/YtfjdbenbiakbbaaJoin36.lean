/-
  One try to bring the next text over, and a queue that is drained: the program's text.
-/
import Derived.Test.YtfjdbenbiakbbaaJoin24
namespace Go.Proofs.Ytfjdbenbiakbbaa
open Go.RowKit M
namespace M
theorem drn_step {f : Nat} {q : Qu} {t : ByteArray} (h : q.sent[q.base.toNat]? = some t) : drn (f + 1) q = ((drn f (rndQ q t)).1, (drn f (rndQ q t)).2 + 1) := by
  conv => lhs; unfold drn
  simp only [h]
theorem drn_stop {f : Nat} {q : Qu} (h : (q.sent.length : Int) ≤ q.base) : drn f q = (q, 0) := by
  cases f with
  | zero => rfl
  | succ f =>
    have : q.sent[q.base.toNat]? = none := List.getElem?_eq_none (by omega)
    unfold drn
    simp only [this]
/-- What holds while a queue is drained: k tries so far. -/
def Drg (q q' : Qu) (k : Nat) : Prop := ∃ f : Nat, GoodQ q' ∧ q'.sent = q.sent ∧ (k : Int) ≤ q'.base ∧ (q'.sent.length : Int) - q'.base ≤ f ∧ (drn 40 q).1 = (drn f q').1 ∧ (drn 40 q).2 = k + (drn f q').2
theorem Drg.zero {q : Qu} (h : GoodQ q) : Drg q q 0 := ⟨40, h, rfl, h.b0, by have := h.s40; have := h.b0; omega, rfl, by omega⟩
theorem Drg.succ {q q' : Qu} {k : Nat} {t : ByteArray} (h : Drg q q' k) (ht : q'.sent[q'.base.toNat]? = some t) : Drg q (rndQ q' t) (k + 1) := by
  obtain ⟨f, hg, hs, hk, hf, h1, h2⟩ := h
  have hlt := (List.getElem?_eq_some_iff.1 ht).1
  have h0 := hg.b0
  have hgt := gotT_gt hg t
  obtain ⟨f, rfl⟩ : ∃ f', f = f' + 1 := ⟨f - 1, by omega⟩
  rw [drn_step ht] at h1 h2
  exact ⟨f, good_rnd hg ht, hs, by show ((k + 1 : Nat) : Int) ≤ ((gotT q' t).length : Nat); omega, by show (q'.sent.length : Int) - ((gotT q' t).length : Nat) ≤ f; omega, h1, by omega⟩
theorem Drg.stop {q q' : Qu} {k : Nat} (h : Drg q q' k) (he : (q'.sent.length : Int) ≤ q'.base) : (drn 40 q).1 = q' ∧ (drn 40 q).2 = k := by
  obtain ⟨f, hg, hs, hk, hf, h1, h2⟩ := h
  rw [drn_stop he] at h1 h2
  exact ⟨h1, by omega⟩
theorem Drg.good {q q' : Qu} {k : Nat} (h : Drg q q' k) : GoodQ q' := by obtain ⟨f, hg, _⟩ := h; exact hg
theorem Drg.le {q q' : Qu} {k : Nat} (h : Drg q q' k) : (k : Int) ≤ q'.base := by obtain ⟨f, _, _, hk, _⟩ := h; exact hk
theorem Chg.refl (S : Nat → Prop) (w : World) : Chg S w w := ⟨rfl, rfl, rfl, Nat.le_refl _, fun _ _ _ => rfl⟩
end M
set_option maxRecDepth 20000 in
set_option maxHeartbeats 4000000 in
theorem bring_next (B g : Nat) (v1 v3 v4 : Value) (q : Qu) (t : ByteArray) (w : World) (h : PQ w B g v1 v3 v4 q) (hB : B ≤ w.heap.size) (hg : GoodQ q) (ht : q.sent[q.base.toNat]? = some t) :
    Calls Try.prog 57 #[.pointer (some ⟨g, 0, none⟩)] w fun e w' => (∃ v, e = .returned v) ∧ Did B g w v1 v3 v4 w' (rndQ q t) := by
  have hP1 := h.put4 (W2 := w) (u4 := (.slice none 0 0)) (l := []) (Chg.refl _ w) (OwnP.nil _ _) (fun k e => by simp [Value.ownBlock] at e)
  obtain ⟨⟨-, -, -, -, z4⟩, -, -, -, -, f4⟩ := h.box.pen
  have yy := (h.box.pen4 (.slice none 0 0)).pen.1.2.2.1
  obtain ⟨W1, hW1⟩ : ∃ W1, w.setCell ⟨g, 4, none⟩ (.slice none 0 0) = W1 := ⟨_, rfl⟩
  rw [hW1] at hP1
  have y2 := hP1.1.box.pen.1.2.2.1
  have HW := hide hW1
  have HP := hide hP1
  have hB1 : B ≤ W1.heap.size := by rw [← hW1, World.size_setCell]; exact hB
  obtain ⟨a4, c4, rfl⟩ := h.o4.form
  have hg1 := good_empty hg
  have hs1 := try_send (x := ⟨#[]⟩) hg ht
  have hg2 := (good_stp hg1 hs1).1
  have hs2 := try_take (q := q) (t := t) (x := ⟨#[]⟩)
  have hg3 := (good_stp hg2 hs2).1
  have hs3 := try_ack (x := ⟨#[]⟩) (t := t) hg
  have HA := hide (And.intro hg1 hs1)
  have HB2 := hide (And.intro hg2 hs2)
  have HB3 := hide (And.intro hg3 hs3)
  clear h hP1 hg1 hs1 hg2 hs2 hg3 hs3 hg ht hW1
  go_enter Try.func57, Try.ntmps57
  go_wp2_with fail
  rw [HW.out]
  clear HW z4 f4 yy
  refine (do_send B g _ _ _ _ q.base ⟨#[]⟩ _ HP.out.1 hB1 HA.out.1).mono ?_
  rintro e w2 ⟨rfl, ⟨p1, p3, p4, hP2, hM2⟩⟩
  rw [HA.out.2] at hP2
  have hB2 := Nat.le_trans hB1 hM2.chg.size
  have HM2 := hide (HP.out.2.trans hM2)
  have HP2 := hide (show PQ w2 B g p1 p3 p4 { q with line := [⟨false, q.base, t⟩] } from hP2)
  clear hP2 hM2 HP HA y2
  go_wp2_with fail
  refine (do_take B g _ _ _ _ 0 ⟨#[]⟩ _ HP2.out hB2 HB2.out.1).mono ?_
  rintro e w3 ⟨rfl, ⟨r1, r3, r4, hP3, hM3⟩⟩
  rw [HB2.out.2] at hP3
  have hB3 := Nat.le_trans hB2 hM3.chg.size
  have HM3 := hide (HM2.out.trans hM3)
  have HP3 := hide (show PQ w3 B g r1 r3 r4 { q with got := gotT q t, line := [⟨true, ((gotT q t).length : Nat), ⟨#[]⟩⟩] } from hP3)
  clear hP3 hM3 HP2 HM2 HB2
  go_wp2_with fail
  refine (do_take B g _ _ _ _ 0 ⟨#[]⟩ _ HP3.out hB3 HB3.out.1).mono ?_
  rintro e w4 ⟨rfl, ⟨t1, t3, t4, hP4, hM4⟩⟩
  rw [HB3.out.2] at hP4
  have HF := hide (show Did B g w v1 v3 (.slice a4 q.line.length c4) w4 (rndQ q t) from ⟨_, _, _, hP4, HM3.out.trans hM4⟩)
  clear hP4 hM4 HP3 HM3 HB3
  go_wp2
  go_end0
  exact ⟨⟨_, rfl⟩, HF.out⟩
set_option maxRecDepth 20000 in
set_option maxHeartbeats 4000000 in
theorem impl_drain (v1 v3 v4 : Value) (q : Qu) (gb : Bool) (w : World) (hv : QuQ w v1 v3 v4 q) (hc : TxC w v1 q.sent) (hs : ShortQ q) (hn : ∀ x ∈ q.sent, x.size ≤ maxLen) (hgb : BP gb (GoodQ q)) :
    Calls Try.prog 30 #[qv v1 v3 v4 q] w fun e w' => AnsE w w' e (if gb = true then (drn 40 q).1 else qu0) [.int .i64 (if gb = true then ((drn 40 q).2 : Int) else 0), .bool gb] ∧ Below w.heap.size w w' := by
  have HY := hide hv
  have HB := hide hgb
  obtain ⟨a1, c1, rfl⟩ := hv.s.form
  obtain ⟨a3, c3, rfl⟩ := hv.g.form
  obtain ⟨a4, c4, rfl⟩ := hv.l.form
  have hC := CQ.new w (.slice a1 q.sent.length c1) (.slice a3 q.got.length c3) (.slice a4 q.line.length c4) q
  have HGc := hide (impl_goodQ _ _ _ q gb _ (hv.below hC.low) (hc.below hC.low) hs hn hgb)
  have HC := hide hC
  obtain ⟨⟨y0, y1, y2, y3, y4⟩, -⟩ := HC.out.arg.pen
  clear hv hc hs hn hgb hC
  go_enter Try.func30, Try.ntmps30
  go_wp2_with fail
  refine Calls.mono HGc.out ?_
  rintro e w1 ⟨rfl, hb1⟩
  have HC1 := hide (HC.out.down hb1)
  clear hb1 HC HGc y0 y1 y2 y3 y4
  cases gb with
  | false =>
    obtain ⟨⟨e0, e1, e2, e3, e4⟩, f0, f1, f2, f3, f4⟩ := HC1.out.res.pen
    have hz := (((((HC1.out.res.pen0 (.int .i64 0)).pen1 (.slice none 0 0)).pen2 (.int .i64 0)).pen3 (.slice none 0 0)).pen4 (.slice none 0 0))
    have hbz := (((((HC1.out.low.setCell (p := ⟨w.heap.size + 1, 0, none⟩) (show w.heap.size ≤ w.heap.size + 1 by omega) (.int .i64 0)).setCell (p := ⟨w.heap.size + 1, 1, none⟩) (show w.heap.size ≤ w.heap.size + 1 by omega) (.slice none 0 0)).setCell (p := ⟨w.heap.size + 1, 2, none⟩) (show w.heap.size ≤ w.heap.size + 1 by omega) (.int .i64 0)).setCell (p := ⟨w.heap.size + 1, 3, none⟩) (show w.heap.size ≤ w.heap.size + 1 by omega) (.slice none 0 0)).setCell (p := ⟨w.heap.size + 1, 4, none⟩) (show w.heap.size ≤ w.heap.size + 1 by omega) (.slice none 0 0))
    obtain ⟨⟨g0, g1, g2, g3, g4⟩, -⟩ := hz.pen
    clear hz
    go_wp2
    exact bodyPost_ret (v := .tuple #[qv (.slice none 0 0) (.slice none 0 0) (.slice none 0 0) qu0, .int .i64 0, .bool false]) (by simp [results, Try.results30, go_sem, qu0, g0, g1, g2, g3, g4]) rfl ⟨AnsE.zero _ _ _, hbz⟩
  | true =>
  have HG := hide (HB.out.1 rfl)
  obtain ⟨⟨y0, y1, y2, y3, y4⟩, -⟩ := HC1.out.arg.pen
  go_wp2_with fail
  refine (copy_queue _ _ _ q _ (HY.out.below HC1.out.low) HG.out).mono ?_
  rintro e w2 ⟨⟨u1, u3, u4, rfl, hA⟩, hb2⟩
  obtain ⟨b1, d1, rfl⟩ := hA.o1.form
  obtain ⟨b3, d3, rfl⟩ := hA.o3.form
  obtain ⟨b4, d4, rfl⟩ := hA.o4.form
  have hP := PQ.new hA hb2.size
  have hd3 := (Below.refl w2.heap.size w2).alloc (Nat.le_refl _) (.cells (qarr (.slice b1 q.sent.length d1) (.slice b3 q.got.length d3) (.slice b4 q.line.length d4) q) 32)
  have HC3 := hide ((HC1.out.down hb2).down hd3)
  have HP := hide hP
  have hs12 : w1.heap.size ≤ w2.heap.size := hb2.size
  have hsb : w.heap.size + 2 ≤ w1.heap.size := HC1.out.big
  have HDZ := hide (Drg.zero HG.out)
  clear hP hb2 hd3 hA HC1 y0 y1 y2 y3 y4 HB HY
  go_wp2_with fail
  go_loopw [6] (fun n wr => ∃ (k : Nat) (q' : Qu) (x1 x3 x4 : Value), n = .int .i64 k ∧ Hid (PQ wr w1.heap.size w2.heap.size x1 x3 x4 q') ∧ Hid (Drg q q' k) ∧ Hid (Blk wr (w.heap.size + 1) 5 (w5 (.int .i64 0) (.slice none 0 0) (.int .i64 0) (.slice none 0 0) (.slice none 0 0)) 32 ∧ Below w.heap.size w wr ∧ w1.heap.size ≤ wr.heap.size) ∧ k ≤ 40) (fun n _ => 41 - (intOf n).toNat)
  case atStart => exact ⟨0, q, _, _, _, rfl, HP, HDZ, hide ⟨HC3.out.res, HC3.out.low, by simp; omega⟩, by omega⟩
  case round =>
    obtain ⟨k, q', x1, x3, x4, rfl, HPr, HDr, HRr, hk40⟩ := hrel
    clear HP HDZ HC3
    obtain ⟨m1, k1, rfl⟩ := HPr.out.o1.form
    obtain ⟨m3, k3, rfl⟩ := HPr.out.o3.form
    obtain ⟨m4, k4, rfl⟩ := HPr.out.o4.form
    obtain ⟨⟨y0, y1, y2, y3, y4⟩, -⟩ := HPr.out.box.pen
    have hg' := HDr.out.good
    have h0 := hg'.b0
    have hs40 := hg'.s40
    by_cases hlt : q'.base < (q'.sent.length : Int)
    · obtain ⟨t, ht⟩ : ∃ t, q'.sent[q'.base.toNat]? = some t := ⟨_, List.getElem?_eq_getElem (by omega)⟩
      have hkb := HDr.out.le
      have HD2 := hide (HDr.out.succ ht)
      have HT := hide ht
      have HG2 := hide hg'
      have hk : k + 1 ≤ 40 := by omega
      clear ht hg' hkb
      go_wp2_with fail
      refine (bring_next w1.heap.size w2.heap.size _ _ _ q' t _ HPr.out HRr.out.2.2 HG2.out HT.out).mono ?_
      rintro e w4 ⟨⟨v, rfl⟩, ⟨p1, p3, p4, hP4, hM4⟩⟩
      have hmn := HPr.out.mine
      have hlow := hM4.chg.low (B := w1.heap.size) hmn HRr.out.2.2
      have HR4 := hide (show Blk w4 (w.heap.size + 1) 5 (w5 (.int .i64 0) (.slice none 0 0) (.int .i64 0) (.slice none 0 0) (.slice none 0 0)) 32 ∧ Below w.heap.size w w4 ∧ w1.heap.size ≤ w4.heap.size from ⟨HRr.out.1.chg hM4.chg (fun hk => by have := hmn _ hk; omega), HRr.out.2.1.trans (hlow.mono (by omega)), Nat.le_trans HRr.out.2.2 hM4.chg.size⟩)
      have HP4 := hide hP4
      clear hP4 hM4 hmn hlow y0 y1 y2 y3 y4 HPr HRr HDr HT HG2
      go_wp2
      go_roundw
      case rel => exact ⟨k + 1, _, p1, p3, p4, by go_num, HP4, HD2, HR4, hk⟩
      case measure => simp [intOf]; omega
    · obtain ⟨hd1, hd2⟩ := HDr.out.stop (by omega)
      obtain ⟨WZ, hWZ⟩ : ∃ WZ, ((((wr.setCell ⟨w.heap.size + 1, 0, none⟩ (.int .i64 q'.win)).setCell ⟨w.heap.size + 1, 1, none⟩ (.slice m1 q'.sent.length k1)).setCell ⟨w.heap.size + 1, 2, none⟩ (.int .i64 q'.base)).setCell ⟨w.heap.size + 1, 3, none⟩ (.slice m3 q'.got.length k3)).setCell ⟨w.heap.size + 1, 4, none⟩ (.slice m4 q'.line.length k4) = WZ := ⟨_, rfl⟩
      obtain ⟨j1, j2, j3⟩ := putW5 HRr.out.1 HRr.out.2.1 (by omega) _ _ _ _ _ WZ hWZ
      have HF := hide (show AnsQ WZ w.heap.size WZ.heap.size (.slice m1 q'.sent.length k1) (.slice m3 q'.got.length k3) (.slice m4 q'.line.length k4) q'.sent q'.got q'.line from by
        have hm := HPr.out.mine
        refine AnsQ.of ((HPr.out.o1.other j3 (fun k hk e => ?_)).mono (by omega)) ((HPr.out.o3.other j3 (fun k hk e => ?_)).mono (by omega)) ((HPr.out.o4.other j3 (fun k hk e => ?_)).mono (by omega)) HPr.out.a13 HPr.out.a14 HPr.out.a34
        · have := hm k (.inr (.inl hk)); simp only [Option.some.injEq] at e; omega
        · have := hm k (.inr (.inr (.inl hk))); simp only [Option.some.injEq] at e; omega
        · have := hm k (.inr (.inr (.inr hk))); simp only [Option.some.injEq] at e; omega)
      obtain ⟨⟨e0, e1, e2, e3, e4⟩, f0, f1, f2, f3, f4⟩ := HRr.out.1.pen
      have HJ := hide (And.intro j1 j2)
      have HWZ := hide hWZ
      have HDD := hide (And.intro hd1 hd2)
      clear j1 j2 j3 hWZ HRr HPr HDr hd1 hd2 hg'
      go_wp2
      rw [HWZ.out]
      clear e0 e1 e2 e3 e4 f0 f1 f2 f3 f4
      obtain ⟨⟨e0, e1, e2, e3, e4⟩, -⟩ := HJ.out.1.pen
      exact bodyPost_ret (v := .tuple #[qv (.slice m1 q'.sent.length k1) (.slice m3 q'.got.length k3) (.slice m4 q'.line.length k4) q', .int .i64 (k : Int), .bool true]) (by simp [results, Try.results30, go_sem, e0, e1, e2, e3, e4]) rfl ⟨by
        rw [HDD.out.1, HDD.out.2]; exact ⟨_, _, _, rfl, HF.out⟩, HJ.out.2⟩
end Go.Proofs.Ytfjdbenbiakbbaa
