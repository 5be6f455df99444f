/-
  The laws of NewQueue, GoodQueue and WaitingIn, walked: each returns true and turns nothing that was there.
-/
import Derived.Test.YtmpdihaaekkcpaaQuI
import Derived.Test.YtmpdihaaekkcpaaQuN
import Derived.Deep.RegionWith
namespace Go.Proofs.Ytmpdihaaekkcpaa
open Go.RowKit M
set_option maxRecDepth 20000 in
set_option maxHeartbeats 4000000 in
theorem law_GoodQueue_run (v1 v3 v4 : Value) (q : Qu) (w : World) (hv : QuQ w v1 v3 v4 q) (hl : LensQ q)
    (hC : ShortQ q → ∃ (r0 : Bool), (∀ (v1 v3 v4 : Value) (lo hi : Nat) (w : World), AnsQ w lo hi v1 v3 v4 q.sent q.got q.line → Calls Try.prog 17 #[qv v1 v3 v4 q] w fun e w' => e = .returned ((.bool r0)) ∧ Below w.heap.size w w') ∧
      (∀ (v1 v3 v4 : Value) (lo hi : Nat) (w : World), AnsQ w lo hi v1 v3 v4 q.sent q.got q.line → Calls Try.prog 19 #[qv v1 v3 v4 q] w fun e w' => e = .returned ((.bool r0)) ∧ Below w.heap.size w w')) :
    Calls Try.prog 4 #[qv v1 v3 v4 q] w fun e w' => e = .returned (.bool true) ∧ Below w.heap.size w w' := by
  obtain ⟨a1, p1, rfl⟩ := hv.s.form
  obtain ⟨a3, p3, rfl⟩ := hv.g.form
  obtain ⟨a4, p4, rfl⟩ := hv.l.form
  have hb0 := (Below.refl w.heap.size w).alloc (Nat.le_refl _) (.cells (qarr (.slice a1 q.sent.length p1) (.slice a3 q.got.length p3) (.slice a4 q.line.length p4) q) 33)
  have HN0 := hide (show Blk (w.alloc (.cells (qarr (.slice a1 q.sent.length p1) (.slice a3 q.got.length p3) (.slice a4 q.line.length p4) q) 33)) w.heap.size 5 (qf (.slice a1 q.sent.length p1) (.slice a3 q.got.length p3) (.slice a4 q.line.length p4) q) 33 from newW5 w _ _ _ _ _ 33)
  have HV := hide hv
  have HL := hide hl
  have HC := hide hC
  clear hv hl hC
  go_enter Try.func4, Try.ntmps4
  go_wp2_with fail
  refine (sz_queue _ _ _ q _ (HV.out.below hb0) HL.out).mono ?_
  rintro e w1 ⟨⟨r, rfl, hr⟩, hb⟩
  have hb1 := hb0.trans (hb.mono hb0.size)
  have HN1 := hide (HN0.out.down hb)
  clear hb hb0 HN0
  by_cases hrn : r < 0
  · clear HN1 hr HC
    go_wp2
    go_ret
    exact ⟨rfl, hb1⟩
  · have hsh : ShortQ q := by
      rcases hr with h | ⟨_, _, h⟩
      · omega
      · exact h
    have HS := hide hsh
    obtain ⟨r0, hS, hI⟩ := HC.out hsh
    have CS := hide hS
    have CI := hide hI
    have er0 : (r0 != r0) = false := by simp
    clear hr hsh HC HL hS hI
    obtain ⟨⟨d0, d1, d2, d3, d4⟩, -⟩ := HN1.out.pen
    go_wp2_with fail
    refine (to_queue _ _ _ q _ (HV.out.below hb1) HS.out).mono ?_
    rintro e w2 ⟨⟨u1, u3, u4, rfl, hu⟩, hb⟩
    have hb2 := hb1.trans (hb.mono hb1.size)
    have HN2 := hide (HN1.out.down hb)
    have HU := hide hu
    obtain ⟨q1, k1, rfl⟩ := hu.o1.form
    obtain ⟨q3, k3, rfl⟩ := hu.o3.form
    obtain ⟨q4, k4, rfl⟩ := hu.o4.form
    clear d0 d1 d2 d3 d4 hb hb1 HN1 hu
    go_wp2_with fail
    refine (CS.out _ _ _ _ _ _ HU.out).mono ?_
    rintro e w3 ⟨rfl, hb⟩
    have hb3 := hb2.trans (hb.mono hb2.size)
    have HN3 := hide (HN2.out.down hb)
    clear hb hb2 HN2 HU
    obtain ⟨⟨d0, d1, d2, d3, d4⟩, -⟩ := HN3.out.pen
    go_wp2_with fail
    refine (to_queue _ _ _ q _ (HV.out.below hb3) HS.out).mono ?_
    rintro e w4 ⟨⟨y1, y3, y4, rfl, hy⟩, hb⟩
    have hb4 := hb3.trans (hb.mono hb3.size)
    obtain ⟨y1, k1, rfl⟩ := hy.o1.form
    obtain ⟨y3, k3, rfl⟩ := hy.o3.form
    obtain ⟨y4, k4, rfl⟩ := hy.o4.form
    have hbC := (Below.refl w4.heap.size w4).alloc (Nat.le_refl _) (.cells (qarr (.slice y1 q.sent.length k1) (.slice y3 q.got.length k3) (.slice y4 q.line.length k4) q) 25)
    have HM5 := hide (show Blk (w4.alloc (.cells (qarr (.slice y1 q.sent.length k1) (.slice y3 q.got.length k3) (.slice y4 q.line.length k4) q) 25)) w4.heap.size 5 (qf (.slice y1 q.sent.length k1) (.slice y3 q.got.length k3) (.slice y4 q.line.length k4) q) 25 from newW5 w4 _ _ _ _ _ 25)
    have HN5 := hide ((HN3.out.down hb).down hbC)
    have HY5 := hide (hy.down hbC)
    have hb5 := hb4.trans (hbC.mono hb4.size)
    clear d0 d1 d2 d3 d4 hb hb3 hb4 HN3 hy hbC
    obtain ⟨⟨d0, d1, d2, d3, d4⟩, -⟩ := HM5.out.pen
    go_wp2_with fail
    refine (CI.out _ _ _ _ _ _ HY5.out).mono ?_
    rintro e w6 ⟨rfl, hb⟩
    have hb6 := hb5.trans (hb.mono hb5.size)
    have HN6 := hide (HN5.out.down hb)
    have HM6 := hide (HM5.out.down hb)
    have HY6 := hide (HY5.out.down hb)
    clear d0 d1 d2 d3 d4 hb hb5 HN5 HM5 HY5 CI CS
    obtain ⟨⟨d0, d1, d2, d3, d4⟩, -⟩ := HN6.out.pen
    obtain ⟨⟨e0, e1, e2, e3, e4⟩, -⟩ := HM6.out.pen
    have HC := hide (show ∀ wx wy : World, wx.heap = w6.heap → Below wx.heap.size wx wy → (wy.cell? ⟨w4.heap.size, 0, none⟩ = some (.int .i64 q.win) ∧ wy.cell? ⟨w4.heap.size, 1, none⟩ = some (.slice y1 q.sent.length k1) ∧ wy.cell? ⟨w4.heap.size, 2, none⟩ = some (.int .i64 q.base) ∧ wy.cell? ⟨w4.heap.size, 3, none⟩ = some (.slice y3 q.got.length k3) ∧ wy.cell? ⟨w4.heap.size, 4, none⟩ = some (.slice y4 q.line.length k4)) from fun wx wy hh hb => by
      have h : Blk wx w4.heap.size 5 (qf (.slice y1 q.sent.length k1) (.slice y3 q.got.length k3) (.slice y4 q.line.length k4) q) 25 := by unfold Blk; rw [hh]; exact HM6.out
      exact (h.down hb).pen.1)
    clear HM6
    go_wp2_with fail
    go_region_with (first | (go_at_call 18; refine (to_queue _ _ _ q _ (HV.out.below (hb6.drew)) HS.out).mono ?_; rintro e w7 ⟨⟨z1, z3, z4, rfl, hz⟩, hb7⟩; have HZ := hide hz; obtain ⟨q6, k6, rfl⟩ := hz.o1.form; obtain ⟨q7, k7, rfl⟩ := hz.o3.form; obtain ⟨q8, k8, rfl⟩ := hz.o4.form; clear hz; obtain ⟨m0, m1, m2, m3, m4⟩ := HC.out w6.drew w7 rfl hb7) | (go_at_call 13; refine (eq_queue _ _ _ _ _ _ q _ (HY6.out.down ((Below.refl _ _).drew.trans hb7)).q HZ.out.q HS.out).mono ?_; rintro e w8 ⟨rfl, hb8⟩))
    all_goals
      have hbz : Below w.heap.size w w8 := (hb6.drew.trans (hb7.mono hb6.size)).trans (hb8.mono (Nat.le_trans hb6.size hb7.size))
      clear hb7 hb8 HZ m0 m1 m2 m3 m4 d0 d1 d2 d3 d4 e0 e1 e2 e3 e4 HC HY6 HN6 HV HS
      go_wp2
      go_ret
      exact ⟨rfl, hbz⟩
set_option maxRecDepth 20000 in
set_option maxHeartbeats 4000000 in
theorem law_WaitingIn_run (v1 v3 v4 : Value) (q : Qu) (w : World) (hv : QuQ w v1 v3 v4 q) (hl : LensQ q)
    (hC : ShortQ q → ∃ (r0 : Int) (r1 : Bool), (∀ (v1 v3 v4 : Value) (lo hi : Nat) (w : World), AnsQ w lo hi v1 v3 v4 q.sent q.got q.line → Calls Try.prog 33 #[qv v1 v3 v4 q] w fun e w' => e = .returned (.tuple #[.int .i64 r0, .bool r1]) ∧ Below w.heap.size w w') ∧
      (∀ (v1 v3 v4 : Value) (lo hi : Nat) (w : World), AnsQ w lo hi v1 v3 v4 q.sent q.got q.line → Calls Try.prog 34 #[qv v1 v3 v4 q] w fun e w' => e = .returned (.tuple #[.int .i64 r0, .bool r1]) ∧ Below w.heap.size w w')) :
    Calls Try.prog 7 #[qv v1 v3 v4 q] w fun e w' => e = .returned (.bool true) ∧ Below w.heap.size w w' := by
  obtain ⟨a1, p1, rfl⟩ := hv.s.form
  obtain ⟨a3, p3, rfl⟩ := hv.g.form
  obtain ⟨a4, p4, rfl⟩ := hv.l.form
  have hb0 := (Below.refl w.heap.size w).alloc (Nat.le_refl _) (.cells (qarr (.slice a1 q.sent.length p1) (.slice a3 q.got.length p3) (.slice a4 q.line.length p4) q) 33)
  have HN0 := hide (show Blk (w.alloc (.cells (qarr (.slice a1 q.sent.length p1) (.slice a3 q.got.length p3) (.slice a4 q.line.length p4) q) 33)) w.heap.size 5 (qf (.slice a1 q.sent.length p1) (.slice a3 q.got.length p3) (.slice a4 q.line.length p4) q) 33 from newW5 w _ _ _ _ _ 33)
  have HV := hide hv
  have HL := hide hl
  have HC := hide hC
  clear hv hl hC
  go_enter Try.func7, Try.ntmps7
  go_wp2_with fail
  refine (sz_queue _ _ _ q _ (HV.out.below hb0) HL.out).mono ?_
  rintro e w1 ⟨⟨r, rfl, hr⟩, hb⟩
  have hb1 := hb0.trans (hb.mono hb0.size)
  have HN1 := hide (HN0.out.down hb)
  clear hb hb0 HN0
  by_cases hrn : r < 0
  · clear HN1 hr HC
    go_wp2
    go_ret
    exact ⟨rfl, hb1⟩
  · have hsh : ShortQ q := by
      rcases hr with h | ⟨_, _, h⟩
      · omega
      · exact h
    have HS := hide hsh
    obtain ⟨r0, r1, hS, hI⟩ := HC.out hsh
    have CS := hide hS
    have CI := hide hI
    have er0 : (r0 != r0) = false := by simp
    have er1 : (r1 != r1) = false := by simp
    clear hr hsh HC HL hS hI
    obtain ⟨⟨d0, d1, d2, d3, d4⟩, -⟩ := HN1.out.pen
    go_wp2_with fail
    refine (to_queue _ _ _ q _ (HV.out.below hb1) HS.out).mono ?_
    rintro e w2 ⟨⟨u1, u3, u4, rfl, hu⟩, hb⟩
    have hb2 := hb1.trans (hb.mono hb1.size)
    have HN2 := hide (HN1.out.down hb)
    have HU := hide hu
    obtain ⟨q1, k1, rfl⟩ := hu.o1.form
    obtain ⟨q3, k3, rfl⟩ := hu.o3.form
    obtain ⟨q4, k4, rfl⟩ := hu.o4.form
    clear d0 d1 d2 d3 d4 hb hb1 HN1 hu
    go_wp2_with fail
    refine (CS.out _ _ _ _ _ _ HU.out).mono ?_
    rintro e w3 ⟨rfl, hb⟩
    have hb3 := hb2.trans (hb.mono hb2.size)
    have HN3 := hide (HN2.out.down hb)
    clear hb hb2 HN2 HU
    obtain ⟨⟨d0, d1, d2, d3, d4⟩, -⟩ := HN3.out.pen
    go_wp2_with fail
    refine (to_queue _ _ _ q _ (HV.out.below hb3) HS.out).mono ?_
    rintro e w4 ⟨⟨y1, y3, y4, rfl, hy⟩, hb⟩
    have hb4 := hb3.trans (hb.mono hb3.size)
    obtain ⟨y1, k1, rfl⟩ := hy.o1.form
    obtain ⟨y3, k3, rfl⟩ := hy.o3.form
    obtain ⟨y4, k4, rfl⟩ := hy.o4.form
    have hbC := (Below.refl w4.heap.size w4).alloc (Nat.le_refl _) (.cells (qarr (.slice y1 q.sent.length k1) (.slice y3 q.got.length k3) (.slice y4 q.line.length k4) q) 25)
    have HM5 := hide (show Blk (w4.alloc (.cells (qarr (.slice y1 q.sent.length k1) (.slice y3 q.got.length k3) (.slice y4 q.line.length k4) q) 25)) w4.heap.size 5 (qf (.slice y1 q.sent.length k1) (.slice y3 q.got.length k3) (.slice y4 q.line.length k4) q) 25 from newW5 w4 _ _ _ _ _ 25)
    have HN5 := hide ((HN3.out.down hb).down hbC)
    have HY5 := hide (hy.down hbC)
    have hb5 := hb4.trans (hbC.mono hb4.size)
    clear d0 d1 d2 d3 d4 hb hb3 hb4 HN3 hy hbC
    obtain ⟨⟨d0, d1, d2, d3, d4⟩, -⟩ := HM5.out.pen
    go_wp2_with fail
    refine (CI.out _ _ _ _ _ _ HY5.out).mono ?_
    rintro e w6 ⟨rfl, hb⟩
    have hb6 := hb5.trans (hb.mono hb5.size)
    have HN6 := hide (HN5.out.down hb)
    have HM6 := hide (HM5.out.down hb)
    have HY6 := hide (HY5.out.down hb)
    clear d0 d1 d2 d3 d4 hb hb5 HN5 HM5 HY5 CI CS
    obtain ⟨⟨d0, d1, d2, d3, d4⟩, -⟩ := HN6.out.pen
    obtain ⟨⟨e0, e1, e2, e3, e4⟩, -⟩ := HM6.out.pen
    have HC := hide (show ∀ wx wy : World, wx.heap = w6.heap → Below wx.heap.size wx wy → (wy.cell? ⟨w4.heap.size, 0, none⟩ = some (.int .i64 q.win) ∧ wy.cell? ⟨w4.heap.size, 1, none⟩ = some (.slice y1 q.sent.length k1) ∧ wy.cell? ⟨w4.heap.size, 2, none⟩ = some (.int .i64 q.base) ∧ wy.cell? ⟨w4.heap.size, 3, none⟩ = some (.slice y3 q.got.length k3) ∧ wy.cell? ⟨w4.heap.size, 4, none⟩ = some (.slice y4 q.line.length k4)) from fun wx wy hh hb => by
      have h : Blk wx w4.heap.size 5 (qf (.slice y1 q.sent.length k1) (.slice y3 q.got.length k3) (.slice y4 q.line.length k4) q) 25 := by unfold Blk; rw [hh]; exact HM6.out
      exact (h.down hb).pen.1)
    clear HM6
    go_wp2_with fail
    go_region_with (first | (go_at_call 18; refine (to_queue _ _ _ q _ (HV.out.below (hb6.drew)) HS.out).mono ?_; rintro e w7 ⟨⟨z1, z3, z4, rfl, hz⟩, hb7⟩; have HZ := hide hz; obtain ⟨q6, k6, rfl⟩ := hz.o1.form; obtain ⟨q7, k7, rfl⟩ := hz.o3.form; obtain ⟨q8, k8, rfl⟩ := hz.o4.form; clear hz; obtain ⟨m0, m1, m2, m3, m4⟩ := HC.out w6.drew w7 rfl hb7) | (go_at_call 13; refine (eq_queue _ _ _ _ _ _ q _ (HY6.out.down ((Below.refl _ _).drew.trans hb7)).q HZ.out.q HS.out).mono ?_; rintro e w8 ⟨rfl, hb8⟩))
    all_goals
      have hbz : Below w.heap.size w w8 := (hb6.drew.trans (hb7.mono hb6.size)).trans (hb8.mono (Nat.le_trans hb6.size hb7.size))
      clear hb7 hb8 HZ m0 m1 m2 m3 m4 d0 d1 d2 d3 d4 e0 e1 e2 e3 e4 HC HY6 HN6 HV HS
      go_wp2
      go_ret
      exact ⟨rfl, hbz⟩
theorem law_goodQ (v1 v3 v4 : Value) (q : Qu) (w : World) (hv : QuQ w v1 v3 v4 q) (hl : LensQ q) :
    Calls Try.prog 4 #[qv v1 v3 v4 q] w fun e w' => e = .returned (.bool true) ∧ Below w.heap.size w w' :=
  law_GoodQueue_run v1 v3 v4 q w hv hl (fun hs => by
    obtain ⟨b, hb⟩ := bp_ex (GoodQ q)
    exact ⟨b, fun _ _ _ _ _ w h => spec_goodQ _ _ _ q b w h.q hs hl.1.2 hb, fun _ _ _ _ _ w h => impl_goodQ _ _ _ q b w h.q h.o1.c hs hl.1.2 hb⟩)
theorem law_waiting (v1 v3 v4 : Value) (q : Qu) (w : World) (hv : QuQ w v1 v3 v4 q) (hl : LensQ q) :
    Calls Try.prog 7 #[qv v1 v3 v4 q] w fun e w' => e = .returned (.bool true) ∧ Below w.heap.size w w' :=
  law_WaitingIn_run v1 v3 v4 q w hv hl (fun hs => by
    obtain ⟨b, hb⟩ := bp_ex (GoodQ q)
    exact ⟨_, b, fun _ _ _ _ _ w h => spec_waiting _ _ _ q b w h.q hs hl.1.2 hb, fun _ _ _ _ _ w h => impl_waiting _ _ _ q b w h.q h.o1.c hs hl.1.2 hb⟩)
namespace M
theorem new_ans (w : World) (n : Int) (lo hi : Nat) : AnsQ w lo hi (.slice none 0 0) (.slice none 0 0) (.slice none 0 0) (newO n).sent (newO n).got (newO n).line := by
  obtain ⟨a, b, c⟩ := newO_empty n
  rw [a, b, c]; exact AnsQ.nil _ _ _
theorem new_short (n : Int) : ShortQ (newO n) := by
  obtain ⟨a, b, c⟩ := newO_empty n
  exact ⟨by rw [a]; decide, by rw [b]; decide, by rw [c]; decide⟩
theorem new_mk (n : Int) : mkQ (newO n) = 1 := by
  obtain ⟨a, b, c⟩ := newO_empty n
  unfold mkQ; rw [a, b, c]; rfl
theorem new_mkd (w : World) (n : Int) (lo hi : Nat) : MkdQ w lo hi (.slice none 0 0) (.slice none 0 0) (.slice none 0 0) (newO n) := by
  obtain ⟨a, b, c⟩ := newO_empty n
  unfold MkdQ
  rw [a, b, c]; exact AnsQ.nil _ _ _
end M
set_option maxRecDepth 20000 in
set_option maxHeartbeats 4000000 in
theorem law_newQ (n : Int) (w : World) (_hn : (Lit.int .i64 n).wf = true) :
    Calls Try.prog 3 #[.int .i64 n] w fun e w' => e = .returned (.bool true) ∧ Below w.heap.size w w' := by
  have hb0 : (inB n 1 10 != inB n 1 10) = false := by simp
  have HMK := hide (new_mk n)
  obtain ⟨Q, hQ⟩ : ∃ Q, newO n = Q := ⟨_, rfl⟩
  have HA := hide (fun (W : World) (lo hi : Nat) => (show AnsQ W lo hi (.slice none 0 0) (.slice none 0 0) (.slice none 0 0) Q.sent Q.got Q.line from by rw [← hQ]; exact new_ans W n lo hi))
  have HD := hide (fun (W : World) (lo hi : Nat) => (show MkdQ W lo hi (.slice none 0 0) (.slice none 0 0) (.slice none 0 0) Q from by rw [← hQ]; exact new_mkd W n lo hi))
  have HS := hide (show ShortQ Q from by rw [← hQ]; exact new_short n)
  have HN1 := hide (fun W => (show Calls Try.prog 11 #[.int .i64 n] W fun e w' => e = .returned (.tuple #[qv (.slice none 0 0) (.slice none 0 0) (.slice none 0 0) Q, .bool (inB n 1 10)]) ∧ Below W.heap.size W w' from by rw [← hQ]; exact spec_new n W))
  have HN2 := hide (fun W => (show Calls Try.prog 12 #[.int .i64 n] W fun e w' => e = .returned (.tuple #[qv (.slice none 0 0) (.slice none 0 0) (.slice none 0 0) Q, .bool (inB n 1 10)]) ∧ Below W.heap.size W w' from by rw [← hQ]; exact impl_new n W))
  rw [hQ] at HMK
  clear hQ
  generalize inB n 1 10 = bb at *
  have box : ∀ (W W' : World), Below (W.alloc (.cells (qarr (.slice none 0 0) (.slice none 0 0) (.slice none 0 0) Q) 25)).heap.size (W.alloc (.cells (qarr (.slice none 0 0) (.slice none 0 0) (.slice none 0 0) Q) 25)) W' → Blk W' W.heap.size 5 (qf (.slice none 0 0) (.slice none 0 0) (.slice none 0 0) Q) 25 := fun W W' h => (newW5 W _ _ _ _ _ 25).down h
  have BOX := hide box
  clear box
  go_enter Try.func3, Try.ntmps3
  go_wp2_with fail
  refine (HN1.out _).mono ?_
  rintro e w1 ⟨rfl, h1⟩
  go_wp2_with fail
  have hA1 := h1.alloc h1.size (.cells (qarr (.slice none 0 0) (.slice none 0 0) (.slice none 0 0) Q) 25)
  refine (HN2.out _).mono ?_
  rintro e w2 ⟨rfl, h2⟩
  have hB1 := hA1.trans (h2.mono hA1.size)
  have HX := hide (BOX.out w1 w2 h2)
  clear hA1 h2 h1
  have hB2 := hB1.alloc hB1.size (.cells (qarr (.slice none 0 0) (.slice none 0 0) (.slice none 0 0) Q) 25)
  have HX2 := hide (HX.out.alloc (.cells (qarr (.slice none 0 0) (.slice none 0 0) (.slice none 0 0) Q) 25))
  obtain ⟨⟨d0, d1, d2, d3, d4⟩, -⟩ := HX2.out.pen
  go_wp2_with fail
  refine (eq_queue _ _ _ _ _ _ Q _ (HA.out _ 0 0).q (HA.out _ 0 0).q HS.out).mono ?_
  rintro e w3 ⟨rfl, h3⟩
  have hB3 := hB2.trans (h3.mono hB2.size)
  have HY3 := hide (BOX.out w2 w3 h3)
  have HX3 := hide (HX2.out.down h3)
  clear d0 d1 d2 d3 d4 hB2 h3 HX2 HX hB1
  obtain ⟨⟨d0, d1, d2, d3, d4⟩, -⟩ := HY3.out.pen
  go_wp2_with fail
  refine (mark_queue 0 0 _ _ _ Q _ (HA.out _ 0 0) HS.out (Nat.zero_le _)).mono ?_
  rintro e w4 ⟨rfl, -, h4⟩
  have h4' : Below w3.heap.size w3 w4 := ⟨h4.os, h4.tape, h4.output, h4.size, fun k hk => h4.block k hk (.inr (Nat.zero_le _))⟩
  have hB4 := hB3.trans (h4'.mono hB3.size)
  have HY4 := hide (HY3.out.down h4')
  have HX4 := hide (HX3.out.down h4')
  rw [HMK.out]
  clear d0 d1 d2 d3 d4 hB3 h4 h4' HX3 HY3
  obtain ⟨⟨d0, d1, d2, d3, d4⟩, -⟩ := HY4.out.pen
  go_wp2_with fail
  refine (held_queue 0 0 _ _ _ Q _ (HD.out _ 0 0) HS.out).mono ?_
  rintro e w5 ⟨rfl, h5⟩
  have hB5 := hB4.trans (h5.mono hB4.size)
  have HY5 := hide (HY4.out.down h5)
  have HX5 := hide (HX4.out.down h5)
  rw [HMK.out]
  clear d0 d1 d2 d3 d4 hB4 h5 HX4 HY4
  go_wp2_with fail
  refine (HN2.out _).mono ?_
  rintro e w6 ⟨rfl, h6⟩
  have hB6 := hB5.trans (h6.mono hB5.size)
  have HY6 := hide ((HY5.out.down h6).alloc (.cells (qarr (.slice none 0 0) (.slice none 0 0) (.slice none 0 0) Q) 25))
  have HX6 := hide ((HX5.out.down h6).alloc (.cells (qarr (.slice none 0 0) (.slice none 0 0) (.slice none 0 0) Q) 25))
  have hB7 := hB6.alloc hB6.size (.cells (qarr (.slice none 0 0) (.slice none 0 0) (.slice none 0 0) Q) 25)
  clear h6 HX5 HY5 hB5 hB6
  obtain ⟨⟨d0, d1, d2, d3, d4⟩, -⟩ := HX6.out.pen
  go_wp2_with fail
  refine (eq_queue _ _ _ _ _ _ Q _ (HA.out _ 0 0).q (HA.out _ 0 0).q HS.out).mono ?_
  rintro e w8 ⟨rfl, h8⟩
  have hB8 := hB7.trans (h8.mono hB7.size)
  have HY8 := hide (HY6.out.down h8)
  clear d0 d1 d2 d3 d4 h8 HX6 HY6 hB7
  obtain ⟨⟨d0, d1, d2, d3, d4⟩, -⟩ := HY8.out.pen
  go_wp2_with fail
  refine (held_queue 0 0 _ _ _ Q _ (HD.out _ 0 0) HS.out).mono ?_
  rintro e w9 ⟨rfl, h9⟩
  have hB9 := hB8.trans (h9.mono hB8.size)
  rw [HMK.out]
  clear d0 d1 d2 d3 d4 h9 HY8 hB8
  go_wp2
  go_ret
  exact ⟨rfl, hB9⟩
end Go.Proofs.Ytmpdihaaekkcpaa
