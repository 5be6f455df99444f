/-
  Texts that follow one another, joined: StV1, StV2, StV3.
-/
import Derived.Test.YtfkeokglifpkoaaGreatDoorJoin16
/-
  The specification's l12Apply, at one kind.
-/
namespace Go.Proofs.YtfkeokglifpkoaaGreatDoor
open Go.RowKit M
open Clk (upd upd_same upd_other)
open Go.Sort (grow)
set_option maxRecDepth 20000 in
set_option maxHeartbeats 8000000 in
theorem l12_1 (v0 v1 : Value) (s : St) (I V : Int) (x : ByteArray) (b : Bool) (w : World) (hv : StC w v0 v1 s) (hg : GoodSt s) (hge : goodB I V 1 x = true) (hid : I = s.nx) (hst : s.st = 0) (hb : BP b (GoodSt ⟨1, s.nx + 1, s.ca, s.dn, s.sg, s.tm⟩)) :
    Calls Tryz.prog 101 #[stv v0 v1 s, ev I V 1 x] w fun e' w' => L12 w w' e' s ⟨1, s.nx + 1, s.ca, s.dn, s.sg, s.tm⟩ b ∧ Below w.heap.size w w' := by
  obtain ⟨a0, c0, rfl⟩ := hv.1.1.form
  obtain ⟨a1, c1, rfl⟩ := hv.2.1.form
  have HV := hide hv
  have HB := hide hb
  have hgn : gN x = true := (gd_parts (e := ⟨I, V, 1, x⟩) hge).2.2.2
  have HX := hide hgn
  have HE := hide (gN_max hgn)
  have hid2 : (I != s.nx) = false := by simp [hid]
  have hs0 : (s.st == 0) = true := by simp [hst]
  have hs2 : (s.st == 2) = false := by simp [hst]
  obtain ⟨⟨hn1, hn2⟩, ⟨hd1, hd2⟩, hsg, htm, -⟩ := hg
  have HSG := hide hsg
  have HTM := hide htm
  have HSH := hide (show ShortT s from ⟨by have := hsg.1; omega, by have := htm.1; omega⟩)
  have HGE := hide hge
  clear hv hid hst hb hsg htm hgn hge
  obtain ⟨W, hW⟩ : ∃ W, ((w.alloc (.cells (sarr (.slice a0 s.sg.length c0) (.slice a1 s.tm.length c1) s) 60)).alloc (.cells #[.int .i64 I, .int .i64 V, .int .i64 1, .string x] 74)).alloc (.cells zarr 60) = W := ⟨_, rfl⟩
  have HA0 := hide (show AB w W s ⟨I, V, 1, x⟩ (.slice a0 s.sg.length c0) (.slice a1 s.tm.length c1) from hW ▸ AB.new w s ⟨I, V, 1, x⟩ _ _)
  have HWW := hide hW
  clear hW
  go_enter Tryz.func101, Tryz.ntmps101
  go_wp2_with fail
  rw [HWW.out]
  clear HWW
  refine (spec_good _ _ _ _ _ HE.out).mono ?_
  rintro e' w1 ⟨rfl, hb⟩
  rw [HGE.out]
  have HA1 := hide (HA0.out.down hb)
  clear hb HA0
  obtain ⟨e0, e1, e2, e3⟩ := HA1.out.eb.ev
  simp only at e0 e1 e2 e3
  obtain ⟨⟨d0, d1, d2, d3, d4, d5⟩, -⟩ := HA1.out.sb.hex
  go_wp2_with fail
  refine (own_state _ _ s _ (HV.out.below HA1.out.low) HSH.out).mono ?_
  rintro e' w2 ⟨⟨u0, u1, rfl, hAL⟩, hb⟩
  obtain ⟨a3, c3, rfl⟩ := hAL.o0.form
  obtain ⟨a4, c4, rfl⟩ := hAL.o1.form
  have HA2 := hide (HA1.out.down hb)
  have hbig := HA1.out.big
  obtain ⟨W3, hW3⟩ : ∃ W3, (((((w2.setCell ⟨w.heap.size, 0, none⟩ (.int .i64 s.st)).setCell ⟨w.heap.size, 1, none⟩ (.int .i64 s.nx)).setCell ⟨w.heap.size, 2, none⟩ (.bool s.ca)).setCell ⟨w.heap.size, 3, none⟩ (.int .i64 s.dn)).setCell ⟨w.heap.size, 4, none⟩ (.slice a3 s.sg.length c3)).setCell ⟨w.heap.size, 5, none⟩ (.slice a4 s.tm.length c4) = W3 := ⟨_, rfl⟩
  have HVB := hide (VB.copy HA2.out hAL hbig W3 hW3)
  have HW3 := hide hW3
  clear hW3 hb hAL HA1 hbig e0 e1 e2 e3 d0 d1 d2 d3 d4 d5
  obtain ⟨e0, e1, e2, e3⟩ := HA2.out.eb.ev
  simp only at e0 e1 e2 e3
  obtain ⟨⟨d0, d1, d2, d3, d4, d5⟩, f0, f1, f2, f3, f4, f5⟩ := HA2.out.sb.hex
  have HBG := hide (show BP b (GoodSt ⟨1, s.nx + 1, s.ca, s.dn, s.sg, s.tm⟩) from HB.out)
  clear HB
  obtain ⟨W5, hW5⟩ : ∃ W5, (W3.setCell ⟨w.heap.size, 0, none⟩ (.int .i64 1)).setCell ⟨w.heap.size, 1, none⟩ (.int .i64 (s.nx + 1)) = W5 := ⟨_, rfl⟩
  have HV5 := hide (show VB w W5 ⟨1, s.nx + 1, s.ca, s.dn, s.sg, s.tm⟩ ⟨I, V, 1, x⟩ (.slice a3 s.sg.length c3) (.slice a4 s.tm.length c4) from by rw [← hW5]; exact (HVB.out.set0 1).set1 (s.nx + 1))
  have HW5 := hide hW5
  clear hW5
  go_upto_region 22 with fail
  rw [HW3.out, HW5.out]
  clear HW3 HW5 HVB HA2 d0 d1 d2 d3 d4 d5 f0 f1 f2 f3 f4 f5 e0 e1 e2 e3
  have HVD := hide (HV5.out.down (Below.refl W5.heap.size W5).drew)
  have HCC := hide (show ∀ wy, Below W5.drew.heap.size W5.drew wy → (wy.cell? ⟨w.heap.size, 0, none⟩ = some (.int .i64 (⟨1, s.nx + 1, s.ca, s.dn, s.sg, s.tm⟩ : St).st) ∧ wy.cell? ⟨w.heap.size, 1, none⟩ = some (.int .i64 (⟨1, s.nx + 1, s.ca, s.dn, s.sg, s.tm⟩ : St).nx) ∧ wy.cell? ⟨w.heap.size, 2, none⟩ = some (.bool (⟨1, s.nx + 1, s.ca, s.dn, s.sg, s.tm⟩ : St).ca) ∧ wy.cell? ⟨w.heap.size, 3, none⟩ = some (.int .i64 (⟨1, s.nx + 1, s.ca, s.dn, s.sg, s.tm⟩ : St).dn) ∧ wy.cell? ⟨w.heap.size, 4, none⟩ = some (.slice a3 s.sg.length c3) ∧ wy.cell? ⟨w.heap.size, 5, none⟩ = some (.slice a4 s.tm.length c4)) ∧ (wy.cell? ⟨w.heap.size + 1 + 1, 0, none⟩ = some (.int .i64 0) ∧ wy.cell? ⟨w.heap.size + 1 + 1, 1, none⟩ = some (.int .i64 0) ∧ wy.cell? ⟨w.heap.size + 1 + 1, 2, none⟩ = some (.bool false) ∧ wy.cell? ⟨w.heap.size + 1 + 1, 3, none⟩ = some (.int .i64 0) ∧ wy.cell? ⟨w.heap.size + 1 + 1, 4, none⟩ = some (.slice none 0 0) ∧ wy.cell? ⟨w.heap.size + 1 + 1, 5, none⟩ = some (.slice none 0 0)) ∧ wy.frozen? ⟨w.heap.size + 1 + 1, 0, none⟩ = false ∧ wy.frozen? ⟨w.heap.size + 1 + 1, 1, none⟩ = false ∧ wy.frozen? ⟨w.heap.size + 1 + 1, 2, none⟩ = false ∧ wy.frozen? ⟨w.heap.size + 1 + 1, 3, none⟩ = false ∧ wy.frozen? ⟨w.heap.size + 1 + 1, 4, none⟩ = false ∧ wy.frozen? ⟨w.heap.size + 1 + 1, 5, none⟩ = false from fun wy hb => by
    have h := HVD.out.down hb
    exact ⟨h.m.box.hex.1, h.rb.hex.1, h.rb.hex.2⟩)
  have HFin := hide (show ∀ wy, Below W5.drew.heap.size W5.drew wy → ∀ WZ, (((((wy.setCell ⟨w.heap.size + 1 + 1, 0, none⟩ (.int .i64 (⟨1, s.nx + 1, s.ca, s.dn, s.sg, s.tm⟩ : St).st)).setCell ⟨w.heap.size + 1 + 1, 1, none⟩ (.int .i64 (⟨1, s.nx + 1, s.ca, s.dn, s.sg, s.tm⟩ : St).nx)).setCell ⟨w.heap.size + 1 + 1, 2, none⟩ (.bool (⟨1, s.nx + 1, s.ca, s.dn, s.sg, s.tm⟩ : St).ca)).setCell ⟨w.heap.size + 1 + 1, 3, none⟩ (.int .i64 (⟨1, s.nx + 1, s.ca, s.dn, s.sg, s.tm⟩ : St).dn)).setCell ⟨w.heap.size + 1 + 1, 4, none⟩ (.slice a3 s.sg.length c3)).setCell ⟨w.heap.size + 1 + 1, 5, none⟩ (.slice a4 s.tm.length c4) = WZ → Blk WZ (w.heap.size + 1 + 1) 6 (sq (.slice a3 s.sg.length c3) (.slice a4 s.tm.length c4) ⟨1, s.nx + 1, s.ca, s.dn, s.sg, s.tm⟩) 60 ∧ L12 w WZ (.returned (.tuple #[stv (.slice a3 s.sg.length c3) (.slice a4 s.tm.length c4) ⟨1, s.nx + 1, s.ca, s.dn, s.sg, s.tm⟩, .bool b])) s ⟨1, s.nx + 1, s.ca, s.dn, s.sg, s.tm⟩ b ∧ Below w.heap.size w WZ from fun wy hb =>
    (HVD.out.down hb).fin ⟨fun _ => rfl, fun hf => .inr ⟨rfl, fun hh => (by have := HBG.out.2 hh; rw [hf] at this; cases this)⟩⟩)
  obtain ⟨⟨d0, d1, d2, d3, d4, d5⟩, -⟩ := HV5.out.m.box.hex
  obtain ⟨⟨r0, r1, r2, r3, r4, r5⟩, t0, t1, t2, t3, t4, t5⟩ := HV5.out.rb.hex
  simp only at d0 d1 d2 d3
  clear HV5
  go_region_with (go_at_call 149; refine (spec_goodSt _ _ (⟨1, s.nx + 1, s.ca, s.dn, s.sg, s.tm⟩ : St) b _ HVD.out.m.c (show ShortT _ from HSH.out) (show NmT _ from ⟨nm12 HSG.out, nm12 HTM.out⟩) HBG.out).mono ?_; rintro e9 w9 ⟨rfl, hb9⟩; obtain ⟨⟨m0, m1, m2, m3, m4, m5⟩, ⟨q0, q1, q2, q3, q4, q5⟩, y0, y1, y2, y3, y4, y5⟩ := HCC.out w9 hb9; simp only at m0 m1 m2 m3)
  all_goals
    obtain ⟨WZ, hWZ⟩ : ∃ WZ, (((((w9.setCell ⟨w.heap.size + 1 + 1, 0, none⟩ (.int .i64 (⟨1, s.nx + 1, s.ca, s.dn, s.sg, s.tm⟩ : St).st)).setCell ⟨w.heap.size + 1 + 1, 1, none⟩ (.int .i64 (⟨1, s.nx + 1, s.ca, s.dn, s.sg, s.tm⟩ : St).nx)).setCell ⟨w.heap.size + 1 + 1, 2, none⟩ (.bool (⟨1, s.nx + 1, s.ca, s.dn, s.sg, s.tm⟩ : St).ca)).setCell ⟨w.heap.size + 1 + 1, 3, none⟩ (.int .i64 (⟨1, s.nx + 1, s.ca, s.dn, s.sg, s.tm⟩ : St).dn)).setCell ⟨w.heap.size + 1 + 1, 4, none⟩ (.slice a3 s.sg.length c3)).setCell ⟨w.heap.size + 1 + 1, 5, none⟩ (.slice a4 s.tm.length c4) = WZ := ⟨_, rfl⟩
    have HZZ := hide (HFin.out w9 hb9 WZ hWZ)
    simp only at hWZ
    have HWZ := hide hWZ
    clear hWZ HFin HCC hb9 HVD d0 d1 d2 d3 d4 d5 r0 r1 r2 r3 r4 r5 t0 t1 t2 t3 t4 t5
    go_wp2
    rw [HWZ.out]
    clear m0 m1 m2 m3 m4 m5 q0 q1 q2 q3 q4 q5 y0 y1 y2 y3 y4 y5
    obtain ⟨⟨r0, r1, r2, r3, r4, r5⟩, -⟩ := HZZ.out.1.hex
    simp only at r0 r1 r2 r3
    exact bodyPost_ret (v := .tuple #[stv (.slice a3 s.sg.length c3) (.slice a4 s.tm.length c4) ⟨1, s.nx + 1, s.ca, s.dn, s.sg, s.tm⟩, .bool b]) (by simp [results, Tryz.results101, go_sem, r0, r1, r2, r3, r4, r5]) rfl HZZ.out.2
end Go.Proofs.YtfkeokglifpkoaaGreatDoor

/-
  The specification's l12Apply, at one kind.
-/
namespace Go.Proofs.YtfkeokglifpkoaaGreatDoor
open Go.RowKit M
open Clk (upd upd_same upd_other)
open Go.Sort (grow)
set_option maxRecDepth 20000 in
set_option maxHeartbeats 8000000 in
theorem l12_2 (v0 v1 : Value) (s : St) (I V : Int) (x : ByteArray) (b : Bool) (w : World) (hv : StC w v0 v1 s) (hg : GoodSt s) (hge : goodB I V 2 x = true) (hid : I = s.nx) (hst : s.st = 1) (hb : BP b (GoodSt ⟨s.st, s.nx + 1, s.ca, s.dn, s.sg ++ [x], s.tm⟩)) :
    Calls Tryz.prog 101 #[stv v0 v1 s, ev I V 2 x] w fun e' w' => L12 w w' e' s ⟨s.st, s.nx + 1, s.ca, s.dn, s.sg ++ [x], s.tm⟩ b ∧ Below w.heap.size w w' := by
  obtain ⟨a0, c0, rfl⟩ := hv.1.1.form
  obtain ⟨a1, c1, rfl⟩ := hv.2.1.form
  have HV := hide hv
  have HB := hide hb
  have hgn : gN x = true := (gd_parts (e := ⟨I, V, 2, x⟩) hge).2.2.2
  have HX := hide hgn
  have HE := hide (gN_max hgn)
  have hid2 : (I != s.nx) = false := by simp [hid]
  have hs0 : (s.st == 0) = false := by simp [hst]
  have hs2 : (s.st == 2) = false := by simp [hst]
  obtain ⟨⟨hn1, hn2⟩, ⟨hd1, hd2⟩, hsg, htm, -⟩ := hg
  have HSG := hide hsg
  have HTM := hide htm
  have HSH := hide (show ShortT s from ⟨by have := hsg.1; omega, by have := htm.1; omega⟩)
  have HGE := hide hge
  clear hv hid hst hb hsg htm hgn hge
  obtain ⟨W, hW⟩ : ∃ W, ((w.alloc (.cells (sarr (.slice a0 s.sg.length c0) (.slice a1 s.tm.length c1) s) 60)).alloc (.cells #[.int .i64 I, .int .i64 V, .int .i64 2, .string x] 74)).alloc (.cells zarr 60) = W := ⟨_, rfl⟩
  have HA0 := hide (show AB w W s ⟨I, V, 2, x⟩ (.slice a0 s.sg.length c0) (.slice a1 s.tm.length c1) from hW ▸ AB.new w s ⟨I, V, 2, x⟩ _ _)
  have HWW := hide hW
  clear hW
  go_enter Tryz.func101, Tryz.ntmps101
  go_wp2_with fail
  rw [HWW.out]
  clear HWW
  refine (spec_good _ _ _ _ _ HE.out).mono ?_
  rintro e' w1 ⟨rfl, hb⟩
  rw [HGE.out]
  have HA1 := hide (HA0.out.down hb)
  clear hb HA0
  obtain ⟨e0, e1, e2, e3⟩ := HA1.out.eb.ev
  simp only at e0 e1 e2 e3
  obtain ⟨⟨d0, d1, d2, d3, d4, d5⟩, -⟩ := HA1.out.sb.hex
  go_wp2_with fail
  refine (own_state _ _ s _ (HV.out.below HA1.out.low) HSH.out).mono ?_
  rintro e' w2 ⟨⟨u0, u1, rfl, hAL⟩, hb⟩
  obtain ⟨a3, c3, rfl⟩ := hAL.o0.form
  obtain ⟨a4, c4, rfl⟩ := hAL.o1.form
  have HA2 := hide (HA1.out.down hb)
  have hbig := HA1.out.big
  obtain ⟨W3, hW3⟩ : ∃ W3, (((((w2.setCell ⟨w.heap.size, 0, none⟩ (.int .i64 s.st)).setCell ⟨w.heap.size, 1, none⟩ (.int .i64 s.nx)).setCell ⟨w.heap.size, 2, none⟩ (.bool s.ca)).setCell ⟨w.heap.size, 3, none⟩ (.int .i64 s.dn)).setCell ⟨w.heap.size, 4, none⟩ (.slice a3 s.sg.length c3)).setCell ⟨w.heap.size, 5, none⟩ (.slice a4 s.tm.length c4) = W3 := ⟨_, rfl⟩
  have HVB := hide (VB.copy HA2.out hAL hbig W3 hW3)
  have HW3 := hide hW3
  clear hW3 hb hAL HA1 hbig e0 e1 e2 e3 d0 d1 d2 d3 d4 d5
  obtain ⟨e0, e1, e2, e3⟩ := HA2.out.eb.ev
  simp only at e0 e1 e2 e3
  obtain ⟨⟨d0, d1, d2, d3, d4, d5⟩, f0, f1, f2, f3, f4, f5⟩ := HA2.out.sb.hex
  have HBG := hide (show BP b (GoodSt ⟨s.st, s.nx + 1, s.ca, s.dn, s.sg ++ [x], s.tm⟩) from HB.out)
  have hl30 : s.sg.length ≤ 30 := HSG.out.1
  clear HB
  go_wp2_with fail
  rw [HW3.out]
  clear HW3 HA2 d0 d1 d2 d3 d4 d5 f0 f1 f2 f3 f4 f5 e0 e1 e2 e3
  obtain ⟨⟨d0, d1, d2, d3, d4, d5⟩, f0, f1, f2, f3, f4, f5⟩ := HVB.out.m.box.hex
  obtain ⟨e0, e1, e2, e3⟩ := HVB.out.eb.ev
  simp only at e0 e1 e2 e3
  obtain ⟨⟨r0, r1, r2, r3, r4, r5⟩, t0, t1, t2, t3, t4, t5⟩ := HVB.out.rb.hex
  refine (at_txs _ s.sg x _ HVB.out.m.o0.txs HSH.out.1).mono ?_
  rintro e' w5 ⟨⟨rr, rfl, hrr⟩, hw5⟩
  subst w5
  have HRR := hide hrr
  clear hrr
  by_cases hneg : 0 ≤ rr
  · have HF := hide (BP.no HBG.out (fun h => (nms_snoc h.2.2.1).1 (HRR.out.1 hneg)))
    obtain ⟨WZ, hWZ⟩ : ∃ WZ, (((((W3.setCell ⟨w.heap.size + 1 + 1, 0, none⟩ (.int .i64 s.st)).setCell ⟨w.heap.size + 1 + 1, 1, none⟩ (.int .i64 s.nx)).setCell ⟨w.heap.size + 1 + 1, 2, none⟩ (.bool s.ca)).setCell ⟨w.heap.size + 1 + 1, 3, none⟩ (.int .i64 s.dn)).setCell ⟨w.heap.size + 1 + 1, 4, none⟩ (.slice a3 s.sg.length c3)).setCell ⟨w.heap.size + 1 + 1, 5, none⟩ (.slice a4 s.tm.length c4) = WZ := ⟨_, rfl⟩
    have HZZ := hide (HVB.out.fin (b := false) (s0 := s) (r := ⟨s.st, s.nx + 1, s.ca, s.dn, s.sg ++ [x], s.tm⟩) ⟨fun h => (by cases h), fun _ => .inl rfl⟩ WZ hWZ)
    have HWZ := hide hWZ
    clear hWZ
    clear HBG HV HVB HSG HTM HSH hn1 hn2 hd1 hd2 HRR
    go_wp2
    rw [HWZ.out]
    clear r0 r1 r2 r3 r4 r5 t0 t1 t2 t3 t4 t5
    obtain ⟨⟨r0, r1, r2, r3, r4, r5⟩, -⟩ := HZZ.out.1.hex
    exact bodyPost_ret (v := .tuple #[stv (.slice a3 s.sg.length c3) (.slice a4 s.tm.length c4) s, .bool false]) (by simp [results, Tryz.results101, go_sem, r0, r1, r2, r3, r4, r5]) rfl (by rw [HF.out]; exact HZZ.out.2)
  have hneg2 : decide (0 ≤ rr) = false := decide_eq_false hneg
  have HNM := hide (show x ∉ s.sg from fun h => hneg (HRR.out.2 h))
  clear hneg HRR
  by_cases h30 : s.sg.length = 30
  · have h30i : (s.sg.length : Int) = 30 := by omega
    have HF := hide (BP.no HBG.out (fun h => by have := (nms_snoc h.2.2.1).2; omega))
    have h30b : ((s.sg.length : Int) == 30) = true := by simp [h30i]
    have h30c : (s.sg.length == 30) = true := by simp [h30]
    obtain ⟨WZ, hWZ⟩ : ∃ WZ, (((((W3.setCell ⟨w.heap.size + 1 + 1, 0, none⟩ (.int .i64 s.st)).setCell ⟨w.heap.size + 1 + 1, 1, none⟩ (.int .i64 s.nx)).setCell ⟨w.heap.size + 1 + 1, 2, none⟩ (.bool s.ca)).setCell ⟨w.heap.size + 1 + 1, 3, none⟩ (.int .i64 s.dn)).setCell ⟨w.heap.size + 1 + 1, 4, none⟩ (.slice a3 s.sg.length c3)).setCell ⟨w.heap.size + 1 + 1, 5, none⟩ (.slice a4 s.tm.length c4) = WZ := ⟨_, rfl⟩
    have HZZ := hide (HVB.out.fin (b := false) (s0 := s) (r := ⟨s.st, s.nx + 1, s.ca, s.dn, s.sg ++ [x], s.tm⟩) ⟨fun h => (by cases h), fun _ => .inl rfl⟩ WZ hWZ)
    have HWZ := hide hWZ
    clear hWZ
    clear HBG HV HVB HSG HTM HSH hn1 hn2 hd1 hd2 h30 h30i hl30
    go_wp2
    rw [HWZ.out]
    clear r0 r1 r2 r3 r4 r5 t0 t1 t2 t3 t4 t5
    obtain ⟨⟨r0, r1, r2, r3, r4, r5⟩, -⟩ := HZZ.out.1.hex
    exact bodyPost_ret (v := .tuple #[stv (.slice a3 s.sg.length c3) (.slice a4 s.tm.length c4) s, .bool false]) (by simp [results, Tryz.results101, go_sem, r0, r1, r2, r3, r4, r5]) rfl (by rw [HF.out]; exact HZZ.out.2)
  have h30b : ((s.sg.length : Int) == 30) = false := by simp; omega
  have h30c : (s.sg.length == 30) = false := by simp; omega
  clear h30
  have hdn := (Below.refl W3.heap.size W3).alloc (Nat.le_refl _) (.cells #[.string x] 9)
  have HVL := hide (HVB.out.down hdn)
  have hown := HVL.out.m.o0
  have hlit := lit_txc (w := W3.alloc (.cells #[.string x] 9)) (heap_alloc_new W3 (.cells #[.string x] 9))
  have hws : w.heap.size < W3.heap.size := HVB.out.m.box.lt
  have hws1 : w.heap.size + 1 < W3.heap.size := HVB.out.eb.lt
  clear hdn
  go_wp2_with (at_builtin; refine wpList_app _ rfl _ _ rfl w.heap.size s.sg [x] _ _ rfl hown rfl hlit (by simp; omega) (by simp; omega) ?_)
  intro a5 n5 c5 w6 hO6 hgr hbk
  have HV6 := hide (HVL.out.put4 hgr hO6 (by rw [World.size_alloc]; exact hbk))
  have hbx := HVL.out.boxes hgr
  clear d0 d1 d2 d3 d4 d5 f0 f1 f2 f3 f4 f5 e0 e1 e2 e3 r0 r1 r2 r3 r4 r5 t0 t1 t2 t3 t4 t5
  obtain ⟨⟨d0, d1, d2, d3, d4, d5⟩, f0, f1, f2, f3, f4, f5⟩ := hbx.hex
  obtain ⟨W5, hW5⟩ : ∃ W5, (w6.setCell ⟨w.heap.size, 4, none⟩ (.slice a5 n5 c5)).setCell ⟨w.heap.size, 1, none⟩ (.int .i64 (s.nx + 1)) = W5 := ⟨_, rfl⟩
  have HV5 := hide (show VB w W5 ⟨s.st, s.nx + 1, s.ca, s.dn, s.sg ++ [x], s.tm⟩ ⟨I, V, 2, x⟩ (.slice a5 n5 c5) (.slice a4 s.tm.length c4) from by rw [← hW5]; exact HV6.out.set1 (s.nx + 1))
  have HW5 := hide hW5
  clear hW5 hO6 hgr hbk HVL HVB HV6 hbx hown hlit hws hws1
  go_upto_region 22 with fail
  rw [HW5.out]
  clear HW5 d0 d1 d2 d3 d4 d5 f0 f1 f2 f3 f4 f5
  have HVD := hide (HV5.out.down (Below.refl W5.heap.size W5).drew)
  have HCC := hide (show ∀ wy, Below W5.drew.heap.size W5.drew wy → (wy.cell? ⟨w.heap.size, 0, none⟩ = some (.int .i64 (⟨s.st, s.nx + 1, s.ca, s.dn, s.sg ++ [x], s.tm⟩ : St).st) ∧ wy.cell? ⟨w.heap.size, 1, none⟩ = some (.int .i64 (⟨s.st, s.nx + 1, s.ca, s.dn, s.sg ++ [x], s.tm⟩ : St).nx) ∧ wy.cell? ⟨w.heap.size, 2, none⟩ = some (.bool (⟨s.st, s.nx + 1, s.ca, s.dn, s.sg ++ [x], s.tm⟩ : St).ca) ∧ wy.cell? ⟨w.heap.size, 3, none⟩ = some (.int .i64 (⟨s.st, s.nx + 1, s.ca, s.dn, s.sg ++ [x], s.tm⟩ : St).dn) ∧ wy.cell? ⟨w.heap.size, 4, none⟩ = some (.slice a5 n5 c5) ∧ wy.cell? ⟨w.heap.size, 5, none⟩ = some (.slice a4 s.tm.length c4)) ∧ (wy.cell? ⟨w.heap.size + 1 + 1, 0, none⟩ = some (.int .i64 0) ∧ wy.cell? ⟨w.heap.size + 1 + 1, 1, none⟩ = some (.int .i64 0) ∧ wy.cell? ⟨w.heap.size + 1 + 1, 2, none⟩ = some (.bool false) ∧ wy.cell? ⟨w.heap.size + 1 + 1, 3, none⟩ = some (.int .i64 0) ∧ wy.cell? ⟨w.heap.size + 1 + 1, 4, none⟩ = some (.slice none 0 0) ∧ wy.cell? ⟨w.heap.size + 1 + 1, 5, none⟩ = some (.slice none 0 0)) ∧ wy.frozen? ⟨w.heap.size + 1 + 1, 0, none⟩ = false ∧ wy.frozen? ⟨w.heap.size + 1 + 1, 1, none⟩ = false ∧ wy.frozen? ⟨w.heap.size + 1 + 1, 2, none⟩ = false ∧ wy.frozen? ⟨w.heap.size + 1 + 1, 3, none⟩ = false ∧ wy.frozen? ⟨w.heap.size + 1 + 1, 4, none⟩ = false ∧ wy.frozen? ⟨w.heap.size + 1 + 1, 5, none⟩ = false from fun wy hb => by
    have h := HVD.out.down hb
    exact ⟨h.m.box.hex.1, h.rb.hex.1, h.rb.hex.2⟩)
  have HFin := hide (show ∀ wy, Below W5.drew.heap.size W5.drew wy → ∀ WZ, (((((wy.setCell ⟨w.heap.size + 1 + 1, 0, none⟩ (.int .i64 (⟨s.st, s.nx + 1, s.ca, s.dn, s.sg ++ [x], s.tm⟩ : St).st)).setCell ⟨w.heap.size + 1 + 1, 1, none⟩ (.int .i64 (⟨s.st, s.nx + 1, s.ca, s.dn, s.sg ++ [x], s.tm⟩ : St).nx)).setCell ⟨w.heap.size + 1 + 1, 2, none⟩ (.bool (⟨s.st, s.nx + 1, s.ca, s.dn, s.sg ++ [x], s.tm⟩ : St).ca)).setCell ⟨w.heap.size + 1 + 1, 3, none⟩ (.int .i64 (⟨s.st, s.nx + 1, s.ca, s.dn, s.sg ++ [x], s.tm⟩ : St).dn)).setCell ⟨w.heap.size + 1 + 1, 4, none⟩ (.slice a5 n5 c5)).setCell ⟨w.heap.size + 1 + 1, 5, none⟩ (.slice a4 s.tm.length c4) = WZ → Blk WZ (w.heap.size + 1 + 1) 6 (sq (.slice a5 n5 c5) (.slice a4 s.tm.length c4) ⟨s.st, s.nx + 1, s.ca, s.dn, s.sg ++ [x], s.tm⟩) 60 ∧ L12 w WZ (.returned (.tuple #[stv (.slice a5 n5 c5) (.slice a4 s.tm.length c4) ⟨s.st, s.nx + 1, s.ca, s.dn, s.sg ++ [x], s.tm⟩, .bool b])) s ⟨s.st, s.nx + 1, s.ca, s.dn, s.sg ++ [x], s.tm⟩ b ∧ Below w.heap.size w WZ from fun wy hb =>
    (HVD.out.down hb).fin ⟨fun _ => rfl, fun hf => .inr ⟨rfl, fun hh => (by have := HBG.out.2 hh; rw [hf] at this; cases this)⟩⟩)
  obtain ⟨⟨d0, d1, d2, d3, d4, d5⟩, -⟩ := HV5.out.m.box.hex
  obtain ⟨⟨r0, r1, r2, r3, r4, r5⟩, t0, t1, t2, t3, t4, t5⟩ := HV5.out.rb.hex
  simp only at d0 d1 d2 d3
  clear HV5
  go_region_with (go_at_call 149; refine (spec_goodSt _ _ (⟨s.st, s.nx + 1, s.ca, s.dn, s.sg ++ [x], s.tm⟩ : St) b _ HVD.out.m.c (show ShortT _ from ⟨by simp; omega, HSH.out.2⟩) (show NmT _ from ⟨snoc_nm HSG.out HX.out, nm12 HTM.out⟩) HBG.out).mono ?_; rintro e9 w9 ⟨rfl, hb9⟩; obtain ⟨⟨m0, m1, m2, m3, m4, m5⟩, ⟨q0, q1, q2, q3, q4, q5⟩, y0, y1, y2, y3, y4, y5⟩ := HCC.out w9 hb9; simp only at m0 m1 m2 m3)
  all_goals
    obtain ⟨WZ, hWZ⟩ : ∃ WZ, (((((w9.setCell ⟨w.heap.size + 1 + 1, 0, none⟩ (.int .i64 (⟨s.st, s.nx + 1, s.ca, s.dn, s.sg ++ [x], s.tm⟩ : St).st)).setCell ⟨w.heap.size + 1 + 1, 1, none⟩ (.int .i64 (⟨s.st, s.nx + 1, s.ca, s.dn, s.sg ++ [x], s.tm⟩ : St).nx)).setCell ⟨w.heap.size + 1 + 1, 2, none⟩ (.bool (⟨s.st, s.nx + 1, s.ca, s.dn, s.sg ++ [x], s.tm⟩ : St).ca)).setCell ⟨w.heap.size + 1 + 1, 3, none⟩ (.int .i64 (⟨s.st, s.nx + 1, s.ca, s.dn, s.sg ++ [x], s.tm⟩ : St).dn)).setCell ⟨w.heap.size + 1 + 1, 4, none⟩ (.slice a5 n5 c5)).setCell ⟨w.heap.size + 1 + 1, 5, none⟩ (.slice a4 s.tm.length c4) = WZ := ⟨_, rfl⟩
    have HZZ := hide (HFin.out w9 hb9 WZ hWZ)
    simp only at hWZ
    have HWZ := hide hWZ
    clear hWZ HFin HCC hb9 HVD d0 d1 d2 d3 d4 d5 r0 r1 r2 r3 r4 r5 t0 t1 t2 t3 t4 t5
    go_wp2
    rw [HWZ.out]
    clear m0 m1 m2 m3 m4 m5 q0 q1 q2 q3 q4 q5 y0 y1 y2 y3 y4 y5
    obtain ⟨⟨r0, r1, r2, r3, r4, r5⟩, -⟩ := HZZ.out.1.hex
    simp only at r0 r1 r2 r3
    exact bodyPost_ret (v := .tuple #[stv (.slice a5 n5 c5) (.slice a4 s.tm.length c4) ⟨s.st, s.nx + 1, s.ca, s.dn, s.sg ++ [x], s.tm⟩, .bool b]) (by simp [results, Tryz.results101, go_sem, r0, r1, r2, r3, r4, r5]) rfl HZZ.out.2
end Go.Proofs.YtfkeokglifpkoaaGreatDoor

/-
  The specification's l12Apply, at one kind.
-/
namespace Go.Proofs.YtfkeokglifpkoaaGreatDoor
open Go.RowKit M
open Clk (upd upd_same upd_other)
open Go.Sort (grow)
set_option maxRecDepth 20000 in
set_option maxHeartbeats 8000000 in
theorem l12_3 (v0 v1 : Value) (s : St) (I V : Int) (x : ByteArray) (b : Bool) (w : World) (hv : StC w v0 v1 s) (hg : GoodSt s) (hge : goodB I V 3 x = true) (hid : I = s.nx) (hst : s.st = 1) (hb : BP b (GoodSt ⟨s.st, s.nx + 1, s.ca, s.dn + 1, s.sg, s.tm⟩)) :
    Calls Tryz.prog 101 #[stv v0 v1 s, ev I V 3 x] w fun e' w' => L12 w w' e' s ⟨s.st, s.nx + 1, s.ca, s.dn + 1, s.sg, s.tm⟩ b ∧ Below w.heap.size w w' := by
  obtain ⟨a0, c0, rfl⟩ := hv.1.1.form
  obtain ⟨a1, c1, rfl⟩ := hv.2.1.form
  have HV := hide hv
  have HB := hide hb
  have hgn : gN x = true := (gd_parts (e := ⟨I, V, 3, x⟩) hge).2.2.2
  have HX := hide hgn
  have HE := hide (gN_max hgn)
  have hid2 : (I != s.nx) = false := by simp [hid]
  have hs0 : (s.st == 0) = false := by simp [hst]
  have hs2 : (s.st == 2) = false := by simp [hst]
  obtain ⟨⟨hn1, hn2⟩, ⟨hd1, hd2⟩, hsg, htm, -⟩ := hg
  have HSG := hide hsg
  have HTM := hide htm
  have HSH := hide (show ShortT s from ⟨by have := hsg.1; omega, by have := htm.1; omega⟩)
  have HGE := hide hge
  clear hv hid hst hb hsg htm hgn hge
  obtain ⟨W, hW⟩ : ∃ W, ((w.alloc (.cells (sarr (.slice a0 s.sg.length c0) (.slice a1 s.tm.length c1) s) 60)).alloc (.cells #[.int .i64 I, .int .i64 V, .int .i64 3, .string x] 74)).alloc (.cells zarr 60) = W := ⟨_, rfl⟩
  have HA0 := hide (show AB w W s ⟨I, V, 3, x⟩ (.slice a0 s.sg.length c0) (.slice a1 s.tm.length c1) from hW ▸ AB.new w s ⟨I, V, 3, x⟩ _ _)
  have HWW := hide hW
  clear hW
  go_enter Tryz.func101, Tryz.ntmps101
  go_wp2_with fail
  rw [HWW.out]
  clear HWW
  refine (spec_good _ _ _ _ _ HE.out).mono ?_
  rintro e' w1 ⟨rfl, hb⟩
  rw [HGE.out]
  have HA1 := hide (HA0.out.down hb)
  clear hb HA0
  obtain ⟨e0, e1, e2, e3⟩ := HA1.out.eb.ev
  simp only at e0 e1 e2 e3
  obtain ⟨⟨d0, d1, d2, d3, d4, d5⟩, -⟩ := HA1.out.sb.hex
  go_wp2_with fail
  refine (own_state _ _ s _ (HV.out.below HA1.out.low) HSH.out).mono ?_
  rintro e' w2 ⟨⟨u0, u1, rfl, hAL⟩, hb⟩
  obtain ⟨a3, c3, rfl⟩ := hAL.o0.form
  obtain ⟨a4, c4, rfl⟩ := hAL.o1.form
  have HA2 := hide (HA1.out.down hb)
  have hbig := HA1.out.big
  obtain ⟨W3, hW3⟩ : ∃ W3, (((((w2.setCell ⟨w.heap.size, 0, none⟩ (.int .i64 s.st)).setCell ⟨w.heap.size, 1, none⟩ (.int .i64 s.nx)).setCell ⟨w.heap.size, 2, none⟩ (.bool s.ca)).setCell ⟨w.heap.size, 3, none⟩ (.int .i64 s.dn)).setCell ⟨w.heap.size, 4, none⟩ (.slice a3 s.sg.length c3)).setCell ⟨w.heap.size, 5, none⟩ (.slice a4 s.tm.length c4) = W3 := ⟨_, rfl⟩
  have HVB := hide (VB.copy HA2.out hAL hbig W3 hW3)
  have HW3 := hide hW3
  clear hW3 hb hAL HA1 hbig e0 e1 e2 e3 d0 d1 d2 d3 d4 d5
  obtain ⟨e0, e1, e2, e3⟩ := HA2.out.eb.ev
  simp only at e0 e1 e2 e3
  obtain ⟨⟨d0, d1, d2, d3, d4, d5⟩, f0, f1, f2, f3, f4, f5⟩ := HA2.out.sb.hex
  have HBG := hide (show BP b (GoodSt ⟨s.st, s.nx + 1, s.ca, s.dn + 1, s.sg, s.tm⟩) from HB.out)
  clear HB
  obtain ⟨W5, hW5⟩ : ∃ W5, (W3.setCell ⟨w.heap.size, 3, none⟩ (.int .i64 (s.dn + 1))).setCell ⟨w.heap.size, 1, none⟩ (.int .i64 (s.nx + 1)) = W5 := ⟨_, rfl⟩
  have HV5 := hide (show VB w W5 ⟨s.st, s.nx + 1, s.ca, s.dn + 1, s.sg, s.tm⟩ ⟨I, V, 3, x⟩ (.slice a3 s.sg.length c3) (.slice a4 s.tm.length c4) from by rw [← hW5]; exact (HVB.out.set3 (s.dn + 1)).set1 (s.nx + 1))
  have HW5 := hide hW5
  clear hW5
  go_upto_region 22 with fail
  rw [HW3.out, HW5.out]
  clear HW3 HW5 HVB HA2 d0 d1 d2 d3 d4 d5 f0 f1 f2 f3 f4 f5 e0 e1 e2 e3
  have HVD := hide (HV5.out.down (Below.refl W5.heap.size W5).drew)
  have HCC := hide (show ∀ wy, Below W5.drew.heap.size W5.drew wy → (wy.cell? ⟨w.heap.size, 0, none⟩ = some (.int .i64 (⟨s.st, s.nx + 1, s.ca, s.dn + 1, s.sg, s.tm⟩ : St).st) ∧ wy.cell? ⟨w.heap.size, 1, none⟩ = some (.int .i64 (⟨s.st, s.nx + 1, s.ca, s.dn + 1, s.sg, s.tm⟩ : St).nx) ∧ wy.cell? ⟨w.heap.size, 2, none⟩ = some (.bool (⟨s.st, s.nx + 1, s.ca, s.dn + 1, s.sg, s.tm⟩ : St).ca) ∧ wy.cell? ⟨w.heap.size, 3, none⟩ = some (.int .i64 (⟨s.st, s.nx + 1, s.ca, s.dn + 1, s.sg, s.tm⟩ : St).dn) ∧ wy.cell? ⟨w.heap.size, 4, none⟩ = some (.slice a3 s.sg.length c3) ∧ wy.cell? ⟨w.heap.size, 5, none⟩ = some (.slice a4 s.tm.length c4)) ∧ (wy.cell? ⟨w.heap.size + 1 + 1, 0, none⟩ = some (.int .i64 0) ∧ wy.cell? ⟨w.heap.size + 1 + 1, 1, none⟩ = some (.int .i64 0) ∧ wy.cell? ⟨w.heap.size + 1 + 1, 2, none⟩ = some (.bool false) ∧ wy.cell? ⟨w.heap.size + 1 + 1, 3, none⟩ = some (.int .i64 0) ∧ wy.cell? ⟨w.heap.size + 1 + 1, 4, none⟩ = some (.slice none 0 0) ∧ wy.cell? ⟨w.heap.size + 1 + 1, 5, none⟩ = some (.slice none 0 0)) ∧ wy.frozen? ⟨w.heap.size + 1 + 1, 0, none⟩ = false ∧ wy.frozen? ⟨w.heap.size + 1 + 1, 1, none⟩ = false ∧ wy.frozen? ⟨w.heap.size + 1 + 1, 2, none⟩ = false ∧ wy.frozen? ⟨w.heap.size + 1 + 1, 3, none⟩ = false ∧ wy.frozen? ⟨w.heap.size + 1 + 1, 4, none⟩ = false ∧ wy.frozen? ⟨w.heap.size + 1 + 1, 5, none⟩ = false from fun wy hb => by
    have h := HVD.out.down hb
    exact ⟨h.m.box.hex.1, h.rb.hex.1, h.rb.hex.2⟩)
  have HFin := hide (show ∀ wy, Below W5.drew.heap.size W5.drew wy → ∀ WZ, (((((wy.setCell ⟨w.heap.size + 1 + 1, 0, none⟩ (.int .i64 (⟨s.st, s.nx + 1, s.ca, s.dn + 1, s.sg, s.tm⟩ : St).st)).setCell ⟨w.heap.size + 1 + 1, 1, none⟩ (.int .i64 (⟨s.st, s.nx + 1, s.ca, s.dn + 1, s.sg, s.tm⟩ : St).nx)).setCell ⟨w.heap.size + 1 + 1, 2, none⟩ (.bool (⟨s.st, s.nx + 1, s.ca, s.dn + 1, s.sg, s.tm⟩ : St).ca)).setCell ⟨w.heap.size + 1 + 1, 3, none⟩ (.int .i64 (⟨s.st, s.nx + 1, s.ca, s.dn + 1, s.sg, s.tm⟩ : St).dn)).setCell ⟨w.heap.size + 1 + 1, 4, none⟩ (.slice a3 s.sg.length c3)).setCell ⟨w.heap.size + 1 + 1, 5, none⟩ (.slice a4 s.tm.length c4) = WZ → Blk WZ (w.heap.size + 1 + 1) 6 (sq (.slice a3 s.sg.length c3) (.slice a4 s.tm.length c4) ⟨s.st, s.nx + 1, s.ca, s.dn + 1, s.sg, s.tm⟩) 60 ∧ L12 w WZ (.returned (.tuple #[stv (.slice a3 s.sg.length c3) (.slice a4 s.tm.length c4) ⟨s.st, s.nx + 1, s.ca, s.dn + 1, s.sg, s.tm⟩, .bool b])) s ⟨s.st, s.nx + 1, s.ca, s.dn + 1, s.sg, s.tm⟩ b ∧ Below w.heap.size w WZ from fun wy hb =>
    (HVD.out.down hb).fin ⟨fun _ => rfl, fun hf => .inr ⟨rfl, fun hh => (by have := HBG.out.2 hh; rw [hf] at this; cases this)⟩⟩)
  obtain ⟨⟨d0, d1, d2, d3, d4, d5⟩, -⟩ := HV5.out.m.box.hex
  obtain ⟨⟨r0, r1, r2, r3, r4, r5⟩, t0, t1, t2, t3, t4, t5⟩ := HV5.out.rb.hex
  simp only at d0 d1 d2 d3
  clear HV5
  go_region_with (go_at_call 149; refine (spec_goodSt _ _ (⟨s.st, s.nx + 1, s.ca, s.dn + 1, s.sg, s.tm⟩ : St) b _ HVD.out.m.c (show ShortT _ from HSH.out) (show NmT _ from ⟨nm12 HSG.out, nm12 HTM.out⟩) HBG.out).mono ?_; rintro e9 w9 ⟨rfl, hb9⟩; obtain ⟨⟨m0, m1, m2, m3, m4, m5⟩, ⟨q0, q1, q2, q3, q4, q5⟩, y0, y1, y2, y3, y4, y5⟩ := HCC.out w9 hb9; simp only at m0 m1 m2 m3)
  all_goals
    obtain ⟨WZ, hWZ⟩ : ∃ WZ, (((((w9.setCell ⟨w.heap.size + 1 + 1, 0, none⟩ (.int .i64 (⟨s.st, s.nx + 1, s.ca, s.dn + 1, s.sg, s.tm⟩ : St).st)).setCell ⟨w.heap.size + 1 + 1, 1, none⟩ (.int .i64 (⟨s.st, s.nx + 1, s.ca, s.dn + 1, s.sg, s.tm⟩ : St).nx)).setCell ⟨w.heap.size + 1 + 1, 2, none⟩ (.bool (⟨s.st, s.nx + 1, s.ca, s.dn + 1, s.sg, s.tm⟩ : St).ca)).setCell ⟨w.heap.size + 1 + 1, 3, none⟩ (.int .i64 (⟨s.st, s.nx + 1, s.ca, s.dn + 1, s.sg, s.tm⟩ : St).dn)).setCell ⟨w.heap.size + 1 + 1, 4, none⟩ (.slice a3 s.sg.length c3)).setCell ⟨w.heap.size + 1 + 1, 5, none⟩ (.slice a4 s.tm.length c4) = WZ := ⟨_, rfl⟩
    have HZZ := hide (HFin.out w9 hb9 WZ hWZ)
    simp only at hWZ
    have HWZ := hide hWZ
    clear hWZ HFin HCC hb9 HVD d0 d1 d2 d3 d4 d5 r0 r1 r2 r3 r4 r5 t0 t1 t2 t3 t4 t5
    go_wp2
    rw [HWZ.out]
    clear m0 m1 m2 m3 m4 m5 q0 q1 q2 q3 q4 q5 y0 y1 y2 y3 y4 y5
    obtain ⟨⟨r0, r1, r2, r3, r4, r5⟩, -⟩ := HZZ.out.1.hex
    simp only at r0 r1 r2 r3
    exact bodyPost_ret (v := .tuple #[stv (.slice a3 s.sg.length c3) (.slice a4 s.tm.length c4) ⟨s.st, s.nx + 1, s.ca, s.dn + 1, s.sg, s.tm⟩, .bool b]) (by simp [results, Tryz.results101, go_sem, r0, r1, r2, r3, r4, r5]) rfl HZZ.out.2
end Go.Proofs.YtfkeokglifpkoaaGreatDoor
