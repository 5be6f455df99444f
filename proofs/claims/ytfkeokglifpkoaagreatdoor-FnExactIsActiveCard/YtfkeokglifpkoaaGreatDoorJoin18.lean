/-
  Texts that follow one another, joined: StV4, StV5, StV6, StW, StL0, StX.
-/
import Derived.Test.YtfkeokglifpkoaaGreatDoorJoin16
import Derived.Test.YtfkeokglifpkoaaGreatDoorJoin17
import Derived.Test.YtfkeokglifpkoaaGreatDoorJoin8
/-
  The specification's l12Apply, at one kind.
-/
namespace Go.Proofs.YtfkeokglifpkoaaGreatDoor
open Go.RowKit M
open Clk (upd upd_same upd_other)
open Go.Sort (grow)
set_option maxRecDepth 20000 in
set_option maxHeartbeats 8000000 in
theorem l12_4 (v0 v1 : Value) (s : St) (I V : Int) (x : ByteArray) (b : Bool) (w : World) (hv : StC w v0 v1 s) (hg : GoodSt s) (hge : goodB I V 4 x = true) (hid : I = s.nx) (hst : s.st = 1) (hb : BP b (GoodSt ⟨s.st, s.nx + 1, s.ca, s.dn, s.sg, tog s.tm x⟩)) :
    Calls Tryz.prog 101 #[stv v0 v1 s, ev I V 4 x] w fun e' w' => L12 w w' e' s ⟨s.st, s.nx + 1, s.ca, s.dn, s.sg, tog s.tm x⟩ b ∧ Below w.heap.size w w' := by
  obtain ⟨a0, c0, rfl⟩ := hv.1.1.form
  obtain ⟨a1, c1, rfl⟩ := hv.2.1.form
  have HV := hide hv
  have HB := hide hb
  have hgn : gN x = true := (gd_parts (e := ⟨I, V, 4, x⟩) hge).2.2.2
  have HX := hide hgn
  have HE := hide (gN_max hgn)
  have hid2 : (I != s.nx) = false := by simp [hid]
  have hs0 : (s.st == 0) = false := by simp [hst]
  have hs2 : (s.st == 2) = false := by simp [hst]
  obtain ⟨⟨hn1, hn2⟩, ⟨hd1, hd2⟩, hsg, htm, -⟩ := hg
  have HSG := hide hsg
  have HTM := hide htm
  have HSH := hide (show ShortT s from ⟨by have := hsg.1; omega, by have := htm.1; omega⟩)
  have HGE := hide hge
  clear hv hid hst hb hsg htm hgn hge
  obtain ⟨W, hW⟩ : ∃ W, ((w.alloc (.cells (sarr (.slice a0 s.sg.length c0) (.slice a1 s.tm.length c1) s) 60)).alloc (.cells #[.int .i64 I, .int .i64 V, .int .i64 4, .string x] 74)).alloc (.cells zarr 60) = W := ⟨_, rfl⟩
  have HA0 := hide (show AB w W s ⟨I, V, 4, x⟩ (.slice a0 s.sg.length c0) (.slice a1 s.tm.length c1) from hW ▸ AB.new w s ⟨I, V, 4, x⟩ _ _)
  have HWW := hide hW
  clear hW
  go_enter Tryz.func101, Tryz.ntmps101
  go_wp2_with fail
  rw [HWW.out]
  clear HWW
  refine (spec_good _ _ _ _ _ HE.out).mono ?_
  rintro e' w1 ⟨rfl, hb⟩
  rw [HGE.out]
  have HA1 := hide (HA0.out.down hb)
  clear hb HA0
  obtain ⟨e0, e1, e2, e3⟩ := HA1.out.eb.ev
  simp only at e0 e1 e2 e3
  obtain ⟨⟨d0, d1, d2, d3, d4, d5⟩, -⟩ := HA1.out.sb.hex
  go_wp2_with fail
  refine (own_state _ _ s _ (HV.out.below HA1.out.low) HSH.out).mono ?_
  rintro e' w2 ⟨⟨u0, u1, rfl, hAL⟩, hb⟩
  obtain ⟨a3, c3, rfl⟩ := hAL.o0.form
  obtain ⟨a4, c4, rfl⟩ := hAL.o1.form
  have HA2 := hide (HA1.out.down hb)
  have hbig := HA1.out.big
  obtain ⟨W3, hW3⟩ : ∃ W3, (((((w2.setCell ⟨w.heap.size, 0, none⟩ (.int .i64 s.st)).setCell ⟨w.heap.size, 1, none⟩ (.int .i64 s.nx)).setCell ⟨w.heap.size, 2, none⟩ (.bool s.ca)).setCell ⟨w.heap.size, 3, none⟩ (.int .i64 s.dn)).setCell ⟨w.heap.size, 4, none⟩ (.slice a3 s.sg.length c3)).setCell ⟨w.heap.size, 5, none⟩ (.slice a4 s.tm.length c4) = W3 := ⟨_, rfl⟩
  have HVB := hide (VB.copy HA2.out hAL hbig W3 hW3)
  have HW3 := hide hW3
  clear hW3 hb hAL HA1 hbig e0 e1 e2 e3 d0 d1 d2 d3 d4 d5
  obtain ⟨e0, e1, e2, e3⟩ := HA2.out.eb.ev
  simp only at e0 e1 e2 e3
  obtain ⟨⟨d0, d1, d2, d3, d4, d5⟩, f0, f1, f2, f3, f4, f5⟩ := HA2.out.sb.hex
  have HBG := hide (show BP b (GoodSt ⟨s.st, s.nx + 1, s.ca, s.dn, s.sg, tog s.tm x⟩) from HB.out)
  clear HB
  go_wp2_with fail
  rw [HW3.out]
  clear HW3 HA2 d0 d1 d2 d3 d4 d5 f0 f1 f2 f3 f4 f5 e0 e1 e2 e3
  refine (turn_txs _ s.tm x _ HVB.out.m.o1.txs HSH.out.2 HTM.out.rise).mono ?_
  rintro e' w5 ⟨⟨a5, n5, c5, rfl, hO5⟩, hb5⟩
  have HV4 := hide (HVB.out.new5 hb5 hO5)
  obtain ⟨⟨d0, d1, d2, d3, d4, d5⟩, f0, f1, f2, f3, f4, f5⟩ := (HVB.out.down hb5).m.box.hex
  obtain ⟨W5, hW5⟩ : ∃ W5, (w5.setCell ⟨w.heap.size, 5, none⟩ (.slice a5 n5 c5)).setCell ⟨w.heap.size, 1, none⟩ (.int .i64 (s.nx + 1)) = W5 := ⟨_, rfl⟩
  have HV5 := hide (show VB w W5 ⟨s.st, s.nx + 1, s.ca, s.dn, s.sg, tog s.tm x⟩ ⟨I, V, 4, x⟩ (.slice a3 s.sg.length c3) (.slice a5 n5 c5) from by rw [← hW5]; exact HV4.out.set1 (s.nx + 1))
  have HW5 := hide hW5
  clear hW5 hO5 hb5 HVB HV4
  go_upto_region 22 with fail
  rw [HW5.out]
  clear HW5 d0 d1 d2 d3 d4 d5 f0 f1 f2 f3 f4 f5
  have HVD := hide (HV5.out.down (Below.refl W5.heap.size W5).drew)
  have HCC := hide (show ∀ wy, Below W5.drew.heap.size W5.drew wy → (wy.cell? ⟨w.heap.size, 0, none⟩ = some (.int .i64 (⟨s.st, s.nx + 1, s.ca, s.dn, s.sg, tog s.tm x⟩ : St).st) ∧ wy.cell? ⟨w.heap.size, 1, none⟩ = some (.int .i64 (⟨s.st, s.nx + 1, s.ca, s.dn, s.sg, tog s.tm x⟩ : St).nx) ∧ wy.cell? ⟨w.heap.size, 2, none⟩ = some (.bool (⟨s.st, s.nx + 1, s.ca, s.dn, s.sg, tog s.tm x⟩ : St).ca) ∧ wy.cell? ⟨w.heap.size, 3, none⟩ = some (.int .i64 (⟨s.st, s.nx + 1, s.ca, s.dn, s.sg, tog s.tm x⟩ : St).dn) ∧ wy.cell? ⟨w.heap.size, 4, none⟩ = some (.slice a3 s.sg.length c3) ∧ wy.cell? ⟨w.heap.size, 5, none⟩ = some (.slice a5 n5 c5)) ∧ (wy.cell? ⟨w.heap.size + 1 + 1, 0, none⟩ = some (.int .i64 0) ∧ wy.cell? ⟨w.heap.size + 1 + 1, 1, none⟩ = some (.int .i64 0) ∧ wy.cell? ⟨w.heap.size + 1 + 1, 2, none⟩ = some (.bool false) ∧ wy.cell? ⟨w.heap.size + 1 + 1, 3, none⟩ = some (.int .i64 0) ∧ wy.cell? ⟨w.heap.size + 1 + 1, 4, none⟩ = some (.slice none 0 0) ∧ wy.cell? ⟨w.heap.size + 1 + 1, 5, none⟩ = some (.slice none 0 0)) ∧ wy.frozen? ⟨w.heap.size + 1 + 1, 0, none⟩ = false ∧ wy.frozen? ⟨w.heap.size + 1 + 1, 1, none⟩ = false ∧ wy.frozen? ⟨w.heap.size + 1 + 1, 2, none⟩ = false ∧ wy.frozen? ⟨w.heap.size + 1 + 1, 3, none⟩ = false ∧ wy.frozen? ⟨w.heap.size + 1 + 1, 4, none⟩ = false ∧ wy.frozen? ⟨w.heap.size + 1 + 1, 5, none⟩ = false from fun wy hb => by
    have h := HVD.out.down hb
    exact ⟨h.m.box.hex.1, h.rb.hex.1, h.rb.hex.2⟩)
  have HFin := hide (show ∀ wy, Below W5.drew.heap.size W5.drew wy → ∀ WZ, (((((wy.setCell ⟨w.heap.size + 1 + 1, 0, none⟩ (.int .i64 (⟨s.st, s.nx + 1, s.ca, s.dn, s.sg, tog s.tm x⟩ : St).st)).setCell ⟨w.heap.size + 1 + 1, 1, none⟩ (.int .i64 (⟨s.st, s.nx + 1, s.ca, s.dn, s.sg, tog s.tm x⟩ : St).nx)).setCell ⟨w.heap.size + 1 + 1, 2, none⟩ (.bool (⟨s.st, s.nx + 1, s.ca, s.dn, s.sg, tog s.tm x⟩ : St).ca)).setCell ⟨w.heap.size + 1 + 1, 3, none⟩ (.int .i64 (⟨s.st, s.nx + 1, s.ca, s.dn, s.sg, tog s.tm x⟩ : St).dn)).setCell ⟨w.heap.size + 1 + 1, 4, none⟩ (.slice a3 s.sg.length c3)).setCell ⟨w.heap.size + 1 + 1, 5, none⟩ (.slice a5 n5 c5) = WZ → Blk WZ (w.heap.size + 1 + 1) 6 (sq (.slice a3 s.sg.length c3) (.slice a5 n5 c5) ⟨s.st, s.nx + 1, s.ca, s.dn, s.sg, tog s.tm x⟩) 60 ∧ L12 w WZ (.returned (.tuple #[stv (.slice a3 s.sg.length c3) (.slice a5 n5 c5) ⟨s.st, s.nx + 1, s.ca, s.dn, s.sg, tog s.tm x⟩, .bool b])) s ⟨s.st, s.nx + 1, s.ca, s.dn, s.sg, tog s.tm x⟩ b ∧ Below w.heap.size w WZ from fun wy hb =>
    (HVD.out.down hb).fin ⟨fun _ => rfl, fun hf => .inr ⟨rfl, fun hh => (by have := HBG.out.2 hh; rw [hf] at this; cases this)⟩⟩)
  obtain ⟨⟨d0, d1, d2, d3, d4, d5⟩, -⟩ := HV5.out.m.box.hex
  obtain ⟨⟨r0, r1, r2, r3, r4, r5⟩, t0, t1, t2, t3, t4, t5⟩ := HV5.out.rb.hex
  simp only at d0 d1 d2 d3
  clear HV5
  go_region_with (go_at_call 149; refine (spec_goodSt _ _ (⟨s.st, s.nx + 1, s.ca, s.dn, s.sg, tog s.tm x⟩ : St) b _ HVD.out.m.c (show ShortT _ from ⟨HSH.out.1, Nat.le_trans (tog_len _ _) (by have := HTM.out.1; omega)⟩) (show NmT _ from ⟨nm12 HSG.out, tog_nm HTM.out HX.out⟩) HBG.out).mono ?_; rintro e9 w9 ⟨rfl, hb9⟩; obtain ⟨⟨m0, m1, m2, m3, m4, m5⟩, ⟨q0, q1, q2, q3, q4, q5⟩, y0, y1, y2, y3, y4, y5⟩ := HCC.out w9 hb9; simp only at m0 m1 m2 m3)
  all_goals
    obtain ⟨WZ, hWZ⟩ : ∃ WZ, (((((w9.setCell ⟨w.heap.size + 1 + 1, 0, none⟩ (.int .i64 (⟨s.st, s.nx + 1, s.ca, s.dn, s.sg, tog s.tm x⟩ : St).st)).setCell ⟨w.heap.size + 1 + 1, 1, none⟩ (.int .i64 (⟨s.st, s.nx + 1, s.ca, s.dn, s.sg, tog s.tm x⟩ : St).nx)).setCell ⟨w.heap.size + 1 + 1, 2, none⟩ (.bool (⟨s.st, s.nx + 1, s.ca, s.dn, s.sg, tog s.tm x⟩ : St).ca)).setCell ⟨w.heap.size + 1 + 1, 3, none⟩ (.int .i64 (⟨s.st, s.nx + 1, s.ca, s.dn, s.sg, tog s.tm x⟩ : St).dn)).setCell ⟨w.heap.size + 1 + 1, 4, none⟩ (.slice a3 s.sg.length c3)).setCell ⟨w.heap.size + 1 + 1, 5, none⟩ (.slice a5 n5 c5) = WZ := ⟨_, rfl⟩
    have HZZ := hide (HFin.out w9 hb9 WZ hWZ)
    simp only at hWZ
    have HWZ := hide hWZ
    clear hWZ HFin HCC hb9 HVD d0 d1 d2 d3 d4 d5 r0 r1 r2 r3 r4 r5 t0 t1 t2 t3 t4 t5
    go_wp2
    rw [HWZ.out]
    clear m0 m1 m2 m3 m4 m5 q0 q1 q2 q3 q4 q5 y0 y1 y2 y3 y4 y5
    obtain ⟨⟨r0, r1, r2, r3, r4, r5⟩, -⟩ := HZZ.out.1.hex
    simp only at r0 r1 r2 r3
    exact bodyPost_ret (v := .tuple #[stv (.slice a3 s.sg.length c3) (.slice a5 n5 c5) ⟨s.st, s.nx + 1, s.ca, s.dn, s.sg, tog s.tm x⟩, .bool b]) (by simp [results, Tryz.results101, go_sem, r0, r1, r2, r3, r4, r5]) rfl HZZ.out.2
end Go.Proofs.YtfkeokglifpkoaaGreatDoor

/-
  The specification's l12Apply, at one kind.
-/
namespace Go.Proofs.YtfkeokglifpkoaaGreatDoor
open Go.RowKit M
open Clk (upd upd_same upd_other)
open Go.Sort (grow)
set_option maxRecDepth 20000 in
set_option maxHeartbeats 8000000 in
theorem l12_5 (v0 v1 : Value) (s : St) (I V : Int) (x : ByteArray) (b : Bool) (w : World) (hv : StC w v0 v1 s) (hg : GoodSt s) (hge : goodB I V 5 x = true) (hid : I = s.nx) (hst : s.st = 1) (hb : BP b (s.ca = false ∧ GoodSt ⟨s.st, s.nx + 1, true, s.dn, s.sg, s.tm⟩)) :
    Calls Tryz.prog 101 #[stv v0 v1 s, ev I V 5 x] w fun e' w' => L12 w w' e' s ⟨s.st, s.nx + 1, true, s.dn, s.sg, s.tm⟩ b ∧ Below w.heap.size w w' := by
  obtain ⟨a0, c0, rfl⟩ := hv.1.1.form
  obtain ⟨a1, c1, rfl⟩ := hv.2.1.form
  have HV := hide hv
  have HB := hide hb
  have hgn : gN x = true := (gd_parts (e := ⟨I, V, 5, x⟩) hge).2.2.2
  have HX := hide hgn
  have HE := hide (gN_max hgn)
  have hid2 : (I != s.nx) = false := by simp [hid]
  have hs0 : (s.st == 0) = false := by simp [hst]
  have hs2 : (s.st == 2) = false := by simp [hst]
  obtain ⟨⟨hn1, hn2⟩, ⟨hd1, hd2⟩, hsg, htm, -⟩ := hg
  have HSG := hide hsg
  have HTM := hide htm
  have HSH := hide (show ShortT s from ⟨by have := hsg.1; omega, by have := htm.1; omega⟩)
  have HGE := hide hge
  clear hv hid hst hb hsg htm hgn hge
  obtain ⟨W, hW⟩ : ∃ W, ((w.alloc (.cells (sarr (.slice a0 s.sg.length c0) (.slice a1 s.tm.length c1) s) 60)).alloc (.cells #[.int .i64 I, .int .i64 V, .int .i64 5, .string x] 74)).alloc (.cells zarr 60) = W := ⟨_, rfl⟩
  have HA0 := hide (show AB w W s ⟨I, V, 5, x⟩ (.slice a0 s.sg.length c0) (.slice a1 s.tm.length c1) from hW ▸ AB.new w s ⟨I, V, 5, x⟩ _ _)
  have HWW := hide hW
  clear hW
  go_enter Tryz.func101, Tryz.ntmps101
  go_wp2_with fail
  rw [HWW.out]
  clear HWW
  refine (spec_good _ _ _ _ _ HE.out).mono ?_
  rintro e' w1 ⟨rfl, hb⟩
  rw [HGE.out]
  have HA1 := hide (HA0.out.down hb)
  clear hb HA0
  obtain ⟨e0, e1, e2, e3⟩ := HA1.out.eb.ev
  simp only at e0 e1 e2 e3
  obtain ⟨⟨d0, d1, d2, d3, d4, d5⟩, -⟩ := HA1.out.sb.hex
  go_wp2_with fail
  refine (own_state _ _ s _ (HV.out.below HA1.out.low) HSH.out).mono ?_
  rintro e' w2 ⟨⟨u0, u1, rfl, hAL⟩, hb⟩
  obtain ⟨a3, c3, rfl⟩ := hAL.o0.form
  obtain ⟨a4, c4, rfl⟩ := hAL.o1.form
  have HA2 := hide (HA1.out.down hb)
  have hbig := HA1.out.big
  obtain ⟨W3, hW3⟩ : ∃ W3, (((((w2.setCell ⟨w.heap.size, 0, none⟩ (.int .i64 s.st)).setCell ⟨w.heap.size, 1, none⟩ (.int .i64 s.nx)).setCell ⟨w.heap.size, 2, none⟩ (.bool s.ca)).setCell ⟨w.heap.size, 3, none⟩ (.int .i64 s.dn)).setCell ⟨w.heap.size, 4, none⟩ (.slice a3 s.sg.length c3)).setCell ⟨w.heap.size, 5, none⟩ (.slice a4 s.tm.length c4) = W3 := ⟨_, rfl⟩
  have HVB := hide (VB.copy HA2.out hAL hbig W3 hW3)
  have HW3 := hide hW3
  clear hW3 hb hAL HA1 hbig e0 e1 e2 e3 d0 d1 d2 d3 d4 d5
  obtain ⟨e0, e1, e2, e3⟩ := HA2.out.eb.ev
  simp only at e0 e1 e2 e3
  obtain ⟨⟨d0, d1, d2, d3, d4, d5⟩, f0, f1, f2, f3, f4, f5⟩ := HA2.out.sb.hex
  by_cases hca : s.ca = true
  · have HF := hide (HB.out.no (fun h => by rw [hca] at h; exact absurd h.1 (by simp)))
    obtain ⟨⟨r0, r1, r2, r3, r4, r5⟩, t0, t1, t2, t3, t4, t5⟩ := HA2.out.rb.hex
    obtain ⟨WZ, hWZ⟩ : ∃ WZ, (((((W3.setCell ⟨w.heap.size + 1 + 1, 0, none⟩ (.int .i64 s.st)).setCell ⟨w.heap.size + 1 + 1, 1, none⟩ (.int .i64 s.nx)).setCell ⟨w.heap.size + 1 + 1, 2, none⟩ (.bool s.ca)).setCell ⟨w.heap.size + 1 + 1, 3, none⟩ (.int .i64 s.dn)).setCell ⟨w.heap.size + 1 + 1, 4, none⟩ (.slice a3 s.sg.length c3)).setCell ⟨w.heap.size + 1 + 1, 5, none⟩ (.slice a4 s.tm.length c4) = WZ := ⟨_, rfl⟩
    have HZZ := hide (HVB.out.fin (b := false) (s0 := s) (r := ⟨s.st, s.nx + 1, true, s.dn, s.sg, s.tm⟩) ⟨fun h => (by cases h), fun _ => .inl rfl⟩ WZ hWZ)
    have HWZ := hide hWZ
    clear hWZ
    rw [hca] at HW3 HWZ d2
    clear HB HV HVB HA2 HSG HTM HSH hn1 hn2 hd1 hd2
    go_wp2
    rw [HW3.out]; rw [HWZ.out]
    clear r0 r1 r2 r3 r4 r5 t0 t1 t2 t3 t4 t5
    obtain ⟨⟨r0, r1, r2, r3, r4, r5⟩, -⟩ := HZZ.out.1.hex
    exact bodyPost_ret (v := .tuple #[stv (.slice a3 s.sg.length c3) (.slice a4 s.tm.length c4) s, .bool false]) (by simp [results, Tryz.results101, go_sem, r0, r1, r2, r3, r4, r5]) rfl (by rw [HF.out]; exact HZZ.out.2)
  have hca : s.ca = false := by simpa using hca
  have HBG := hide (show BP b (GoodSt ⟨s.st, s.nx + 1, true, s.dn, s.sg, s.tm⟩) from ⟨fun h => (HB.out.1 h).2, fun h => HB.out.2 ⟨hca, h⟩⟩)
  have hca2 : s.ca = false := hca
  rw [hca] at HW3
  clear HB hca
  obtain ⟨W5, hW5⟩ : ∃ W5, (W3.setCell ⟨w.heap.size, 2, none⟩ (.bool true)).setCell ⟨w.heap.size, 1, none⟩ (.int .i64 (s.nx + 1)) = W5 := ⟨_, rfl⟩
  have HV5 := hide (show VB w W5 ⟨s.st, s.nx + 1, true, s.dn, s.sg, s.tm⟩ ⟨I, V, 5, x⟩ (.slice a3 s.sg.length c3) (.slice a4 s.tm.length c4) from by rw [← hW5]; exact (HVB.out.set2 true).set1 (s.nx + 1))
  have HW5 := hide hW5
  clear hW5
  go_upto_region 22 with fail
  rw [HW3.out, HW5.out]
  clear HW3 HW5 HVB HA2 d0 d1 d2 d3 d4 d5 f0 f1 f2 f3 f4 f5 e0 e1 e2 e3
  have HVD := hide (HV5.out.down (Below.refl W5.heap.size W5).drew)
  have HCC := hide (show ∀ wy, Below W5.drew.heap.size W5.drew wy → (wy.cell? ⟨w.heap.size, 0, none⟩ = some (.int .i64 (⟨s.st, s.nx + 1, true, s.dn, s.sg, s.tm⟩ : St).st) ∧ wy.cell? ⟨w.heap.size, 1, none⟩ = some (.int .i64 (⟨s.st, s.nx + 1, true, s.dn, s.sg, s.tm⟩ : St).nx) ∧ wy.cell? ⟨w.heap.size, 2, none⟩ = some (.bool (⟨s.st, s.nx + 1, true, s.dn, s.sg, s.tm⟩ : St).ca) ∧ wy.cell? ⟨w.heap.size, 3, none⟩ = some (.int .i64 (⟨s.st, s.nx + 1, true, s.dn, s.sg, s.tm⟩ : St).dn) ∧ wy.cell? ⟨w.heap.size, 4, none⟩ = some (.slice a3 s.sg.length c3) ∧ wy.cell? ⟨w.heap.size, 5, none⟩ = some (.slice a4 s.tm.length c4)) ∧ (wy.cell? ⟨w.heap.size + 1 + 1, 0, none⟩ = some (.int .i64 0) ∧ wy.cell? ⟨w.heap.size + 1 + 1, 1, none⟩ = some (.int .i64 0) ∧ wy.cell? ⟨w.heap.size + 1 + 1, 2, none⟩ = some (.bool false) ∧ wy.cell? ⟨w.heap.size + 1 + 1, 3, none⟩ = some (.int .i64 0) ∧ wy.cell? ⟨w.heap.size + 1 + 1, 4, none⟩ = some (.slice none 0 0) ∧ wy.cell? ⟨w.heap.size + 1 + 1, 5, none⟩ = some (.slice none 0 0)) ∧ wy.frozen? ⟨w.heap.size + 1 + 1, 0, none⟩ = false ∧ wy.frozen? ⟨w.heap.size + 1 + 1, 1, none⟩ = false ∧ wy.frozen? ⟨w.heap.size + 1 + 1, 2, none⟩ = false ∧ wy.frozen? ⟨w.heap.size + 1 + 1, 3, none⟩ = false ∧ wy.frozen? ⟨w.heap.size + 1 + 1, 4, none⟩ = false ∧ wy.frozen? ⟨w.heap.size + 1 + 1, 5, none⟩ = false from fun wy hb => by
    have h := HVD.out.down hb
    exact ⟨h.m.box.hex.1, h.rb.hex.1, h.rb.hex.2⟩)
  have HFin := hide (show ∀ wy, Below W5.drew.heap.size W5.drew wy → ∀ WZ, (((((wy.setCell ⟨w.heap.size + 1 + 1, 0, none⟩ (.int .i64 (⟨s.st, s.nx + 1, true, s.dn, s.sg, s.tm⟩ : St).st)).setCell ⟨w.heap.size + 1 + 1, 1, none⟩ (.int .i64 (⟨s.st, s.nx + 1, true, s.dn, s.sg, s.tm⟩ : St).nx)).setCell ⟨w.heap.size + 1 + 1, 2, none⟩ (.bool (⟨s.st, s.nx + 1, true, s.dn, s.sg, s.tm⟩ : St).ca)).setCell ⟨w.heap.size + 1 + 1, 3, none⟩ (.int .i64 (⟨s.st, s.nx + 1, true, s.dn, s.sg, s.tm⟩ : St).dn)).setCell ⟨w.heap.size + 1 + 1, 4, none⟩ (.slice a3 s.sg.length c3)).setCell ⟨w.heap.size + 1 + 1, 5, none⟩ (.slice a4 s.tm.length c4) = WZ → Blk WZ (w.heap.size + 1 + 1) 6 (sq (.slice a3 s.sg.length c3) (.slice a4 s.tm.length c4) ⟨s.st, s.nx + 1, true, s.dn, s.sg, s.tm⟩) 60 ∧ L12 w WZ (.returned (.tuple #[stv (.slice a3 s.sg.length c3) (.slice a4 s.tm.length c4) ⟨s.st, s.nx + 1, true, s.dn, s.sg, s.tm⟩, .bool b])) s ⟨s.st, s.nx + 1, true, s.dn, s.sg, s.tm⟩ b ∧ Below w.heap.size w WZ from fun wy hb =>
    (HVD.out.down hb).fin ⟨fun _ => rfl, fun hf => .inr ⟨rfl, fun hh => (by have := HBG.out.2 hh; rw [hf] at this; cases this)⟩⟩)
  obtain ⟨⟨d0, d1, d2, d3, d4, d5⟩, -⟩ := HV5.out.m.box.hex
  obtain ⟨⟨r0, r1, r2, r3, r4, r5⟩, t0, t1, t2, t3, t4, t5⟩ := HV5.out.rb.hex
  simp only at d0 d1 d2 d3
  clear HV5
  go_region_with (go_at_call 149; refine (spec_goodSt _ _ (⟨s.st, s.nx + 1, true, s.dn, s.sg, s.tm⟩ : St) b _ HVD.out.m.c (show ShortT _ from HSH.out) (show NmT _ from ⟨nm12 HSG.out, nm12 HTM.out⟩) HBG.out).mono ?_; rintro e9 w9 ⟨rfl, hb9⟩; obtain ⟨⟨m0, m1, m2, m3, m4, m5⟩, ⟨q0, q1, q2, q3, q4, q5⟩, y0, y1, y2, y3, y4, y5⟩ := HCC.out w9 hb9; simp only at m0 m1 m2 m3)
  all_goals
    obtain ⟨WZ, hWZ⟩ : ∃ WZ, (((((w9.setCell ⟨w.heap.size + 1 + 1, 0, none⟩ (.int .i64 (⟨s.st, s.nx + 1, true, s.dn, s.sg, s.tm⟩ : St).st)).setCell ⟨w.heap.size + 1 + 1, 1, none⟩ (.int .i64 (⟨s.st, s.nx + 1, true, s.dn, s.sg, s.tm⟩ : St).nx)).setCell ⟨w.heap.size + 1 + 1, 2, none⟩ (.bool (⟨s.st, s.nx + 1, true, s.dn, s.sg, s.tm⟩ : St).ca)).setCell ⟨w.heap.size + 1 + 1, 3, none⟩ (.int .i64 (⟨s.st, s.nx + 1, true, s.dn, s.sg, s.tm⟩ : St).dn)).setCell ⟨w.heap.size + 1 + 1, 4, none⟩ (.slice a3 s.sg.length c3)).setCell ⟨w.heap.size + 1 + 1, 5, none⟩ (.slice a4 s.tm.length c4) = WZ := ⟨_, rfl⟩
    have HZZ := hide (HFin.out w9 hb9 WZ hWZ)
    simp only at hWZ
    have HWZ := hide hWZ
    clear hWZ HFin HCC hb9 HVD d0 d1 d2 d3 d4 d5 r0 r1 r2 r3 r4 r5 t0 t1 t2 t3 t4 t5
    go_wp2
    rw [HWZ.out]
    clear m0 m1 m2 m3 m4 m5 q0 q1 q2 q3 q4 q5 y0 y1 y2 y3 y4 y5
    obtain ⟨⟨r0, r1, r2, r3, r4, r5⟩, -⟩ := HZZ.out.1.hex
    simp only at r0 r1 r2 r3
    exact bodyPost_ret (v := .tuple #[stv (.slice a3 s.sg.length c3) (.slice a4 s.tm.length c4) ⟨s.st, s.nx + 1, true, s.dn, s.sg, s.tm⟩, .bool b]) (by simp [results, Tryz.results101, go_sem, r0, r1, r2, r3, r4, r5]) rfl HZZ.out.2
end Go.Proofs.YtfkeokglifpkoaaGreatDoor

/-
  The specification's l12Apply, at one kind.
-/
namespace Go.Proofs.YtfkeokglifpkoaaGreatDoor
open Go.RowKit M
open Clk (upd upd_same upd_other)
open Go.Sort (grow)
set_option maxRecDepth 20000 in
set_option maxHeartbeats 8000000 in
theorem l12_6 (v0 v1 : Value) (s : St) (I V : Int) (x : ByteArray) (b : Bool) (w : World) (hv : StC w v0 v1 s) (hg : GoodSt s) (hge : goodB I V 6 x = true) (hid : I = s.nx) (hst : s.st = 1) (hb : BP b (GoodSt ⟨2, s.nx + 1, s.ca, s.dn, s.sg, []⟩)) :
    Calls Tryz.prog 101 #[stv v0 v1 s, ev I V 6 x] w fun e' w' => L12 w w' e' s ⟨2, s.nx + 1, s.ca, s.dn, s.sg, []⟩ b ∧ Below w.heap.size w w' := by
  obtain ⟨a0, c0, rfl⟩ := hv.1.1.form
  obtain ⟨a1, c1, rfl⟩ := hv.2.1.form
  have HV := hide hv
  have HB := hide hb
  have hgn : gN x = true := (gd_parts (e := ⟨I, V, 6, x⟩) hge).2.2.2
  have HX := hide hgn
  have HE := hide (gN_max hgn)
  have hid2 : (I != s.nx) = false := by simp [hid]
  have hs0 : (s.st == 0) = false := by simp [hst]
  have hs2 : (s.st == 2) = false := by simp [hst]
  obtain ⟨⟨hn1, hn2⟩, ⟨hd1, hd2⟩, hsg, htm, -⟩ := hg
  have HSG := hide hsg
  have HTM := hide htm
  have HSH := hide (show ShortT s from ⟨by have := hsg.1; omega, by have := htm.1; omega⟩)
  have HGE := hide hge
  clear hv hid hst hb hsg htm hgn hge
  obtain ⟨W, hW⟩ : ∃ W, ((w.alloc (.cells (sarr (.slice a0 s.sg.length c0) (.slice a1 s.tm.length c1) s) 60)).alloc (.cells #[.int .i64 I, .int .i64 V, .int .i64 6, .string x] 74)).alloc (.cells zarr 60) = W := ⟨_, rfl⟩
  have HA0 := hide (show AB w W s ⟨I, V, 6, x⟩ (.slice a0 s.sg.length c0) (.slice a1 s.tm.length c1) from hW ▸ AB.new w s ⟨I, V, 6, x⟩ _ _)
  have HWW := hide hW
  clear hW
  go_enter Tryz.func101, Tryz.ntmps101
  go_wp2_with fail
  rw [HWW.out]
  clear HWW
  refine (spec_good _ _ _ _ _ HE.out).mono ?_
  rintro e' w1 ⟨rfl, hb⟩
  rw [HGE.out]
  have HA1 := hide (HA0.out.down hb)
  clear hb HA0
  obtain ⟨e0, e1, e2, e3⟩ := HA1.out.eb.ev
  simp only at e0 e1 e2 e3
  obtain ⟨⟨d0, d1, d2, d3, d4, d5⟩, -⟩ := HA1.out.sb.hex
  go_wp2_with fail
  refine (own_state _ _ s _ (HV.out.below HA1.out.low) HSH.out).mono ?_
  rintro e' w2 ⟨⟨u0, u1, rfl, hAL⟩, hb⟩
  obtain ⟨a3, c3, rfl⟩ := hAL.o0.form
  obtain ⟨a4, c4, rfl⟩ := hAL.o1.form
  have HA2 := hide (HA1.out.down hb)
  have hbig := HA1.out.big
  obtain ⟨W3, hW3⟩ : ∃ W3, (((((w2.setCell ⟨w.heap.size, 0, none⟩ (.int .i64 s.st)).setCell ⟨w.heap.size, 1, none⟩ (.int .i64 s.nx)).setCell ⟨w.heap.size, 2, none⟩ (.bool s.ca)).setCell ⟨w.heap.size, 3, none⟩ (.int .i64 s.dn)).setCell ⟨w.heap.size, 4, none⟩ (.slice a3 s.sg.length c3)).setCell ⟨w.heap.size, 5, none⟩ (.slice a4 s.tm.length c4) = W3 := ⟨_, rfl⟩
  have HVB := hide (VB.copy HA2.out hAL hbig W3 hW3)
  have HW3 := hide hW3
  clear hW3 hb hAL HA1 hbig e0 e1 e2 e3 d0 d1 d2 d3 d4 d5
  obtain ⟨e0, e1, e2, e3⟩ := HA2.out.eb.ev
  simp only at e0 e1 e2 e3
  obtain ⟨⟨d0, d1, d2, d3, d4, d5⟩, f0, f1, f2, f3, f4, f5⟩ := HA2.out.sb.hex
  have HBG := hide (show BP b (GoodSt ⟨2, s.nx + 1, s.ca, s.dn, s.sg, []⟩) from HB.out)
  clear HB
  obtain ⟨W5, hW5⟩ : ∃ W5, ((W3.setCell ⟨w.heap.size, 0, none⟩ (.int .i64 2)).setCell ⟨w.heap.size, 5, none⟩ (.slice none 0 0)).setCell ⟨w.heap.size, 1, none⟩ (.int .i64 (s.nx + 1)) = W5 := ⟨_, rfl⟩
  have HV5 := hide (show VB w W5 ⟨2, s.nx + 1, s.ca, s.dn, s.sg, []⟩ ⟨I, V, 6, x⟩ (.slice a3 s.sg.length c3) (.slice none 0 0) from by rw [← hW5]; exact ((HVB.out.set0 2).nil5).set1 (s.nx + 1))
  have HW5 := hide hW5
  clear hW5
  go_upto_region 22 with fail
  rw [HW3.out, HW5.out]
  clear HW3 HW5 HVB HA2 d0 d1 d2 d3 d4 d5 f0 f1 f2 f3 f4 f5 e0 e1 e2 e3
  have HVD := hide (HV5.out.down (Below.refl W5.heap.size W5).drew)
  have HCC := hide (show ∀ wy, Below W5.drew.heap.size W5.drew wy → (wy.cell? ⟨w.heap.size, 0, none⟩ = some (.int .i64 (⟨2, s.nx + 1, s.ca, s.dn, s.sg, []⟩ : St).st) ∧ wy.cell? ⟨w.heap.size, 1, none⟩ = some (.int .i64 (⟨2, s.nx + 1, s.ca, s.dn, s.sg, []⟩ : St).nx) ∧ wy.cell? ⟨w.heap.size, 2, none⟩ = some (.bool (⟨2, s.nx + 1, s.ca, s.dn, s.sg, []⟩ : St).ca) ∧ wy.cell? ⟨w.heap.size, 3, none⟩ = some (.int .i64 (⟨2, s.nx + 1, s.ca, s.dn, s.sg, []⟩ : St).dn) ∧ wy.cell? ⟨w.heap.size, 4, none⟩ = some (.slice a3 s.sg.length c3) ∧ wy.cell? ⟨w.heap.size, 5, none⟩ = some (.slice none 0 0)) ∧ (wy.cell? ⟨w.heap.size + 1 + 1, 0, none⟩ = some (.int .i64 0) ∧ wy.cell? ⟨w.heap.size + 1 + 1, 1, none⟩ = some (.int .i64 0) ∧ wy.cell? ⟨w.heap.size + 1 + 1, 2, none⟩ = some (.bool false) ∧ wy.cell? ⟨w.heap.size + 1 + 1, 3, none⟩ = some (.int .i64 0) ∧ wy.cell? ⟨w.heap.size + 1 + 1, 4, none⟩ = some (.slice none 0 0) ∧ wy.cell? ⟨w.heap.size + 1 + 1, 5, none⟩ = some (.slice none 0 0)) ∧ wy.frozen? ⟨w.heap.size + 1 + 1, 0, none⟩ = false ∧ wy.frozen? ⟨w.heap.size + 1 + 1, 1, none⟩ = false ∧ wy.frozen? ⟨w.heap.size + 1 + 1, 2, none⟩ = false ∧ wy.frozen? ⟨w.heap.size + 1 + 1, 3, none⟩ = false ∧ wy.frozen? ⟨w.heap.size + 1 + 1, 4, none⟩ = false ∧ wy.frozen? ⟨w.heap.size + 1 + 1, 5, none⟩ = false from fun wy hb => by
    have h := HVD.out.down hb
    exact ⟨h.m.box.hex.1, h.rb.hex.1, h.rb.hex.2⟩)
  have HFin := hide (show ∀ wy, Below W5.drew.heap.size W5.drew wy → ∀ WZ, (((((wy.setCell ⟨w.heap.size + 1 + 1, 0, none⟩ (.int .i64 (⟨2, s.nx + 1, s.ca, s.dn, s.sg, []⟩ : St).st)).setCell ⟨w.heap.size + 1 + 1, 1, none⟩ (.int .i64 (⟨2, s.nx + 1, s.ca, s.dn, s.sg, []⟩ : St).nx)).setCell ⟨w.heap.size + 1 + 1, 2, none⟩ (.bool (⟨2, s.nx + 1, s.ca, s.dn, s.sg, []⟩ : St).ca)).setCell ⟨w.heap.size + 1 + 1, 3, none⟩ (.int .i64 (⟨2, s.nx + 1, s.ca, s.dn, s.sg, []⟩ : St).dn)).setCell ⟨w.heap.size + 1 + 1, 4, none⟩ (.slice a3 s.sg.length c3)).setCell ⟨w.heap.size + 1 + 1, 5, none⟩ (.slice none 0 0) = WZ → Blk WZ (w.heap.size + 1 + 1) 6 (sq (.slice a3 s.sg.length c3) (.slice none 0 0) ⟨2, s.nx + 1, s.ca, s.dn, s.sg, []⟩) 60 ∧ L12 w WZ (.returned (.tuple #[stv (.slice a3 s.sg.length c3) (.slice none 0 0) ⟨2, s.nx + 1, s.ca, s.dn, s.sg, []⟩, .bool b])) s ⟨2, s.nx + 1, s.ca, s.dn, s.sg, []⟩ b ∧ Below w.heap.size w WZ from fun wy hb =>
    (HVD.out.down hb).fin ⟨fun _ => rfl, fun hf => .inr ⟨rfl, fun hh => (by have := HBG.out.2 hh; rw [hf] at this; cases this)⟩⟩)
  obtain ⟨⟨d0, d1, d2, d3, d4, d5⟩, -⟩ := HV5.out.m.box.hex
  obtain ⟨⟨r0, r1, r2, r3, r4, r5⟩, t0, t1, t2, t3, t4, t5⟩ := HV5.out.rb.hex
  simp only at d0 d1 d2 d3
  clear HV5
  go_region_with (go_at_call 149; refine (spec_goodSt _ _ (⟨2, s.nx + 1, s.ca, s.dn, s.sg, []⟩ : St) b _ HVD.out.m.c (show ShortT _ from ⟨HSH.out.1, Nat.zero_le _⟩) (show NmT _ from ⟨nm12 HSG.out, fun y hy => (by cases hy)⟩) HBG.out).mono ?_; rintro e9 w9 ⟨rfl, hb9⟩; obtain ⟨⟨m0, m1, m2, m3, m4, m5⟩, ⟨q0, q1, q2, q3, q4, q5⟩, y0, y1, y2, y3, y4, y5⟩ := HCC.out w9 hb9; simp only at m0 m1 m2 m3)
  all_goals
    obtain ⟨WZ, hWZ⟩ : ∃ WZ, (((((w9.setCell ⟨w.heap.size + 1 + 1, 0, none⟩ (.int .i64 (⟨2, s.nx + 1, s.ca, s.dn, s.sg, []⟩ : St).st)).setCell ⟨w.heap.size + 1 + 1, 1, none⟩ (.int .i64 (⟨2, s.nx + 1, s.ca, s.dn, s.sg, []⟩ : St).nx)).setCell ⟨w.heap.size + 1 + 1, 2, none⟩ (.bool (⟨2, s.nx + 1, s.ca, s.dn, s.sg, []⟩ : St).ca)).setCell ⟨w.heap.size + 1 + 1, 3, none⟩ (.int .i64 (⟨2, s.nx + 1, s.ca, s.dn, s.sg, []⟩ : St).dn)).setCell ⟨w.heap.size + 1 + 1, 4, none⟩ (.slice a3 s.sg.length c3)).setCell ⟨w.heap.size + 1 + 1, 5, none⟩ (.slice none 0 0) = WZ := ⟨_, rfl⟩
    have HZZ := hide (HFin.out w9 hb9 WZ hWZ)
    simp only at hWZ
    have HWZ := hide hWZ
    clear hWZ HFin HCC hb9 HVD d0 d1 d2 d3 d4 d5 r0 r1 r2 r3 r4 r5 t0 t1 t2 t3 t4 t5
    go_wp2
    rw [HWZ.out]
    clear m0 m1 m2 m3 m4 m5 q0 q1 q2 q3 q4 q5 y0 y1 y2 y3 y4 y5
    obtain ⟨⟨r0, r1, r2, r3, r4, r5⟩, -⟩ := HZZ.out.1.hex
    simp only at r0 r1 r2 r3
    exact bodyPost_ret (v := .tuple #[stv (.slice a3 s.sg.length c3) (.slice none 0 0) ⟨2, s.nx + 1, s.ca, s.dn, s.sg, []⟩, .bool b]) (by simp [results, Tryz.results101, go_sem, r0, r1, r2, r3, r4, r5]) rfl HZZ.out.2
end Go.Proofs.YtfkeokglifpkoaaGreatDoor

/-
  The specification's l12Apply at whatever event, and its ApplyEvent.
-/
namespace Go.Proofs.YtfkeokglifpkoaaGreatDoor
open Go.RowKit M
open Clk (upd upd_same upd_other)
open Go.Sort (grow)
theorem spec_l12 (v0 v1 : Value) (s : St) (e : Ev) (b : Bool) (w : World) (hv : StC w v0 v1 s) (hg : GoodSt s) (hen : e.name.size ≤ maxLen) (hb : BP b (May s e)) :
    Calls Tryz.prog 101 #[stv v0 v1 s, ev e.id e.ver e.kind e.name] w fun e' w' => L12 w w' e' s (raw s e) b ∧ Below w.heap.size w w' := by
  by_cases h : e.gd = true ∧ e.id = s.nx ∧ s.st = (if e.kind = 1 then 0 else 1)
  case neg =>
    obtain rfl : b = false := hb.no (fun hm => h ⟨hm.1, hm.2.1, hm.2.2.1⟩)
    exact l12_no v0 v1 s (raw s e) e w hv hg hen h
  obtain ⟨h1, h2, h3⟩ := h
  have hb' : BP b ((e.kind = 5 → s.ca = false) ∧ GoodSt (raw s e)) := ⟨fun q => (hb.1 q).2.2.2, fun q => hb.2 ⟨h1, h2, h3, q⟩⟩
  clear hb
  obtain ⟨-, -, hk, -⟩ := gd_parts h1
  obtain ⟨I, V, k, x⟩ := e
  simp only at *
  rcases (show k = 1 ∨ k = 2 ∨ k = 3 ∨ k = 4 ∨ k = 5 ∨ k = 6 by omega) with rfl | rfl | rfl | rfl | rfl | rfl
  · exact l12_1 v0 v1 s I V x b w hv hg h1 h2 h3 ⟨fun q => (hb'.1 q).2, fun q => hb'.2 ⟨fun c => absurd c (by simp), q⟩⟩
  · exact l12_2 v0 v1 s I V x b w hv hg h1 h2 h3 ⟨fun q => (hb'.1 q).2, fun q => hb'.2 ⟨fun c => absurd c (by simp), q⟩⟩
  · exact l12_3 v0 v1 s I V x b w hv hg h1 h2 h3 ⟨fun q => (hb'.1 q).2, fun q => hb'.2 ⟨fun c => absurd c (by simp), q⟩⟩
  · exact l12_4 v0 v1 s I V x b w hv hg h1 h2 h3 ⟨fun q => (hb'.1 q).2, fun q => hb'.2 ⟨fun c => absurd c (by simp), q⟩⟩
  · exact l12_5 v0 v1 s I V x b w hv hg h1 h2 h3 ⟨fun q => ⟨(hb'.1 q).1 rfl, (hb'.1 q).2⟩, fun q => hb'.2 ⟨fun _ => q.1, q.2⟩⟩
  · exact l12_6 v0 v1 s I V x b w hv hg h1 h2 h3 ⟨fun q => (hb'.1 q).2, fun q => hb'.2 ⟨fun c => absurd c (by simp), q⟩⟩
namespace M
theorem ApA.down {w W W' : World} {e' : Ending} {r : St} {b : Bool} (h : ApA w W e' r b) (hb : Below W.heap.size W W') : ApA w W' e' r b := by
  obtain ⟨u0, u1, he, hA⟩ := h
  exact ⟨u0, u1, he, (hA.down hb).mono (Nat.le_refl _) hb.size⟩
end M
end Go.Proofs.YtfkeokglifpkoaaGreatDoor

/-
  NewState in both texts, and its law, walked: it returns true and turns nothing that was there.
-/
namespace Go.Proofs.YtfkeokglifpkoaaGreatDoor
open Go.RowKit M
open Clk (upd upd_same upd_other)
namespace M
abbrev nil2 : Value := .slice none 0 0
theorem ans0 (w : World) (lo hi : Nat) : AnsL w lo hi nil2 nil2 [] [] := ⟨OwnT.nil _ _, OwnT.nil _ _, fun g h => (by cases h), fun g h => (by cases h), fun g h => (by cases h)⟩
end M
theorem spec_new (w : World) : Calls Tryz.prog 123 #[] w fun e w' => e = .returned (stv nil2 nil2 st0) ∧ Below w.heap.size w w' := by
  have hb := (Below.refl w.heap.size w).alloc (Nat.le_refl _) (.cells #[.int .i64 0, .int .i64 1, .bool false, .int .i64 0, .slice none 0 0, .slice none 0 0] 60)
  go_enter Tryz.func123, Tryz.ntmps123
  go_wp2
  exact bodyPost_ret (v := stv nil2 nil2 st0) (by simp [results, Tryz.results123, go_sem, st0]) rfl ⟨rfl, hb⟩
theorem impl_new (w : World) : Calls Tryz.prog 125 #[] w fun e w' => e = .returned (stv nil2 nil2 st0) ∧ Below w.heap.size w w' := by
  have hb := (Below.refl w.heap.size w).alloc (Nat.le_refl _) (.cells #[.int .i64 0, .int .i64 1, .bool false, .int .i64 0, .slice none 0 0, .slice none 0 0] 60)
  go_enter Tryz.func125, Tryz.ntmps125
  go_wp2
  exact bodyPost_ret (v := stv nil2 nil2 st0) (by simp [results, Tryz.results125, go_sem, st0]) rfl ⟨rfl, hb⟩
end Go.Proofs.YtfkeokglifpkoaaGreatDoor

/-
  What a fold over events keeps: the box of the state that events have made, and that of the answer.
-/
namespace Go.Proofs.YtfkeokglifpkoaaGreatDoor
open Go.RowKit M
open Clk (upd upd_same upd_other)
open Go.Sort (grow)
namespace M
structure FB (w W : World) (g : Nat) (s : St) (u0 u1 : Value) : Prop where
  low : Below w.heap.size w W
  m : SM W w.heap.size g u0 u1 s
  rb : Blk W w.heap.size 6 (q6 (.int .i64 0) (.int .i64 0) (.bool false) (.int .i64 0) (.slice none 0 0) (.slice none 0 0)) 60
  ne : w.heap.size < g
theorem FB.down {w W W' : World} {g : Nat} {s : St} {u0 u1 : Value} (h : FB w W g s u0 u1) (hb : Below W.heap.size W W') : FB w W' g s u0 u1 :=
  ⟨h.low.trans (hb.mono h.low.size), h.m.down hb, h.rb.down hb, h.ne⟩
/-- Another state is stored into the box. -/
theorem FB.put {w W : World} {g : Nat} {s s' : St} {u0 u1 y0 y1 : Value} (h : FB w W g s u0 u1) (ha : AnsL W w.heap.size W.heap.size y0 y1 s'.sg s'.tm) :
    ∀ WZ, (((((W.setCell ⟨g, 0, none⟩ (.int .i64 s'.st)).setCell ⟨g, 1, none⟩ (.int .i64 s'.nx)).setCell ⟨g, 2, none⟩ (.bool s'.ca)).setCell ⟨g, 3, none⟩ (.int .i64 s'.dn)).setCell ⟨g, 4, none⟩ y0).setCell ⟨g, 5, none⟩ y1 = WZ → FB w WZ g s' y0 y1 := by
  intro WZ hWZ
  obtain ⟨k1, k2, k3⟩ := put6 h.m.box h.low h.m.lo _ _ _ _ _ _ WZ hWZ
  have n0 := ha.o0.ne_blk h.m.box (by decide)
  have n1 := ha.o1.ne_blk h.m.box (by decide)
  exact ⟨k2, ⟨k1, ha.o0.other k3 (fun q hq e => n0 (by rw [hq, e])), ha.o1.other k3 (fun q hq e => n1 (by rw [hq, e])), ha.ap, h.m.lo⟩, h.rb.gb k3 (fun e => by have := h.ne; simp only [Option.some.injEq] at e; omega), h.ne⟩
/-- What a fold answers: the state that the first k events make, and k; just k of them may come. -/
def FoA (w w' : World) (e' : Ending) (es : List Ev) (k : Nat) : Prop := ∃ u0 u1, e' = .returned (.tuple #[stv u0 u1 (sk es k), .int .i64 (k : Int)]) ∧ AnsL w' w.heap.size w'.heap.size u0 u1 (sk es k).sg (sk es k).tm
theorem FB.fin {w W : World} {g : Nat} {s : St} {u0 u1 : Value} (h : FB w W g s u0 u1) :
    ∀ WZ, (((((W.setCell ⟨w.heap.size, 0, none⟩ (.int .i64 s.st)).setCell ⟨w.heap.size, 1, none⟩ (.int .i64 s.nx)).setCell ⟨w.heap.size, 2, none⟩ (.bool s.ca)).setCell ⟨w.heap.size, 3, none⟩ (.int .i64 s.dn)).setCell ⟨w.heap.size, 4, none⟩ u0).setCell ⟨w.heap.size, 5, none⟩ u1 = WZ →
    Blk WZ w.heap.size 6 (sq u0 u1 s) 60 ∧ AnsL WZ w.heap.size WZ.heap.size u0 u1 s.sg s.tm ∧ Below w.heap.size w WZ := by
  intro WZ hWZ
  obtain ⟨k1, k2, k3⟩ := put6 h.rb h.low (Nat.le_refl _) _ _ _ _ _ _ WZ hWZ
  have n0 := h.m.o0.ne_blk h.rb (by decide)
  have n1 := h.m.o1.ne_blk h.rb (by decide)
  exact ⟨k1, AnsL.of (h.m.o0.other k3 (fun q hq e => n0 (by rw [hq, e]))) (h.m.o1.other k3 (fun q hq e => n1 (by rw [hq, e]))) h.m.ap, k2⟩
theorem good_short {s : St} (h : GoodSt s) : ShortT s ∧ NmT s := ⟨⟨by have := h.2.2.1.1; omega, by have := h.2.2.2.1.1; omega⟩, nm12 h.2.2.1, nm12 h.2.2.2.1⟩
end M
end Go.Proofs.YtfkeokglifpkoaaGreatDoor
