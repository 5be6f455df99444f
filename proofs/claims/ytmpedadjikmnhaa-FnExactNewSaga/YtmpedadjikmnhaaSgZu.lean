/-
  The specification's l9Step: the last one is undone.
-/
import Derived.Test.YtmpedadjikmnhaaSgZ
import Derived.Deep.RegionHeld
import Derived.Deep.RegionHeld3
import Derived.Deep.Cut
import Derived.Deep.RegionWith
namespace Go.Proofs.Ytmpedadjikmnhaa
open Go.RowKit M
open Clk (upd upd_same upd_other)
open Go.Sort (grow)
set_option maxRecDepth 20000 in
set_option maxHeartbeats 4000000 in
theorem step_und (v0 v1 : Value) (s : Sg) (B : Nat) (w : World) (hv : AnsS w B v0 v1 s) (hB : B ≤ w.heap.size) (hg : GoodS s) (hc : s.un = true ∧ 0 < s.dn) :
    Calls Try.prog 55 #[sgv v0 v1 s] w fun e w' => StpA B s true e w' ∧ Below w.heap.size w w' := by
  obtain ⟨a0, c0, rfl⟩ := hv.q.1.form
  obtain ⟨hun, hdp⟩ := hc
  have hd1 := hg.dn1
  have hn20 := hg.nm
  have hna8 := hg.na8
  have hst : stepS s = undS s := by unfold stepS; rw [if_pos hun]
  obtain ⟨d, hdd⟩ : ∃ d : Nat, s.dn = ((d : Int) + 1) := ⟨s.dn.toNat - 1, by omega⟩
  have hdn : d < s.nm := by omega
  have hm := hg.mv d hdn
  have hac := hg.acc
  have hft : fit s.fa (bk (s.fm d)) := by
    have hu := hg.und
    rw [show s.dn.toNat = d + 1 by omega] at hu
    exact hu.1
  have hundS : undS s = { s with fa := shf s.fa (bk (s.fm d)), dn := (d : Int) } := by
    unfold undS; rw [show s.dn.toNat - 1 = d by omega, show s.dn - 1 = (d : Int) by omega]
  obtain ⟨na, fa, nm, fm, dn, un⟩ := s
  simp only at *
  subst hun; subst hdd
  obtain ⟨a1, c1, e1, hr⟩ := hv.q.2.row
  subst e1
  obtain ⟨bb, off, rfl, hbb, hrow⟩ := hr (show 0 < nm by omega)
  have hX := bx3_new w B (.slice a0 na c0) (.slice (some ⟨bb, off, none⟩) nm c1) (.int .i64 ((d : Int) + 1)) (.bool true) ⟨na, fa, nm, fm, (d : Int) + 1, true⟩ hv
  obtain ⟨W, hW⟩ : ∃ W, (w.alloc (.cells #[.slice a0 na c0, .slice (some ⟨bb, off, none⟩) nm c1, .int .i64 ((d : Int) + 1), .bool true] 27)).alloc (.cells #[.slice none 0 0, .slice none 0 0, .int .i64 0, .bool false] 27) = W := ⟨_, rfl⟩
  rw [hW] at hX
  have HW := hide hW
  have HX := hide hX
  have HSt := hide (hst.trans hundS)
  have HROW := hide hrow
  have hd20 : (d : Int) ≤ 20 := by omega
  have hnz : (((d : Int) + 1) == 0) = false := beq_eq_false_iff_ne.2 (by omega)
  clear hW hv hg hX hst hundS hr hrow
  go_enter Try.func55, Try.ntmps55
  go_wp2_with (refine stop_at (some 6) rfl (Bx3 w B (.slice a0 na c0) (.slice (some ⟨bb, off, none⟩) nm c1) (.int .i64 ((d : Int) + 1)) (.bool true) ⟨na, fa, nm, fm, (d : Int) + 1, true⟩) (by rw [HW.out]; exact HX) ?_)
  rintro w2 h2
  obtain ⟨⟨d0, d1, d2, d3⟩, g0, g1, g2, g3⟩ := h2.1.quad
  have HX2 := hide (h2.set2 (.int .i64 (d : Int)))
  clear h2 HX HW
  go_upto_region 5 with fail
  obtain ⟨W5, hW5⟩ : ∃ W5, w2.setCell ⟨w.heap.size, 2, none⟩ (.int .i64 (d : Int)) = W5 := ⟨_, rfl⟩
  rw [hW5] at HX2 ⊢
  clear d0 d1 d2 d3 g0 g1 g2 g3 hW5 hnz
  obtain ⟨hb5, hk0⟩ : Below w.heap.size w W5 ∧ Below W5.heap.size W5 W5.drew := ⟨HX2.out.2.2.2, (Below.refl _ _).drew⟩
  have HK := hide (show ∀ X, Below W5.heap.size W5 X → (X.cell? ⟨w.heap.size, 0, none⟩ = some (.slice a0 na c0) ∧ X.cell? ⟨w.heap.size, 1, none⟩ = some (.slice (some ⟨bb, off, none⟩) nm c1) ∧ X.cell? ⟨w.heap.size, 2, none⟩ = some (.int .i64 (d : Int)) ∧ X.cell? ⟨bb, off + d * 3, none⟩ = some (.int .i64 (fm d).f) ∧ X.cell? ⟨bb, off + d * 3 + 1, none⟩ = some (.int .i64 (fm d).t) ∧ X.cell? ⟨bb, off + d * 3 + 2, none⟩ = some (.int .i64 (fm d).m)) ∧ X.frozen? ⟨w.heap.size, 0, none⟩ = false from fun X hX => by
    obtain ⟨⟨p0, p1, p2, p3⟩, pz⟩ := (HX2.out.1.down hX).quad
    obtain ⟨r0, r1, r2⟩ := HROW.out d hdn
    have hbX := hb5.trans (hX.mono hb5.size)
    exact ⟨⟨p0, p1, p2, (hbX.cell (p := ⟨bb, off + d * 3, none⟩) hbb).trans r0, (hbX.cell (p := ⟨bb, off + d * 3 + 1, none⟩) hbb).trans r1, (hbX.cell (p := ⟨bb, off + d * 3 + 2, none⟩) hbb).trans r2⟩, pz.1⟩)
  have HBk := hide (show ∀ X, Below W5.heap.size W5 X → Calls Try.prog 50 #[.agg #[.int .i64 (fm d).f, .int .i64 (fm d).t, .int .i64 (fm d).m]] X fun e w' => e = .returned (mvv (bk (fm d))) ∧ Below W5.heap.size W5 w' from fun X hX => (l9back_is (fm d) X).mono fun e w' ⟨h1, h2⟩ => ⟨h1, hX.trans (h2.mono hX.size)⟩)
  have HDo := hide (show ∀ X, Below W5.heap.size W5 X → Calls Try.prog 49 #[.slice a0 na c0, mvv (bk (fm d))] X fun e w' => (∃ u, e = .returned (.tuple #[u, .bool true]) ∧ OwnI w' B w'.heap.size u na (shf fa (bk (fm d)))) ∧ Below W5.heap.size W5 w' from fun X hX => (l9do_is (bk (fm d)) _ na fa true X (GM.back hm) ((HX2.out.2.2.1.q.1).below hX) hac hna8 (by rw [decide_eq_true_eq]; exact hft)).mono fun e w' ⟨⟨u, h1, h2⟩, h3⟩ => ⟨⟨u, h1, h2.mono (by have := hb5.size; have := hX.size; omega) (Nat.le_refl _)⟩, hX.trans (h3.mono hX.size)⟩)
  have HX5 := hide HX2.out
  have hi0 : (0 : Int) ≤ (d : Int) := by omega
  have hi1 : (d : Int) < (nm : Int) := by omega
  clear HX2 HROW hm hac hft hdp hd1
  generalize shf fa (bk (fm d)) = fy at *
  generalize bk (fm d) = mb at *
  generalize fm d = m at *
  obtain ⟨⟨p0, p1, p2, p3, p4, p5⟩, pz⟩ := HK.out _ (Below.refl _ W5)
  go_cut [16] from 16 (fun _ wx => ∃ (aU : Option Addr) (cU : Nat), Hid (Bx3 w B (.slice aU na cU) (.slice (some ⟨bb, off, none⟩) nm c1) (.int .i64 (d : Int)) (.bool true) ⟨na, fy, nm, fm, (d : Int) + 1, true⟩ wx))
  case first =>
    go_region_with (first
      | (go_at_call 50; refine Calls.mono (HBk.out _ hk0) ?_; rintro e w6 ⟨rfl, hk1⟩; obtain ⟨⟨q0, q1, q2, q3, q4, q5⟩, qz⟩ := HK.out _ hk1)
      | (go_at_call 49; refine Calls.mono (HDo.out _ hk1) ?_; rintro e w7 ⟨⟨u, rfl, hu⟩, hk2⟩; obtain ⟨aU, cU, rfl⟩ := hu.ints.form; obtain ⟨⟨z0, z1, z2, z3, z4, z5⟩, zz⟩ := HK.out _ hk2))
    all_goals
      have HF := hide ((HX5.out.down hk2).set0 hu)
      clear hu hk1 hk2 q0 q1 q2 q3 q4 q5 qz z0 z1 z2 z3 z4 z5 zz p0 p1 p2 p3 p4 p5 pz HK HBk HDo hk0 HX5
      go_wp2_with fail
      go_meet
      exact ⟨aU, cU, HF⟩
  case rest =>
    rename World => w8
    obtain ⟨aU, cU, H8⟩ := hcut
    clear p0 p1 p2 p3 p4 p5 pz HK HBk HDo hk0 HX5
    have h8 := H8.out
    obtain ⟨⟨d0, d1, d2, d3⟩, g0, g1, g2, g3⟩ := h8.1.quad
    obtain ⟨⟨e0, e1, e2, e3⟩, h0, h1, h2, h3⟩ := h8.2.1.quad
    obtain ⟨WZ, hWZ⟩ : ∃ WZ, (((w8.setCell ⟨w.heap.size + 1, 0, none⟩ (.slice aU na cU)).setCell ⟨w.heap.size + 1, 1, none⟩ (.slice (some ⟨bb, off, none⟩) nm c1)).setCell ⟨w.heap.size + 1, 2, none⟩ (.int .i64 (d : Int))).setCell ⟨w.heap.size + 1, 3, none⟩ (.bool true) = WZ := ⟨_, rfl⟩
    have HZ := hide (h8.out WZ hWZ)
    have HWZ := hide hWZ
    clear hWZ h8 H8
    go_wp2
    rw [HWZ.out]
    clear d0 d1 d2 d3 g0 g1 g2 g3 e0 e1 e2 e3 h0 h1 h2 h3
    obtain ⟨⟨e0, e1, e2, e3⟩, -⟩ := HZ.out.1.quad
    exact bodyPost_ret (v := .tuple #[.agg #[.slice aU na cU, .slice (some ⟨bb, off, none⟩) nm c1, .int .i64 (d : Int), .bool true], .bool true]) (by simp [results, Try.results55, go_sem, e0, e1, e2, e3]) rfl ⟨⟨.slice aU na cU, .slice (some ⟨bb, off, none⟩) nm c1, ⟨na, fy, nm, fm, (d : Int), true⟩, rfl, HZ.out.2.1, fun _ => HSt.out.symm, fun h => Bool.noConfusion h⟩, HZ.out.2.2⟩
end Go.Proofs.Ytmpedadjikmnhaa
