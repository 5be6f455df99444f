/-
  The specification's l9Step: the next one is done, or fails.
-/
import Derived.Test.YtmpedadjikmnhaaSgZ
import Derived.Deep.RegionHeld
import Derived.Deep.RegionHeld3
import Derived.Deep.Cut
import Derived.Deep.RegionWith
namespace Go.Proofs.Ytmpedadjikmnhaa
open Go.RowKit M
open Clk (upd upd_same upd_other)
open Go.Sort (grow)
set_option maxRecDepth 20000 in
set_option maxHeartbeats 4000000 in
theorem step_do (v0 v1 : Value) (s : Sg) (B : Nat) (w : World) (hv : AnsS w B v0 v1 s) (hB : B ≤ w.heap.size) (hg : GoodS s) (hc : canD s) :
    Calls Try.prog 55 #[sgv v0 v1 s] w fun e w' => StpA B s true e w' ∧ Below w.heap.size w w' := by
  obtain ⟨a0, c0, rfl⟩ := hv.q.1.form
  obtain ⟨hun, hdp⟩ := hc
  have hd0 := hg.dn0
  have hn20 := hg.nm
  have hna8 := hg.na8
  obtain ⟨d, hdd⟩ : ∃ d : Nat, s.dn = (d : Int) := ⟨s.dn.toNat, by omega⟩
  have hdn : d < s.nm := by omega
  have hm := hg.mv d hdn
  have hac := hg.acc
  obtain ⟨b1, hb1⟩ : ∃ x, decide (fit s.fa (s.fm d)) = x := ⟨_, rfl⟩
  have hst1 : b1 = true → stepS s = { s with fa := shf s.fa (s.fm d), dn := (d : Int) + 1 } := fun h => by
    rw [← hb1, decide_eq_true_eq] at h
    unfold stepS doS
    rw [if_neg (by simp [hun]), show s.dn.toNat = d by omega, if_pos h, hdd]
  have hst2 : b1 = false → stepS s = { s with un := true } := fun h => by
    rw [← hb1, decide_eq_false_iff_not] at h
    unfold stepS failS
    rw [if_neg (by simp [hun]), show s.dn.toNat = d by omega, if_neg h]
  obtain ⟨na, fa, nm, fm, dn, un⟩ := s
  simp only at *
  subst hun; subst hdd
  obtain ⟨a1, c1, e1, hr⟩ := hv.q.2.row
  subst e1
  obtain ⟨bb, off, rfl, hbb, hrow⟩ := hr (show 0 < nm by omega)
  have hX := bx3_new w B (.slice a0 na c0) (.slice (some ⟨bb, off, none⟩) nm c1) (.int .i64 (d : Int)) (.bool false) ⟨na, fa, nm, fm, (d : Int), false⟩ hv
  obtain ⟨W, hW⟩ : ∃ W, (w.alloc (.cells #[.slice a0 na c0, .slice (some ⟨bb, off, none⟩) nm c1, .int .i64 (d : Int), .bool false] 27)).alloc (.cells #[.slice none 0 0, .slice none 0 0, .int .i64 0, .bool false] 27) = W := ⟨_, rfl⟩
  rw [hW] at hX
  have HW := hide hW
  have HX := hide hX
  have HS1 := hide hst1
  have HS2 := hide hst2
  have HROW := hide hrow
  have hd20 : (d : Int) ≤ 20 := by omega
  have hnz : ((d : Int) == (nm : Int)) = false := beq_eq_false_iff_ne.2 (by omega)
  clear hW hv hg hX hst1 hst2 hr hrow
  go_enter Try.func55, Try.ntmps55
  go_wp2_with (refine stop_at (some 6) rfl (Bx3 w B (.slice a0 na c0) (.slice (some ⟨bb, off, none⟩) nm c1) (.int .i64 (d : Int)) (.bool false) ⟨na, fa, nm, fm, (d : Int), false⟩) (by rw [HW.out]; exact HX) ?_)
  rintro W5 HX2
  obtain ⟨⟨d0, d1, d2, d3⟩, g0, g1, g2, g3⟩ := HX2.1.quad
  have HX5 := hide HX2
  clear HX2 HX HW
  go_upto_region 9 with fail
  clear d0 d1 d2 d3 g0 g1 g2 g3 hnz
  obtain ⟨hb5, hk0⟩ : Below w.heap.size w W5 ∧ Below W5.heap.size W5 W5.drew := ⟨HX5.out.2.2.2, (Below.refl _ _).drew⟩
  have HK := hide (show ∀ X, Below W5.heap.size W5 X → (X.cell? ⟨w.heap.size, 0, none⟩ = some (.slice a0 na c0) ∧ X.cell? ⟨w.heap.size, 1, none⟩ = some (.slice (some ⟨bb, off, none⟩) nm c1) ∧ X.cell? ⟨w.heap.size, 2, none⟩ = some (.int .i64 (d : Int)) ∧ X.cell? ⟨bb, off + d * 3, none⟩ = some (.int .i64 (fm d).f) ∧ X.cell? ⟨bb, off + d * 3 + 1, none⟩ = some (.int .i64 (fm d).t) ∧ X.cell? ⟨bb, off + d * 3 + 2, none⟩ = some (.int .i64 (fm d).m)) from fun X hX => by
    obtain ⟨⟨p0, p1, p2, p3⟩, pz⟩ := (HX5.out.1.down hX).quad
    obtain ⟨r0, r1, r2⟩ := HROW.out d hdn
    have hbX := hb5.trans (hX.mono hb5.size)
    exact ⟨p0, p1, p2, (hbX.cell (p := ⟨bb, off + d * 3, none⟩) hbb).trans r0, (hbX.cell (p := ⟨bb, off + d * 3 + 1, none⟩) hbb).trans r1, (hbX.cell (p := ⟨bb, off + d * 3 + 2, none⟩) hbb).trans r2⟩)
  have HDo := hide (show ∀ X, Below W5.heap.size W5 X → Calls Try.prog 49 #[.slice a0 na c0, .agg #[.int .i64 (fm d).f, .int .i64 (fm d).t, .int .i64 (fm d).m]] X fun e w' => (∃ u, e = .returned (.tuple #[u, .bool b1]) ∧ OwnI w' B w'.heap.size u na (shf fa (fm d))) ∧ Below W5.heap.size W5 w' from fun X hX => (l9do_is (fm d) _ na fa b1 X hm ((HX5.out.2.2.1.q.1).below hX) hac hna8 hb1).mono fun e w' ⟨⟨u, h1, h2⟩, h3⟩ => ⟨⟨u, h1, h2.mono (by have := hb5.size; have := hX.size; omega) (Nat.le_refl _)⟩, hX.trans (h3.mono hX.size)⟩)
  have hi0 : (0 : Int) ≤ (d : Int) := by omega
  have hi1 : (d : Int) < (nm : Int) := by omega
  clear HROW hm hac hb1 hdp hd0
  generalize shf fa (fm d) = fy at *
  generalize fm d = m at *
  go_cut [4, 5] from 38 (fun x y wx => ∃ (aU : Option Addr) (cU : Nat), x = .slice aU na cU ∧ y = .bool b1 ∧ Hid (Bx3 w B (.slice a0 na c0) (.slice (some ⟨bb, off, none⟩) nm c1) (.int .i64 (d : Int)) (.bool false) ⟨na, fa, nm, fm, (d : Int), false⟩ wx ∧ OwnI wx B wx.heap.size (.slice aU na cU) na fy))
  case first =>
    go_region_held (fun X => X.cell? ⟨w.heap.size, 0, none⟩ = some (.slice a0 na c0) ∧ X.cell? ⟨w.heap.size, 1, none⟩ = some (.slice (some ⟨bb, off, none⟩) nm c1) ∧ X.cell? ⟨w.heap.size, 2, none⟩ = some (.int .i64 (d : Int)) ∧ X.cell? ⟨bb, off + d * 3, none⟩ = some (.int .i64 m.f) ∧ X.cell? ⟨bb, off + d * 3 + 1, none⟩ = some (.int .i64 m.t) ∧ X.cell? ⟨bb, off + d * 3 + 2, none⟩ = some (.int .i64 m.m)) (first | exact HK.out _ hk2 | exact HK.out _ hk0) (first | (go_at_call 49; refine Calls.mono (HDo.out _ hk0) ?_; rintro e w7 ⟨⟨u, rfl, hu⟩, hk2⟩; obtain ⟨aU, cU, rfl⟩ := hu.ints.form))
    all_goals
      have HF := hide (And.intro (HX5.out.down hk2) hu)
      clear hu hk2 HK HDo hk0 HX5
      go_wp2_with fail
      go_meet
      exact ⟨aU, cU, rfl, rfl, HF⟩
  case rest =>
    rename World => w8
    obtain ⟨aU, cU, rfl, rfl, H8⟩ := hcut
    clear HK HDo hk0 HX5
    obtain ⟨⟨d0, d1, d2, d3⟩, g0, g1, g2, g3⟩ := H8.out.1.1.quad
    cases b1 with
    | false =>
      have HF := hide (H8.out.1.set3 (.bool true))
      clear H8
      go_wp2_with (refine stop_at (some 53) rfl (Bx3 w B (.slice a0 na c0) (.slice (some ⟨bb, off, none⟩) nm c1) (.int .i64 (d : Int)) (.bool true) ⟨na, fa, nm, fm, (d : Int), false⟩) HF ?_)
      rintro w9 h9
      clear d0 d1 d2 d3 g0 g1 g2 g3 HF
      obtain ⟨⟨d0, d1, d2, d3⟩, g0, g1, g2, g3⟩ := h9.1.quad
      obtain ⟨⟨e0, e1, e2, e3⟩, h0, h1, h2, h3⟩ := h9.2.1.quad
      obtain ⟨WZ, hWZ⟩ : ∃ WZ, (((w9.setCell ⟨w.heap.size + 1, 0, none⟩ (.slice a0 na c0)).setCell ⟨w.heap.size + 1, 1, none⟩ (.slice (some ⟨bb, off, none⟩) nm c1)).setCell ⟨w.heap.size + 1, 2, none⟩ (.int .i64 (d : Int))).setCell ⟨w.heap.size + 1, 3, none⟩ (.bool true) = WZ := ⟨_, rfl⟩
      have HZ := hide (h9.out WZ hWZ)
      have HWZ := hide hWZ
      clear hWZ h9
      go_wp2
      rw [HWZ.out]
      clear d0 d1 d2 d3 g0 g1 g2 g3 e0 e1 e2 e3 h0 h1 h2 h3
      obtain ⟨⟨e0, e1, e2, e3⟩, -⟩ := HZ.out.1.quad
      exact bodyPost_ret (v := .tuple #[.agg #[.slice a0 na c0, .slice (some ⟨bb, off, none⟩) nm c1, .int .i64 (d : Int), .bool true], .bool true]) (by simp [results, Try.results55, go_sem, e0, e1, e2, e3]) rfl ⟨⟨.slice a0 na c0, .slice (some ⟨bb, off, none⟩) nm c1, ⟨na, fa, nm, fm, (d : Int), true⟩, rfl, HZ.out.2.1, fun _ => (HS2.out (by trivial)).symm, fun h => Bool.noConfusion h⟩, HZ.out.2.2⟩
    | true =>
      have HF := hide (H8.out.1.set0 H8.out.2)
      clear H8
      go_wp2_with (refine stop_at (some 56) rfl (Bx3 w B (.slice aU na cU) (.slice (some ⟨bb, off, none⟩) nm c1) (.int .i64 (d : Int)) (.bool false) ⟨na, fy, nm, fm, (d : Int), false⟩) HF ?_)
      rintro w9 h9
      have HF9 := hide (h9.set2 (.int .i64 ((d : Int) + 1)))
      clear d0 d1 d2 d3 g0 g1 g2 g3 HF
      obtain ⟨⟨d0, d1, d2, d3⟩, g0, g1, g2, g3⟩ := h9.1.quad
      clear h9
      go_wp2_with (refine stop_at (some 60) rfl (Bx3 w B (.slice aU na cU) (.slice (some ⟨bb, off, none⟩) nm c1) (.int .i64 ((d : Int) + 1)) (.bool false) ⟨na, fy, nm, fm, (d : Int), false⟩) HF9 ?_)
      rintro w10 h10
      clear d0 d1 d2 d3 g0 g1 g2 g3 HF9
      obtain ⟨⟨d0, d1, d2, d3⟩, g0, g1, g2, g3⟩ := h10.1.quad
      obtain ⟨⟨e0, e1, e2, e3⟩, h0, h1, h2, h3⟩ := h10.2.1.quad
      obtain ⟨WZ, hWZ⟩ : ∃ WZ, (((w10.setCell ⟨w.heap.size + 1, 0, none⟩ (.slice aU na cU)).setCell ⟨w.heap.size + 1, 1, none⟩ (.slice (some ⟨bb, off, none⟩) nm c1)).setCell ⟨w.heap.size + 1, 2, none⟩ (.int .i64 ((d : Int) + 1))).setCell ⟨w.heap.size + 1, 3, none⟩ (.bool false) = WZ := ⟨_, rfl⟩
      have HZ := hide (h10.out WZ hWZ)
      have HWZ := hide hWZ
      clear hWZ h10
      go_wp2
      rw [HWZ.out]
      clear d0 d1 d2 d3 g0 g1 g2 g3 e0 e1 e2 e3 h0 h1 h2 h3
      obtain ⟨⟨e0, e1, e2, e3⟩, -⟩ := HZ.out.1.quad
      exact bodyPost_ret (v := .tuple #[.agg #[.slice aU na cU, .slice (some ⟨bb, off, none⟩) nm c1, .int .i64 ((d : Int) + 1), .bool false], .bool true]) (by simp [results, Try.results55, go_sem, e0, e1, e2, e3]) rfl ⟨⟨.slice aU na cU, .slice (some ⟨bb, off, none⟩) nm c1, ⟨na, fy, nm, fm, (d : Int) + 1, false⟩, rfl, HZ.out.2.1, fun _ => (HS1.out (by trivial)).symm, fun h => Bool.noConfusion h⟩, HZ.out.2.2⟩
end Go.Proofs.Ytmpedadjikmnhaa
