/-
  A good saga is copied: the program's goodCopy and the specification's l9Own.
-/
import Derived.Test.YtmpedadjikmnhaaSgT
import Derived.Test.YtmpedadjikmnhaaSgH
namespace Go.Proofs.Ytmpedadjikmnhaa
open Go.RowKit M
open Clk (upd upd_same upd_other)
open Go.Sort (grow)
namespace M
def zeroS : Sg := ⟨0, fun _ => 0, 0, fun _ => ⟨0, 0, 0⟩, 0, false⟩
abbrev AnsS (w : World) (B : Nat) (v0 v1 : Value) (s : Sg) : Prop := AnsQ w B w.heap.size v0 v1 s.na s.fa s.nm (fl s.fm)
theorem ans_zero (w : World) (B : Nat) : AnsS w B (.slice none 0 0) (.slice none 0 0) zeroS := ⟨⟨_, _, rfl, fun h => absurd h (Nat.lt_irrefl _)⟩, ⟨_, _, rfl, Nat.le_refl _, fun h => absurd h (Nat.lt_irrefl _)⟩⟩
theorem OwnI.mono {w : World} {B B' hi hi' n : Nat} {v : Value} {f : Nat → Int} (h : OwnI w B hi v n f) (hB : B' ≤ B) (hh : hi ≤ hi') : OwnI w B' hi' v n f := by
  obtain ⟨a, cap, rfl, hr⟩ := h
  refine ⟨a, cap, rfl, fun hn => ?_⟩
  obtain ⟨b, c, ha, h1, h2, ho⟩ := hr hn
  exact ⟨b, c, ha, by omega, by omega, ho⟩
theorem OwnV.mono {w : World} {B B' hi hi' n : Nat} {v : Value} {f : Nat → Int} (h : OwnV w B hi v n f) (hB : B' ≤ B) (hh : hi ≤ hi') : OwnV w B' hi' v n f := by
  obtain ⟨a, cap, rfl, hle, hr⟩ := h
  refine ⟨a, cap, rfl, hle, fun hn => ?_⟩
  obtain ⟨b, c, ha, h1, h2, ho⟩ := hr hn
  exact ⟨b, c, ha, by omega, by omega, ho⟩
theorem AnsQ.mono {w : World} {B B' hi hi' : Nat} {v0 v1 : Value} {na : Nat} {fa : Nat → Int} {nm : Nat} {fq : Nat → Int} (h : AnsQ w B hi v0 v1 na fa nm fq) (hB : B' ≤ B) (hh : hi ≤ hi') : AnsQ w B' hi' v0 v1 na fa nm fq := ⟨h.1.mono hB hh, h.2.mono hB hh⟩
theorem OwnI.setS {w : World} {B hi n : Nat} {v : Value} {f : Nat → Int} (h : OwnI w B hi v n f) {g m : Nat} {k : Nat → Value} (hg : Blk w g m k 27) (i : Nat) (x : Value) : OwnI (w.setCell ⟨g, i, none⟩ x) B hi v n f := by
  obtain ⟨a, cap, rfl, hr⟩ := h
  refine ⟨a, cap, rfl, fun hn => ?_⟩
  obtain ⟨b, c, ha, h1, h2, hc, k', hb, he⟩ := hr hn
  exact ⟨b, c, ha, h1, h2, hc, k', hb.set_other (hb.apart hg (by decide)) _ _, he⟩
theorem AnsQ.setS {w : World} {B hi : Nat} {v0 v1 : Value} {na : Nat} {fa : Nat → Int} {nm : Nat} {fq : Nat → Int} (h : AnsQ w B hi v0 v1 na fa nm fq) {g m : Nat} {k : Nat → Value} (hg : Blk w g m k 27) (i : Nat) (x : Value) : AnsQ (w.setCell ⟨g, i, none⟩ x) B hi v0 v1 na fa nm fq := ⟨h.1.setS hg i x, h.2.set hg (by decide) i x⟩
/-- What the answers of both texts look like. -/
def Out (B : Nat) (r : Sg) (b : Bool) (e : Ending) (w : World) : Prop := ∃ u0 u1, e = .returned (.tuple #[sgv u0 u1 r, .bool b]) ∧ AnsS w B u0 u1 r
end M
set_option maxRecDepth 20000 in
set_option maxHeartbeats 4000000 in
theorem good_copy (v0 v1 : Value) (s : Sg) (b : Bool) (w : World) (hv : SagC w v0 v1 s.na s.fa s.nm (fl s.fm)) (hs : ShortS s.na s.nm) (hb : b = true ↔ GoodS s) :
    Calls Try.prog 42 #[sgv v0 v1 s] w fun e w' => Out w.heap.size (if b = true then s else zeroS) b e w' ∧ Below w.heap.size w w' := by
  have HV := hide hv
  have HS := hide hs
  have HB := hide hb
  obtain ⟨a0, c0, rfl⟩ := hv.1.1.form
  obtain ⟨a1, c1, rfl⟩ := hv.1.2.form
  clear hv hs hb
  obtain ⟨na, fa, nm, fm, dn, un⟩ := s
  simp only at *
  obtain ⟨W, hW⟩ : ∃ W, (w.alloc (.cells #[.slice a0 na c0, .slice a1 nm c1, .int .i64 dn, .bool un] 27)).alloc (.cells #[.slice none 0 0, .slice none 0 0, .int .i64 0, .bool false] 27) = W := ⟨_, rfl⟩
  have HD0 := hide (show Blk W w.heap.size 4 (p4 (.slice a0 na c0) (.slice a1 nm c1) (.int .i64 dn) (.bool un)) 27 from by subst hW; exact (new4 w _ _ _ _ _).alloc _)
  have HE0 := hide (show Blk W (w.heap.size + 1) 4 (p4 (.slice none 0 0) (.slice none 0 0) (.int .i64 0) (.bool false)) 27 from by subst hW; have := new4 (w.alloc (.cells #[.slice a0 na c0, .slice a1 nm c1, .int .i64 dn, .bool un] 27)) (.slice none 0 0) (.slice none 0 0) (.int .i64 0) (.bool false) 27; rw [World.size_alloc] at this; exact this)
  have hb0 : Below w.heap.size w W := by subst hW; exact ((Below.refl _ w).alloc (Nat.le_refl _) _).alloc (by simp) _
  have HWW := hide hW
  clear hW
  go_enter Try.func42, Try.ntmps42
  go_wp2_with fail
  rw [HWW.out]
  clear HWW
  refine (impl_good _ _ ⟨na, fa, nm, fm, dn, un⟩ b _ (HV.out.below hb0) HS.out HB.out).mono ?_
  rintro e w1 ⟨rfl, hb⟩
  have hb1 := hb0.trans (hb.mono hb0.size)
  have HD1 := hide (HD0.out.down hb)
  have HE1 := hide (HE0.out.down hb)
  clear hb hb0 HD0 HE0 HB
  obtain ⟨⟨d0, d1, d2, d3⟩, g0, g1, g2, g3⟩ := HD1.out.quad
  obtain ⟨⟨e0, e1, e2, e3⟩, h0, h1, h2, h3⟩ := HE1.out.quad
  cases b with
  | false =>
    obtain ⟨WZ, hWZ⟩ : ∃ WZ, (((w1.setCell ⟨w.heap.size + 1, 0, none⟩ (.slice none 0 0)).setCell ⟨w.heap.size + 1, 1, none⟩ (.slice none 0 0)).setCell ⟨w.heap.size + 1, 2, none⟩ (.int .i64 0)).setCell ⟨w.heap.size + 1, 3, none⟩ (.bool false) = WZ := ⟨_, rfl⟩
    have HZ := hide (show Blk WZ (w.heap.size + 1) 4 (p4 (.slice none 0 0) (.slice none 0 0) (.int .i64 0) (.bool false)) 27 ∧ Below w.heap.size w WZ from by
      rw [← hWZ]
      exact ⟨(((HE1.out.quad0 _).quad1 _).quad2 _).quad3 _, (((hb1.setCell (p := ⟨w.heap.size + 1, 0, none⟩) (show w.heap.size ≤ w.heap.size + 1 by omega) _).setCell (p := ⟨w.heap.size + 1, 1, none⟩) (show w.heap.size ≤ w.heap.size + 1 by omega) _).setCell (p := ⟨w.heap.size + 1, 2, none⟩) (show w.heap.size ≤ w.heap.size + 1 by omega) _).setCell (p := ⟨w.heap.size + 1, 3, none⟩) (show w.heap.size ≤ w.heap.size + 1 by omega) _⟩)
    have HWZ := hide hWZ
    clear HV HS HD1 HE1 hWZ hb1
    go_wp2
    rw [HWZ.out]
    clear d0 d1 d2 d3 g0 g1 g2 g3 e0 e1 e2 e3 h0 h1 h2 h3
    obtain ⟨⟨e0, e1, e2, e3⟩, -⟩ := HZ.out.1.quad
    exact bodyPost_ret (v := .tuple #[.agg #[.slice none 0 0, .slice none 0 0, .int .i64 0, .bool false], .bool false]) (by simp [results, Try.results42, go_sem, e0, e1, e2, e3]) rfl ⟨⟨_, _, rfl, ans_zero _ _⟩, HZ.out.2⟩
  | true =>
    have hsz1 : w.heap.size + 1 < w1.heap.size := HE1.out.lt
    go_wp2_with fail
    refine (clone_ints _ na fa _ (HV.out.1.1.below hb1) (by have := HS.out.1; exact this)).mono ?_
    rintro e w2 ⟨⟨u0, rfl, hu⟩, hb⟩
    have hU := own_I hu
    obtain ⟨aU, cU, rfl⟩ := hU.ints.form
    have hb2 := hb1.trans (hb.mono hb1.size)
    have HD2 := hide (HD1.out.down hb)
    have HE2 := hide (HE1.out.down hb)
    have hsz2 := hb.size
    clear hb hb1 HD1 HE1 hu d0 d1 d2 d3 g0 g1 g2 g3 e0 e1 e2 e3 h0 h1 h2 h3
    obtain ⟨⟨d0, d1, d2, d3⟩, g0, g1, g2, g3⟩ := HD2.out.quad
    obtain ⟨⟨e0, e1, e2, e3⟩, h0, h1, h2, h3⟩ := HE2.out.quad
    go_wp2_with fail
    obtain ⟨W3, hW3⟩ : ∃ W3, w2.setCell ⟨w.heap.size, 0, none⟩ (.slice aU na cU) = W3 := ⟨_, rfl⟩
    rw [hW3]
    have hb3 : Below w.heap.size w W3 := by rw [← hW3]; exact hb2.setCell (p := ⟨w.heap.size, 0, none⟩) (Nat.le_refl _) _
    have HU3 := hide (show OwnI W3 w.heap.size W3.heap.size (.slice aU na cU) na fa from by rw [← hW3]; exact (hU.setS HD2.out 0 _).mono (by omega) (by simp))
    have HD3 := hide (show Blk W3 w.heap.size 4 (p4 (.slice aU na cU) (.slice a1 nm c1) (.int .i64 dn) (.bool un)) 27 from by rw [← hW3]; exact HD2.out.quad0 _)
    have HE3 := hide (show Blk W3 (w.heap.size + 1) 4 (p4 (.slice none 0 0) (.slice none 0 0) (.int .i64 0) (.bool false)) 27 from by rw [← hW3]; exact HE2.out.set_other (by omega) _ _)
    have hsz3 : w.heap.size + 1 < W3.heap.size := HE3.out.lt
    clear hW3 hU HD2 HE2 hb2 d0 d1 d2 d3 g0 g1 g2 g3 e0 e1 e2 e3 h0 h1 h2 h3
    obtain ⟨⟨d0, d1, d2, d3⟩, g0, g1, g2, g3⟩ := HD3.out.quad
    refine (clone_moves _ nm (fl fm) _ (HV.out.1.2.below hb3) (by have := HS.out.2; exact this)).mono ?_
    rintro e w4 ⟨⟨u1, rfl, hu⟩, hb⟩
    have hX := own_V hu
    obtain ⟨aX, cX, rfl⟩ := hX.moves.form
    have hb4 := hb3.trans (hb.mono hb3.size)
    have HD4 := hide (HD3.out.down hb)
    have HE4 := hide (HE3.out.down hb)
    have HU4 := hide ((HU3.out.down hb).mono (Nat.le_refl _) hb.size)
    have hX4 := hX.mono (show w.heap.size ≤ W3.heap.size by omega) (Nat.le_refl _)
    clear hb hb3 HD3 HE3 HU3 hu d0 d1 d2 d3 g0 g1 g2 g3 hX
    obtain ⟨⟨d0, d1, d2, d3⟩, g0, g1, g2, g3⟩ := HD4.out.quad
    obtain ⟨⟨e0, e1, e2, e3⟩, h0, h1, h2, h3⟩ := HE4.out.quad
    obtain ⟨WZ, hWZ⟩ : ∃ WZ, ((((w4.setCell ⟨w.heap.size, 1, none⟩ (.slice aX nm cX)).setCell ⟨w.heap.size + 1, 0, none⟩ (.slice aU na cU)).setCell ⟨w.heap.size + 1, 1, none⟩ (.slice aX nm cX)).setCell ⟨w.heap.size + 1, 2, none⟩ (.int .i64 dn)).setCell ⟨w.heap.size + 1, 3, none⟩ (.bool un) = WZ := ⟨_, rfl⟩
    have HZ := hide (show Blk WZ (w.heap.size + 1) 4 (p4 (.slice aU na cU) (.slice aX nm cX) (.int .i64 dn) (.bool un)) 27 ∧ Below w.heap.size w WZ ∧ AnsQ WZ w.heap.size WZ.heap.size (.slice aU na cU) (.slice aX nm cX) na fa nm (fl fm) from by
      rw [← hWZ]
      have k1 := HE4.out.set_other (show w.heap.size + 1 ≠ w.heap.size by omega) 1 (.slice aX nm cX)
      refine ⟨(((k1.quad0 _).quad1 _).quad2 _).quad3 _, ((((hb4.setCell (p := ⟨w.heap.size, 1, none⟩) (Nat.le_refl _) _).setCell (p := ⟨w.heap.size + 1, 0, none⟩) (show w.heap.size ≤ w.heap.size + 1 by omega) _).setCell (p := ⟨w.heap.size + 1, 1, none⟩) (show w.heap.size ≤ w.heap.size + 1 by omega) _).setCell (p := ⟨w.heap.size + 1, 2, none⟩) (show w.heap.size ≤ w.heap.size + 1 by omega) _).setCell (p := ⟨w.heap.size + 1, 3, none⟩) (show w.heap.size ≤ w.heap.size + 1 by omega) _, ?_⟩
      have hA : AnsQ w4 w.heap.size w4.heap.size (.slice aU na cU) (.slice aX nm cX) na fa nm (fl fm) := ⟨HU4.out, hX4⟩
      have := ((((hA.setS HD4.out 1 (.slice aX nm cX)).setS k1 0 (.slice aU na cU)).setS (k1.quad0 _) 1 (.slice aX nm cX)).setS ((k1.quad0 _).quad1 _) 2 (.int .i64 dn)).setS (((k1.quad0 _).quad1 _).quad2 _) 3 (.bool un)
      exact this.mono (Nat.le_refl _) (by simp))
    have HWZ := hide hWZ
    clear HU4 hX4 HD4 HE4 hWZ hb4 HV HS hsz1 hsz2 hsz3
    go_wp2
    rw [HWZ.out]
    clear d0 d1 d2 d3 g0 g1 g2 g3 e0 e1 e2 e3 h0 h1 h2 h3
    obtain ⟨⟨e0, e1, e2, e3⟩, -⟩ := HZ.out.1.quad
    exact bodyPost_ret (v := .tuple #[.agg #[.slice aU na cU, .slice aX nm cX, .int .i64 dn, .bool un], .bool true]) (by simp [results, Try.results42, go_sem, e0, e1, e2, e3]) rfl ⟨⟨_, _, rfl, HZ.out.2.2⟩, HZ.out.2.1⟩
end Go.Proofs.Ytmpedadjikmnhaa
