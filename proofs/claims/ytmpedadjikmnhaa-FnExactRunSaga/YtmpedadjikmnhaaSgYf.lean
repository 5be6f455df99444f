/-
  The specification's FailSaga.
-/
import Derived.Test.YtmpedadjikmnhaaSgW
namespace Go.Proofs.Ytmpedadjikmnhaa
open Go.RowKit M
open Clk (upd upd_same upd_other)
open Go.Sort (grow)
namespace M
/-- The walk stands still ahead of the operation that fills slot d; what is known of the world is R. -/
theorem stop_at {P : Program} {ops : Array Oper} {Q : Exit → Act → World → Prop} {o : Oper} {rest : List Oper} {a : Act} {w : World} (d : Option Nat) (_ : o.dst = d) (R : World → Prop) (hw : Hid (R w)) (h : ∀ w', R w' → wpList P ops Q (o :: rest) a w') : wpList P ops Q (o :: rest) a w := h w hw.out
/-- A saga of the specification's own in its box, and the cell of the result. -/
def Bx2 (w : World) (x0 x1 x2 x3 y0 y1 y2 y3 : Value) (s : Sg) (W : World) : Prop :=
  Blk W w.heap.size 4 (p4 x0 x1 x2 x3) 27 ∧ Blk W (w.heap.size + 1) 4 (p4 y0 y1 y2 y3) 27 ∧ AnsS W w.heap.size x0 x1 s ∧ Below w.heap.size w W
theorem Bx2.put {w W : World} {x0 x1 x2 x3 y0 y1 y2 y3 : Value} {s : Sg} (h : Blk W w.heap.size 4 (p4 x0 x1 x2 x3) 27 ∧ Blk W (w.heap.size + 1) 4 (p4 y0 y1 y2 y3) 27 ∧ Below w.heap.size w W) {u0 u1 : Value} (hA : AnsS W w.heap.size u0 u1 s) (u2 u3 : Value) : Bx2 w u0 u1 u2 u3 y0 y1 y2 y3 s ((((W.setCell ⟨w.heap.size, 0, none⟩ u0).setCell ⟨w.heap.size, 1, none⟩ u1).setCell ⟨w.heap.size, 2, none⟩ u2).setCell ⟨w.heap.size, 3, none⟩ u3) := by
  have hz := put4 h.1 h.2.2 (Nat.le_refl _) u0 u1 u2 u3 _ rfl
  exact ⟨hz.1, hz.2.2.2.2 (by omega) h.2.1, (hz.2.2.2.1 hA).mono (Nat.le_refl _) (by rw [hz.2.2.1]; exact Nat.le_refl _), hz.2.1⟩
theorem Bx2.set3 {w W : World} {x0 x1 x2 x3 y0 y1 y2 y3 : Value} {s : Sg} (h : Bx2 w x0 x1 x2 x3 y0 y1 y2 y3 s W) (u : Value) : Bx2 w x0 x1 x2 u y0 y1 y2 y3 s (W.setCell ⟨w.heap.size, 3, none⟩ u) :=
  ⟨h.1.quad3 _, h.2.1.set_other (by omega) _ _, (h.2.2.1.setS h.1 3 u).mono (Nat.le_refl _) (by simp), h.2.2.2.setCell (p := ⟨w.heap.size, 3, none⟩) (Nat.le_refl _) _⟩
end M
open Classical in
set_option maxRecDepth 20000 in
set_option maxHeartbeats 2000000 in
theorem spec_fail (v0 v1 : Value) (s : Sg) (b : Bool) (w : World) (hv : SagQ w v0 v1 s.na s.fa s.nm (fl s.fm)) (hs : ShortS s.na s.nm) (hb : b = true ↔ GoodS s ∧ canD s) (r : Sg) (hr : (if b = true then failS s else zeroS) = r) :
    Calls Try.prog 29 #[sgv v0 v1 s] w fun e w' => Out w.heap.size r b e w' ∧ Below w.heap.size w w' := by
  have HV := hide hv
  have HS := hide hs
  have HB := hide hb
  have HRr := hide hr
  obtain ⟨bg, hbg⟩ : ∃ x, decide (GoodS s) = x := ⟨_, rfl⟩
  have HBG := hide (show bg = true ↔ GoodS s by rw [← hbg, decide_eq_true_eq])
  obtain ⟨a0, c0, rfl⟩ := hv.1.form
  obtain ⟨a1, c1, rfl⟩ := hv.2.form
  clear hv hs hb hr hbg
  obtain ⟨W, hW⟩ : ∃ W, (w.alloc (.cells #[.slice a0 s.na c0, .slice a1 s.nm c1, .int .i64 s.dn, .bool s.un] 27)).alloc (.cells #[.slice none 0 0, .slice none 0 0, .int .i64 0, .bool false] 27) = W := ⟨_, rfl⟩
  have HD0 := hide (show Blk W w.heap.size 4 (p4 (.slice a0 s.na c0) (.slice a1 s.nm c1) (.int .i64 s.dn) (.bool s.un)) 27 from by subst hW; exact (new4 w _ _ _ _ _).alloc _)
  have HE0 := hide (show Blk W (w.heap.size + 1) 4 (p4 (.slice none 0 0) (.slice none 0 0) (.int .i64 0) (.bool false)) 27 from by subst hW; have := new4 (w.alloc (.cells #[.slice a0 s.na c0, .slice a1 s.nm c1, .int .i64 s.dn, .bool s.un] 27)) (.slice none 0 0) (.slice none 0 0) (.int .i64 0) (.bool false) 27; rw [World.size_alloc] at this; exact this)
  have hb0 : Below w.heap.size w W := by subst hW; exact ((Below.refl _ w).alloc (Nat.le_refl _) _).alloc (by simp) _
  have HWW := hide hW
  clear hW
  go_enter Try.func29, Try.ntmps29
  go_wp2_with fail
  rw [HWW.out]
  clear HWW
  refine (spec_good _ _ s bg _ (HV.out.below hb0) HS.out HBG.out).mono ?_
  rintro e w1 ⟨rfl, hb⟩
  have hb1 := hb0.trans (hb.mono hb0.size)
  have hE1 := HE0.out.down hb
  have hD1 := HD0.out.down hb
  clear hb hb0 HE0 HD0
  obtain ⟨⟨d0, d1, d2, d3⟩, g0, g1, g2, g3⟩ := hD1.quad
  obtain ⟨⟨e0, e1, e2, e3⟩, h0, h1, h2, h3⟩ := hE1.quad
  have HZero := hide (show b = false → ∀ WZ, (((w1.setCell ⟨w.heap.size + 1, 0, none⟩ (.slice none 0 0)).setCell ⟨w.heap.size + 1, 1, none⟩ (.slice none 0 0)).setCell ⟨w.heap.size + 1, 2, none⟩ (.int .i64 0)).setCell ⟨w.heap.size + 1, 3, none⟩ (.bool false) = WZ → Blk WZ (w.heap.size + 1) 4 (p4 (.slice none 0 0) (.slice none 0 0) (.int .i64 0) (.bool false)) 27 ∧ Out w.heap.size r b (.returned (.tuple #[.agg #[.slice none 0 0, .slice none 0 0, .int .i64 0, .bool false], .bool false])) WZ ∧ Below w.heap.size w WZ from fun hf WZ hWZ => by
    have hz := put4 hE1 hb1 (by omega) _ _ _ _ WZ hWZ
    have e1 := HRr.out
    rw [hf] at e1 ⊢
    rw [← e1]
    exact ⟨hz.1, ⟨_, _, rfl, ans_zero _ _⟩, hz.2.1⟩)
  obtain ⟨WZ, hWZ⟩ : ∃ WZ, (((w1.setCell ⟨w.heap.size + 1, 0, none⟩ (.slice none 0 0)).setCell ⟨w.heap.size + 1, 1, none⟩ (.slice none 0 0)).setCell ⟨w.heap.size + 1, 2, none⟩ (.int .i64 0)).setCell ⟨w.heap.size + 1, 3, none⟩ (.bool false) = WZ := ⟨_, rfl⟩
  have HWZ := hide hWZ
  clear hWZ
  cases bg with
  | false =>
    have hz := HZero.out (by rw [Bool.eq_false_iff]; intro h; have := HBG.out.2 (HB.out.1 h).1; cases this) WZ HWZ.out
    have HZ := hide hz
    clear HZero HV HS HB HBG hD1 hE1 hz hb1
    go_wp2
    rw [HWZ.out]
    clear e0 e1 e2 e3 h0 h1 h2 h3 d0 d1 d2 d3 g0 g1 g2 g3
    obtain ⟨⟨e0, e1, e2, e3⟩, -⟩ := HZ.out.1.quad
    exact bodyPost_ret (v := .tuple #[.agg #[.slice none 0 0, .slice none 0 0, .int .i64 0, .bool false], .bool false]) (by simp [results, Try.results29, go_sem, e0, e1, e2, e3]) rfl HZ.out.2
  | true =>
    have hg := HBG.out.1 (by trivial)
    by_cases hc : canD s
    · have HF := hide (show b = true from HB.out.2 ⟨hg, hc⟩)
      have hne : (s.dn == (s.nm : Int)) = false := by have := hc.2; simp; omega
      have HO := hide (l9own _ _ s _ (HV.out.below hb1) (short_good hg))
      have hun := hc.1
      have HD1 := hide hD1
      have HE1 := hide hE1
      clear HZero HV HS HB HBG hg hc hD1 hE1 HWZ
      obtain ⟨na, fa, nm, fm, dn, un⟩ := s
      simp only at *
      subst hun
      go_wp2_with fail
      refine HO.out.mono ?_
      rintro e w2 ⟨⟨u0, u1, rfl, hA⟩, hb⟩
      have hb2 := hb1.trans (hb.mono hb1.size)
      have hE2 := HE1.out.down hb
      have hD2 := HD1.out.down hb
      obtain ⟨a3, c3, rfl⟩ := hA.q.1.form
      obtain ⟨a4, c4, rfl⟩ := hA.q.2.form
      have hs1 := hb1.size
      clear hb hb1 HE1 HD1 HO d0 d1 d2 d3 g0 g1 g2 g3 e0 e1 e2 e3 h0 h1 h2 h3
      obtain ⟨⟨d0, d1, d2, d3⟩, g0, g1, g2, g3⟩ := hD2.quad
      obtain ⟨⟨e0, e1, e2, e3⟩, h0, h1, h2, h3⟩ := hE2.quad
      have HX := hide (Bx2.put ⟨hD2, hE2, hb2⟩ (hA.mono hs1 (Nat.le_refl _)) (.int .i64 dn) (.bool false))
      clear hE2 hD2 hb2 hA
      go_wp2_with (refine stop_at (some 22) rfl (Bx2 w (.slice a3 na c3) (.slice a4 nm c4) (.int .i64 dn) (.bool false) (.slice none 0 0) (.slice none 0 0) (.int .i64 0) (.bool false) ⟨na, fa, nm, fm, dn, false⟩) HX ?_)
      rintro w4 h4
      have HX4 := hide (h4.set3 (.bool true))
      clear d0 d1 d2 d3 g0 g1 g2 g3 e0 e1 e2 e3 h0 h1 h2 h3 HX
      obtain ⟨⟨d0, d1, d2, d3⟩, g0, g1, g2, g3⟩ := h4.1.quad
      clear h4
      go_wp2_with (refine stop_at (some 23) rfl (Bx2 w (.slice a3 na c3) (.slice a4 nm c4) (.int .i64 dn) (.bool true) (.slice none 0 0) (.slice none 0 0) (.int .i64 0) (.bool false) ⟨na, fa, nm, fm, dn, false⟩) HX4 ?_)
      rintro w5 h5
      clear d0 d1 d2 d3 g0 g1 g2 g3 HX4
      obtain ⟨⟨d0, d1, d2, d3⟩, g0, g1, g2, g3⟩ := h5.1.quad
      obtain ⟨⟨e0, e1, e2, e3⟩, h0, h1, h2, h3⟩ := h5.2.1.quad
      obtain ⟨WZ, hWZ⟩ : ∃ WZ, (((w5.setCell ⟨w.heap.size + 1, 0, none⟩ (.slice a3 na c3)).setCell ⟨w.heap.size + 1, 1, none⟩ (.slice a4 nm c4)).setCell ⟨w.heap.size + 1, 2, none⟩ (.int .i64 dn)).setCell ⟨w.heap.size + 1, 3, none⟩ (.bool true) = WZ := ⟨_, rfl⟩
      have HZ := hide (put4 h5.2.1 h5.2.2.2 (by omega) _ _ _ _ WZ hWZ)
      have HA := hide h5.2.2.1
      have HWZ := hide hWZ
      clear hWZ h5
      go_wp2
      rw [HWZ.out]
      clear d0 d1 d2 d3 g0 g1 g2 g3 e0 e1 e2 e3 h0 h1 h2 h3
      obtain ⟨⟨e0, e1, e2, e3⟩, -⟩ := HZ.out.1.quad
      exact bodyPost_ret (v := .tuple #[.agg #[.slice a3 na c3, .slice a4 nm c4, .int .i64 dn, .bool true], .bool true]) (by simp [results, Try.results29, go_sem, e0, e1, e2, e3]) rfl (by have e1 := HRr.out; rw [HF.out] at e1 ⊢; rw [if_pos (by trivial)] at e1; rw [← e1]; exact ⟨⟨_, _, rfl, (HZ.out.2.2.2.1 HA.out).mono (Nat.le_refl _) (by rw [HZ.out.2.2.1]; exact Nat.le_refl _)⟩, HZ.out.2.1⟩)
    · have hz := HZero.out (by rw [Bool.eq_false_iff]; intro h; exact hc (HB.out.1 h).2) WZ HWZ.out
      have HZ := hide hz
      have HC := hide hc
      have HDN := hide hg.dn1
      clear HZero HV HS HB HBG hD1 hE1 hz hb1 hg hc
      obtain ⟨na, fa, nm, fm, dn, un⟩ := s
      simp only at *
      cases un with
      | true =>
        go_wp2
        rw [HWZ.out]
        clear e0 e1 e2 e3 h0 h1 h2 h3 d0 d1 d2 d3 g0 g1 g2 g3
        obtain ⟨⟨e0, e1, e2, e3⟩, -⟩ := HZ.out.1.quad
        exact bodyPost_ret (v := .tuple #[.agg #[.slice none 0 0, .slice none 0 0, .int .i64 0, .bool false], .bool false]) (by simp [results, Try.results29, go_sem, e0, e1, e2, e3]) rfl HZ.out.2
      | false =>
        have heq : (dn == (nm : Int)) = true := by
          have h1 : dn ≤ (nm : Int) := HDN.out
          simp only [beq_iff_eq]
          rcases Int.lt_or_le dn (nm : Int) with h | h
          · exact absurd ⟨rfl, h⟩ HC.out
          · omega
        go_wp2
        rw [HWZ.out]
        clear e0 e1 e2 e3 h0 h1 h2 h3 d0 d1 d2 d3 g0 g1 g2 g3
        obtain ⟨⟨e0, e1, e2, e3⟩, -⟩ := HZ.out.1.quad
        exact bodyPost_ret (v := .tuple #[.agg #[.slice none 0 0, .slice none 0 0, .int .i64 0, .bool false], .bool false]) (by simp [results, Try.results29, go_sem, e0, e1, e2, e3]) rfl HZ.out.2
end Go.Proofs.Ytmpedadjikmnhaa
