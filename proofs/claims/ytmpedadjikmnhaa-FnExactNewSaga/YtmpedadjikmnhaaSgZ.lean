/-
  The specification's l9Step: where nothing can be stepped.
-/
import Derived.Test.YtmpedadjikmnhaaSgYf
import Derived.Deep.RegionHeld
import Derived.Deep.RegionHeld3
namespace Go.Proofs.Ytmpedadjikmnhaa
open Go.RowKit M
open Clk (upd upd_same upd_other)
open Go.Sort (grow)
namespace M
/-- A saga in its box, its lists the call's own from block B on, and the cell of the result. -/
def Bx3 (w : World) (B : Nat) (x0 x1 x2 x3 : Value) (s : Sg) (W : World) : Prop :=
  Blk W w.heap.size 4 (p4 x0 x1 x2 x3) 27 ∧ Blk W (w.heap.size + 1) 4 (p4 (.slice none 0 0) (.slice none 0 0) (.int .i64 0) (.bool false)) 27 ∧ AnsS W B x0 x1 s ∧ Below w.heap.size w W
theorem Bx3.down {w W W' : World} {B : Nat} {x0 x1 x2 x3 : Value} {s : Sg} (h : Bx3 w B x0 x1 x2 x3 s W) (hb : Below W.heap.size W W') : Bx3 w B x0 x1 x2 x3 s W' :=
  ⟨h.1.down hb, h.2.1.down hb, (h.2.2.1.down hb).mono (Nat.le_refl _) hb.size, h.2.2.2.trans (hb.mono h.2.2.2.size)⟩
theorem Bx3.set2 {w W : World} {B : Nat} {x0 x1 x2 x3 : Value} {s : Sg} (h : Bx3 w B x0 x1 x2 x3 s W) (u : Value) : Bx3 w B x0 x1 u x3 s (W.setCell ⟨w.heap.size, 2, none⟩ u) :=
  ⟨h.1.quad2 _, h.2.1.set_other (by omega) _ _, (h.2.2.1.setS h.1 2 u).mono (Nat.le_refl _) (by simp), h.2.2.2.setCell (p := ⟨w.heap.size, 2, none⟩) (Nat.le_refl _) _⟩
theorem Bx3.set3 {w W : World} {B : Nat} {x0 x1 x2 x3 : Value} {s : Sg} (h : Bx3 w B x0 x1 x2 x3 s W) (u : Value) : Bx3 w B x0 x1 x2 u s (W.setCell ⟨w.heap.size, 3, none⟩ u) :=
  ⟨h.1.quad3 _, h.2.1.set_other (by omega) _ _, (h.2.2.1.setS h.1 3 u).mono (Nat.le_refl _) (by simp), h.2.2.2.setCell (p := ⟨w.heap.size, 3, none⟩) (Nat.le_refl _) _⟩
/-- Accounts in a new row. -/
theorem Bx3.set0 {w W : World} {B : Nat} {x0 x1 x2 x3 : Value} {s : Sg} (h : Bx3 w B x0 x1 x2 x3 s W) {u : Value} {f : Nat → Int} (hu : OwnI W B W.heap.size u s.na f) : Bx3 w B u x1 x2 x3 { s with fa := f } (W.setCell ⟨w.heap.size, 0, none⟩ u) :=
  ⟨h.1.quad0 _, h.2.1.set_other (by omega) _ _, ⟨(hu.setS h.1 0 u).mono (Nat.le_refl _) (by simp), (h.2.2.1.2.set h.1 (by decide) 0 u).mono (Nat.le_refl _) (by simp)⟩, h.2.2.2.setCell (p := ⟨w.heap.size, 0, none⟩) (Nat.le_refl _) _⟩
/-- The saga is put into the result's cell. -/
theorem Bx3.out {w W : World} {B : Nat} {x0 x1 x2 x3 : Value} {s : Sg} (h : Bx3 w B x0 x1 x2 x3 s W) : ∀ WZ, (((W.setCell ⟨w.heap.size + 1, 0, none⟩ x0).setCell ⟨w.heap.size + 1, 1, none⟩ x1).setCell ⟨w.heap.size + 1, 2, none⟩ x2).setCell ⟨w.heap.size + 1, 3, none⟩ x3 = WZ → Blk WZ (w.heap.size + 1) 4 (p4 x0 x1 x2 x3) 27 ∧ AnsS WZ B x0 x1 s ∧ Below w.heap.size w WZ := by
  intro WZ hWZ
  have hz := put4 h.2.1 h.2.2.2 (by omega) x0 x1 x2 x3 WZ hWZ
  exact ⟨hz.1, (hz.2.2.2.1 h.2.2.1).mono (Nat.le_refl _) (by rw [hz.2.2.1]; exact Nat.le_refl _), hz.2.1⟩
theorem bx3_new (w : World) (B : Nat) (x0 x1 x2 x3 : Value) (s : Sg) (h : AnsS w B x0 x1 s) : Bx3 w B x0 x1 x2 x3 s ((w.alloc (.cells #[x0, x1, x2, x3] 27)).alloc (.cells #[.slice none 0 0, .slice none 0 0, .int .i64 0, .bool false] 27)) := by
  have hdn := (Below.refl w.heap.size w).alloc (Nat.le_refl _) (.cells #[x0, x1, x2, x3] 27)
  have hdn2 := hdn.alloc (by simp) (.cells #[.slice none 0 0, .slice none 0 0, .int .i64 0, .bool false] 27)
  refine ⟨(new4 w _ _ _ _ _).alloc _, ?_, (h.down hdn2).mono (Nat.le_refl _) (by simp; omega), hdn2⟩
  have := new4 (w.alloc (.cells #[x0, x1, x2, x3] 27)) (.slice none 0 0) (.slice none 0 0) (.int .i64 0) (.bool false) 27
  rw [World.size_alloc] at this; exact this
/-- What l9Step answers: whether it could, and then the saga that was stepped. -/
def StpA (B : Nat) (s : Sg) (b : Bool) (e : Ending) (w : World) : Prop := ∃ u0 u1 r, e = .returned (.tuple #[sgv u0 u1 r, .bool b]) ∧ AnsS w B u0 u1 r ∧ (b = true → r = stepS s) ∧ (b = false → r = s)
end M
set_option maxRecDepth 20000 in
set_option maxHeartbeats 2000000 in
theorem step_none (v0 v1 : Value) (s : Sg) (B : Nat) (w : World) (hv : AnsS w B v0 v1 s) (hg : GoodS s) (hc : ¬ canS s) :
    Calls Try.prog 55 #[sgv v0 v1 s] w fun e w' => StpA B s false e w' ∧ Below w.heap.size w w' := by
  obtain ⟨a0, c0, rfl⟩ := hv.q.1.form
  obtain ⟨a1, c1, rfl⟩ := hv.q.2.form
  have hd0 := hg.dn0
  have hd1 := hg.dn1
  obtain ⟨na, fa, nm, fm, dn, un⟩ := s
  simp only at *
  have hX := bx3_new w B (.slice a0 na c0) (.slice a1 nm c1) (.int .i64 dn) (.bool un) ⟨na, fa, nm, fm, dn, un⟩ hv
  obtain ⟨W, hW⟩ : ∃ W, (w.alloc (.cells #[.slice a0 na c0, .slice a1 nm c1, .int .i64 dn, .bool un] 27)).alloc (.cells #[.slice none 0 0, .slice none 0 0, .int .i64 0, .bool false] 27) = W := ⟨_, rfl⟩
  rw [hW] at hX
  have HW := hide hW
  have HX := hide hX
  clear hW hv hg hX
  cases un with
  | true =>
    have hdz : dn = 0 := by
      rcases Int.lt_or_le 0 dn with h | h
      · exact absurd (.inr ⟨rfl, h⟩) hc
      · omega
    subst hdz
    clear hc
    go_enter Try.func55, Try.ntmps55
    go_wp2_with (refine stop_at (some 6) rfl (Bx3 w B (.slice a0 na c0) (.slice a1 nm c1) (.int .i64 0) (.bool true) ⟨na, fa, nm, fm, 0, true⟩) (by rw [HW.out]; exact HX) ?_)
    rintro w2 h2
    obtain ⟨⟨d0, d1, d2, d3⟩, g0, g1, g2, g3⟩ := h2.1.quad
    obtain ⟨⟨e0, e1, e2, e3⟩, h0, h1, hh2, h3⟩ := h2.2.1.quad
    obtain ⟨WZ, hWZ⟩ : ∃ WZ, (((w2.setCell ⟨w.heap.size + 1, 0, none⟩ (.slice a0 na c0)).setCell ⟨w.heap.size + 1, 1, none⟩ (.slice a1 nm c1)).setCell ⟨w.heap.size + 1, 2, none⟩ (.int .i64 0)).setCell ⟨w.heap.size + 1, 3, none⟩ (.bool true) = WZ := ⟨_, rfl⟩
    have HZ := hide (h2.out WZ hWZ)
    have HWZ := hide hWZ
    clear hWZ h2 HX HW
    go_wp2
    rw [HWZ.out]
    clear d0 d1 d2 d3 g0 g1 g2 g3 e0 e1 e2 e3 h0 h1 hh2 h3
    obtain ⟨⟨e0, e1, e2, e3⟩, -⟩ := HZ.out.1.quad
    exact bodyPost_ret (v := .tuple #[.agg #[.slice a0 na c0, .slice a1 nm c1, .int .i64 0, .bool true], .bool false]) (by simp [results, Try.results55, go_sem, e0, e1, e2, e3]) rfl ⟨⟨.slice a0 na c0, .slice a1 nm c1, ⟨na, fa, nm, fm, 0, true⟩, rfl, HZ.out.2.1, fun h => Bool.noConfusion h, fun _ => rfl⟩, HZ.out.2.2⟩
  | false =>
    have hdz : dn = (nm : Int) := by
      rcases Int.lt_or_le dn nm with h | h
      · exact absurd (.inl ⟨rfl, h⟩) hc
      · omega
    subst hdz
    clear hc
    have hbe : ((nm : Int) == (nm : Int)) = true := by simp
    go_enter Try.func55, Try.ntmps55
    go_wp2_with (refine stop_at (some 6) rfl (Bx3 w B (.slice a0 na c0) (.slice a1 nm c1) (.int .i64 (nm : Int)) (.bool false) ⟨na, fa, nm, fm, (nm : Int), false⟩) (by rw [HW.out]; exact HX) ?_)
    rintro w2 h2
    obtain ⟨⟨d0, d1, d2, d3⟩, g0, g1, g2, g3⟩ := h2.1.quad
    obtain ⟨⟨e0, e1, e2, e3⟩, h0, h1, hh2, h3⟩ := h2.2.1.quad
    obtain ⟨WZ, hWZ⟩ : ∃ WZ, (((w2.setCell ⟨w.heap.size + 1, 0, none⟩ (.slice a0 na c0)).setCell ⟨w.heap.size + 1, 1, none⟩ (.slice a1 nm c1)).setCell ⟨w.heap.size + 1, 2, none⟩ (.int .i64 (nm : Int))).setCell ⟨w.heap.size + 1, 3, none⟩ (.bool false) = WZ := ⟨_, rfl⟩
    have HZ := hide (h2.out WZ hWZ)
    have HWZ := hide hWZ
    clear hWZ h2 HX HW
    go_wp2
    rw [HWZ.out]
    clear d0 d1 d2 d3 g0 g1 g2 g3 e0 e1 e2 e3 h0 h1 hh2 h3
    obtain ⟨⟨e0, e1, e2, e3⟩, -⟩ := HZ.out.1.quad
    exact bodyPost_ret (v := .tuple #[.agg #[.slice a0 na c0, .slice a1 nm c1, .int .i64 (nm : Int), .bool false], .bool false]) (by simp [results, Try.results55, go_sem, e0, e1, e2, e3]) rfl ⟨⟨.slice a0 na c0, .slice a1 nm c1, ⟨na, fa, nm, fm, (nm : Int), false⟩, rfl, HZ.out.2.1, fun h => Bool.noConfusion h, fun _ => rfl⟩, HZ.out.2.2⟩
end Go.Proofs.Ytmpedadjikmnhaa
