/-
  UndoOf in both texts, and its law.
-/
import Derived.Test.YtmpedadjikmnhaaSgE
namespace Go.Proofs.Ytmpedadjikmnhaa
open Go.RowKit M
open Clk (upd upd_same upd_other)
namespace M
def p3 (x y z : Value) : Nat → Value := fun i => if i = 0 then x else if i = 1 then y else z
theorem Blk.tri {w : World} {g : Nat} {x y z : Value} {t : TypeId} (h : Blk w g 3 (p3 x y z) t) : (w.cell? ⟨g, 0, none⟩ = some x ∧ w.cell? ⟨g, 1, none⟩ = some y ∧ w.cell? ⟨g, 2, none⟩ = some z) ∧ w.frozen? ⟨g, 0, none⟩ = false ∧ w.frozen? ⟨g, 1, none⟩ = false ∧ w.frozen? ⟨g, 2, none⟩ = false :=
  ⟨⟨h.cell (show 0 < 3 by omega), h.cell (show 1 < 3 by omega), h.cell (show 2 < 3 by omega)⟩, h.thaw 0, h.thaw 1, h.thaw 2⟩
theorem Blk.tri0 {w : World} {g : Nat} {x y z : Value} {t : TypeId} (h : Blk w g 3 (p3 x y z) t) (u : Value) : Blk (w.setCell ⟨g, 0, none⟩ u) g 3 (p3 u y z) t :=
  (h.set 0 u).ext fun i hi => by match i, hi with
                                | 0, _ => rfl
                                | 1, _ => rfl
                                | 2, _ => rfl
theorem Blk.tri1 {w : World} {g : Nat} {x y z : Value} {t : TypeId} (h : Blk w g 3 (p3 x y z) t) (u : Value) : Blk (w.setCell ⟨g, 1, none⟩ u) g 3 (p3 x u z) t :=
  (h.set 1 u).ext fun i hi => by match i, hi with
                                | 0, _ => rfl
                                | 1, _ => rfl
                                | 2, _ => rfl
theorem Blk.tri2 {w : World} {g : Nat} {x y z : Value} {t : TypeId} (h : Blk w g 3 (p3 x y z) t) (u : Value) : Blk (w.setCell ⟨g, 2, none⟩ u) g 3 (p3 x y u) t :=
  (h.set 2 u).ext fun i hi => by match i, hi with
                                | 0, _ => rfl
                                | 1, _ => rfl
                                | 2, _ => rfl
theorem put3 {w W : World} {g : Nat} {y0 y1 y2 : Value} (h : Blk W g 3 (p3 y0 y1 y2) 55) (hb : Below w.heap.size w W) (hg : w.heap.size ≤ g) (x0 x1 x2 : Value) : ∀ WZ, ((W.setCell ⟨g, 0, none⟩ x0).setCell ⟨g, 1, none⟩ x1).setCell ⟨g, 2, none⟩ x2 = WZ →
    Blk WZ g 3 (p3 x0 x1 x2) 55 ∧ Below w.heap.size w WZ := by
  rintro WZ rfl
  exact ⟨((h.tri0 _).tri1 _).tri2 _, ((hb.setCell (p := ⟨g, 0, none⟩) hg _).setCell (p := ⟨g, 1, none⟩) hg _).setCell (p := ⟨g, 2, none⟩) hg _⟩
end M
set_option maxHeartbeats 1000000 in
theorem spec_undo (m : Mv) (b : Bool) (r : Mv) (w : World) (hb : decide (GMz 8 m) = b) (hr : (if b = true then bk m else ⟨0, 0, 0⟩) = r) :
    Calls Try.prog 37 #[mvv m] w fun e w' => e = .returned (.tuple #[mvv r, .bool b]) ∧ Below w.heap.size w w' := by
  have HB := hide hb
  have HR := hide hr
  clear hb hr
  have hbA := ((Below.refl w.heap.size w).alloc (Nat.le_refl _) (.cells #[.int .i64 m.f, .int .i64 m.t, .int .i64 m.m] 55)).alloc (by simp) (.cells #[.int .i64 0, .int .i64 0, .int .i64 0] 55)
  have hD0 := (Blk.fresh w #[.int .i64 m.f, .int .i64 m.t, .int .i64 m.m] 3 (p3 (.int .i64 m.f) (.int .i64 m.t) (.int .i64 m.m)) 55 rfl).alloc (.cells #[.int .i64 0, .int .i64 0, .int .i64 0] 55)
  have hE0 := Blk.fresh (w.alloc (.cells #[.int .i64 m.f, .int .i64 m.t, .int .i64 m.m] 55)) #[.int .i64 0, .int .i64 0, .int .i64 0] 3 (p3 (.int .i64 0) (.int .i64 0) (.int .i64 0)) 55 rfl
  rw [World.size_alloc] at hE0
  have HD0 := hide hD0
  have HE0 := hide hE0
  clear hD0 hE0
  go_enter Try.func37, Try.ntmps37
  go_wp2_with fail
  refine (l9Move_to m 8 b _ (by decide) (by decide) HB.out).mono ?_
  rintro e w1 ⟨rfl, hb⟩
  have hb1 := hbA.trans (hb.mono hbA.size)
  have hE1 := HE0.out.down hb
  obtain ⟨⟨d0, d1, d2⟩, -⟩ := (HD0.out.down hb).tri
  obtain ⟨⟨e0, e1, e2⟩, h0, h1, h2⟩ := hE1.tri
  clear hb hbA HD0 HE0
  cases b with
  | false =>
    obtain ⟨WZ, hWZ⟩ : ∃ WZ, ((w1.setCell ⟨w.heap.size + 1, 0, none⟩ (.int .i64 0)).setCell ⟨w.heap.size + 1, 1, none⟩ (.int .i64 0)).setCell ⟨w.heap.size + 1, 2, none⟩ (.int .i64 0) = WZ := ⟨_, rfl⟩
    have HZ := hide (put3 hE1 hb1 (by omega) _ _ _ WZ hWZ)
    have HWZ := hide hWZ
    clear hWZ hE1 hb1
    go_wp2
    rw [HWZ.out]
    clear d0 d1 d2 e0 e1 e2 h0 h1 h2
    obtain ⟨⟨e0, e1, e2⟩, -⟩ := HZ.out.1.tri
    exact bodyPost_ret (v := .tuple #[.agg #[.int .i64 0, .int .i64 0, .int .i64 0], .bool false]) (by simp [results, Try.results37, go_sem, e0, e1, e2]) rfl (by have e1 := HR.out; rw [← e1]; exact ⟨rfl, HZ.out.2⟩)
  | true =>
    go_wp2_with fail
    refine (l9back_is m _).mono ?_
    rintro e w2 ⟨rfl, hb⟩
    have hb2 := hb1.trans (hb.mono hb1.size)
    have hE2 := hE1.down hb
    clear e0 e1 e2 h0 h1 h2 d0 d1 d2 hE1 hb1 hb
    obtain ⟨⟨e0, e1, e2⟩, h0, h1, h2⟩ := hE2.tri
    obtain ⟨WZ, hWZ⟩ : ∃ WZ, ((w2.setCell ⟨w.heap.size + 1, 0, none⟩ (.int .i64 (bk m).f)).setCell ⟨w.heap.size + 1, 1, none⟩ (.int .i64 (bk m).t)).setCell ⟨w.heap.size + 1, 2, none⟩ (.int .i64 (bk m).m) = WZ := ⟨_, rfl⟩
    have HZ := hide (put3 hE2 hb2 (by omega) _ _ _ WZ hWZ)
    have HWZ := hide hWZ
    clear hWZ hE2 hb2
    go_wp2
    rw [HWZ.out]
    clear e0 e1 e2 h0 h1 h2
    obtain ⟨⟨e0, e1, e2⟩, -⟩ := HZ.out.1.tri
    exact bodyPost_ret (v := .tuple #[.agg #[.int .i64 (bk m).f, .int .i64 (bk m).t, .int .i64 (bk m).m], .bool true]) (by simp [results, Try.results37, go_sem, e0, e1, e2]) rfl (by have e1 := HR.out; rw [if_pos (by trivial)] at e1; rw [← e1]; exact ⟨rfl, HZ.out.2⟩)
set_option maxHeartbeats 1000000 in
theorem impl_undo (m : Mv) (b : Bool) (r : Mv) (w : World) (hb : decide (GMz 8 m) = b) (hr : (if b = true then bk m else ⟨0, 0, 0⟩) = r) :
    Calls Try.prog 39 #[mvv m] w fun e w' => e = .returned (.tuple #[mvv r, .bool b]) ∧ Below w.heap.size w w' := by
  have HB := hide hb
  have HR := hide hr
  clear hb hr
  have hbA := ((Below.refl w.heap.size w).alloc (Nat.le_refl _) (.cells #[.int .i64 m.f, .int .i64 m.t, .int .i64 m.m] 55)).alloc (by simp) (.cells #[.int .i64 0, .int .i64 0, .int .i64 0] 55)
  have hD0 := (Blk.fresh w #[.int .i64 m.f, .int .i64 m.t, .int .i64 m.m] 3 (p3 (.int .i64 m.f) (.int .i64 m.t) (.int .i64 m.m)) 55 rfl).alloc (.cells #[.int .i64 0, .int .i64 0, .int .i64 0] 55)
  have hE0 := Blk.fresh (w.alloc (.cells #[.int .i64 m.f, .int .i64 m.t, .int .i64 m.m] 55)) #[.int .i64 0, .int .i64 0, .int .i64 0] 3 (p3 (.int .i64 0) (.int .i64 0) (.int .i64 0)) 55 rfl
  rw [World.size_alloc] at hE0
  have HD0 := hide hD0
  have HE0 := hide hE0
  clear hD0 hE0
  go_enter Try.func39, Try.ntmps39
  go_wp2_with fail
  refine (goodMove_to m 8 b _ (by decide) (by decide) HB.out).mono ?_
  rintro e w1 ⟨rfl, hb⟩
  have hb1 := hbA.trans (hb.mono hbA.size)
  have hE1 := HE0.out.down hb
  obtain ⟨⟨d0, d1, d2⟩, -⟩ := (HD0.out.down hb).tri
  obtain ⟨⟨e0, e1, e2⟩, h0, h1, h2⟩ := hE1.tri
  clear hb hbA HD0 HE0
  cases b with
  | false =>
    obtain ⟨WZ, hWZ⟩ : ∃ WZ, ((w1.setCell ⟨w.heap.size + 1, 0, none⟩ (.int .i64 0)).setCell ⟨w.heap.size + 1, 1, none⟩ (.int .i64 0)).setCell ⟨w.heap.size + 1, 2, none⟩ (.int .i64 0) = WZ := ⟨_, rfl⟩
    have HZ := hide (put3 hE1 hb1 (by omega) _ _ _ WZ hWZ)
    have HWZ := hide hWZ
    clear hWZ hE1 hb1
    go_wp2
    rw [HWZ.out]
    clear d0 d1 d2 e0 e1 e2 h0 h1 h2
    obtain ⟨⟨e0, e1, e2⟩, -⟩ := HZ.out.1.tri
    exact bodyPost_ret (v := .tuple #[.agg #[.int .i64 0, .int .i64 0, .int .i64 0], .bool false]) (by simp [results, Try.results39, go_sem, e0, e1, e2]) rfl (by have e1 := HR.out; rw [← e1]; exact ⟨rfl, HZ.out.2⟩)
  | true =>
    go_wp2_with fail
    refine (back_is m _).mono ?_
    rintro e w2 ⟨rfl, hb⟩
    have hb2 := hb1.trans (hb.mono hb1.size)
    have hE2 := hE1.down hb
    clear e0 e1 e2 h0 h1 h2 d0 d1 d2 hE1 hb1 hb
    obtain ⟨⟨e0, e1, e2⟩, h0, h1, h2⟩ := hE2.tri
    obtain ⟨WZ, hWZ⟩ : ∃ WZ, ((w2.setCell ⟨w.heap.size + 1, 0, none⟩ (.int .i64 (bk m).f)).setCell ⟨w.heap.size + 1, 1, none⟩ (.int .i64 (bk m).t)).setCell ⟨w.heap.size + 1, 2, none⟩ (.int .i64 (bk m).m) = WZ := ⟨_, rfl⟩
    have HZ := hide (put3 hE2 hb2 (by omega) _ _ _ WZ hWZ)
    have HWZ := hide hWZ
    clear hWZ hE2 hb2
    go_wp2
    rw [HWZ.out]
    clear e0 e1 e2 h0 h1 h2
    obtain ⟨⟨e0, e1, e2⟩, -⟩ := HZ.out.1.tri
    exact bodyPost_ret (v := .tuple #[.agg #[.int .i64 (bk m).f, .int .i64 (bk m).t, .int .i64 (bk m).m], .bool true]) (by simp [results, Try.results39, go_sem, e0, e1, e2]) rfl (by have e1 := HR.out; rw [if_pos (by trivial)] at e1; rw [← e1]; exact ⟨rfl, HZ.out.2⟩)
set_option maxRecDepth 20000 in
set_option maxHeartbeats 2000000 in
theorem law_undo (m : Mv) (w : World) :
    Calls Try.prog 10 #[mvv m] w fun e w' => e = .returned (.bool true) ∧ Below w.heap.size w w' := by
  obtain ⟨b, hb⟩ : ∃ b, decide (GMz 8 m) = b := ⟨_, rfl⟩
  obtain ⟨r, hr⟩ : ∃ r, (if b = true then bk m else (⟨0, 0, 0⟩ : Mv)) = r := ⟨_, rfl⟩
  have HS := hide (show ∀ W, Calls Try.prog 37 #[.agg #[.int .i64 m.f, .int .i64 m.t, .int .i64 m.m]] W fun e w' => e = .returned (.tuple #[mvv r, .bool b]) ∧ Below W.heap.size W w' from fun W => spec_undo m b r W hb hr)
  have HI := hide (show ∀ W, Calls Try.prog 39 #[.agg #[.int .i64 m.f, .int .i64 m.t, .int .i64 m.m]] W fun e w' => e = .returned (.tuple #[mvv r, .bool b]) ∧ Below W.heap.size W w' from fun W => impl_undo m b r W hb hr)
  have hbb : (b != b) = false := by cases b <;> rfl
  have hbA := (Below.refl w.heap.size w).alloc (Nat.le_refl _) (.cells #[.int .i64 m.f, .int .i64 m.t, .int .i64 m.m] 54)
  have HL0 := hide (Blk.fresh w #[.int .i64 m.f, .int .i64 m.t, .int .i64 m.m] 3 (p3 (.int .i64 m.f) (.int .i64 m.t) (.int .i64 m.m)) 54 rfl)
  clear hb hr
  go_enter Try.func10, Try.ntmps10
  go_wp2_with fail
  refine (to_move _ _ _ _).mono ?_
  rintro e w1 ⟨rfl, hb⟩
  have hb1 := hbA.trans (hb.mono hbA.size)
  have HL1 := hide (HL0.out.down hb)
  clear hb hbA HL0
  go_wp2_with fail
  refine (HS.out _).mono ?_
  rintro e w2 ⟨rfl, hb⟩
  have hdn := (Below.refl w2.heap.size w2).alloc (Nat.le_refl _) (.cells #[.int .i64 r.f, .int .i64 r.t, .int .i64 r.m] 55)
  have hb2 := (hb1.trans (hb.mono hb1.size))
  have hb3 := hb2.trans (hdn.mono hb2.size)
  have HL3 := hide ((HL1.out.down hb).down hdn)
  have HW3 := hide (Blk.fresh w2 #[.int .i64 r.f, .int .i64 r.t, .int .i64 r.m] 3 (p3 (.int .i64 r.f) (.int .i64 r.t) (.int .i64 r.m)) 55 rfl)
  obtain ⟨⟨d0, d1, d2⟩, -⟩ := HL3.out.tri
  clear hb hb1 hb2 hdn HL1 HS
  go_wp2_with fail
  refine (to_move _ _ _ _).mono ?_
  rintro e w4 ⟨rfl, hb⟩
  have hb4 := hb3.trans (hb.mono hb3.size)
  have HW4 := hide (HW3.out.down hb)
  clear hb hb3 HL3 HW3 d0 d1 d2
  go_wp2_with fail
  refine (HI.out _).mono ?_
  rintro e w5 ⟨rfl, hb⟩
  have hdn := (Below.refl w5.heap.size w5).alloc (Nat.le_refl _) (.cells #[.int .i64 r.f, .int .i64 r.t, .int .i64 r.m] 55)
  have hb5 := (hb4.trans (hb.mono hb4.size))
  have hb6 := hb5.trans (hdn.mono hb5.size)
  have hW6 := (HW4.out.down hb).down hdn
  obtain ⟨⟨d0, d1, d2⟩, -⟩ := hW6.tri
  have hne : w2.heap.size < w5.heap.size := (HW4.out.down hb).lt
  clear hb hb4 hb5 hdn HW4 HI hW6
  go_wp2_with fail
  refine (eq_move _ _ _ _).mono ?_
  rintro e w7 ⟨rfl, hb⟩
  have hb7 := hb6.trans (hb.mono hb6.size)
  clear hb hb6 d0 d1 d2
  go_wp2
  go_ret
  exact ⟨rfl, hb7⟩
end Go.Proofs.Ytmpedadjikmnhaa
