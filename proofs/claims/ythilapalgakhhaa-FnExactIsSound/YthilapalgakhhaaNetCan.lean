/-
  The program's CanFire, at every net, list and number.
-/
import Derived.Test.YthilapalgakhhaaNetMark
import Derived.RegionTactic
import Derived.Deep.RegionHeld
import Derived.Deep.DrawnRows
namespace Go.Proofs.Ythilapalgakhhaa
open Go.RowKit M
open Clk (upd upd_same upd_other)
attribute [local go_sem ↓] Go.wp_at_zero Go.wp_at_succ
namespace M
def E8 (w : World) (g : Nat) (v : Nat → Int) : Prop := w.cell? ⟨g, 0, none⟩ = some (.int .i64 (v 0)) ∧ w.cell? ⟨g, 1, none⟩ = some (.int .i64 (v 1)) ∧ w.cell? ⟨g, 2, none⟩ = some (.int .i64 (v 2)) ∧ w.cell? ⟨g, 3, none⟩ = some (.int .i64 (v 3)) ∧ w.cell? ⟨g, 4, none⟩ = some (.int .i64 (v 4)) ∧ w.cell? ⟨g, 5, none⟩ = some (.int .i64 (v 5)) ∧ w.cell? ⟨g, 6, none⟩ = some (.int .i64 (v 6)) ∧ w.cell? ⟨g, 7, none⟩ = some (.int .i64 (v 7))
def T8 (w : World) (g : Nat) : Prop := w.frozen? ⟨g, 0, none⟩ = false ∧ w.frozen? ⟨g, 1, none⟩ = false ∧ w.frozen? ⟨g, 2, none⟩ = false ∧ w.frozen? ⟨g, 3, none⟩ = false ∧ w.frozen? ⟨g, 4, none⟩ = false ∧ w.frozen? ⟨g, 5, none⟩ = false ∧ w.frozen? ⟨g, 6, none⟩ = false ∧ w.frozen? ⟨g, 7, none⟩ = false
theorem alloc_cell {w : World} {a : Addr} {v : Value} (o : Obj) (h : w.cell? a = some v) : (w.alloc o).cell? a = some v := (((Below.refl w.heap.size w).alloc (Nat.le_refl _) o).cell (World.block_lt_of_cell? w a h)).trans h
theorem drew_below {w3 w4 : World} (h : Below w3.drew.heap.size w3.drew w4) : Below w3.heap.size w3 w4 := ((Below.refl w3.heap.size w3).drew).trans h
theorem allocd_below {w3 w4 : World} {o : Obj} (h : Below (w3.alloc o).drew.heap.size (w3.alloc o).drew w4) : Below w3.heap.size w3 w4 :=
  (((Below.refl w3.heap.size w3).alloc (Nat.le_refl _) o).drew).trans (h.mono (show w3.heap.size ≤ (w3.alloc o).heap.size by simp))
theorem allocd_zero {w3 w4 : World} {t : TypeId} (h : Below (w3.alloc (.cells #[.int .i64 0, .int .i64 0, .int .i64 0, .int .i64 0, .int .i64 0, .int .i64 0, .int .i64 0, .int .i64 0] t)).drew.heap.size (w3.alloc (.cells #[.int .i64 0, .int .i64 0, .int .i64 0, .int .i64 0, .int .i64 0, .int .i64 0, .int .i64 0, .int .i64 0] t)).drew w4) : E8 w4 w3.heap.size z8 ∧ T8 w4 w3.heap.size := by
  have h0 : Blk (w3.alloc (.cells #[.int .i64 0, .int .i64 0, .int .i64 0, .int .i64 0, .int .i64 0, .int .i64 0, .int .i64 0, .int .i64 0] t)).drew w3.heap.size 8 (iv z8) t := (Blk.fresh w3 _ 8 (iv z8) t (cf8 z8)).drew
  exact ⟨(h0.down h).eight, (h0.down h).thaw8⟩
end M
set_option maxHeartbeats 4000000 in
theorem impl_can (p : Int) (v : Value) (k : Nat) (st : Nat → Sp) (u : Value) (n : Nat) (f : Nat → Int) (i : Nat) (r : Option (Nat → Int)) (w : World) (hv : StepsOf w v k st) (hu : IntsOf w u n f) (hs : Short k st) (h : NOk p k st n f) (hi : i < k) (hr : fire (st i) (pad n f) = r) :
    Calls Try.prog 20 #[netV p v, u, .int .i64 (i : Int)] w fun e w' => e = .returned (.tuple #[.bool r.isSome, .bool true]) ∧ Below w.heap.size w w' := by
  have HV := hide hv
  have HU := hide hu
  have HS := hide hs
  have HN := hide h
  have HR := hide hr
  obtain ⟨a, cap, rfl, hrow⟩ := hv
  obtain ⟨a2, cap2, rfl⟩ := hu.form
  obtain ⟨bb, off, rfl, hbb, hrow⟩ := hrow (by omega)
  obtain ⟨x, y, q1, q2, i1, i2⟩ := hrow i hi
  have hk := hs.1
  have hn8 : n ≤ 8 := by have := h.1.1.2; have := h.2.2; omega
  have HSt := hide (show decide (0 ≤ (i : Int) ∧ (i : Int) ≤ (k : Int) - 1) = true by rw [decide_eq_true_eq]; omega)
  have hGS : GoodS (n : Int) (st i) := by have := h.1.2.2 i hi; rw [← h.2.2] at this; exact this
  have HGS := hide hGS
  have HMk := hide h.mk
  obtain ⟨ax, cx, rfl⟩ := i1.form
  obtain ⟨ay, cy, rfl⟩ := i2.form
  have I1 := hide i1
  have I2 := hide i2
  have hi0 : (0 : Int) ≤ (i : Int) := by omega
  have hi1 : (i : Int) < (k : Int) := by omega
  clear hu hs h hr hrow i1 i2 hGS
  go_enter Try.func20, Try.ntmps20
  go_wp2_with fail
  have hbA := (Below.refl w.heap.size w).alloc (Nat.le_refl _) (.cells #[.int .i64 p, .slice (some ⟨bb, off, none⟩) k cap] 29)
  have hN := Blk.fresh w _ 2 (p2 (.int .i64 p) (.slice (some ⟨bb, off, none⟩) k cap)) 29 rfl
  refine (marking_in p _ k st _ n f _ (HV.out.below hbA) (HU.out.below hbA) HS.out HN.out).mono ?_
  rintro e w1 ⟨rfl, hb⟩
  have hb1 := hbA.trans (hb.mono hbA.size)
  have hN1 := hN.down hb
  have hbB := (Below.refl w1.heap.size w1).alloc (Nat.le_refl _) (.cells (cf 8 (iv (pad n f))) 68)
  have hc2 := Blk.new w1 8 (iv (pad n f)) 68
  have hN2 := hN1.down hbB
  have hb2 := hb1.trans (hbB.mono hb1.size)
  obtain ⟨d0, d1, -, -⟩ := hN1.pair
  have hs1 := hN1.lt
  clear hbA hN hb
  go_wp2_with fail
  refine (is_step p _ k cap _ _ _ hk HSt.out).mono ?_
  rintro e w3 ⟨rfl, hb⟩
  have hb3 := hb2.trans (hb.mono hb2.size)
  have hN3 := hN2.down hb
  have hc3 := hc2.down hb
  have HK := hide (show ∀ wy : World, Below w3.heap.size w3 wy → wy.cell? ⟨w.heap.size, 1, none⟩ = some (.slice (some ⟨bb, off, none⟩) k cap) ∧ wy.cell? ⟨bb, off + i * 2, none⟩ = some (.slice ax (st i).ni cx) ∧ wy.cell? ⟨bb, off + i * 2 + 1, none⟩ = some (.slice ay (st i).no cy) from fun wy hbx => by
    have e3 : bb < w3.heap.size := Nat.lt_of_lt_of_le hbb hb3.size
    exact ⟨(hN3.down hbx).pair.2.1, (hbx.cell (p := ⟨bb, off + i * 2, none⟩) e3).trans ((hb3.cell (p := ⟨bb, off + i * 2, none⟩) hbb).trans q1), (hbx.cell (p := ⟨bb, off + i * 2 + 1, none⟩) e3).trans ((hb3.cell (p := ⟨bb, off + i * 2 + 1, none⟩) hbb).trans q2)⟩)
  have hL := HK.out w3 (Below.refl _ _)
  obtain ⟨l0, l1, l2⟩ := hL
  obtain ⟨l3, l4, l5, l6, l7, l8, l9, l10⟩ := hc3.eight
  have hlt3 := hc3.lt
  have hne3 := World.new_ne w3 _ l3
  have hne0 := World.new_ne w3 _ l0
  have hne1 := World.new_ne w3 _ l1
  have hne3' := hne3.symm
  have hne0' := hne0.symm
  have hne1' := hne1.symm
  simp only at hne0 hne1 hne3 hne0' hne1' hne3'
  have al0 := fun o : Obj => alloc_cell o l0
  have al1 := fun o : Obj => alloc_cell o l1
  have al2 := fun o : Obj => alloc_cell o l2
  have al3 := fun o : Obj => alloc_cell o l3
  have al4 := fun o : Obj => alloc_cell o l4
  have al5 := fun o : Obj => alloc_cell o l5
  have al6 := fun o : Obj => alloc_cell o l6
  have al7 := fun o : Obj => alloc_cell o l7
  have al8 := fun o : Obj => alloc_cell o l8
  have al9 := fun o : Obj => alloc_cell o l9
  have al10 := fun o : Obj => alloc_cell o l10
  have J1 := hide (I1.out.below hb3)
  have J2 := hide (I2.out.below hb3)
  have HF := hide (show ∀ wx : World, Below w3.heap.size w3 wx → Calls Try.prog 55 #[mkV (pad n f), .agg #[.slice ax (st i).ni cx, .slice ay (st i).no cy]] wx fun e w' => e = .returned (.tuple #[mkV (r.getD z8), .bool r.isSome]) ∧ Below wx.heap.size wx w' from fun wx hbx =>
    fire_is (pad n f) _ _ (st i) n r wx (J1.out.below hbx) (J2.out.below hbx) HGS.out hn8 HMk.out HR.out)
  clear hb hN2 hc2 hbB hb1 hb2 hN1 hN3 hc3 d0 d1 HV HU HS HN HSt I1 I2 q1 q2
  go_wp2_with fail
  go_region_with (first | (go_at_call 55; refine (HF.out _ (by first | with_reducible exact (Below.refl _ _).drew | with_reducible exact ((Below.refl _ _).alloc (Nat.le_refl _) _).drew)).mono ?_; rintro e w4 ⟨rfl, hb4⟩; first | (have hbx : Below w3.heap.size w3 w4 := (by with_reducible exact drew_below hb4)) | (have hbx : Below w3.heap.size w3 w4 := (by with_reducible exact allocd_below hb4); obtain ⟨⟨z0, z1, z2, z3, z4, z5, z6, z7⟩, t0, t1, t2, t3, t4, t5, t6, t7⟩ := allocd_zero hb4)))
  all_goals
    have hbz := hb3.trans (hbx.mono hb3.size)
    clear al0 al1 al2 al3 al4 al5 al6 al7 al8 al9 al10 l0 l1 l2 l3 l4 l5 l6 l7 l8 l9 l10 HK HF J1 J2 HR HGS HMk
    go_wp2
    go_ret2
    refine ⟨rfl, ?_⟩
    first | with_reducible exact hbz.alloc hbz.size _ | exact below_s8 hbz hb3.size (r.getD z8)
set_option maxHeartbeats 1000000 in
theorem impl_can_no (p : Int) (v : Value) (k : Nat) (st : Nat → Sp) (u : Value) (n : Nat) (f : Nat → Int) (i : Int) (w : World) (hv : StepsOf w v k st) (hu : IntsOf w u n f) (hs : Short k st) (hn : n ≤ 1048576) (h : ¬ (NOk p k st n f ∧ 0 ≤ i ∧ i ≤ (k : Int) - 1)) :
    Calls Try.prog 20 #[netV p v, u, .int .i64 i] w fun e w' => e = .returned (.tuple #[.bool false, .bool false]) ∧ Below w.heap.size w w' := by
  have HV := hide hv
  have HU := hide hu
  have HS := hide hs
  obtain ⟨a, cap, rfl⟩ := hv.form
  obtain ⟨a2, cap2, rfl⟩ := hu.form
  have hk := hs.1
  have hbA := (Below.refl w.heap.size w).alloc (Nat.le_refl _) (.cells #[.int .i64 p, .slice a k cap] 29)
  have hN := Blk.fresh w _ 2 (p2 (.int .i64 p) (.slice a k cap)) 29 rfl
  clear hv hu hs
  by_cases hok : NOk p k st n f
  · have HN := hide hok
    have HSt := hide (show decide (0 ≤ i ∧ i ≤ (k : Int) - 1) = false by rw [decide_eq_false_iff_not]; exact fun hi => h ⟨hok, hi⟩)
    clear h hok
    go_enter Try.func20, Try.ntmps20
    go_wp2_with fail
    refine (marking_in p _ k st _ n f _ (HV.out.below hbA) (HU.out.below hbA) HS.out HN.out).mono ?_
    rintro e w1 ⟨rfl, hb⟩
    have hb1 := hbA.trans (hb.mono hbA.size)
    obtain ⟨d0, d1, -, -⟩ := (hN.down hb).pair
    have hs1 := (hN.down hb).lt
    have hb2 := hb1.alloc hb1.size (.cells (cf 8 (iv (pad n f))) 68)
    clear hbA hN hb HV HU HS HN
    go_wp2_with fail
    refine (is_step p _ k cap _ _ _ hk HSt.out).mono ?_
    rintro e w3 ⟨rfl, hb⟩
    have hb3 := hb2.trans (hb.mono hb2.size)
    clear hb d0 d1 hb2 hb1
    go_wp2
    go_ret2
    exact ⟨rfl, hb3⟩
  · have HN := hide hok
    clear h hok
    go_enter Try.func20, Try.ntmps20
    go_wp2_with fail
    refine (marking_no p _ k st _ n f _ (HV.out.below hbA) (HU.out.below hbA) HS.out hn HN.out).mono ?_
    rintro e w1 ⟨rfl, hb⟩
    have hb1 := hbA.trans (hb.mono hbA.size)
    clear hbA hN hb HV HU HS HN
    go_wp2
    go_ret2
    exact ⟨rfl, hb1.alloc hb1.size _⟩
end Go.Proofs.Ythilapalgakhhaa
