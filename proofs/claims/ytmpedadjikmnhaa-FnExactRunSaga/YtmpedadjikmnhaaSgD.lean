/-
  What fits, what is shifted; accounts and moves that are good, one by one, in both texts.
-/
import Derived.Test.YtmpedadjikmnhaaSgC
namespace Go.Proofs.Ytmpedadjikmnhaa
open Go.RowKit M
open Clk (upd upd_same upd_other)
open Go.Sort (grow)
namespace M
theorem below_drewN {B : Nat} {w0 w : World} (h : Below B w0 w) (m : Nat) : Below B w0 (w.drewN m) := ⟨h.os, h.tape, h.output, h.size, h.block⟩
abbrev mvv (m : Mv) : Value := .agg #[.int .i64 m.f, .int .i64 m.t, .int .i64 m.m]
theorem GM.nat {na : Nat} {m : Mv} (h : GM na m) : ∃ i j : Nat, m.f = (i : Int) ∧ m.t = (j : Int) ∧ i < na ∧ j < na ∧ i ≠ j := by
  obtain ⟨h1, h2, h3, _⟩ := h
  exact ⟨m.f.toNat, m.t.toNat, by omega, by omega, by omega, by omega, by omega⟩
theorem KeptB.drew {lo hi : Nat} {w w' : World} (h : KeptB lo hi w w') : KeptB lo hi w w'.drew := ⟨h.os, h.tape, h.output, h.size, h.block⟩
theorem KeptB.set {lo hi : Nat} {w w' : World} (h : KeptB lo hi w w') {g : Nat} (h1 : lo ≤ g) (h2 : g < hi) (i : Nat) (v : Value) : KeptB lo hi w (w'.setCell ⟨g, i, none⟩ v) :=
  have hb := (Below.refl g w').setCell (p := ⟨g, i, none⟩) (Nat.le_refl _) v
  ⟨hb.os.trans h.os, hb.tape.trans h.tape, hb.output.trans h.output, by rw [World.size_setCell]; exact h.size, fun k hk hl => by rw [Below.heap_setCell _ _ _ _ (show k ≠ g by omega)]; exact h.block k hk hl⟩
theorem OwnB.drew {w : World} {g n cap : Nat} {f : Nat → Int} (h : OwnB w g n cap f) : OwnB w.drew g n cap f := h
theorem new3' (w : World) (i j : Nat) (n : Int) : (w.alloc (.cells #[.int .i64 (i : Int), .int .i64 (j : Int), .int .i64 n] 55)).cell? ⟨w.heap.size, 0, none⟩ = some (.int .i64 (i : Int)) ∧ (w.alloc (.cells #[.int .i64 (i : Int), .int .i64 (j : Int), .int .i64 n] 55)).cell? ⟨w.heap.size, 1, none⟩ = some (.int .i64 (j : Int)) ∧ (w.alloc (.cells #[.int .i64 (i : Int), .int .i64 (j : Int), .int .i64 n] 55)).cell? ⟨w.heap.size, 2, none⟩ = some (.int .i64 n) := by
  have h := Blk.fresh w #[.int .i64 (i : Int), .int .i64 (j : Int), .int .i64 n] 3 (fun q => if q = 0 then .int .i64 (i : Int) else if q = 1 then .int .i64 (j : Int) else .int .i64 n) 55 rfl
  exact ⟨h.cell (show 0 < 3 by omega), h.cell (show 1 < 3 by omega), h.cell (show 2 < 3 by omega)⟩
end M
set_option maxRecDepth 20000 in
set_option maxHeartbeats 2000000 in
theorem fits_is (m : Mv) (v : Value) (na : Nat) (fa : Nat → Int) (b : Bool) (w : World) (hm : GM na m) (hv : IntsOf w v na fa) (ha : Acc na fa) (hn : na ≤ 8) (hb : decide (fit fa m) = b) :
    Calls Try.prog 67 #[mvv m, v] w fun e w' => e = .returned (.bool b) ∧ Below w.heap.size w w' := by
  obtain ⟨i, j, e1, e2, hi, hj, hij⟩ := hm.nat
  obtain ⟨_, _, _, hq⟩ := hm
  obtain ⟨f, t, n⟩ := m
  simp only at e1 e2 hq ⊢
  subst e1; subst e2
  obtain ⟨a, cap, rfl, hr⟩ := hv
  obtain ⟨bb, off, rfl, hbb, hrow⟩ := hr (by omega)
  have hbA := (Below.refl w.heap.size w).alloc (Nat.le_refl _) (.cells #[.int .i64 (i : Int), .int .i64 (j : Int), .int .i64 n] 55)
  have c0 := (hbA.cell (p := ⟨bb, off + i, none⟩) hbb).trans (hrow i hi)
  have c1 := (hbA.cell (p := ⟨bb, off + j, none⟩) hbb).trans (hrow j hj)
  have hai := ha i hi
  have haj := ha j hj
  have hi0 : (0 : Int) ≤ (i : Int) := by omega
  have hi1 : (i : Int) < (na : Int) := by omega
  have hj0 : (0 : Int) ≤ (j : Int) := by omega
  have hj1 : (j : Int) < (na : Int) := by omega
  have hbb' : decide (n ≤ fa i ∧ fa j + n ≤ 1000000) = b := hb
  have hx := new3' w i j n
  clear hr hrow ha hb
  generalize fa i = x at *
  generalize fa j = y at *
  obtain ⟨d0, d1, d2⟩ := hx
  by_cases hge : x ≥ n
  · have hg : decide (x ≥ n) = true := by simp [hge]
    have hxx : (n ≤ x ∧ y + n ≤ 1000000) ↔ y + n ≤ 1000000 := ⟨fun h => h.2, fun h => ⟨hge, h⟩⟩
    have HB := hide (show decide (y + n ≤ 1000000) = b by rw [← hbb']; exact decide_eq_decide.2 hxx.symm)
    clear hbb' hxx
    go_enter Try.func67, Try.ntmps67
    go_wp2_with fail
    go_big_quiet (fail)
    go_wp2
    go_ret
    exact ⟨by rw [← HB.out]; rfl, below_drewN hbA _⟩
  · have hg : decide (x ≥ n) = false := by simp; omega
    have HB := hide (show b = false by rw [← hbb', decide_eq_false_iff_not]; exact fun h => hge h.1)
    clear hbb'
    go_enter Try.func67, Try.ntmps67
    go_wp2_with fail
    go_big_quiet (fail)
    go_wp2
    go_ret
    exact ⟨by rw [HB.out]; rfl, below_drewN hbA _⟩
set_option maxRecDepth 20000 in
set_option maxHeartbeats 2000000 in
theorem shift_is (m : Mv) (b na cap c : Nat) (fa : Nat → Int) (w : World) (hm : GM na m) (hv : OwnB w b na c fa) (ha : ∀ i, i < na → -1000000000 ≤ fa i ∧ fa i ≤ 1000000000) :
    Calls Try.prog 68 #[mvv m, .slice (some ⟨b, 0, none⟩) na cap] w fun e w' => e = .returned (.tuple #[]) ∧ OwnB w' b na c (shf fa m) ∧ KeptB b (b + 1) w w' := by
  obtain ⟨i, j, e1, e2, hi, hj, hij⟩ := hm.nat
  obtain ⟨_, _, _, hq⟩ := hm
  obtain ⟨f, t, n⟩ := m
  simp only at e1 e2 hq ⊢
  subst e1; subst e2
  have hbA := (Below.refl w.heap.size w).alloc (Nat.le_refl _) (.cells #[.int .i64 (i : Int), .int .i64 (j : Int), .int .i64 n] 55)
  have hlt := hv.lt
  have c0 := hv.cell hi
  have t0 := hv.thaw i
  have c1 := hv.cell hj
  have t1 := hv.thaw j
  have hai := ha i hi
  have haj := ha j hj
  have hi0 : (0 : Int) ≤ (i : Int) := by omega
  have hi1 : (i : Int) < (na : Int) := by omega
  have hj0 : (0 : Int) ≤ (j : Int) := by omega
  have hj1 : (j : Int) < (na : Int) := by omega
  have hx := new3' w i j n
  have n1 : b ≠ w.heap.size := by omega
  have n2 : w.heap.size ≠ b := by omega
  have HE := hide (show ∀ W, W = (((w.setCell ⟨b, i, none⟩ (.int .i64 (fa i - n))).setCell ⟨b, j, none⟩ (.int .i64 (fa j + n))).alloc (.cells #[.int .i64 (i : Int), .int .i64 (j : Int), .int .i64 n] 55)).drew.drew → OwnB W b na c (shf fa ⟨(i : Int), (j : Int), n⟩) ∧ KeptB b (b + 1) w W from fun W hW => by
    subst hW
    have hdn := fun (W : World) (o : Obj) => (Below.refl W.heap.size W).alloc (Nat.le_refl _) o
    constructor
    · have := (((hv.set i (fa i - n)).set j (fa j + n)).down (hdn _ (.cells #[.int .i64 (i : Int), .int .i64 (j : Int), .int .i64 n] 55))).drew.drew
      have e : shf fa ⟨(i : Int), (j : Int), n⟩ = upd (upd fa i (fa i - n)) j (fa j + n) := by
        unfold shf tk; simp only [Int.toNat_natCast]; rw [upd_other _ _ _ _ (fun e => hij e.symm)]
      rw [e]; exact this
    · exact (((((KeptB.refl b (b + 1) w).set (Nat.le_refl _) (by omega) _ _).set (Nat.le_refl _) (by omega) _ _).trans (Below.keptB (hdn _ _) _ _)).drew).drew)
  clear hv ha
  generalize fa i = x at *
  generalize fa j = y at *
  obtain ⟨d0, d1, d2⟩ := hx
  go_enter Try.func68, Try.ntmps68
  go_wp2
  go_region
  go_wp2
  go_region
  go_wp2
  go_end0
  exact ⟨rfl, HE.out _ rfl⟩
end Go.Proofs.Ytmpedadjikmnhaa
