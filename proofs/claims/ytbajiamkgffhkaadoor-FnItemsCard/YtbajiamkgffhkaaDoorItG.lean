/-
  GoodItems in both texts: whether there are at most twenty items, and both of their numbers rise within their bounds.
-/
import Derived.Test.YtbajiamkgffhkaaDoorItB
namespace Go.Proofs.YtbajiamkgffhkaaDoor
open Go.RowKit M
open Clk (upd upd_same upd_other)
namespace M
/-- A box that holds one item. -/
def Bx (w : World) (g : Nat) (x : Im) : Prop := Blk w g 2 (tv fun _ => x) 57
theorem Bx.u {w : World} {g : Nat} {x : Im} (h : Bx w g x) : w.cell? ⟨g, 0, none⟩ = some (.int .i64 x.u) := h.cell (i := 0) (by omega)
theorem Bx.v {w : World} {g : Nat} {x : Im} (h : Bx w g x) : w.cell? ⟨g, 1, none⟩ = some (.int .i64 x.v) := h.cell (i := 1) (by omega)
theorem Bx.th {w : World} {g : Nat} {x : Im} (h : Bx w g x) (i : Nat) : w.frozen? ⟨g, i, none⟩ = false := Blk.thaw h i
theorem Bx.lt {w : World} {g : Nat} {x : Im} (h : Bx w g x) : g < w.heap.size := Blk.lt h
theorem Bx.down {w w' : World} {g : Nat} {x : Im} (h : Bx w g x) (hb : Below w.heap.size w w') : Bx w' g x := Blk.down h hb
theorem Bx.new (w : World) (x : Im) : Bx (w.alloc (.cells #[.int .i64 x.u, .int .i64 x.v] 57)) w.heap.size x := Blk.fresh w #[.int .i64 x.u, .int .i64 x.v] 2 (tv fun _ => x) _ rfl
theorem Bx.put {w : World} {g : Nat} {x : Im} (h : Bx w g x) (y : Im) : Bx ((w.setCell ⟨g, 0, none⟩ (.int .i64 y.u)).setCell ⟨g, 1, none⟩ (.int .i64 y.v)) g y := by
  refine ((Blk.set h 0 (.int .i64 y.u)).set 1 (.int .i64 y.v)).ext (fun i hi => ?_)
  rcases (show i = 0 ∨ i = 1 by omega) with rfl | rfl
  · rw [upd_other _ _ _ _ (by omega), upd_same]; rfl
  · rw [upd_same]; rfl
theorem belowN {B : Nat} {w w' : World} (h : Below B w w') (k : Nat) : Below B w (w'.drewN k) := ⟨h.os, h.tape, h.output, h.size, h.block⟩
end M
theorem in_to (n lo hi : Int) (b : Bool) (w : World) (h : inB n lo hi = b) :
    Calls Tryd.prog 40 #[.int .i64 n, .int .i64 lo, .int .i64 hi] w fun e w' => e = .returned (.bool b) ∧ w' = w := by
  subst h; exact spec_in n lo hi w
set_option maxHeartbeats 2000000 in
theorem impl_goodI (v : Value) (n : Nat) (l : Nat → Im) (w : World) (hv : ItemsOf w v n l) (hn : n ≤ 1048576) :
    Calls Tryd.prog 18 #[v] w fun e w' => e = .returned (.bool (decide (GoodI n l))) ∧ Below w.heap.size w w' := by
  obtain ⟨a, cap, rfl, hr⟩ := hv
  have HR := hide hr
  clear hr
  by_cases h20 : n ≤ 20
  · have hd : decide ((n : Int) > 20) = false := by simp; omega
    have hng : ¬ ((n : Int) > 20) := by omega
    have HB0 := hide (Bx.new w ⟨0, -1⟩)
    have hb0 := (Below.refl w.heap.size w).alloc (Nat.le_refl _) (.cells #[.int .i64 0, .int .i64 (-1)] 57)
    go_enter Tryd.func18, Tryd.ntmps18
    go_wp2
    go_loopw [12] (fun i wr => ∃ j : Nat, j ≤ n ∧ i = .int .i64 j ∧ Hid (Bx wr w.heap.size (pre l j)) ∧ Hid (Ris j l) ∧ Below w.heap.size w wr) (fun i _ => n - (intOf i).toNat)
    case atStart => exact ⟨0, Nat.zero_le _, rfl, HB0, hide (fun i h => absurd h (by omega)), hb0⟩
    case round =>
      obtain ⟨j, hj, rfl, HB, HA, hbw⟩ := hrel
      clear HB0 hb0
      by_cases hlt : j < n
      · obtain ⟨b, off, rfl, hb, hrow⟩ := HR.out (by omega)
        have c0 := (hbw.cell (p := ⟨b, off + j * 2, none⟩) hb).trans (hrow j hlt).1
        have c1 := (hbw.cell (p := ⟨b, off + j * 2 + 1, none⟩) hb).trans (hrow j hlt).2
        have hbw2 := hbw.alloc hbw.size (.cells #[.int .i64 (l j).u, .int .i64 (l j).v] 57)
        have d0 := HB.out.u
        have d1 := HB.out.v
        have hlo := HA.out.low (Nat.le_refl j)
        have hglt := HB.out.lt
        have HRis := hide (show okI (pre l j) (l j) → Ris (j + 1) l from fun h i hi => by
          by_cases e : i = j
          · subst e; exact h
          · exact HA.out i (by omega))
        have HN := hide (show ¬ okI (pre l j) (l j) → decide (GoodI n l) = false from fun h => decide_eq_false (fun hg => h (hg.2 j hlt)))
        have f0 := HB.out.th 0
        have f1 := HB.out.th 1
        have HP := hide ((HB.out.put (l j)).down ((Below.refl _ _).alloc (Nat.le_refl _) (.cells #[.int .i64 (l j).u, .int .i64 (l j).v] 57)))
        have hbw3 := ((hbw.setCell (p := ⟨w.heap.size, 0, none⟩) (Nat.le_refl _) (.int .i64 (l j).u)).setCell (p := ⟨w.heap.size, 1, none⟩) (Nat.le_refl _) (.int .i64 (l j).v)).alloc (by simp; omega) (.cells #[.int .i64 (l j).u, .int .i64 (l j).v] 57)
        clear HR hrow HB HA
        unfold okI at HRis HN
        have HPR := hide (show pre l (j + 1) = l j from rfl)
        generalize pre l j = p at *
        obtain ⟨p1, p2, p3, p4⟩ := hlo
        cases h1 : inB (l j).u (p.u + 1) 1000
        · have HN2 := hide (HN.out (fun h => by have := inB_iff.2 (show p.u + 1 ≤ (l j).u ∧ (l j).u ≤ 1000 by omega); rw [h1] at this; cases this))
          clear HN HRis HP
          go_wp2_with (go_at_call 35; refine (impl_in _ _ _ _).mono ?_; rintro e w' ⟨rfl, rfl⟩; rw [h1])
          go_ret
          exact ⟨ret_bool HN2.out.symm, hbw2⟩
        cases h2 : inB (l j).v (p.v + 1) 1000000
        · have HN2 := hide (HN.out (fun h => by have := inB_iff.2 (show p.v + 1 ≤ (l j).v ∧ (l j).v ≤ 1000000 by omega); rw [h2] at this; cases this))
          clear HN HRis HP
          go_wp2_with (go_at_call 35; refine (impl_in _ _ _ _).mono ?_; rintro e w' ⟨rfl, rfl⟩; first | rw [h1] | rw [h2])
          go_ret
          exact ⟨ret_bool HN2.out.symm, hbw2⟩
        · have q1 := inB_iff.1 h1
          have q2 := inB_iff.1 h2
          have HR2 := hide (HRis.out (by omega))
          clear HN HRis q1 q2
          go_wp2_with (go_at_call 35; refine (impl_in _ _ _ _).mono ?_; rintro e w' ⟨rfl, rfl⟩; first | rw [h1] | rw [h2])
          exact ⟨⟨j + 1, by omega, by go_num, by rw [HPR.out]; exact HP, HR2, hbw3⟩, by simp [intOf]; omega⟩
      · obtain rfl : j = n := by omega
        have HN := hide (show decide (GoodI j l) = true from decide_eq_true ⟨h20, HA.out⟩)
        clear HR HA HB
        go_wp2
        go_ret
        exact ⟨ret_bool HN.out.symm, hbw⟩
  · have hd : decide ((n : Int) > 20) = true := by simp; omega
    have hng : (n : Int) > 20 := by omega
    have HN := hide (show decide (GoodI n l) = false from decide_eq_false (fun h => h20 h.1))
    clear HR
    go_enter Tryd.func18, Tryd.ntmps18
    go_wp2
    go_ret
    exact ⟨ret_bool HN.out.symm, Below.refl _ _⟩
set_option maxHeartbeats 4000000 in
theorem spec_goodI (v : Value) (n : Nat) (l : Nat → Im) (w : World) (hv : ItemsOf w v n l) (hn : n ≤ 1048576) :
    Calls Tryd.prog 27 #[v] w fun e w' => e = .returned (.bool (decide (GoodI n l))) ∧ Below w.heap.size w w' := by
  obtain ⟨a, cap, rfl, hr⟩ := hv
  have HR := hide hr
  clear hr
  go_enter Tryd.func27, Tryd.ntmps27
  go_wp2
  go_loopw [7] (fun i wr => ∃ j : Nat, j ≤ n ∧ i = .int .i64 j ∧ Hid (Ris j l) ∧ Below w.heap.size w wr) (fun i _ => n - (intOf i).toNat)
  case atStart => exact ⟨0, Nat.zero_le _, rfl, hide (fun i h => absurd h (by omega)), Below.refl _ _⟩
  case round =>
    obtain ⟨j, hj, rfl, HA, hbw⟩ := hrel
    by_cases hlt : j < n
    · obtain ⟨b, off, rfl, hb, hrow⟩ := HR.out (by omega)
      have c0 := (hbw.cell (p := ⟨b, off + j * 2, none⟩) hb).trans (hrow j hlt).1
      have c1 := (hbw.cell (p := ⟨b, off + j * 2 + 1, none⟩) hb).trans (hrow j hlt).2
      have hbw2 := hbw.alloc hbw.size (.cells #[.int .i64 (l j).u, .int .i64 (l j).v] 57)
      have hlo := HA.out.low (Nat.le_refl j)
      have HRis := hide (show okI (pre l j) (l j) → Ris (j + 1) l from fun h i hi => by
        by_cases e : i = j
        · subst e; exact h
        · exact HA.out i (by omega))
      have HN := hide (show ¬ okI (pre l j) (l j) → decide (GoodI n l) = false from fun h => decide_eq_false (fun hg => h (hg.2 j hlt)))
      have HW := hide hrow
      clear HR hrow HA
      unfold okI at HRis HN
      cases h1 : inB (l j).u 1 1000
      · have HN2 := hide (HN.out (fun h => by have := inB_iff.2 (show 1 ≤ (l j).u ∧ (l j).u ≤ 1000 by omega); rw [h1] at this; cases this))
        have HL := hide h1
        clear HN HRis HW hlo h1
        go_wp2
        go_big_quiet (first | exact Calls.quiet_of_same (in_to _ _ _ _ _ HL.out))
        go_wp2
        go_ret
        exact ⟨ret_bool HN2.out.symm, belowN hbw2 _⟩
      cases h2 : inB (l j).v 0 1000000
      · have HN2 := hide (HN.out (fun h => by have := inB_iff.2 (show 0 ≤ (l j).v ∧ (l j).v ≤ 1000000 by omega); rw [h2] at this; cases this))
        have HL := hide h1
        have HL2 := hide h2
        clear HN HRis HW hlo h1 h2
        go_wp2
        go_big_quiet (first | exact Calls.quiet_of_same (in_to _ _ _ _ _ HL.out) | exact Calls.quiet_of_same (in_to _ _ _ _ _ HL2.out))
        go_wp2
        go_ret
        exact ⟨ret_bool HN2.out.symm, belowN hbw2 _⟩
      · have q1 := inB_iff.1 h1
        have q2 := inB_iff.1 h2
        have HL := hide h1
        have HL2 := hide h2
        clear h1 h2
        cases j with
        | zero =>
          have HR2 := hide (HRis.out (by simp only [pre]; omega))
          have hg : decide (((0 : Nat) : Int) > 0) = false := by decide
          have hg2 : decide ((0 : Int) > 0) = false := by decide
          simp only [Nat.zero_mul, Nat.add_zero] at c0 c1
          clear HN HRis HW hlo q1 q2
          go_wp2
          go_big_quiet (first | exact Calls.quiet_of_same (in_to _ _ _ _ _ HL.out) | exact Calls.quiet_of_same (in_to _ _ _ _ _ HL2.out))
          go_wp2
          exact ⟨⟨1, by omega, by go_num, HR2, belowN hbw2 _⟩, by first | (simp [intOf]; done) | (simp [intOf]; omega)⟩
        | succ k =>
          have hg : decide (((k + 1 : Nat) : Int) > 0) = true := decide_eq_true (by omega)
          have hk1 : ((k + 1 : Nat) : Int) - 1 = (k : Int) := by omega
          have hi0 : (0 : Int) ≤ (k : Int) := by omega
          have hi1 : (k : Int) < (n : Int) := by omega
          have d0 := (hbw2.cell (p := ⟨b, off + k * 2, none⟩) hb).trans (HW.out k (by omega)).1
          have d1 := (hbw2.cell (p := ⟨b, off + k * 2 + 1, none⟩) hb).trans (HW.out k (by omega)).2
          simp only [pre] at HN HRis hlo
          by_cases hu : (l k).u ≥ (l (k + 1)).u
          · have hu2 : decide ((l k).u ≥ (l (k + 1)).u) = true := decide_eq_true hu
            have HN2 := hide (HN.out (by omega))
            clear HN HRis HW hlo q1 q2 hu
            go_wp2
            go_big_quiet (first | exact Calls.quiet_of_same (in_to _ _ _ _ _ HL.out) | exact Calls.quiet_of_same (in_to _ _ _ _ _ HL2.out))
            go_wp2
            go_ret
            exact ⟨ret_bool HN2.out.symm, belowN hbw2 _⟩
          · have hu2 : decide ((l k).u ≥ (l (k + 1)).u) = false := decide_eq_false hu
            by_cases hx : (l k).v ≥ (l (k + 1)).v
            · have hx2 : decide ((l k).v ≥ (l (k + 1)).v) = true := decide_eq_true hx
              have HN2 := hide (HN.out (by omega))
              clear HN HRis HW hlo q1 q2 hu hx
              go_wp2
              go_big_quiet (first | exact Calls.quiet_of_same (in_to _ _ _ _ _ HL.out) | exact Calls.quiet_of_same (in_to _ _ _ _ _ HL2.out))
              go_wp2
              go_ret
              exact ⟨ret_bool HN2.out.symm, belowN hbw2 _⟩
            · have hx2 : decide ((l k).v ≥ (l (k + 1)).v) = false := decide_eq_false hx
              have HR2 := hide (HRis.out (by omega))
              clear HN HRis HW hlo q1 q2 hu hx
              go_wp2
              go_big_quiet (first | exact Calls.quiet_of_same (in_to _ _ _ _ _ HL.out) | exact Calls.quiet_of_same (in_to _ _ _ _ _ HL2.out))
              go_wp2
              exact ⟨⟨k + 1 + 1, by omega, by go_num, HR2, belowN hbw2 _⟩, by simp [intOf]; omega⟩
    · obtain rfl : j = n := by omega
      have HN := hide (show decide ((j : Int) ≤ 20) = decide (GoodI j l) by rw [Bool.eq_iff_iff, decide_eq_true_eq, decide_eq_true_eq]; exact ⟨fun h => ⟨by omega, HA.out⟩, fun h => by have := h.1; omega⟩)
      clear HR HA
      go_wp2
      go_ret
      exact ⟨ret_bool HN.out, hbw⟩
end Go.Proofs.YtbajiamkgffhkaaDoor
