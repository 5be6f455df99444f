/-
  Calls that are marked; calls of good times in the program's text; PlayBreaker in the program's text.
-/
import Derived.Test.YtegbfmdilmbpmaaRtP
import Derived.Test.YtegbfmdilmbpmaaRtC
namespace Go.Proofs.Ytegbfmdilmbpmaa
open Go.RowKit M
open Clk (upd upd_same upd_other)
open Go.Sort (grow)
set_option maxHeartbeats 2000000 in
theorem mark_calls (b n c k0 : Nat) (l : Nat → Cl) (w : World) (hg : Blk w b (n * 2) (cv l) 50) (hn : n ≤ 1048576) (hk0 : k0 ≤ 1000000000) :
    Calls Try.prog 38 #[.slice (some ⟨b, 0, none⟩) n c, .int .i64 (k0 : Nat)] w fun e w' => e = .returned (.int .i64 ((k0 + n * 2 : Nat) : Int)) ∧ Only b w w' := by
  have HG := hide hg
  clear hg
  go_enter Try.func38, Try.ntmps38
  go_wp2
  go_loopw [1, 5] (fun x i wr => ∃ (j : Nat) (g : Nat → Cl), j ≤ n ∧ i = .int .i64 j ∧ x = .int .i64 ((k0 + j * 2 : Nat) : Int) ∧ Hid (Blk wr b (n * 2) (cv g) 50) ∧ Only b w wr) (fun _ i _ => n - (intOf i).toNat)
  case atStart => exact ⟨0, l, Nat.zero_le _, rfl, rfl, HG, Only.refl _ _⟩
  case round =>
    obtain ⟨j, g, hj, rfl, rfl, HA, hbw⟩ := hrel
    by_cases hlt : j < n
    · have d0 := HA.out.cell (show j * 2 < n * 2 by omega)
      rw [cv_even] at d0
      have d1 := HA.out.cell (show j * 2 + 1 < n * 2 by omega)
      rw [cv_odd] at d1
      have f0 := HA.out.thaw (j * 2)
      have f1 := HA.out.thaw (j * 2 + 1)
      have hA := (HA.out.set (j * 2) (.int .i64 ((k0 + j * 2 : Nat) : Int))).set (j * 2 + 1) (.bool (mkb (k0 + j * 2) 1))
      rw [cv_upd g j ⟨((k0 + j * 2 : Nat) : Int), mkb (k0 + j * 2) 1⟩] at hA
      have HA2 := hide hA
      have hbw2 := (hbw.set (j * 2) (.int .i64 ((k0 + j * 2 : Nat) : Int))).set (j * 2 + 1) (.bool (mkb (k0 + j * 2) 1))
      have HE := hide (show ((k0 + (j + 1) * 2 : Nat) : Int) = ((k0 + j * 2 : Nat) : Int) + 1 + 1 by omega)
      have hE1 : (((k0 + j * 2 : Nat) : Int) + 1).tmod 3 = (((k0 + j * 2 + 1) % 3 : Nat) : Int) := tmod3 _
      have hE2 : ((((k0 + j * 2 + 1) % 3 : Nat) : Int) == 0) = mkb (k0 + j * 2) 1 := mod3 _
      have hb0 : k0 + j * 2 ≤ 1010000000 := by omega
      have hq : (k0 + j * 2 + 1) % 3 < 3 := by omega
      generalize mkb (k0 + j * 2) 1 = mj at *
      generalize (k0 + j * 2 + 1) % 3 = q at *
      generalize k0 + j * 2 = m at *
      clear HA HG hA
      go_wp2
      exact ⟨⟨j + 1, _, by omega, by go_num, by rw [HE.out], HA2, hbw2⟩, by simp [intOf]; omega⟩
    · obtain rfl : j = n := by omega
      clear HA HG
      go_wp2
      go_ret
      exact ⟨rfl, hbw⟩
set_option maxHeartbeats 2000000 in
theorem goodCalls_is (v : Value) (n : Nat) (l : Nat → Cl) (b : Bool) (w : World) (hv : CallsOf w v n l) (hn : n ≤ 1048576) (hb : b = true ↔ (n ≤ 120 ∧ GCs n l)) :
    Calls Try.prog 57 #[v] w fun e w' => e = .returned (.bool b) ∧ Below w.heap.size w w' := by
  obtain ⟨a, cap, rfl, hr⟩ := hv
  have HR := hide hr
  have HB := hide hb
  clear hr hb
  by_cases h120 : n ≤ 120
  · go_enter Try.func57, Try.ntmps57
    go_wp2
    go_loopw [3, 5, 11] (fun x p i wr => ∃ j : Nat, j ≤ n ∧ i = .int .i64 j ∧ x = .int .i64 (wh l j) ∧ Hid (GCs j l) ∧ Below w.heap.size w wr) (fun _ _ i _ => n - (intOf i).toNat)
    case atStart => exact ⟨0, Nat.zero_le _, rfl, rfl, hide (fun i hi => absurd hi (by omega)), Below.refl _ _⟩
    case round =>
      obtain ⟨j, hj, rfl, rfl, HJ, hbw⟩ := hrel
      by_cases hlt : j < n
      · obtain ⟨bb, off, rfl, hb, hrow⟩ := HR.out (by omega)
        have c0 := (hbw.cell (p := ⟨bb, off + j * 2, none⟩) hb).trans (hrow j hlt).1
        have c1 := (hbw.cell (p := ⟨bb, off + j * 2 + 1, none⟩) hb).trans (hrow j hlt).2
        have hbw1 := hbw.alloc hbw.size (.cells #[.int .i64 (l j).w, .bool (l j).y] 50)
        clear hrow HR
        by_cases hg : wh l j ≤ (l j).w ∧ (l j).w ≤ 1000000
        · have HJ2 := hide (show GCs (j + 1) l from fun i hi => by
            by_cases e : i = j
            · subst e; exact hg
            · exact HJ.out i (by omega))
          have HW := hide (decide_eq_true hg)
          have HX := hide (show wh l (j + 1) = (l j).w from rfl)
          clear hg HJ
          go_wp2_with fail
          refine (within_to _ _ _ true _ HW.out).mono ?_
          rintro e w3 ⟨rfl, rfl⟩
          clear c0 c1
          go_wp2
          exact ⟨⟨j + 1, by omega, by go_num, by rw [HX.out], HJ2, hbw1⟩, by simp [intOf]; omega⟩
        · have HF := hide (show false = b by
            cases b with
            | false => rfl
            | true => exact absurd ((HB.out.1 rfl).2 j hlt) hg)
          have HW := hide (decide_eq_false hg)
          clear hg HJ HB
          go_wp2_with fail
          refine (within_to _ _ _ false _ HW.out).mono ?_
          rintro e w3 ⟨rfl, rfl⟩
          clear c0 c1
          go_wp2
          go_ret
          exact ⟨ret_bool HF.out, hbw1⟩
      · obtain rfl : j = n := by omega
        have HF := hide (show true = b from (HB.out.2 ⟨h120, HJ.out⟩).symm)
        clear HR HB HJ
        go_wp2
        go_ret
        exact ⟨ret_bool HF.out, hbw⟩
  · have HF := hide (show false = b by
      cases b with
      | false => rfl
      | true => exact absurd (HB.out.1 rfl).1 h120)
    clear HR HB
    go_enter Try.func57, Try.ntmps57
    go_wp2
    go_ret
    exact ⟨ret_bool HF.out, Below.refl _ _⟩
end Go.Proofs.Ytegbfmdilmbpmaa
