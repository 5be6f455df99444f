/-
  The program's leastReady: the least task that has not bgn and whose needs are over.
-/
import Derived.Test.YtkfnfgencaplfaaPlanT
import Derived.Scope
namespace Go.Proofs.Ytkfnfgencaplfaa
open Go.RowKit M
open Clk (upd upd_same upd_other)
namespace M
def nxV (r : Option Nat) : Value := match r with
  | none => .tuple #[.int .i64 0, .bool false]
  | some x => .tuple #[.int .i64 (x : Int), .bool true]
def bgn (f : Nat → Int) : Nat → Bool := fun x => decide (f x ≠ 3001)
def overBy (f : Nat → Int) (now : Int) : Nat → Bool := fun x => decide (f x ≤ now)
end M
set_option maxRecDepth 20000 in
set_option maxHeartbeats 1000000 in
theorem least_ready (v u : Value) (k : Nat) (ts : Nat → Tk) (f : Nat → Int) (now : Int) (w : World) (hv : TasksOf w v k ts) (hu : IntsOf w u k f) (hB : Bnd k ts) :
    Calls Try.prog 68 #[v, u, .int .i64 now] w fun e w' => e = .returned (nxV (nx ts (bgn f) (overBy f now) k)) ∧ Below w.heap.size w w' := by
  obtain ⟨a, cap, rfl, hr⟩ := hv
  obtain ⟨a2, cap2, rfl, hr2⟩ := hu
  have HR := hide hr
  have HR2 := hide hr2
  have HB := hide hB
  have hk := hB.1
  clear hr hr2 hB
  go_enter Try.func68, Try.ntmps68
  go_wp2
  refine wp_scope_straight (wp_seq_k fun K2 hK2 => wp_label (hK2 _ _ ?_))
  clear hK2 K2
  go_wp2
  go_loopw [14] (fun i wr => ∃ j : Nat, j ≤ k ∧ i = .int .i64 j ∧ Hid (nx ts (bgn f) (overBy f now) j = none) ∧ Below w.heap.size w wr) (fun i _ => k - (intOf i).toNat)
  case atStart => exact ⟨0, Nat.zero_le _, rfl, hide rfl, Below.refl _ _⟩
  case round =>
    rename World => wo
    obtain ⟨j, hj, rfl, HP, hbw⟩ := hrel
    by_cases hlt : j < k
    · obtain ⟨b, off, rfl, hb, hrow⟩ := HR.out (by omega)
      obtain ⟨b2, off2, rfl, hb2, hrow2⟩ := HR2.out (by omega)
      obtain ⟨y, q1, q2, i1⟩ := hrow j hlt
      obtain ⟨ay, cy, rfl, hry⟩ := i1
      have c0 := (hbw.cell (p := ⟨b, off + j * 2, none⟩) hb).trans q1
      have c1 := (hbw.cell (p := ⟨b, off + j * 2 + 1, none⟩) hb).trans q2
      have o0 := (hbw.cell (p := ⟨b2, off2 + j, none⟩) hb2).trans (hrow2 j hlt)
      have hs := hbw.size
      have hbA := hbw.alloc hs (.cells #[.int .i64 (ts j).long, .slice ay (ts j).nn cy] 56)
      have ho2 := fun o : Obj => (((Below.refl wo.heap.size wo).alloc (Nat.le_refl _) o).cell (p := ⟨b2, off2 + j, none⟩) (Nat.lt_of_lt_of_le hb2 hs)).trans o0
      have hi0 : (0 : Int) ≤ (j : Int) := by omega
      have hi1 : (j : Int) < (k : Int) := by omega
      have hnn := HB.out.len hlt
      have HY := hide hry
      have HW2 := hide hrow2
      clear hrow hrow2 q1 q2 hry
      by_cases hd : f j = 3001
      · have hd1 : (f j != 3001) = false := by simp [hd]
        rw [hd] at ho2 o0
        clear hd1
        go_wp2_with fail
        generalize hW : wo.alloc _ = w3 at *
        clear hW o0 c0 c1 ho2
        go_loopw [27] (fun i wr => ∃ t : Nat, t ≤ (ts j).nn ∧ i = .int .i64 t ∧ Hid (allN (ts j) (overBy f now) t = true) ∧ wr = w3) (fun i _ => (ts j).nn - (intOf i).toNat)
        case atStart => exact ⟨0, Nat.zero_le _, rfl, hide rfl, rfl⟩
        case round =>
          obtain ⟨t, ht, rfl, HA, rfl⟩ := hrel
          by_cases htl : t < (ts j).nn
          · obtain ⟨by_, oy, rfl, hby, hrowy⟩ := HY.out (by omega)
            obtain ⟨z, hz, hzk, hzn⟩ := HB.out.need hlt htl
            have e0 := (hbA.cell (p := ⟨by_, oy + t, none⟩) hby).trans (hrowy t htl)
            rw [hz] at e0
            have e1 := (hbA.cell (p := ⟨b2, off2 + z, none⟩) hb2).trans (HW2.out z hzk)
            have hz0 : (0 : Int) ≤ (z : Int) := by omega
            have hz1 : (z : Int) < (k : Int) := by omega
            by_cases hgt : f z > now
            · have HN := hide (nx_go HP.out (show rdy ts (bgn f) (overBy f now) j = false by
                unfold rdy
                rw [Bool.and_eq_false_iff]; right
                cases hh : allN (ts j) (overBy f now) (ts j).nn with
                | false => rfl
                | true =>
                  have := (allN_iff _ _ _).1 hh t htl
                  rw [hzn] at this
                  unfold overBy at this
                  rw [decide_eq_true_eq] at this
                  omega))
              clear HY hrowy HA HP HB hz hzn HR HR2 HW2
              go_wp2
              exact ⟨⟨j + 1, by omega, by go_num, HN, hbA⟩, by simp [intOf]; omega⟩
            · have HA2 := hide (show allN (ts j) (overBy f now) (t + 1) = true by
                simp only [allN, HA.out, Bool.true_and, hzn]
                unfold overBy
                rw [decide_eq_true_eq]; omega)
              clear HY hrowy HA HP HB hz hzn HR HR2 HW2
              go_wp2
              exact ⟨⟨t + 1, by omega, by go_num, HA2, trivial⟩, by simp [intOf]; omega⟩
          · obtain rfl : t = (ts j).nn := by omega
            have HN := hide (nx_stop HP.out (show rdy ts (bgn f) (overBy f now) j = true by
              unfold rdy bgn
              rw [HA.out, hd]; simp) k hlt)
            clear HY HA HP HB HR HR2 HW2
            go_wp2
            rw [Exit.noGoto_ret]
            go_ret2
            exact ⟨by rw [HN.out]; rfl, hbA⟩
      · have hd1 : (f j != 3001) = true := by simp [hd]
        have HN := hide (nx_go HP.out (show rdy ts (bgn f) (overBy f now) j = false by unfold rdy bgn; simp [hd]))
        clear HP HB HR HR2 HY HW2 hd
        go_wp2
        exact ⟨⟨j + 1, by omega, by go_num, HN, hbA⟩, by simp [intOf]; omega⟩
    · obtain rfl : j = k := by omega
      clear HR HR2 HB
      go_wp2
      rw [Exit.noGoto_ret]
      go_ret2
      exact ⟨by rw [HP.out]; rfl, hbw⟩
end Go.Proofs.Ytkfnfgencaplfaa
