/-
  slices.Contains of numbers, and whether a way goes on.
-/
import Derived.Test.YtkfnfgencaplfaaPlanXD
namespace Go.Proofs.Ytkfnfgencaplfaa
open Go.RowKit M
set_option maxHeartbeats 600000 in
theorem index_is (v : Value) (n : Nat) (f : Nat → Int) (z : Int) (b : Bool) (w : World) (hv : IntsOf w v n f) (hn : n ≤ 1048576) (hb : hasF f z n = b) :
    Calls Try.prog 89 #[v, .int .i64 z] w fun e w' => (∃ r : Int, e = .returned (.int .i64 r) ∧ decide (0 ≤ r) = b ∧ -1 ≤ r ∧ r < 1048577) ∧ w' = w := by
  obtain ⟨a, cap, rfl, hr⟩ := hv
  have HR := hide hr
  have HB := hide hb
  clear hr hb
  go_enter Try.func89, Try.ntmps89
  go_wp2
  go_loop [8] (fun i => ∃ k : Nat, k ≤ n ∧ i = .int .i64 k ∧ Hid (∀ j, j < k → f j ≠ z)) (fun i => n - (intOf i).toNat)
  case atStart => exact ⟨0, Nat.zero_le _, rfl, hide (fun j h => absurd h (by omega))⟩
  case round =>
    obtain ⟨k, hk, rfl, HP⟩ := hrel
    by_cases hlt : k < n
    · obtain ⟨bb, off, rfl, hbb, hrow⟩ := HR.out (by omega)
      have c0 := hrow k hlt
      have hi0 : (0 : Int) ≤ (k : Int) := by omega
      have hi1 : (k : Int) < (n : Int) := by omega
      by_cases he : f k = z
      · have eb : b = true := by rw [← HB.out, hasF_iff]; exact ⟨k, hlt, he⟩
        subst eb
        have hd : (z == f k) = true := by simp [he]
        clear HR hrow HP HB he
        go_wp2
        go_ret
        exact ⟨⟨_, rfl, by simp, by omega, by omega⟩, rfl⟩
      · have hd : (z == f k) = false := by simp; exact fun h => he h.symm
        have HP2 := hide (show ∀ j, j < k + 1 → f j ≠ z from fun j hj => by
          rcases (show j < k ∨ j = k by omega) with h | h
          · exact HP.out j h
          · subst h; exact he)
        clear HR hrow HP HB he
        go_wp2
        go_round
        case rel => exact ⟨k + 1, by omega, by go_num, HP2⟩
        case measure => simp [intOf]; omega
    · obtain rfl : k = n := by omega
      have eb : b = false := by
        cases hbb : b with
        | false => rfl
        | true => obtain ⟨j, h1, h2⟩ := (hasF_iff f z k).1 (HB.out.trans hbb); exact absurd h2 (HP.out j h1)
      subst eb
      clear HR HP HB
      go_wp2
      go_ret
      exact ⟨⟨_, rfl, by decide, by omega, by omega⟩, rfl⟩
set_option maxHeartbeats 600000 in
theorem contains_is (v : Value) (n : Nat) (f : Nat → Int) (z : Int) (b : Bool) (w : World) (hv : IntsOf w v n f) (hn : n ≤ 1048576) (hb : hasF f z n = b) :
    Calls Try.prog 84 #[v, .int .i64 z] w fun e w' => e = .returned (.bool b) ∧ w' = w := by
  have HI := hide (index_is v n f z b w hv hn hb)
  obtain ⟨a, cap, rfl⟩ := hv.form
  clear hv hb
  go_enter Try.func84, Try.ntmps84
  go_wp2_with fail
  refine HI.out.mono ?_
  rintro e w' ⟨⟨r, rfl, hr, h1, h2⟩, rfl⟩
  clear HI
  go_wp2
  go_ret
  exact ⟨rfl, rfl⟩
set_option maxRecDepth 20000 in
set_option maxHeartbeats 1000000 in
theorem goes_on (u v : Value) (l : List Nat) (t : Tk) (b : Bool) (w : World) (hu : IntsOf w u l.length (lv l)) (hv : IntsOf w v t.nn t.fn) (hl : l.length ≤ 100000) (hn : t.nn ≤ 30) (hb : goB (fun _ => t) l 0 = b) :
    Calls Try.prog 65 #[u, .agg #[.int .i64 t.long, v]] w fun e w' => e = .returned (.bool b) ∧ Below w.heap.size w w' := by
  have HU := hide hu
  have HV := hide hv
  obtain ⟨a, cap, rfl⟩ := hu.form
  obtain ⟨a2, cap2, rfl⟩ := hv.form
  have hbA := (Below.refl w.heap.size w).alloc (Nat.le_refl _) (.cells #[.int .i64 t.long, .slice a2 t.nn cap2] 56)
  have hx := (Blk.fresh w #[.int .i64 t.long, .slice a2 t.nn cap2] 2 (p2 (.int .i64 t.long) (.slice a2 t.nn cap2)) 56 rfl).pair
  obtain ⟨x0, x1, -, -⟩ := hx
  clear hu hv
  rcases List.eq_nil_or_concat l with h | ⟨l', y, h⟩
  · subst h
    have hb' : decide (t.nn = 0) = b := hb
    have hbz : ((t.nn : Int) == 0) = b := by rw [← hb']; rw [Bool.eq_iff_iff]; simp
    clear hb hb'
    go_enter Try.func65, Try.ntmps65
    go_wp2
    go_ret
    exact ⟨rfl, hbA⟩
  · rw [List.concat_eq_append] at h
    have hb' : hasF t.fn (y : Int) t.nn = b := by
      unfold goB at hb; rw [h, List.getLast?_concat] at hb; exact hb
    have hll : l.length = l'.length + 1 := by rw [h]; simp
    have hlv : lv l l'.length = (y : Int) := by rw [lv_at (by omega)]; simp [h]
    obtain ⟨_, _, e, hr⟩ := HU.out
    cases e
    obtain ⟨bb, off, rfl, hbb, hrow⟩ := hr (by omega)
    have c0 := (hbA.cell (p := ⟨bb, off + l'.length, none⟩) hbb).trans (hrow l'.length (by omega))
    rw [hlv] at c0
    rw [hll]
    have HC := hide (show ∀ n : Nat, Calls Try.prog 84 #[.slice a2 t.nn cap2, .int .i64 (y : Int)] ((w.alloc (.cells #[.int .i64 t.long, .slice a2 t.nn cap2] 56)).drewN n) (fun e w' => e = .returned (.bool b) ∧ w' = (w.alloc (.cells #[.int .i64 t.long, .slice a2 t.nn cap2] 56)).drewN n) from fun n => contains_is _ t.nn t.fn (y : Int) b _ (HV.out.below (below_drewN hbA n)) (by omega) hb')
    have hi0 : (0 : Int) ≤ (l'.length : Int) := by omega
    clear hb hrow hr
    go_enter Try.func65, Try.ntmps65
    go_wp2_with fail
    go_big_quiet (exact Calls.quiet_of_same (HC.out _))
    go_wp2
    go_ret
    exact ⟨rfl, below_drewN hbA _⟩
end Go.Proofs.Ytkfnfgencaplfaa
