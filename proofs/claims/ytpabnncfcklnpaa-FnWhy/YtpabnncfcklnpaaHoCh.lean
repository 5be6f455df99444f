/-
  The law's helpers: numbers that are the same, a number that is there, numbers that are all there.
-/
import Derived.Test.YtpabnncfcklnpaaHoCd
namespace Go.Proofs.Ytpabnncfcklnpaa
open Go.RowKit M
set_option maxHeartbeats 1000000 in
theorem same_ints (v u : Value) (n : Nat) (f : Nat → Int) (w : World) (hv : IntsOf w v n f) (hu : IntsOf w u n f) (hn : n ≤ 1048576) :
    Calls Try.prog 34 #[v, u] w fun e w' => e = .returned (.bool true) ∧ Below w.heap.size w w' := by
  obtain ⟨a, cap, rfl, hr⟩ := hv
  obtain ⟨a2, cap2, rfl, hr2⟩ := hu
  have HR := hide hr
  have HR2 := hide hr2
  clear hr hr2
  go_enter Try.func34, Try.ntmps34
  go_wp2
  go_loopw [13] (fun i wr => ∃ k : Nat, k ≤ n ∧ i = .int .i64 k ∧ Below w.heap.size w wr) (fun i _ => n - (intOf i).toNat)
  case atStart => exact ⟨0, Nat.zero_le _, rfl, Below.refl _ _⟩
  case round =>
    obtain ⟨k, hk, rfl, hbw⟩ := hrel
    by_cases hlt : k < n
    · obtain ⟨b, off, rfl, hb, hrow⟩ := HR.out (by omega)
      obtain ⟨b2, off2, rfl, hb2, hrow2⟩ := HR2.out (by omega)
      have k0 := cell_regrown ((hbw.cell (p := ⟨b, off + k, none⟩) hb).trans (hrow k hlt))
      have k1 := cell_regrown ((hbw.cell (p := ⟨b2, off2 + k, none⟩) hb2).trans (hrow2 k hlt))
      have hi0 : (0 : Int) ≤ (k : Int) := by omega
      have hi1 : (k : Int) < (n : Int) := by omega
      clear hrow hrow2 HR HR2
      go_wp2
      refine wp_region_quiet_below (by kernel_rfl) (by kernel_rfl) ?_
      repeat (quiet_step (fail))
      refine wpQuiet_nil ?_
      intro _ hw'
      obtain ⟨⟨dq, osq⟩, hw''⟩ := hw'
      subst hw''
      have hbw2 := hbw.trans ((below_regrown wr dq osq).mono hbw.size)
      go_wp2
      go_roundw
      case rel => exact ⟨k + 1, by omega, by go_num, hbw2⟩
      case measure => simp [intOf]; omega
    · clear HR HR2
      go_wp2
      go_ret
      exact ⟨rfl, hbw⟩
set_option maxHeartbeats 1000000 in
theorem has_true (v : Value) (n i0 : Nat) (f : Nat → Int) (x : Int) (w : World) (hv : IntsOf w v n f) (hn : n ≤ 1048576) (hi : i0 < n) (hx : f i0 = x) :
    Calls Try.prog 36 #[v, .int .i64 x] w fun e w' => e = .returned (.bool true) ∧ Below w.heap.size w w' := by
  obtain ⟨a, cap, rfl, hr⟩ := hv
  have HR := hide hr
  have HX := hide (show ∀ k, k ≤ i0 → f k ≠ x → k + 1 ≤ i0 from fun k hk hne => by
    rcases Nat.lt_or_ge k i0 with h | h
    · exact h
    · exact absurd (by rw [show k = i0 by omega]; exact hx) hne)
  clear hr
  clear hx
  go_enter Try.func36, Try.ntmps36
  go_wp2
  go_loopw [9] (fun i wr => ∃ k : Nat, k ≤ i0 ∧ i = .int .i64 k ∧ Below w.heap.size w wr) (fun i _ => n - (intOf i).toNat)
  case atStart => exact ⟨0, Nat.zero_le _, rfl, Below.refl _ _⟩
  case round =>
    obtain ⟨k, hk, rfl, hbw⟩ := hrel
    have hlt : k < n := by omega
    obtain ⟨b, off, rfl, hb, hrow⟩ := HR.out (by omega)
    have k0 := (hbw.cell (p := ⟨b, off + k, none⟩) hb).trans (hrow k hlt)
    have hi0 : (0 : Int) ≤ (k : Int) := by omega
    have hi1 : (k : Int) < (n : Int) := by omega
    clear hrow HR
    by_cases he : f k = x
    · have heb : (f k == x) = true := by simp [he]
      go_wp2
      go_ret
      exact ⟨rfl, hbw⟩
    · have heb : (f k == x) = false := by simp [he]
      have hk1 := HX.out k hk he
      go_wp2
      exact ⟨⟨k + 1, by omega, by go_num, hbw⟩, by simp [intOf]; omega⟩
set_option maxHeartbeats 1000000 in
theorem within_true (v u : Value) (n m : Nat) (f g : Nat → Int) (w : World) (hv : IntsOf w v n f) (hu : IntsOf w u m g) (hn : n ≤ 1048576) (hm : m ≤ 1048576) (hin : ∀ i, i < n → ∃ j, j < m ∧ g j = f i) :
    Calls Try.prog 35 #[v, u] w fun e w' => e = .returned (.bool true) ∧ Below w.heap.size w w' := by
  obtain ⟨a, cap, rfl, hr⟩ := hv
  have HR := hide hr
  have HU := hide hu
  have HI := hide hin
  obtain ⟨a2, cap2, rfl⟩ := hu.form
  clear hr hu hin
  go_enter Try.func35, Try.ntmps35
  go_wp2
  go_loopw [9] (fun i wr => ∃ k : Nat, k ≤ n ∧ i = .int .i64 k ∧ Below w.heap.size w wr) (fun i _ => n - (intOf i).toNat)
  case atStart => exact ⟨0, Nat.zero_le _, rfl, Below.refl _ _⟩
  case round =>
    rename World => wo
    obtain ⟨k, hk, rfl, hbw⟩ := hrel
    by_cases hlt : k < n
    · obtain ⟨b, off, rfl, hb, hrow⟩ := HR.out (by omega)
      have k0 := (hbw.cell (p := ⟨b, off + k, none⟩) hb).trans (hrow k hlt)
      have hi0 : (0 : Int) ≤ (k : Int) := by omega
      have hi1 : (k : Int) < (n : Int) := by omega
      obtain ⟨j, hj, hjk⟩ := HI.out k hlt
      clear hrow HR
      generalize f k = x at *
      go_wp2_with fail
      refine (has_true _ m j g x _ (HU.out.below hbw) hm hj hjk).mono ?_
      rintro e w2 ⟨rfl, hb2⟩
      have hbw2 := hbw.trans (hb2.mono hbw.size)
      clear hb2
      go_wp2
      exact ⟨⟨k + 1, by omega, by go_num, hbw2⟩, by simp [intOf]; omega⟩
    · go_wp2
      go_ret
      exact ⟨rfl, hbw⟩
end Go.Proofs.Ytpabnncfcklnpaa
