/-
  Small functions over items in both texts: bounds, the last item, how many have an event up to an Id, the Version of an Id.
-/
import Derived.Test.YtbajiamkgffhkaaDoorItA
import Derived.Deep.CutRange
import Derived.Test.YtbajiamkgffhkaaDoorGood
namespace Go.Proofs.YtbajiamkgffhkaaDoor
open Go.RowKit M
open Clk (upd upd_same upd_other)
theorem inB_yes {n lo hi : Int} (h1 : lo ≤ n) (h2 : n ≤ hi) : inB n lo hi = true := by simp [inB, h1, h2]
theorem inB_no {n lo hi : Int} (h : ¬ (lo ≤ n ∧ n ≤ hi)) : inB n lo hi = false := by unfold inB; rw [Bool.and_eq_false_iff]; simp; omega
theorem inB_iff {n lo hi : Int} : inB n lo hi = true ↔ lo ≤ n ∧ n ≤ hi := by simp [inB]
set_option maxHeartbeats 1000000 in
theorem impl_last (v : Value) (n : Nat) (l : Nat → Im) (w : World) (hv : ItemsOf w v n l) (hn : n ≤ 1048576) :
    Calls Tryd.prog 36 #[v] w fun e w' => e = .returned (.agg #[.int .i64 (lst l n).u, .int .i64 (lst l n).v]) ∧ Below w.heap.size w w' := by
  obtain ⟨a, cap, rfl, hr⟩ := hv
  have hbA := (Below.refl w.heap.size w).alloc (Nat.le_refl _)
  cases n with
  | zero =>
    clear hr
    have hb2 := ((Below.refl w.heap.size w).alloc (Nat.le_refl _) (.cells #[.int .i64 0, .int .i64 0] 57))
    go_enter Tryd.func36, Tryd.ntmps36
    go_wp2
    exact bodyPost_ret (v := .agg #[.int .i64 0, .int .i64 0]) (by simp [results, Tryd.results36, go_sem]) rfl ⟨rfl, by first | exact hb2 | exact (hb2.setCell (Nat.le_refl _) _).setCell (Nat.le_refl _) _⟩
  | succ k =>
    obtain ⟨b, off, rfl, hb, hrow⟩ := hr (by omega)
    obtain ⟨c0, c1⟩ := hrow k (by omega)
    have hk1 : ((k + 1 : Nat) : Int) - 1 = (k : Int) := by omega
    have hk2 : (((k + 1 : Nat) : Int) == 0) = false := by simp; omega
    have hb2 := ((Below.refl w.heap.size w).alloc (Nat.le_refl _) (.cells #[.int .i64 (l k).u, .int .i64 (l k).v] 57))
    clear hr hrow
    show Calls _ _ _ _ fun e w' => e = .returned (.agg #[.int .i64 (l k).u, .int .i64 (l k).v]) ∧ _
    go_enter Tryd.func36, Tryd.ntmps36
    go_wp2
    exact bodyPost_ret (v := .agg #[.int .i64 (l k).u, .int .i64 (l k).v]) (by simp [results, Tryd.results36, go_sem]) rfl ⟨rfl, by first | exact hb2 | exact (hb2.setCell (Nat.le_refl _) _).setCell (Nat.le_refl _) _⟩
set_option maxHeartbeats 1000000 in
theorem spec_last (v : Value) (n : Nat) (l : Nat → Im) (w : World) (hv : ItemsOf w v n l) (hn : n ≤ 1048576) :
    Calls Tryd.prog 39 #[v] w fun e w' => e = .returned (.int .i64 (ah l n)) ∧ w' = w := by
  obtain ⟨a, cap, rfl, hr⟩ := hv
  cases n with
  | zero =>
    clear hr
    go_enter Tryd.func39, Tryd.ntmps39
    go_wp2
    go_ret
    exact ⟨rfl, rfl⟩
  | succ k =>
    obtain ⟨b, off, rfl, hb, hrow⟩ := hr (by omega)
    obtain ⟨c0, c1⟩ := hrow k (by omega)
    have hk1 : ((k + 1 : Nat) : Int) - 1 = (k : Int) := by omega
    have hk2 : (((k + 1 : Nat) : Int) == 0) = false := by simp; omega
    clear hr hrow
    go_enter Tryd.func39, Tryd.ntmps39
    go_wp2
    go_ret
    exact ⟨rfl, rfl⟩
set_option maxHeartbeats 1000000 in
theorem impl_begun (v : Value) (n : Nat) (l : Nat → Im) (x : Int) (w : World) (hv : ItemsOf w v n l) (hn : n ≤ 1048576) :
    Calls Tryd.prog 37 #[v, .int .i64 x] w fun e w' => (∃ c : Nat, e = .returned (.int .i64 (c : Int)) ∧ Beg n l x c) ∧ Below w.heap.size w w' := by
  obtain ⟨a, cap, rfl, hr⟩ := hv
  have HR := hide hr
  clear hr
  go_enter Tryd.func37, Tryd.ntmps37
  go_wp2
  go_loopw [5, 10] (fun p i wr => ∃ j : Nat, j ≤ n ∧ i = .int .i64 j ∧ p = .int .i64 (ah l j) ∧ Hid (∀ q, q < j → ah l q < x) ∧ Below w.heap.size w wr) (fun _ i _ => n - (intOf i).toNat)
  case atStart => exact ⟨0, Nat.zero_le _, rfl, rfl, hide (fun q h => absurd h (by omega)), Below.refl _ _⟩
  case round =>
    obtain ⟨j, hj, rfl, rfl, HA, hbw⟩ := hrel
    by_cases hlt : j < n
    · obtain ⟨b, off, rfl, hb, hrow⟩ := HR.out (by omega)
      have c0 := (hbw.cell (p := ⟨b, off + j * 2, none⟩) hb).trans (hrow j hlt).1
      have c1 := (hbw.cell (p := ⟨b, off + j * 2 + 1, none⟩) hb).trans (hrow j hlt).2
      have hbw2 := hbw.alloc hbw.size (.cells #[.int .i64 (l j).u, .int .i64 (l j).v] 57)
      clear HR hrow
      by_cases hx : x ≤ ah l j
      · have HB := hide (show Beg n l x j from ⟨hj, HA.out, fun _ => hx⟩)
        clear HA
        generalize ah l j = y at *
        go_wp2
        go_ret
        exact ⟨⟨j, rfl, HB.out⟩, hbw2⟩
      · have HB := hide (show (∀ q, q < j + 1 → ah l q < x) from fun q hq => by
          by_cases e : q = j
          · subst e; omega
          · exact HA.out q (by omega))
        clear HA
        have HE := hide (ah_succ l j)
        generalize ah l j = y at *
        go_wp2
        go_roundw
        case rel => exact ⟨j + 1, by omega, by go_num, by rw [HE.out], HB, hbw2⟩
        case measure => simp [intOf]; omega
    · obtain rfl : j = n := by omega
      have HB := hide (show Beg j l x j from ⟨Nat.le_refl _, HA.out, fun h => absurd h (Nat.lt_irrefl _)⟩)
      clear HR HA
      generalize ah l j = y at *
      go_wp2
      go_ret
      exact ⟨⟨j, rfl, HB.out⟩, hbw⟩
end Go.Proofs.YtbajiamkgffhkaaDoor
