/-
  The law's helpers on slices of numbers: a copy in new memory, two that are told alike, marks that are written and found again.
-/
import Derived.Test.YtkfnfgencaplfaaMem
import Derived.Lib.QuietBelow
import Derived.BigQuiet
namespace Go.Proofs.Ytkfnfgencaplfaa
open Go.RowKit M
open Clk (upd upd_same upd_other)
open Go.Sort (grow)
namespace M
/-- Only block g may have turned. -/
structure Only (g : Nat) (w w' : World) : Prop where
  os : w'.os = w.os
  tape : w'.tape = w.tape
  output : w'.output = w.output
  size : w'.heap.size = w.heap.size
  block : ∀ k, k ≠ g → w'.heap[k]? = w.heap[k]?
theorem Only.refl (g : Nat) (w : World) : Only g w w := ⟨rfl, rfl, rfl, rfl, fun _ _ => rfl⟩
theorem Only.set {g : Nat} {w w' : World} (h : Only g w w') (i : Nat) (v : Value) : Only g w (w'.setCell ⟨g, i, none⟩ v) :=
  have hb := (Below.refl g w').setCell (p := ⟨g, i, none⟩) (Nat.le_refl _) v
  ⟨hb.os.trans h.os, hb.tape.trans h.tape, hb.output.trans h.output, by rw [World.size_setCell]; exact h.size, fun k hk => by rw [Below.heap_setCell _ _ _ _ hk]; exact h.block k hk⟩
theorem Only.below {g B : Nat} {w w' : World} (h : Only g w w') (hB : B ≤ g) : Below B w w' :=
  ⟨h.os, h.tape, h.output, by rw [h.size]; exact Nat.le_refl _, fun k hk => h.block k (by omega)⟩
theorem Only.blk {g : Nat} {w w' : World} (h : Only g w w') {g' n : Nat} {f : Nat → Value} {t : TypeId} (hb : Blk w g' n f t) (hne : g' ≠ g) : Blk w' g' n f t := by
  unfold Blk; rw [h.block g' hne]; exact hb
def cp (z f : Nat → Int) (k : Nat) : Nat → Int := fun i => if i < k then f i else z i
theorem cp_zero (z f : Nat → Int) : cp z f 0 = z := by funext q; simp [cp]
theorem cp_succ (z f : Nat → Int) (k : Nat) : upd (cp z f k) k (f k) = cp z f (k + 1) := by
  funext q; unfold upd cp
  by_cases h : q = k
  · subst h; simp
  · rw [if_neg h]
    by_cases h2 : q < k
    · rw [if_pos h2, if_pos (by omega)]
    · rw [if_neg h2, if_neg (by omega)]
end M
set_option maxHeartbeats 1000000 in
theorem to_ints (v : Value) (n : Nat) (f : Nat → Int) (w : World) (hv : IntsOf w v n f) (hn : n ≤ 1048576) :
    Calls Try.prog 80 #[v] w fun e w' => (e = .returned (.slice (some ⟨w.heap.size, 0, none⟩) n n) ∧ Blk w' w.heap.size n (iv f) 3) ∧ Below w.heap.size w w' := by
  obtain ⟨a, cap, rfl, hr⟩ := hv
  have HR := hide hr
  clear hr
  have hmk := make_ints n hn
  go_enter Try.func80, Try.ntmps80
  go_wp2
  go_loopw [4] (fun i wr => ∃ k : Nat, k ≤ n ∧ i = .int .i64 k ∧ Hid (Blk wr w.heap.size n (iv (cp (fun _ => 0) f k)) 3) ∧ Below w.heap.size w wr) (fun i _ => n - (intOf i).toNat)
  case atStart => exact ⟨0, Nat.zero_le _, rfl, hide (by rw [cp_zero]; exact Blk.new w n _ _), (Below.refl _ _).alloc (Nat.le_refl _) _⟩
  case round =>
    obtain ⟨k, hk, rfl, HA, hbw⟩ := hrel
    by_cases hlt : k < n
    · obtain ⟨b, off, rfl, hb, hrow⟩ := HR.out (by omega)
      have c0 := (hbw.cell (p := ⟨b, off + k, none⟩) hb).trans (hrow k hlt)
      have c1 := HA.out.cell_ints hlt
      have f1 := HA.out.thaw k
      have HA2 := hide (HA.out.set_int k (f k))
      rw [cp_succ] at HA2
      have hbw2 := hbw.setCell (p := ⟨w.heap.size, k, none⟩) (Nat.le_refl _) (.int .i64 (f k))
      clear HA hrow HR
      go_wp2
      exact ⟨⟨k + 1, by omega, by go_num, HA2, hbw2⟩, by simp [intOf]; omega⟩
    · have hB := HA.out.ext (f' := iv f) (fun i hi => by unfold iv cp; rw [if_pos (by omega)])
      have HB := hide hB
      clear HA HR hB
      go_wp2
      go_ret
      exact ⟨⟨rfl, HB.out⟩, hbw⟩

set_option maxHeartbeats 1000000 in
theorem eq_ints (v u : Value) (n : Nat) (f : Nat → Int) (w : World) (hv : IntsOf w v n f) (hu : IntsOf w u n f) (hn : n ≤ 1048576) :
    Calls Try.prog 22 #[v, u] w fun e w' => e = .returned (.bool true) ∧ Below w.heap.size w w' := by
  obtain ⟨a, cap, rfl, hr⟩ := hv
  obtain ⟨a2, cap2, rfl, hr2⟩ := hu
  have HR := hide hr
  have HR2 := hide hr2
  clear hr hr2
  go_enter Try.func22, Try.ntmps22
  go_wp2
  go_loopw [5] (fun i wr => ∃ k : Nat, k ≤ n ∧ i = .int .i64 k ∧ Below w.heap.size w wr) (fun i _ => n - (intOf i).toNat)
  case atStart => exact ⟨0, Nat.zero_le _, rfl, Below.refl _ _⟩
  case round =>
    obtain ⟨k, hk, rfl, hbw⟩ := hrel
    by_cases hlt : k < n
    · obtain ⟨b, off, rfl, hb, hrow⟩ := HR.out (by omega)
      obtain ⟨b2, off2, rfl, hb2, hrow2⟩ := HR2.out (by omega)
      have k0 := cell_regrown ((hbw.cell (p := ⟨b, off + k, none⟩) hb).trans (hrow k hlt))
      have k1 := cell_regrown ((hbw.cell (p := ⟨b2, off2 + k, none⟩) hb2).trans (hrow2 k hlt))
      have hi0 : (0 : Int) ≤ (k : Int) := by omega
      have hi1 : (k : Int) < (n : Int) := by omega
      clear hrow hrow2 HR HR2
      go_wp2
      refine wp_region_quiet_below (by kernel_rfl) (by kernel_rfl) ?_
      repeat (quiet_step (fail))
      refine wpQuiet_nil ?_
      intro _ hw'
      obtain ⟨⟨dq, osq⟩, hw''⟩ := hw'
      subst hw''
      have hbw2 := hbw.trans ((below_regrown wr dq osq).mono hbw.size)
      go_wp2
      go_roundw
      case rel => exact ⟨k + 1, by omega, by go_num, hbw2⟩
      case measure => simp [intOf]; omega
    · clear HR HR2
      go_wp2
      go_ret
      exact ⟨rfl, hbw⟩

set_option maxHeartbeats 1000000 in
theorem mark_ints (g n cap k0 : Nat) (f : Nat → Int) (w : World) (hg : Blk w g n (iv f) 3) (hn : n ≤ 1048576) (hk0 : k0 ≤ 1000000000) :
    Calls Try.prog 24 #[.slice (some ⟨g, 0, none⟩) n cap, .int .i64 (k0 : Nat)] w fun e w' => e = .returned (.int .i64 ((k0 + n : Nat) : Int)) ∧ Blk w' g n (iv fun i => ((k0 + i : Nat) : Int)) 3 ∧ Only g w w' := by
  have HG := hide hg
  clear hg
  go_enter Try.func24, Try.ntmps24
  go_wp2
  go_loopw [1, 5] (fun x i wr => ∃ k : Nat, k ≤ n ∧ i = .int .i64 k ∧ x = .int .i64 ((k0 + k : Nat) : Int) ∧ Hid (Blk wr g n (iv (cp f (fun i => ((k0 + i : Nat) : Int)) k)) 3) ∧ Only g w wr) (fun _ i _ => n - (intOf i).toNat)
  case atStart => exact ⟨0, Nat.zero_le _, rfl, rfl, hide (by rw [cp_zero]; exact HG.out), Only.refl _ _⟩
  case round =>
    obtain ⟨k, hk, rfl, rfl, HA, hbw⟩ := hrel
    by_cases hlt : k < n
    · have c1 := HA.out.cell_ints hlt
      have f1 := HA.out.thaw k
      have HA2 := hide (HA.out.set_int k ((k0 + k : Nat) : Int))
      rw [cp_succ f (fun i => ((k0 + i : Nat) : Int)) k] at HA2
      have hbw2 := hbw.set k (.int .i64 ((k0 + k : Nat) : Int))
      clear HA HG
      go_wp2
      exact ⟨⟨k + 1, by omega, by go_num, by go_num, HA2, hbw2⟩, by simp [intOf]; omega⟩
    · obtain rfl : k = n := by omega
      have hB := HA.out.ext (f' := iv fun i => ((k0 + i : Nat) : Int)) (fun i hi => by unfold iv cp; rw [if_pos (by omega)])
      have HB := hide hB
      clear HA HG hB
      go_wp2
      go_ret
      exact ⟨rfl, HB.out, hbw⟩
theorem mark_nil (k0 : Int) (w : World) :
    Calls Try.prog 24 #[.slice none 0 0, .int .i64 k0] w fun e w' => e = .returned (.int .i64 k0) ∧ w' = w := by
  go_enter Try.func24, Try.ntmps24
  go_wp2
  refine wp_loop_rounds 1 ?_; rw [rounds_succ]
  go_wp2
  go_ret
  exact ⟨rfl, rfl⟩

set_option maxHeartbeats 1000000 in
theorem held_ints (v : Value) (n k0 : Nat) (w : World) (hv : IntsOf w v n fun i => ((k0 + i : Nat) : Int)) (hn : n ≤ 1048576) (hk0 : k0 ≤ 1000000000) :
    Calls Try.prog 25 #[v, .int .i64 (k0 : Nat)] w fun e w' => e = .returned (.int .i64 ((k0 + n : Nat) : Int)) ∧ w' = w := by
  obtain ⟨a, cap, rfl, hr⟩ := hv
  have HR := hide hr
  clear hr
  go_enter Try.func25, Try.ntmps25
  go_wp2
  go_loop [1, 5] (fun x i => ∃ k : Nat, k ≤ n ∧ i = .int .i64 k ∧ x = .int .i64 ((k0 + k : Nat) : Int)) (fun _ i => n - (intOf i).toNat)
  case atStart => exact ⟨0, Nat.zero_le _, rfl, rfl⟩
  case round =>
    obtain ⟨k, hk, rfl, rfl⟩ := hrel
    by_cases hlt : k < n
    · obtain ⟨b, off, rfl, hb, hrow⟩ := HR.out (by omega)
      have c0 := hrow k hlt
      clear HR hrow
      go_wp2
      go_round
      case rel => exact ⟨k + 1, by omega, by go_num, by go_num⟩
      case measure => simp [intOf]; omega
    · obtain rfl : k = n := by omega
      clear HR
      go_wp2
      go_ret
      exact ⟨rfl, rfl⟩
end Go.Proofs.Ytkfnfgencaplfaa
