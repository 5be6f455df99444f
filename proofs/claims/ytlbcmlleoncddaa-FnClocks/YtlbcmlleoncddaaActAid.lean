/-
  The law's helpers on slices of acts: how many are left, a copy in new memory, two that are told alike, marks.
-/
import Derived.Test.YtlbcmlleoncddaaIntAid
namespace Go.Proofs.Ytlbcmlleoncddaa
open Go.RowKit M
open Clk (upd upd_same upd_other)
open Go.Sort (grow)
namespace M
theorem av_upd (l : Nat → Ac) (k : Nat) (a : Ac) : upd (upd (av l) (k * 2) (.int .i64 a.proc)) (k * 2 + 1) (.int .i64 a.frm) = av (upd l k a) := by
  funext j
  by_cases h1 : j = k * 2 + 1
  · subst h1; rw [upd_same, av_odd, upd_same]
  · rw [upd_other _ _ _ _ h1]
    by_cases h2 : j = k * 2
    · subst h2; rw [upd_same, av_even, upd_same]
    · rw [upd_other _ _ _ _ h2]; unfold av; rw [upd_other _ _ _ _ (show j / 2 ≠ k by omega)]
def cpA (l : Nat → Ac) (k : Nat) : Nat → Ac := fun i => if i < k then l i else ⟨0, 0⟩
theorem cpA_zero (l : Nat → Ac) : cpA l 0 = fun _ => ⟨0, 0⟩ := by funext q; simp [cpA]
theorem cpA_succ (l : Nat → Ac) (k : Nat) : upd (cpA l k) k (l k) = cpA l (k + 1) := by
  funext q; unfold upd cpA
  by_cases h : q = k
  · subst h; simp
  · rw [if_neg h]
    by_cases h2 : q < k
    · rw [if_pos h2, if_pos (by omega)]
    · rw [if_neg h2, if_neg (by omega)]
theorem madeA (n : Nat) : madeCells #[.int .i64 0, .int .i64 0] (n * 2) = cf (n * 2) (av fun _ => ⟨0, 0⟩) := by
  apply Array.ext_getElem?
  intro j
  by_cases hj : j < n * 2
  · rw [cf_get _ hj]
    have h1 : (madeCells #[.int .i64 0, .int .i64 0] (n * 2))[j]? = some (#[(.int .i64 0 : Value), .int .i64 0][j % 2]!) := by simp [madeCells, hj]
    rw [h1]
    unfold av
    rcases (show j % 2 = 0 ∨ j % 2 = 1 by omega) with h | h <;> rw [h] <;> rfl
  · rw [Array.getElem?_eq_none (by rw [size_madeCells]; omega), Array.getElem?_eq_none (by rw [cf_size]; omega)]
end M
theorem info_act : (Try.prog.info? 54).map (fun i => (i.zero, i.size, i.bytes)) = some (some (.agg #[.int .i64 0, .int .i64 0]), 2, 16) := by kernel_rfl
theorem make_acts (n : Nat) (h : n ≤ 1048576) (w : World) : (Instr.makeSlice 25 (.int .i64 (n : Int)) (.int .i64 (n : Int))).run Try.prog w = .ok (.slice (some ⟨w.heap.size, 0, none⟩) n n) (w.alloc (.cells (cf (n * 2) (av fun _ => ⟨0, 0⟩)) 54)) := by
  obtain ⟨i, hi, hz0, hz1, hz2⟩ := info_parts info_act
  have hr := run_make (P := Try.prog) w 25 54 i _ Try.underlying25 hi hz0 .i64 .i64 (n : Int) (n : Int) (by omega) (Int.le_refl _) (by rw [hz2]; omega) (by omega)
  rw [hr, hz1]
  simp only [Int.toNat_natCast]
  rw [← madeA]
  rfl
theorem sz_acts (a : Option Addr) (n cap : Nat) (w : World) (hn : n ≤ 1048576) :
    Calls Try.prog 13 #[.slice a n cap, .int .i64 1048576] w fun e w' => e = .returned (.int .i64 (1048576 - (n : Int))) ∧ w' = w := by
  have hge : ¬ (1048576 - (n : Int) < 0) := by omega
  go_enter Try.func13, Try.ntmps13
  go_wp2
  go_ret
  exact ⟨rfl, rfl⟩
theorem sz_acts_no (a : Option Addr) (n cap : Nat) (w : World) (hm : n ≤ maxLen) (hn : ¬ n ≤ 1048576) :
    Calls Try.prog 13 #[.slice a n cap, .int .i64 1048576] w fun e w' => e = .returned (.int .i64 (-1)) ∧ w' = w := by
  unfold maxLen at hm
  have hge : (1048576 - (n : Int) < 0) := by omega
  go_enter Try.func13, Try.ntmps13
  go_wp2
  go_ret
  exact ⟨rfl, rfl⟩
theorem to_act (p f : Int) (w : World) :
    Calls Try.prog 45 #[.agg #[.int .i64 p, .int .i64 f]] w fun e w' => e = .returned (.agg #[.int .i64 p, .int .i64 f]) ∧ Below w.heap.size w w' := by
  go_enter Try.func45, Try.ntmps45
  go_wp2
  exact bodyPost_ret (v := .agg #[.int .i64 p, .int .i64 f]) (by simp [results, Try.results45, go_sem]) rfl ⟨rfl, (((Below.refl _ _).alloc (Nat.le_refl _) _).alloc (by simp) _).alloc (by simp; omega) _⟩
theorem eq_act (p f : Int) (w : World) :
    Calls Try.prog 48 #[.agg #[.int .i64 p, .int .i64 f], .agg #[.int .i64 p, .int .i64 f]] w fun e w' => e = .returned (.bool true) ∧ Below w.heap.size w w' := by
  have h1 : (p != p) = false := by simp
  have h2 : (f != f) = false := by simp
  go_enter Try.func48, Try.ntmps48
  go_wp2
  go_ret
  exact ⟨rfl, ((Below.refl _ _).alloc (Nat.le_refl _) _).alloc (by simp) _⟩
set_option maxHeartbeats 1000000 in
theorem to_acts (v : Value) (n : Nat) (l : Nat → Ac) (w : World) (hv : ActsOf w v n l) (hn : n ≤ 1048576) :
    Calls Try.prog 15 #[v] w fun e w' => (e = .returned (.slice (some ⟨w.heap.size, 0, none⟩) n n) ∧ Blk w' w.heap.size (n * 2) (av l) 54) ∧ Below w.heap.size w w' := by
  obtain ⟨a, cap, rfl, hr⟩ := hv
  have HR := hide hr
  clear hr
  have hmk := make_acts n hn
  go_enter Try.func15, Try.ntmps15
  go_wp2
  go_loopw [4] (fun i wr => ∃ k : Nat, k ≤ n ∧ i = .int .i64 k ∧ Hid (Blk wr w.heap.size (n * 2) (av (cpA l k)) 54) ∧ Below w.heap.size w wr) (fun i _ => n - (intOf i).toNat)
  case atStart => exact ⟨0, Nat.zero_le _, rfl, hide (by rw [cpA_zero]; exact Blk.new w (n * 2) _ _), (Below.refl _ _).alloc (Nat.le_refl _) _⟩
  case round =>
    obtain ⟨k, hk, rfl, HA, hbw⟩ := hrel
    by_cases hlt : k < n
    · obtain ⟨b, off, rfl, hb, hrow⟩ := HR.out (by omega)
      have c0 := (hbw.cell (p := ⟨b, off + k * 2, none⟩) hb).trans (hrow k hlt).1
      have c1 := (hbw.cell (p := ⟨b, off + k * 2 + 1, none⟩) hb).trans (hrow k hlt).2
      clear hrow HR
      go_wp2_with fail
      refine (to_act _ _ _).mono ?_
      rintro e w1 ⟨rfl, hb1⟩
      have hbw1 := hbw.trans (hb1.mono hbw.size)
      have hA1 := HA.out.down hb1
      have d0 := hA1.cell (show k * 2 < n * 2 by omega)
      have d1 := hA1.cell (show k * 2 + 1 < n * 2 by omega)
      have f0 := hA1.thaw (k * 2)
      have f1 := hA1.thaw (k * 2 + 1)
      have hA2 := (hA1.set (k * 2) (.int .i64 (l k).proc)).set (k * 2 + 1) (.int .i64 (l k).frm)
      rw [av_upd, cpA_succ] at hA2
      have HA2 := hide hA2
      have hbw2 := (hbw1.setCell (p := ⟨w.heap.size, k * 2, none⟩) (Nat.le_refl _) (.int .i64 (l k).proc)).setCell (p := ⟨w.heap.size, k * 2 + 1, none⟩) (Nat.le_refl _) (.int .i64 (l k).frm)
      clear HA hA1 hA2 hb1 c0 c1
      go_wp2
      exact ⟨⟨k + 1, by omega, by go_num, HA2, hbw2⟩, by simp [intOf]; omega⟩
    · have hB := HA.out.ext (f' := av l) (fun i hi => by unfold av cpA; simp only [if_pos (show i / 2 < k by omega)])
      have HB := hide hB
      clear HA HR hB
      go_wp2
      go_ret
      exact ⟨⟨rfl, HB.out⟩, hbw⟩
set_option maxHeartbeats 1000000 in
theorem eq_acts (v u : Value) (n : Nat) (l : Nat → Ac) (w : World) (hv : ActsOf w v n l) (hu : ActsOf w u n l) (hn : n ≤ 1048576) :
    Calls Try.prog 17 #[v, u] w fun e w' => e = .returned (.bool true) ∧ Below w.heap.size w w' := by
  obtain ⟨a, cap, rfl, hr⟩ := hv
  obtain ⟨a2, cap2, rfl, hr2⟩ := hu
  have HR := hide hr
  have HR2 := hide hr2
  clear hr hr2
  go_enter Try.func17, Try.ntmps17
  go_wp2
  go_loopw [5] (fun i wr => ∃ k : Nat, k ≤ n ∧ i = .int .i64 k ∧ Below w.heap.size w wr) (fun i _ => n - (intOf i).toNat)
  case atStart => exact ⟨0, Nat.zero_le _, rfl, Below.refl _ _⟩
  case round =>
    obtain ⟨k, hk, rfl, hbw⟩ := hrel
    by_cases hlt : k < n
    · obtain ⟨b, off, rfl, hb, hrow⟩ := HR.out (by omega)
      obtain ⟨b2, off2, rfl, hb2, hrow2⟩ := HR2.out (by omega)
      have k0 := cell_regrown ((hbw.cell (p := ⟨b, off + k * 2, none⟩) hb).trans (hrow k hlt).1)
      have k1 := cell_regrown ((hbw.cell (p := ⟨b, off + k * 2 + 1, none⟩) hb).trans (hrow k hlt).2)
      have g0 := cell_regrown ((hbw.cell (p := ⟨b2, off2 + k * 2, none⟩) hb2).trans (hrow2 k hlt).1)
      have g1 := cell_regrown ((hbw.cell (p := ⟨b2, off2 + k * 2 + 1, none⟩) hb2).trans (hrow2 k hlt).2)
      have hi0 : (0 : Int) ≤ (k : Int) := by omega
      have hi1 : (k : Int) < (n : Int) := by omega
      have HE := hide (show ∀ d os, Calls Try.prog 48 #[(l k).v, (l k).v] (grow (redrawn wr d) os) fun e w'' => e = .returned (.bool true) ∧ ∃ p : Regrown, w'' = grow (redrawn wr p.d) p.os from fun d os => Calls.regrown_of (eq_act _ _ _))
      clear hrow hrow2 HR HR2
      go_wp2
      refine wp_region_quiet_below (by kernel_rfl) (by kernel_rfl) ?_
      repeat (quiet_step (exact HE.out _ _))
      refine wpQuiet_nil ?_
      intro _ hw'
      obtain ⟨⟨dq, osq⟩, hw''⟩ := hw'
      subst hw''
      have hbw2 := hbw.trans ((below_regrown wr dq osq).mono hbw.size)
      go_wp2
      go_roundw
      case rel => exact ⟨k + 1, by omega, by go_num, hbw2⟩
      case measure => simp [intOf]; omega
    · clear HR HR2
      go_wp2
      go_ret
      exact ⟨rfl, hbw⟩
set_option maxHeartbeats 1000000 in
theorem mark_acts (g n cap : Nat) (f : Nat → Value) (w : World) (hg : Blk w g (n * 2) f 54) (hn : n ≤ 1048576) :
    Calls Try.prog 21 #[.slice (some ⟨g, 0, none⟩) n cap, .int .i64 1] w fun e w' => e = .returned (.int .i64 ((1 + 2 * n : Nat) : Int)) ∧ Only g w w' := by
  have HG := hide hg
  clear hg
  go_enter Try.func21, Try.ntmps21
  go_wp2
  go_loopw [1, 5] (fun x i wr => ∃ (k : Nat) (f : Nat → Value), k ≤ n ∧ i = .int .i64 k ∧ x = .int .i64 ((1 + 2 * k : Nat) : Int) ∧ Hid (Blk wr g (n * 2) f 54) ∧ Only g w wr) (fun _ i _ => n - (intOf i).toNat)
  case atStart => exact ⟨0, f, Nat.zero_le _, rfl, rfl, HG, Only.refl _ _⟩
  case round =>
    obtain ⟨k, f, hk, rfl, rfl, HA, hbw⟩ := hrel
    by_cases hlt : k < n
    · have d0 := HA.out.cell (show k * 2 < n * 2 by omega)
      have d1 := HA.out.cell (show k * 2 + 1 < n * 2 by omega)
      have f0 := HA.out.thaw (k * 2)
      have f1 := HA.out.thaw (k * 2 + 1)
      have H2 := hide (show ∀ a b : Value, Blk ((wr.setCell ⟨g, k * 2, none⟩ a).setCell ⟨g, k * 2 + 1, none⟩ b) g (n * 2) (upd (upd f (k * 2) a) (k * 2 + 1) b) 54 ∧ Only g w ((wr.setCell ⟨g, k * 2, none⟩ a).setCell ⟨g, k * 2 + 1, none⟩ b) from fun a b => ⟨(HA.out.set _ _).set _ _, (hbw.set _ _).set _ _⟩)
      clear HA HG
      go_wp2
      exact ⟨⟨k + 1, _, by omega, by go_num, by go_num, hide (H2.out _ _).1, (H2.out _ _).2⟩, by simp [intOf]; omega⟩
    · obtain rfl : k = n := by omega
      clear HA HG
      go_wp2
      go_ret
      exact ⟨rfl, hbw⟩
end Go.Proofs.Ytlbcmlleoncddaa
