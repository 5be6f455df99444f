/-
  Slots: what the law of a list of slots does with them (their count, copies, comparison).
-/
import Derived.Test.YtlegbkafpfkjeaaTaskA
namespace Go.Proofs.Ytlegbkafpfkjeaa
open Go.ChangeShapes Go.WideShapes Go.ChangeAt Go.RowKit Go.Joins Go.Deep
open M
open Clk (upd upd_same upd_other)
open Go.Sort (grow)
namespace M
/-- A slice of slots that is read: f tells all numbers, three a slot. -/
def SlotsOf (w : World) (v : Value) (n : Nat) (f : Nat → Int) : Prop :=
  ∃ a cap, v = .slice a n cap ∧ (0 < n → ∃ b off, a = some ⟨b, off, none⟩ ∧ b < w.heap.size ∧ ∀ q, q < n * 3 → w.cell? ⟨b, off + q, none⟩ = some (.int .i64 (f q)))
theorem SlotsOf.below {w w' : World} {v : Value} {n : Nat} {f : Nat → Int} (h : SlotsOf w v n f) (hb : Below w.heap.size w w') : SlotsOf w' v n f := by
  obtain ⟨a, cap, hv, hr⟩ := h
  refine ⟨a, cap, hv, fun hn => ?_⟩
  obtain ⟨b, off, ha, hlt, hrow⟩ := hr hn
  exact ⟨b, off, ha, Nat.lt_of_lt_of_le hlt hb.size, fun q hq => (hb.cell (p := ⟨b, off + q, none⟩) hlt).trans (hrow q hq)⟩
theorem SlotsOf.form {w : World} {v : Value} {n : Nat} {f : Nat → Int} (h : SlotsOf w v n f) : ∃ a cap, v = .slice a n cap := by
  obtain ⟨a, cap, hv, _⟩ := h; exact ⟨a, cap, hv⟩
theorem Blk.slots {w : World} {g n cap : Nat} {f : Nat → Int} {t : TypeId} (h : Blk w g (n * 3) (iv f) t) : SlotsOf w (.slice (some ⟨g, 0, none⟩) n cap) n f :=
  ⟨_, _, rfl, fun _ => ⟨g, 0, rfl, h.lt, fun q hq => by rw [Nat.zero_add]; exact h.cell_ints hq⟩⟩
theorem madeS (n : Nat) : madeCells #[(.int .i64 0 : Value), .int .i64 0, .int .i64 0] (n * 3) = cf (n * 3) (iv fun _ => 0) := by
  apply Array.ext_getElem?
  intro j
  by_cases hj : j < n * 3
  · rw [cf_get _ hj]
    have h1 : (madeCells #[(.int .i64 0 : Value), .int .i64 0, .int .i64 0] (n * 3))[j]? = some (#[(.int .i64 0 : Value), .int .i64 0, .int .i64 0][j % 3]!) := by simp [madeCells, hj]
    rw [h1]
    unfold iv
    rcases (show j % 3 = 0 ∨ j % 3 = 1 ∨ j % 3 = 2 by omega) with h | h | h
    · rw [h]; rfl
    · rw [h]; rfl
    · rw [h]; rfl
  · rw [Array.getElem?_eq_none (by rw [size_madeCells]; omega), Array.getElem?_eq_none (by rw [cf_size]; omega)]
theorem three3 (w : World) (c1 c2 c3 : Array Value) (t1 t2 t3 : TypeId) {n : Nat} (f1 f2 f3 : Nat → Value) (h1 : c1 = cf n f1) (h2 : c2 = cf n f2) (h3 : c3 = cf n f3) : ∀ W, W = ((w.alloc (.cells c1 t1)).alloc (.cells c2 t2)).alloc (.cells c3 t3) →
    Blk W w.heap.size n f1 t1 ∧ Blk W (w.heap.size + 1) n f2 t2 ∧ Blk W (w.heap.size + 2) n f3 t3 ∧ Below w.heap.size w W ∧ W.heap.size = w.heap.size + 3 := by
  rintro W rfl
  have b2 := Blk.fresh (w.alloc (.cells c1 t1)) c2 n f2 t2 h2
  have b3 := Blk.fresh ((w.alloc (.cells c1 t1)).alloc (.cells c2 t2)) c3 n f3 t3 h3
  simp only [World.size_alloc] at b2 b3
  exact ⟨((Blk.fresh w c1 n f1 t1 h1).alloc _).alloc _, b2.alloc _, b3, (((Below.refl _ w).alloc (Nat.le_refl _) _).alloc (by simp) _).alloc (by simp; omega) _, by simp⟩
end M
theorem info_slot : (Try.prog.info? 70).map (fun i => (i.zero, i.size, i.bytes)) = some (some (.agg #[.int .i64 0, .int .i64 0, .int .i64 0]), 3, 24) := by kernel_rfl
set_option maxHeartbeats 600000 in
theorem sz_slots (a : Option Addr) (n cap : Nat) (left : Int) (w : World) (hn : n ≤ maxLen) (h0 : 0 ≤ left) (h1 : left ≤ 1048576) :
    Calls Try.prog 36 #[.slice a n cap, .int .i64 left] w fun e w' => (∃ r : Int, e = .returned (.int .i64 r) ∧ ((r < 0 ∧ left < n) ∨ (0 ≤ r ∧ r = left - n))) ∧ w' = w := by
  unfold maxLen at hn
  by_cases h : left - n < 0
  · go_enter Try.func36, Try.ntmps36
    go_wp2
    go_ret
    exact ⟨⟨_, rfl, .inl ⟨by omega, by omega⟩⟩, rfl⟩
  · go_enter Try.func36, Try.ntmps36
    go_wp2
    go_ret
    exact ⟨⟨_, rfl, .inr ⟨by omega, rfl⟩⟩, rfl⟩
set_option maxHeartbeats 1000000 in
theorem eq_slot (x y z : Int) (w : World) :
    Calls Try.prog 60 #[.agg #[.int .i64 x, .int .i64 y, .int .i64 z], .agg #[.int .i64 x, .int .i64 y, .int .i64 z]] w fun e w' => e = .returned (.bool true) ∧ Below w.heap.size w w' := by
  have hbA := ((Below.refl w.heap.size w).alloc (Nat.le_refl _) (.cells #[.int .i64 x, .int .i64 y, .int .i64 z] 70)).alloc (by simp) (.cells #[.int .i64 x, .int .i64 y, .int .i64 z] 70)
  have hx : (x != x) = false := by simp
  have hy : (y != y) = false := by simp
  have hz : (z != z) = false := by simp
  go_enter Try.func60, Try.ntmps60
  go_wp2
  go_ret
  exact ⟨rfl, hbA⟩
theorem make_slots (n : Nat) (h : n ≤ 1048576) (w : World) : (Instr.makeSlice 37 (.int .i64 (n : Int)) (.int .i64 (n : Int))).run Try.prog w = .ok (.slice (some ⟨w.heap.size, 0, none⟩) n n) (w.alloc (.cells (cf (n * 3) (iv fun _ => 0)) 70)) := by
  obtain ⟨i, hi, hz0, hz1, hz2⟩ := info_parts info_slot
  have hr := run_make (P := Try.prog) w 37 70 i _ Try.underlying37 hi hz0 .i64 .i64 (n : Int) (n : Int) (by omega) (Int.le_refl _) (by rw [hz2]; omega) (by omega)
  rw [hr, hz1]
  simp only [Int.toNat_natCast]
  rw [← madeS]
  rfl
set_option maxHeartbeats 2000000 in
theorem to_slot (x y z : Int) (w : World) :
    Calls Try.prog 61 #[.agg #[.int .i64 x, .int .i64 y, .int .i64 z]] w fun e w' => e = .returned (.agg #[.int .i64 x, .int .i64 y, .int .i64 z]) ∧ Below w.heap.size w w' := by
  have hbA := (((Below.refl w.heap.size w).alloc (Nat.le_refl _) (.cells #[.int .i64 x, .int .i64 y, .int .i64 z] 78)).alloc (by simp) (.cells #[.int .i64 x, .int .i64 y, .int .i64 z] 70)).alloc (by simp; omega) (.cells #[.int .i64 x, .int .i64 y, .int .i64 z] 70)
  go_enter Try.func61, Try.ntmps61
  go_wp2
  exact bodyPost_ret (v := .agg #[.int .i64 x, .int .i64 y, .int .i64 z]) (by simp [results, Try.results61, go_sem]) rfl ⟨rfl, hbA⟩
set_option maxHeartbeats 2000000 in
theorem eq_slots (v u : Value) (n : Nat) (f : Nat → Int) (w : World) (hv : SlotsOf w v n f) (hu : SlotsOf w u n f) (hn : n ≤ 1048576) :
    Calls Try.prog 33 #[v, u] w fun e w' => e = .returned (.bool true) ∧ Below w.heap.size w w' := by
  obtain ⟨a, cap, rfl, hr⟩ := hv
  obtain ⟨a2, cap2, rfl, hr2⟩ := hu
  have HR := hide hr
  have HR2 := hide hr2
  have hnn : ((n : Int) != (n : Int)) = false := by simp
  clear hr hr2
  go_enter Try.func33, Try.ntmps33
  go_wp2
  go_loopw [5] (fun i wr => ∃ j : Nat, j ≤ n ∧ i = .int .i64 j ∧ Below w.heap.size w wr) (fun i _ => n - (intOf i).toNat)
  case atStart => exact ⟨0, Nat.zero_le _, rfl, Below.refl _ _⟩
  case round =>
    obtain ⟨j, hj, rfl, hbw⟩ := hrel
    by_cases hlt : j < n
    · obtain ⟨b, off, rfl, hb, hrow⟩ := HR.out (by omega)
      obtain ⟨b2, off2, rfl, hb2, hrow2⟩ := HR2.out (by omega)
      have k0 := cell_regrown ((hbw.cell (p := ⟨b, off + j * 3, none⟩) hb).trans (hrow (j * 3) (by omega)))
      have k1 := cell_regrown ((hbw.cell (p := ⟨b, off + (j * 3 + 1), none⟩) hb).trans (hrow (j * 3 + 1) (by omega)))
      have k2 := cell_regrown ((hbw.cell (p := ⟨b, off + (j * 3 + 2), none⟩) hb).trans (hrow (j * 3 + 2) (by omega)))
      have g0 := cell_regrown ((hbw.cell (p := ⟨b2, off2 + j * 3, none⟩) hb2).trans (hrow2 (j * 3) (by omega)))
      have g1 := cell_regrown ((hbw.cell (p := ⟨b2, off2 + (j * 3 + 1), none⟩) hb2).trans (hrow2 (j * 3 + 1) (by omega)))
      have g2 := cell_regrown ((hbw.cell (p := ⟨b2, off2 + (j * 3 + 2), none⟩) hb2).trans (hrow2 (j * 3 + 2) (by omega)))
      simp only [← Nat.add_assoc] at k1 k2 g1 g2
      have hi0 : (0 : Int) ≤ (j : Int) := by omega
      have hi1 : (j : Int) < (n : Int) := by omega
      have HE := hide (show ∀ d os, Calls Try.prog 60 #[.agg #[.int .i64 (f (j * 3)), .int .i64 (f (j * 3 + 1)), .int .i64 (f (j * 3 + 2))], .agg #[.int .i64 (f (j * 3)), .int .i64 (f (j * 3 + 1)), .int .i64 (f (j * 3 + 2))]] (grow (redrawn wr d) os) fun e w'' => e = .returned (.bool true) ∧ ∃ p : Regrown, w'' = grow (redrawn wr p.d) p.os from fun d os =>
        Calls.regrown_of (eq_slot _ _ _ _))
      clear hrow hrow2 HR HR2
      go_wp2
      refine wp_region_quiet_below (by kernel_rfl) (by kernel_rfl) ?_
      repeat (go_big_quiet_step (exact HE.out _ _))
      refine wpQuiet_nil ?_
      intro _ hw'
      obtain ⟨⟨dq, osq⟩, hw''⟩ := hw'
      subst hw''
      have hbw2 := hbw.trans ((below_regrown wr dq osq).mono hbw.size)
      go_wp2
      go_roundw
      case rel => exact ⟨j + 1, by omega, by go_num, hbw2⟩
      case measure => simp [intOf]; omega
    · obtain rfl : n = j := by omega
      clear HR HR2
      go_wp2
      go_ret
      exact ⟨rfl, hbw⟩
namespace M
theorem iv_three {f g : Nat → Int} {j : Nat} (h : ∀ q, q < j * 3 → g q = f q) : ∀ q, q < (j + 1) * 3 → upd (upd (upd g (j * 3) (f (j * 3))) (j * 3 + 1) (f (j * 3 + 1))) (j * 3 + 2) (f (j * 3 + 2)) q = f q := fun q hq => by
  unfold upd
  split
  · rename_i e; rw [e]
  · split
    · rename_i e; rw [e]
    · split
      · rename_i e; rw [e]
      · exact h q (by omega)
end M
set_option maxHeartbeats 2000000 in
theorem to_slots (v : Value) (n : Nat) (f : Nat → Int) (w : World) (hv : SlotsOf w v n f) (hn : n ≤ 1048576) :
    Calls Try.prog 38 #[v] w fun e w' => (e = .returned (sl w.heap.size n) ∧ Blk w' w.heap.size (n * 3) (iv f) 70) ∧ Below w.heap.size w w' := by
  obtain ⟨a, cap, rfl, hr⟩ := hv
  have HR := hide hr
  clear hr
  have hmk := make_slots n hn
  go_enter Try.func38, Try.ntmps38
  go_wp2
  go_loopw [4] (fun i wr => ∃ (j : Nat) (g : Nat → Int), j ≤ n ∧ i = .int .i64 j ∧ Hid (Blk wr w.heap.size (n * 3) (iv g) 70 ∧ (∀ q, q < j * 3 → g q = f q)) ∧ Below w.heap.size w wr) (fun i _ => n - (intOf i).toNat)
  case atStart => exact ⟨0, _, Nat.zero_le _, rfl, hide ⟨Blk.new w (n * 3) _ _, fun q hq => by omega⟩, (Below.refl _ _).alloc (Nat.le_refl _) _⟩
  case round =>
    obtain ⟨j, g, hj, rfl, HA, hbw⟩ := hrel
    by_cases hlt : j < n
    · obtain ⟨b, off, rfl, hb, hrow⟩ := HR.out (by omega)
      have c0 := (hbw.cell (p := ⟨b, off + j * 3, none⟩) hb).trans (hrow (j * 3) (by omega))
      have c1 := (hbw.cell (p := ⟨b, off + (j * 3 + 1), none⟩) hb).trans (hrow (j * 3 + 1) (by omega))
      have c2 := (hbw.cell (p := ⟨b, off + (j * 3 + 2), none⟩) hb).trans (hrow (j * 3 + 2) (by omega))
      simp only [← Nat.add_assoc] at c1 c2
      have hi0 : (0 : Int) ≤ (j : Int) := by omega
      have hi1 : (j : Int) < (n : Int) := by omega
      have hF := iv_three HA.out.2
      have HFt := hide hF
      have HBk := hide HA.out.1
      clear hrow HR HA hF
      go_wp2_with fail
      refine (to_slot _ _ _ _).mono ?_
      rintro e w1 ⟨rfl, hb1⟩
      have hbw1 := hbw.trans (hb1.mono hbw.size)
      have hA1 := HBk.out.down hb1
      have d0 := hA1.cell_ints (show j * 3 < n * 3 by omega)
      have d1 := hA1.cell_ints (show j * 3 + 1 < n * 3 by omega)
      have d2 := hA1.cell_ints (show j * 3 + 2 < n * 3 by omega)
      have t0 := hA1.thaw (j * 3)
      have t1 := hA1.thaw (j * 3 + 1)
      have t2 := hA1.thaw (j * 3 + 2)
      have HA2 := hide (show Blk (((w1.setCell ⟨w.heap.size, j * 3, none⟩ (.int .i64 (f (j * 3)))).setCell ⟨w.heap.size, j * 3 + 1, none⟩ (.int .i64 (f (j * 3 + 1)))).setCell ⟨w.heap.size, j * 3 + 2, none⟩ (.int .i64 (f (j * 3 + 2)))) w.heap.size (n * 3) (iv (upd (upd (upd g (j * 3) (f (j * 3))) (j * 3 + 1) (f (j * 3 + 1))) (j * 3 + 2) (f (j * 3 + 2)))) 70 ∧ (∀ q, q < (j + 1) * 3 → upd (upd (upd g (j * 3) (f (j * 3))) (j * 3 + 1) (f (j * 3 + 1))) (j * 3 + 2) (f (j * 3 + 2)) q = f q) from ⟨((hA1.set_int _ _).set_int _ _).set_int _ _, HFt.out⟩)
      have hbw2 := ((hbw1.setCell (p := ⟨w.heap.size, j * 3, none⟩) (Nat.le_refl _) (.int .i64 (f (j * 3)))).setCell (p := ⟨w.heap.size, j * 3 + 1, none⟩) (Nat.le_refl _) (.int .i64 (f (j * 3 + 1)))).setCell (p := ⟨w.heap.size, j * 3 + 2, none⟩) (Nat.le_refl _) (.int .i64 (f (j * 3 + 2)))
      clear HBk hA1 hb1 c0 c1 c2 HFt
      go_wp2
      exact ⟨⟨j + 1, _, by omega, by go_num, HA2, hbw2⟩, by simp [intOf]; omega⟩
    · obtain rfl : n = j := by omega
      have HB := hide (show Blk wr w.heap.size (n * 3) (iv f) 70 from HA.out.1.ext fun q hq => by unfold iv; rw [HA.out.2 q hq])
      clear HR HA
      go_wp2
      go_ret
      exact ⟨⟨rfl, HB.out⟩, hbw⟩
end Go.Proofs.Ytlegbkafpfkjeaa
