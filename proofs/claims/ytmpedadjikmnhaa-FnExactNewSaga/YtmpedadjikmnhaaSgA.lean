/-
  Moves in memory: slices of three numbers each; what the law does with them: how much is left, copies in new memory, two that are told alike, marks that are written and found again.
-/
import Derived.Test.YtmpedadjikmnhaaAnsC
import Derived.Test.YtmpedadjikmnhaaSgM
namespace Go.Proofs.Ytmpedadjikmnhaa
open Go.RowKit M
open Clk (upd upd_same upd_other)
open Go.Sort (grow)
namespace M
abbrev sl (b n : Nat) : Value := .slice (some ⟨b, 0, none⟩) n n
def fl (l : Nat → Mv) : Nat → Int := fun q => if q % 3 = 0 then (l (q / 3)).f else if q % 3 = 1 then (l (q / 3)).t else (l (q / 3)).m
theorem fl0 (l : Nat → Mv) (i : Nat) : fl l (i * 3) = (l i).f := by unfold fl; rw [if_pos (by omega), show i * 3 / 3 = i by omega]
theorem fl1 (l : Nat → Mv) (i : Nat) : fl l (i * 3 + 1) = (l i).t := by unfold fl; rw [if_neg (by omega), if_pos (by omega), show (i * 3 + 1) / 3 = i by omega]
theorem fl2 (l : Nat → Mv) (i : Nat) : fl l (i * 3 + 2) = (l i).m := by unfold fl; rw [if_neg (by omega), if_neg (by omega), show (i * 3 + 2) / 3 = i by omega]
def mvs (f : Nat → Int) : Nat → Mv := fun i => ⟨f (i * 3), f (i * 3 + 1), f (i * 3 + 2)⟩
theorem fl_mvs (f : Nat → Int) : fl (mvs f) = f := by
  funext q
  unfold fl mvs
  rcases (show q % 3 = 0 ∨ q % 3 = 1 ∨ q % 3 = 2 by omega) with h | h | h
  · rw [if_pos h]; simp only; congr 1; omega
  · rw [if_neg (by omega), if_pos h]; simp only; congr 1; omega
  · rw [if_neg (by omega), if_neg (by omega)]; simp only; congr 1; omega
/-- A slice of moves that is read. -/
def MovesOf (w : World) (v : Value) (n : Nat) (f : Nat → Int) : Prop :=
  ∃ a cap, v = .slice a n cap ∧ (0 < n → ∃ b off, a = some ⟨b, off, none⟩ ∧ b < w.heap.size ∧ ∀ q, q < n * 3 → w.cell? ⟨b, off + q, none⟩ = some (.int .i64 (f q)))
theorem MovesOf.below {w w' : World} {v : Value} {n : Nat} {f : Nat → Int} (h : MovesOf w v n f) (hb : Below w.heap.size w w') : MovesOf w' v n f := by
  obtain ⟨a, cap, hv, hr⟩ := h
  refine ⟨a, cap, hv, fun hn => ?_⟩
  obtain ⟨b, off, ha, hlt, hrow⟩ := hr hn
  exact ⟨b, off, ha, Nat.lt_of_lt_of_le hlt hb.size, fun q hq => (hb.cell (p := ⟨b, off + q, none⟩) hlt).trans (hrow q hq)⟩
theorem MovesOf.form {w : World} {v : Value} {n : Nat} {f : Nat → Int} (h : MovesOf w v n f) : ∃ a cap, v = .slice a n cap := by
  obtain ⟨a, cap, hv, _⟩ := h; exact ⟨a, cap, hv⟩
/-- n moves at the head of a block of the call's own, with room behind. -/
def OwnM (w : World) (b n c : Nat) (f : Nat → Int) : Prop := n ≤ c ∧ ∃ h : Nat → Value, Blk w b (c * 3) h 55 ∧ ∀ q, q < n * 3 → h q = .int .i64 (f q)
theorem OwnM.lt {w : World} {b n c : Nat} {f : Nat → Int} (h : OwnM w b n c f) : b < w.heap.size := by
  obtain ⟨_, k, hb, _⟩ := h; exact hb.lt
theorem OwnM.down {w w' : World} {b n c : Nat} {f : Nat → Int} (h : OwnM w b n c f) (hb : Below w.heap.size w w') : OwnM w' b n c f := by
  obtain ⟨hc, k, hk, he⟩ := h
  exact ⟨hc, k, hk.down hb, he⟩
theorem OwnM.cell {w : World} {b n c : Nat} {f : Nat → Int} (h : OwnM w b n c f) {q : Nat} (hq : q < n * 3) : w.cell? ⟨b, q, none⟩ = some (.int .i64 (f q)) := by
  obtain ⟨hc, k, hb, hk⟩ := h
  rw [← hk q hq]; exact hb.cell (by omega)
theorem OwnM.thaw {w : World} {b n c : Nat} {f : Nat → Int} (h : OwnM w b n c f) (q : Nat) : w.frozen? ⟨b, q, none⟩ = false := by
  obtain ⟨hc, k, hb, hk⟩ := h; exact hb.thaw q
theorem OwnM.set {w : World} {b n c : Nat} {f : Nat → Int} (h : OwnM w b n c f) (q : Nat) (x : Int) : OwnM (w.setCell ⟨b, q, none⟩ (.int .i64 x)) b n c (upd f q x) := by
  obtain ⟨hc, k, hk, he⟩ := h
  refine ⟨hc, _, hk.set q _, fun j hj => ?_⟩
  by_cases e : j = q
  · subst e; rw [upd_same, upd_same]
  · rw [upd_other _ _ _ _ e, upd_other _ _ _ _ e]; exact he j hj
theorem OwnM.set_other {w : World} {b n c : Nat} {f : Nat → Int} (h : OwnM w b n c f) {g : Nat} (hne : b ≠ g) (q : Nat) (v : Value) : OwnM (w.setCell ⟨g, q, none⟩ v) b n c f := by
  obtain ⟨hc, k, hk, he⟩ := h
  exact ⟨hc, k, hk.set_other hne q v, he⟩
theorem OwnM.only {w w' : World} {g b n c : Nat} {f : Nat → Int} (h : OwnM w b n c f) (ho : Only g w w') (hne : b ≠ g) : OwnM w' b n c f := by
  obtain ⟨hc, k, hk, he⟩ := h
  exact ⟨hc, k, ho.blk hk hne, he⟩
theorem OwnM.ext {w : World} {b n c : Nat} {f f' : Nat → Int} (h : OwnM w b n c f) (he : ∀ q, q < n * 3 → f q = f' q) : OwnM w b n c f' := by
  obtain ⟨hc, k, hk, hq⟩ := h
  exact ⟨hc, k, hk, fun q h => by rw [hq q h, he q h]⟩
theorem OwnM.moves {w : World} {b n c : Nat} {f : Nat → Int} (h : OwnM w b n c f) : MovesOf w (.slice (some ⟨b, 0, none⟩) n c) n f :=
  ⟨_, _, rfl, fun _ => ⟨b, 0, rfl, h.lt, fun q hq => by rw [Nat.zero_add]; exact h.cell hq⟩⟩
theorem Blk.ownM {w : World} {b n : Nat} {f : Nat → Int} (h : Blk w b (n * 3) (iv f) 55) : OwnM w b n n f := ⟨Nat.le_refl _, _, h, fun _ _ => rfl⟩
theorem OwnM.moves' {w : World} {b n c c' : Nat} {f : Nat → Int} (h : OwnM w b n c f) : MovesOf w (.slice (some ⟨b, 0, none⟩) n c') n f :=
  ⟨_, _, rfl, fun _ => ⟨b, 0, rfl, h.lt, fun q hq => by rw [Nat.zero_add]; exact h.cell hq⟩⟩
theorem madeMv (n : Nat) : madeCells #[(.int .i64 0 : Value), .int .i64 0, .int .i64 0] (n * 3) = cf (n * 3) (iv fun _ => 0) := by
  apply Array.ext_getElem?
  intro j
  by_cases hj : j < n * 3
  · rw [cf_get _ hj]
    have h1 : (madeCells #[(.int .i64 0 : Value), .int .i64 0, .int .i64 0] (n * 3))[j]? = some (#[(.int .i64 0 : Value), .int .i64 0, .int .i64 0][j % 3]!) := by simp [madeCells, hj]
    rw [h1]
    unfold iv
    rcases (show j % 3 = 0 ∨ j % 3 = 1 ∨ j % 3 = 2 by omega) with h | h | h
    · rw [h]; rfl
    · rw [h]; rfl
    · rw [h]; rfl
  · rw [Array.getElem?_eq_none (by rw [size_madeCells]; omega), Array.getElem?_eq_none (by rw [cf_size]; omega)]
theorem iv_three {f g : Nat → Int} {j : Nat} (h : ∀ q, q < j * 3 → g q = f q) : ∀ q, q < (j + 1) * 3 → upd (upd (upd g (j * 3) (f (j * 3))) (j * 3 + 1) (f (j * 3 + 1))) (j * 3 + 2) (f (j * 3 + 2)) q = f q := fun q hq => by
  unfold upd
  split
  · rename_i e; rw [e]
  · split
    · rename_i e; rw [e]
    · split
      · rename_i e; rw [e]
      · exact h q (by omega)
theorem mk1_three {g : Nat → Int} {j : Nat} {k0 : Nat} (h : ∀ q, q < j * 3 → g q = mk1 k0 q) : ∀ q, q < (j + 1) * 3 → upd (upd (upd g (j * 3) ((k0 + j * 3 : Nat) : Int)) (j * 3 + 1) (((k0 + j * 3 : Nat) : Int) + 1)) (j * 3 + 2) (((k0 + j * 3 : Nat) : Int) + 1 + 1) q = mk1 k0 q := fun q hq => by
  unfold upd
  split
  · rename_i e; rw [e]; unfold mk1; omega
  · split
    · rename_i e; rw [e]; unfold mk1; omega
    · split
      · rename_i e; rw [e]; unfold mk1; omega
      · exact h q (by omega)
end M
theorem info_move : (Try.prog.info? 55).map (fun i => (i.zero, i.size, i.bytes)) = some (some (.agg #[.int .i64 0, .int .i64 0, .int .i64 0]), 3, 24) := by kernel_rfl
theorem make_moves (n : Nat) (h : n ≤ 1048576) (w : World) : (Instr.makeSlice 25 (.int .i64 (n : Int)) (.int .i64 (n : Int))).run Try.prog w = .ok (.slice (some ⟨w.heap.size, 0, none⟩) n n) (w.alloc (.cells (cf (n * 3) (iv fun _ => 0)) 55)) := by
  obtain ⟨i, hi, hz0, hz1, hz2⟩ := info_parts info_move
  have hr := run_make (P := Try.prog) w 25 55 i _ Try.underlying25 hi hz0 .i64 .i64 (n : Int) (n : Int) (by omega) (Int.le_refl _) (by rw [hz2]; omega) (by omega)
  rw [hr, hz1]
  simp only [Int.toNat_natCast]
  rw [← madeMv]
  rfl
theorem sz_ints (a : Option Addr) (n cap : Nat) (left : Int) (w : World) (hn : n ≤ maxLen) (h0 : 0 ≤ left) (h1 : left ≤ 1048576) :
    Calls Try.prog 45 #[.slice a n cap, .int .i64 left] w fun e w' => (∃ r : Int, e = .returned (.int .i64 r) ∧ ((r = -1) ∨ (r = left - n ∧ 0 ≤ r))) ∧ w' = w := by
  unfold maxLen at hn
  by_cases h : left - (n : Int) < 0
  · go_enter Try.func45, Try.ntmps45
    go_wp2
    go_ret
    exact ⟨⟨_, rfl, .inl rfl⟩, rfl⟩
  · go_enter Try.func45, Try.ntmps45
    go_wp2
    go_ret
    exact ⟨⟨_, rfl, .inr ⟨rfl, by omega⟩⟩, rfl⟩
theorem sz_moves (a : Option Addr) (n cap : Nat) (left : Int) (w : World) (hn : n ≤ maxLen) (h0 : 0 ≤ left) (h1 : left ≤ 1048576) :
    Calls Try.prog 11 #[.slice a n cap, .int .i64 left] w fun e w' => (∃ r : Int, e = .returned (.int .i64 r) ∧ ((r = -1) ∨ (r = left - n ∧ 0 ≤ r))) ∧ w' = w := by
  unfold maxLen at hn
  by_cases h : left - (n : Int) < 0
  · go_enter Try.func11, Try.ntmps11
    go_wp2
    go_ret
    exact ⟨⟨_, rfl, .inl rfl⟩, rfl⟩
  · go_enter Try.func11, Try.ntmps11
    go_wp2
    go_ret
    exact ⟨⟨_, rfl, .inr ⟨rfl, by omega⟩⟩, rfl⟩
set_option maxHeartbeats 2000000 in
theorem to_move (x y z : Int) (w : World) :
    Calls Try.prog 38 #[.agg #[.int .i64 x, .int .i64 y, .int .i64 z]] w fun e w' => e = .returned (.agg #[.int .i64 x, .int .i64 y, .int .i64 z]) ∧ Below w.heap.size w w' := by
  have hbA := (((Below.refl w.heap.size w).alloc (Nat.le_refl _) (.cells #[.int .i64 x, .int .i64 y, .int .i64 z] 54)).alloc (by simp) (.cells #[.int .i64 x, .int .i64 y, .int .i64 z] 55)).alloc (by simp; omega) (.cells #[.int .i64 x, .int .i64 y, .int .i64 z] 55)
  go_enter Try.func38, Try.ntmps38
  go_wp2
  exact bodyPost_ret (v := .agg #[.int .i64 x, .int .i64 y, .int .i64 z]) (by simp [results, Try.results38, go_sem]) rfl ⟨rfl, hbA⟩
set_option maxHeartbeats 2000000 in
theorem to_moves (v : Value) (n : Nat) (f : Nat → Int) (w : World) (hv : MovesOf w v n f) (hn : n ≤ 1048576) :
    Calls Try.prog 14 #[v] w fun e w' => (e = .returned (sl w.heap.size n) ∧ Blk w' w.heap.size (n * 3) (iv f) 55) ∧ Below w.heap.size w w' := by
  obtain ⟨a, cap, rfl, hr⟩ := hv
  have HR := hide hr
  clear hr
  have hmk := make_moves n hn
  go_enter Try.func14, Try.ntmps14
  go_wp2
  go_loopw [4] (fun i wr => ∃ (j : Nat) (g : Nat → Int), j ≤ n ∧ i = .int .i64 j ∧ Hid (Blk wr w.heap.size (n * 3) (iv g) 55 ∧ (∀ q, q < j * 3 → g q = f q)) ∧ Below w.heap.size w wr) (fun i _ => n - (intOf i).toNat)
  case atStart => exact ⟨0, _, Nat.zero_le _, rfl, hide ⟨Blk.new w (n * 3) _ _, fun q h => absurd h (by omega)⟩, (Below.refl _ _).alloc (Nat.le_refl _) _⟩
  case round =>
    obtain ⟨j, g, hj, rfl, HA, hbw⟩ := hrel
    by_cases hlt : j < n
    · obtain ⟨b, off, rfl, hb, hrow⟩ := HR.out (by omega)
      have c0 := (hbw.cell (p := ⟨b, off + j * 3, none⟩) hb).trans (hrow (j * 3) (by omega))
      have c1 := (hbw.cell (p := ⟨b, off + (j * 3 + 1), none⟩) hb).trans (hrow (j * 3 + 1) (by omega))
      have c2 := (hbw.cell (p := ⟨b, off + (j * 3 + 2), none⟩) hb).trans (hrow (j * 3 + 2) (by omega))
      simp only [← Nat.add_assoc] at c1 c2
      clear hrow HR
      have hA0 := HA.out.1.lt
      go_wp2_with fail
      refine (to_move _ _ _ _).mono ?_
      rintro e w1 ⟨rfl, hb1⟩
      have hbw1 := hbw.trans (hb1.mono hbw.size)
      have hA1 := HA.out.1.down hb1
      have d0 := hA1.cell_ints (show j * 3 < n * 3 by omega)
      have d1 := hA1.cell_ints (show j * 3 + 1 < n * 3 by omega)
      have d2 := hA1.cell_ints (show j * 3 + 2 < n * 3 by omega)
      have f0 := hA1.thaw (j * 3)
      have f1 := hA1.thaw (j * 3 + 1)
      have f2 := hA1.thaw (j * 3 + 2)
      have HA2 := hide (show Blk (((w1.setCell ⟨w.heap.size, j * 3, none⟩ (.int .i64 (f (j * 3)))).setCell ⟨w.heap.size, j * 3 + 1, none⟩ (.int .i64 (f (j * 3 + 1)))).setCell ⟨w.heap.size, j * 3 + 2, none⟩ (.int .i64 (f (j * 3 + 2)))) w.heap.size (n * 3) (iv (upd (upd (upd g (j * 3) (f (j * 3))) (j * 3 + 1) (f (j * 3 + 1))) (j * 3 + 2) (f (j * 3 + 2)))) 55 ∧ _ from ⟨((hA1.set_int _ _).set_int _ _).set_int _ _, iv_three HA.out.2⟩)
      have hbw2 := ((hbw1.setCell (p := ⟨w.heap.size, j * 3, none⟩) (Nat.le_refl _) (.int .i64 (f (j * 3)))).setCell (p := ⟨w.heap.size, j * 3 + 1, none⟩) (Nat.le_refl _) (.int .i64 (f (j * 3 + 1)))).setCell (p := ⟨w.heap.size, j * 3 + 2, none⟩) (Nat.le_refl _) (.int .i64 (f (j * 3 + 2)))
      clear HA hA1 hb1 c0 c1 c2
      go_wp2
      exact ⟨⟨j + 1, _, by omega, by go_num, HA2, hbw2⟩, by simp [intOf]; omega⟩
    · obtain rfl : j = n := by omega
      have HB := hide (HA.out.1.ext (f' := iv f) (fun i hi => by unfold iv; rw [HA.out.2 i hi]))
      clear HR HA
      go_wp2
      go_ret
      exact ⟨⟨rfl, HB.out⟩, hbw⟩
set_option maxHeartbeats 1000000 in
theorem eq_move (x y z : Int) (w : World) :
    Calls Try.prog 40 #[.agg #[.int .i64 x, .int .i64 y, .int .i64 z], .agg #[.int .i64 x, .int .i64 y, .int .i64 z]] w fun e w' => e = .returned (.bool true) ∧ Below w.heap.size w w' := by
  have hbA := ((Below.refl w.heap.size w).alloc (Nat.le_refl _) (.cells #[.int .i64 x, .int .i64 y, .int .i64 z] 55)).alloc (by simp) (.cells #[.int .i64 x, .int .i64 y, .int .i64 z] 55)
  have hx : (x != x) = false := by simp
  have hy : (y != y) = false := by simp
  have hz : (z != z) = false := by simp
  go_enter Try.func40, Try.ntmps40
  go_wp2
  go_ret
  exact ⟨rfl, hbA⟩
set_option maxHeartbeats 2000000 in
theorem eq_moves (v u : Value) (n : Nat) (f : Nat → Int) (w : World) (hv : MovesOf w v n f) (hu : MovesOf w u n f) (hn : n ≤ 1048576) :
    Calls Try.prog 18 #[v, u] w fun e w' => e = .returned (.bool true) ∧ Below w.heap.size w w' := by
  obtain ⟨a, cap, rfl, hr⟩ := hv
  obtain ⟨a2, cap2, rfl, hr2⟩ := hu
  have HR := hide hr
  have HR2 := hide hr2
  have hnn : ((n : Int) != (n : Int)) = false := by simp
  clear hr hr2
  go_enter Try.func18, Try.ntmps18
  go_wp2
  go_loopw [5] (fun i wr => ∃ j : Nat, j ≤ n ∧ i = .int .i64 j ∧ Below w.heap.size w wr) (fun i _ => n - (intOf i).toNat)
  case atStart => exact ⟨0, Nat.zero_le _, rfl, Below.refl _ _⟩
  case round =>
    obtain ⟨j, hj, rfl, hbw⟩ := hrel
    by_cases hlt : j < n
    · obtain ⟨b, off, rfl, hb, hrow⟩ := HR.out (by omega)
      obtain ⟨b2, off2, rfl, hb2, hrow2⟩ := HR2.out (by omega)
      have k0 := cell_regrown ((hbw.cell (p := ⟨b, off + j * 3, none⟩) hb).trans (hrow (j * 3) (by omega)))
      have k1 := cell_regrown ((hbw.cell (p := ⟨b, off + (j * 3 + 1), none⟩) hb).trans (hrow (j * 3 + 1) (by omega)))
      have k2 := cell_regrown ((hbw.cell (p := ⟨b, off + (j * 3 + 2), none⟩) hb).trans (hrow (j * 3 + 2) (by omega)))
      have g0 := cell_regrown ((hbw.cell (p := ⟨b2, off2 + j * 3, none⟩) hb2).trans (hrow2 (j * 3) (by omega)))
      have g1 := cell_regrown ((hbw.cell (p := ⟨b2, off2 + (j * 3 + 1), none⟩) hb2).trans (hrow2 (j * 3 + 1) (by omega)))
      have g2 := cell_regrown ((hbw.cell (p := ⟨b2, off2 + (j * 3 + 2), none⟩) hb2).trans (hrow2 (j * 3 + 2) (by omega)))
      simp only [← Nat.add_assoc] at k1 g1 k2 g2
      have hi0 : (0 : Int) ≤ (j : Int) := by omega
      have hi1 : (j : Int) < (n : Int) := by omega
      have HE := hide (show ∀ d os, Calls Try.prog 40 #[.agg #[.int .i64 (f (j * 3)), .int .i64 (f (j * 3 + 1)), .int .i64 (f (j * 3 + 2))], .agg #[.int .i64 (f (j * 3)), .int .i64 (f (j * 3 + 1)), .int .i64 (f (j * 3 + 2))]] (grow (redrawn wr d) os) fun e w'' => e = .returned (.bool true) ∧ ∃ p : Regrown, w'' = grow (redrawn wr p.d) p.os from fun d os =>
        Calls.regrown_of (eq_move _ _ _ _))
      clear hrow hrow2 HR HR2
      go_wp2
      refine wp_region_quiet_below (by kernel_rfl) (by kernel_rfl) ?_
      repeat (go_big_quiet_step (exact HE.out _ _))
      refine wpQuiet_nil ?_
      intro _ hw'
      obtain ⟨⟨dq, osq⟩, hw''⟩ := hw'
      subst hw''
      have hbw2 := hbw.trans ((below_regrown wr dq osq).mono hbw.size)
      go_wp2
      go_roundw
      case rel => exact ⟨j + 1, by omega, by go_num, hbw2⟩
      case measure => simp [intOf]; omega
    · obtain rfl : n = j := by omega
      clear HR HR2
      go_wp2
      go_ret
      exact ⟨rfl, hbw⟩
set_option maxHeartbeats 2000000 in
theorem mark_moves (b n c c' k0 : Nat) (f : Nat → Int) (w : World) (hg : OwnM w b n c f) (hn : n ≤ 1048576) (hk0 : k0 ≤ 1000000000) :
    Calls Try.prog 20 #[.slice (some ⟨b, 0, none⟩) n c', .int .i64 (k0 : Nat)] w fun e w' => e = .returned (.int .i64 ((k0 + n * 3 : Nat) : Int)) ∧ OwnM w' b n c (mk1 k0) ∧ Only b w w' := by
  have HG := hide hg
  clear hg
  go_enter Try.func20, Try.ntmps20
  go_wp2
  go_loopw [1, 5] (fun x i wr => ∃ (j : Nat) (g : Nat → Int), j ≤ n ∧ i = .int .i64 j ∧ x = .int .i64 ((k0 + j * 3 : Nat) : Int) ∧ Hid (OwnM wr b n c g ∧ ∀ q, q < j * 3 → g q = mk1 k0 q) ∧ Only b w wr) (fun _ i _ => n - (intOf i).toNat)
  case atStart => exact ⟨0, f, Nat.zero_le _, rfl, rfl, hide ⟨HG.out, fun q hq => by omega⟩, Only.refl _ _⟩
  case round =>
    obtain ⟨j, g, hj, rfl, rfl, HA, hbw⟩ := hrel
    by_cases hlt : j < n
    · have d0 := HA.out.1.cell (show j * 3 < n * 3 by omega)
      have f0 := HA.out.1.thaw (j * 3)
      have hA1 := HA.out.1.set (j * 3) ((k0 + j * 3 : Nat) : Int)
      have d1 := hA1.cell (show j * 3 + 1 < n * 3 by omega)
      have f1 := hA1.thaw (j * 3 + 1)
      have hA2 := hA1.set (j * 3 + 1) (((k0 + j * 3 : Nat) : Int) + 1)
      have d2 := hA2.cell (show j * 3 + 2 < n * 3 by omega)
      have f2 := hA2.thaw (j * 3 + 2)
      have HA2 := hide (show OwnM _ b n c _ ∧ _ from ⟨hA2.set (j * 3 + 2) (((k0 + j * 3 : Nat) : Int) + 1 + 1), mk1_three HA.out.2⟩)
      have hbw2 := ((hbw.set (j * 3) (.int .i64 ((k0 + j * 3 : Nat) : Int))).set (j * 3 + 1) (.int .i64 (((k0 + j * 3 : Nat) : Int) + 1))).set (j * 3 + 2) (.int .i64 (((k0 + j * 3 : Nat) : Int) + 1 + 1))
      have HE := hide (show ((k0 + (j + 1) * 3 : Nat) : Int) = ((k0 + j * 3 : Nat) : Int) + 1 + 1 + 1 by omega)
      have hb0 : k0 + j * 3 ≤ 1010000000 := by omega
      generalize k0 + j * 3 = m at *
      clear HA HG hA1 hA2
      go_wp2
      exact ⟨⟨j + 1, _, by omega, by go_num, by rw [HE.out], HA2, hbw2⟩, by simp [intOf]; omega⟩
    · obtain rfl : j = n := by omega
      have HB := hide (HA.out.1.ext HA.out.2)
      clear HA HG
      go_wp2
      go_ret
      exact ⟨rfl, HB.out, hbw⟩
theorem mark_none (a : Option Addr) (c : Nat) (k0 : Int) (w : World) :
    Calls Try.prog 20 #[.slice a 0 c, .int .i64 k0] w fun e w' => e = .returned (.int .i64 k0) ∧ w' = w := by
  go_enter Try.func20, Try.ntmps20
  go_wp2
  refine wp_loop_rounds 1 ?_; rw [rounds_succ]
  go_wp2
  go_ret
  exact ⟨rfl, rfl⟩
set_option maxHeartbeats 2000000 in
theorem held_moves (v : Value) (n k0 : Nat) (w : World) (hv : MovesOf w v n (mk1 k0)) (hn : n ≤ 1048576) (hk0 : k0 ≤ 1000000000) :
    Calls Try.prog 44 #[v, .int .i64 (k0 : Nat)] w fun e w' => e = .returned (.int .i64 ((k0 + n * 3 : Nat) : Int)) ∧ w' = w := by
  obtain ⟨a, cap, rfl, hr⟩ := hv
  have HR := hide hr
  clear hr
  go_enter Try.func44, Try.ntmps44
  go_wp2
  go_loop [1, 5] (fun x i => ∃ j : Nat, j ≤ n ∧ i = .int .i64 j ∧ x = .int .i64 ((k0 + j * 3 : Nat) : Int)) (fun _ i => n - (intOf i).toNat)
  case atStart => exact ⟨0, Nat.zero_le _, rfl, rfl⟩
  case round =>
    obtain ⟨j, hj, rfl, rfl⟩ := hrel
    by_cases hlt : j < n
    · obtain ⟨b, off, rfl, hb, hrow⟩ := HR.out (by omega)
      have c0 := hrow (j * 3) (by omega)
      have c1 := hrow (j * 3 + 1) (by omega)
      have c2 := hrow (j * 3 + 2) (by omega)
      rw [show mk1 k0 (j * 3) = ((k0 + j * 3 : Nat) : Int) from rfl] at c0
      rw [show mk1 k0 (j * 3 + 1) = ((k0 + j * 3 : Nat) : Int) + 1 by unfold mk1; omega, ← Nat.add_assoc] at c1
      rw [show mk1 k0 (j * 3 + 2) = ((k0 + j * 3 : Nat) : Int) + 1 + 1 by unfold mk1; omega, ← Nat.add_assoc] at c2
      have HE := hide (show ((k0 + (j + 1) * 3 : Nat) : Int) = ((k0 + j * 3 : Nat) : Int) + 1 + 1 + 1 by omega)
      have hb0 : k0 + j * 3 ≤ 1010000000 := by omega
      have hE2 : (((k0 + j * 3 : Nat) : Int) != ((k0 + j * 3 : Nat) : Int)) = false := by simp
      have hE3 : (((k0 + j * 3 : Nat) : Int) + 1 != ((k0 + j * 3 : Nat) : Int) + 1) = false := by simp
      have hE4 : (((k0 + j * 3 : Nat) : Int) + 1 + 1 != ((k0 + j * 3 : Nat) : Int) + 1 + 1) = false := by simp
      generalize k0 + j * 3 = m at *
      clear HR hrow
      go_wp2
      go_round
      case rel => exact ⟨j + 1, by omega, by go_num, by rw [HE.out]⟩
      case measure => simp [intOf]; omega
    · obtain rfl : j = n := by omega
      clear HR
      go_wp2
      go_ret
      exact ⟨rfl, rfl⟩
theorem mark_noint (a : Option Addr) (c : Nat) (k0 : Int) (w : World) :
    Calls Try.prog 19 #[.slice a 0 c, .int .i64 k0] w fun e w' => e = .returned (.int .i64 k0) ∧ w' = w := by
  go_enter Try.func19, Try.ntmps19
  go_wp2
  refine wp_loop_rounds 1 ?_; rw [rounds_succ]
  go_wp2
  go_ret
  exact ⟨rfl, rfl⟩
end Go.Proofs.Ytmpedadjikmnhaa
