/-
  Wheels in memory: what the law does with them, second part: two that are told alike, marks that are written and found again, copies of wheels.
-/
import Derived.Test.YtcodllammndciaaWhA
namespace Go.Proofs.Ytcodllammndciaa
open Go.RowKit M
open Clk (upd upd_same upd_other)
open Go.Sort (grow)
set_option maxHeartbeats 1000000 in
theorem eq_timer (x y : Int) (w : World) :
    Calls Try.prog 68 #[.agg #[.int .i64 x, .int .i64 y], .agg #[.int .i64 x, .int .i64 y]] w fun e w' => e = .returned (.bool true) ∧ Below w.heap.size w w' := by
  have hbA := ((Below.refl w.heap.size w).alloc (Nat.le_refl _) (.cells #[.int .i64 x, .int .i64 y] 40)).alloc (by simp) (.cells #[.int .i64 x, .int .i64 y] 40)
  have hx : (x != x) = false := by simp
  have hy : (y != y) = false := by simp
  go_enter Try.func68, Try.ntmps68
  go_wp2
  go_ret
  exact ⟨rfl, hbA⟩
set_option maxHeartbeats 2000000 in
theorem eq_timers (v u : Value) (n : Nat) (f : Nat → Int) (w : World) (hv : TimersOf w v n f) (hu : TimersOf w u n f) (hn : n ≤ 1048576) :
    Calls Try.prog 34 #[v, u] w fun e w' => e = .returned (.bool true) ∧ Below w.heap.size w w' := by
  obtain ⟨a, cap, rfl, hr⟩ := hv
  obtain ⟨a2, cap2, rfl, hr2⟩ := hu
  have HR := hide hr
  have HR2 := hide hr2
  have hnn : ((n : Int) != (n : Int)) = false := by simp
  clear hr hr2
  go_enter Try.func34, Try.ntmps34
  go_wp2
  go_loopw [5] (fun i wr => ∃ j : Nat, j ≤ n ∧ i = .int .i64 j ∧ Below w.heap.size w wr) (fun i _ => n - (intOf i).toNat)
  case atStart => exact ⟨0, Nat.zero_le _, rfl, Below.refl _ _⟩
  case round =>
    obtain ⟨j, hj, rfl, hbw⟩ := hrel
    by_cases hlt : j < n
    · obtain ⟨b, off, rfl, hb, hrow⟩ := HR.out (by omega)
      obtain ⟨b2, off2, rfl, hb2, hrow2⟩ := HR2.out (by omega)
      have k0 := cell_regrown ((hbw.cell (p := ⟨b, off + j * 2, none⟩) hb).trans (hrow (j * 2) (by omega)))
      have k1 := cell_regrown ((hbw.cell (p := ⟨b, off + (j * 2 + 1), none⟩) hb).trans (hrow (j * 2 + 1) (by omega)))
      have g0 := cell_regrown ((hbw.cell (p := ⟨b2, off2 + j * 2, none⟩) hb2).trans (hrow2 (j * 2) (by omega)))
      have g1 := cell_regrown ((hbw.cell (p := ⟨b2, off2 + (j * 2 + 1), none⟩) hb2).trans (hrow2 (j * 2 + 1) (by omega)))
      simp only [← Nat.add_assoc] at k1 g1
      have hi0 : (0 : Int) ≤ (j : Int) := by omega
      have hi1 : (j : Int) < (n : Int) := by omega
      have HE := hide (show ∀ d os, Calls Try.prog 68 #[.agg #[.int .i64 (f (j * 2)), .int .i64 (f (j * 2 + 1))], .agg #[.int .i64 (f (j * 2)), .int .i64 (f (j * 2 + 1))]] (grow (redrawn wr d) os) fun e w'' => e = .returned (.bool true) ∧ ∃ p : Regrown, w'' = grow (redrawn wr p.d) p.os from fun d os =>
        Calls.regrown_of (eq_timer _ _ _))
      clear hrow hrow2 HR HR2
      go_wp2
      refine wp_region_quiet_below (by kernel_rfl) (by kernel_rfl) ?_
      repeat (go_big_quiet_step (exact HE.out _ _))
      refine wpQuiet_nil ?_
      intro _ hw'
      obtain ⟨⟨dq, osq⟩, hw''⟩ := hw'
      subst hw''
      have hbw2 := hbw.trans ((below_regrown wr dq osq).mono hbw.size)
      go_wp2
      go_roundw
      case rel => exact ⟨j + 1, by omega, by go_num, hbw2⟩
      case measure => simp [intOf]; omega
    · obtain rfl : n = j := by omega
      clear HR HR2
      go_wp2
      go_ret
      exact ⟨rfl, hbw⟩
set_option maxHeartbeats 2000000 in
theorem eq_rows (v u : Value) (k : Nat) (rs : Nat → Rw) (w : World) (hv : RowsOf w v k rs) (hu : RowsOf w u k rs) (hs : Short k rs) :
    Calls Try.prog 39 #[v, u] w fun e w' => e = .returned (.bool true) ∧ Below w.heap.size w w' := by
  obtain ⟨a, cap, rfl, hr⟩ := hv
  obtain ⟨a2, cap2, rfl, hr2⟩ := hu
  have HR := hide hr
  have HR2 := hide hr2
  have HS := hide hs.2
  have hk := hs.1
  have hnn : ((k : Int) != (k : Int)) = false := by simp
  clear hr hr2 hs
  go_enter Try.func39, Try.ntmps39
  go_wp2
  go_loopw [5] (fun i wr => ∃ j : Nat, j ≤ k ∧ i = .int .i64 j ∧ Below w.heap.size w wr) (fun i _ => k - (intOf i).toNat)
  case atStart => exact ⟨0, Nat.zero_le _, rfl, Below.refl _ _⟩
  case round =>
    obtain ⟨j, hj, rfl, hbw⟩ := hrel
    by_cases hlt : j < k
    · obtain ⟨b, off, rfl, hb, hrow⟩ := HR.out (by omega)
      obtain ⟨b2, off2, rfl, hb2, hrow2⟩ := HR2.out (by omega)
      obtain ⟨y, q1, i1⟩ := hrow j hlt
      obtain ⟨y2, q2, i2⟩ := hrow2 j hlt
      obtain ⟨a3, c3, rfl⟩ := i1.form
      obtain ⟨a4, c4, rfl⟩ := i2.form
      have k0 := cell_regrown ((hbw.cell (p := ⟨b, off + j, none⟩) hb).trans q1)
      have g0 := cell_regrown ((hbw.cell (p := ⟨b2, off2 + j, none⟩) hb2).trans q2)
      have hi0 : (0 : Int) ≤ (j : Int) := by omega
      have hi1 : (j : Int) < (k : Int) := by omega
      have hS := HS.out j hlt
      have HE := hide (show ∀ d os, Calls Try.prog 34 #[.slice a3 (rs j).n c3, .slice a4 (rs j).n c4] (grow (redrawn wr d) os) fun e w'' => e = .returned (.bool true) ∧ ∃ p : Regrown, w'' = grow (redrawn wr p.d) p.os from fun d os =>
        Calls.regrown_of (eq_timers _ _ (rs j).n (rs j).f _ ((i1.below hbw).below (below_regrown wr d os)) ((i2.below hbw).below (below_regrown wr d os)) hS))
      clear hrow hrow2 HR HR2 q1 q2 i1 i2 hS HS
      go_wp2
      refine wp_region_quiet_below (by kernel_rfl) (by kernel_rfl) ?_
      repeat (go_big_quiet_step (exact HE.out _ _))
      refine wpQuiet_nil ?_
      intro _ hw'
      obtain ⟨⟨dq, osq⟩, hw''⟩ := hw'
      subst hw''
      have hbw2 := hbw.trans ((below_regrown wr dq osq).mono hbw.size)
      go_wp2
      go_roundw
      case rel => exact ⟨j + 1, by omega, by go_num, hbw2⟩
      case measure => simp [intOf]; omega
    · obtain rfl : k = j := by omega
      clear HR HR2 HS
      go_wp2
      go_ret
      exact ⟨rfl, hbw⟩
set_option maxHeartbeats 1000000 in
theorem eq_wheel (x : Int) (v u : Value) (k : Nat) (rs : Nat → Rw) (w : World) (hv : RowsOf w v k rs) (hu : RowsOf w u k rs) (hs : Short k rs) :
    Calls Try.prog 13 #[.agg #[.int .i64 x, v], .agg #[.int .i64 x, u]] w fun e w' => e = .returned (.bool true) ∧ Below w.heap.size w w' := by
  have hbA := ((Below.refl w.heap.size w).alloc (Nat.le_refl _) (.cells #[.int .i64 x, v] 24)).alloc (by simp) (.cells #[.int .i64 x, u] 24)
  have HV := hide (hv.below hbA)
  have HU := hide (hu.below hbA)
  have hx : (x != x) = false := by simp
  obtain ⟨a, cap, rfl⟩ := hv.form
  obtain ⟨a2, cap2, rfl⟩ := hu.form
  clear hv hu
  go_enter Try.func13, Try.ntmps13
  go_wp2_with fail
  refine (eq_rows _ _ k rs _ HV.out HU.out hs).mono ?_
  rintro e w1 ⟨rfl, hb1⟩
  have hbw := hbA.trans (hb1.mono hbA.size)
  clear HV HU hb1 hbA
  go_wp2
  go_ret
  exact ⟨rfl, hbw⟩
namespace M
theorem two2 (w : World) (c1 c2 c3 : Array Value) (t1 t2 t3 : TypeId) {n : Nat} (f1 f2 f3 : Nat → Value) (h1 : c1 = cf n f1) (h2 : c2 = cf n f2) (h3 : c3 = cf n f3) : ∀ W, W = ((w.alloc (.cells c1 t1)).alloc (.cells c2 t2)).alloc (.cells c3 t3) →
    Blk W w.heap.size n f1 t1 ∧ Blk W (w.heap.size + 1) n f2 t2 ∧ Blk W (w.heap.size + 2) n f3 t3 ∧ Below w.heap.size w W ∧ W.heap.size = w.heap.size + 3 := by
  rintro W rfl
  have b2 := Blk.fresh (w.alloc (.cells c1 t1)) c2 n f2 t2 h2
  have b3 := Blk.fresh ((w.alloc (.cells c1 t1)).alloc (.cells c2 t2)) c3 n f3 t3 h3
  simp only [World.size_alloc] at b2 b3
  exact ⟨((Blk.fresh w c1 n f1 t1 h1).alloc _).alloc _, b2.alloc _, b3, (((Below.refl _ w).alloc (Nat.le_refl _) _).alloc (by simp) _).alloc (by simp; omega) _, by simp⟩
def p2 (x y : Value) : Nat → Value := fun i => if i = 0 then x else y
theorem Blk.pair {w : World} {g : Nat} {x y : Value} {t : TypeId} (h : Blk w g 2 (p2 x y) t) : w.cell? ⟨g, 0, none⟩ = some x ∧ w.cell? ⟨g, 1, none⟩ = some y ∧ w.frozen? ⟨g, 0, none⟩ = false ∧ w.frozen? ⟨g, 1, none⟩ = false :=
  ⟨h.cell (show 0 < 2 by omega), h.cell (show 1 < 2 by omega), h.thaw 0, h.thaw 1⟩
theorem AW.set_low {t : TypeId} {w : World} {B g cap k : Nat} {rs : Nat → Rw} {β : Nat → Nat} {X : Nat → Value} (h : AW t w B g cap k rs β X) {b : Nat} (hb : b < B) (q : Nat) (v : Value) : AW t (w.setCell ⟨b, q, none⟩ v) B g cap k rs β X := by
  refine ⟨h.ge, h.le, h.blk.set_other (by have := h.ge; omega) _ _, fun i hi => ?_, h.apart⟩
  obtain ⟨a, c, h1, h2⟩ := h.row i hi
  exact ⟨a, c, h1, fun hn => ⟨(h2 hn).1, (h2 hn).2.1, (h2 hn).2.2.set_other (by have := (h2 hn).2.1; omega) _ _⟩⟩
end M
set_option maxHeartbeats 2000000 in
theorem to_wheel (x : Int) (v : Value) (k : Nat) (rs : Nat → Rw) (w : World) (hv : RowsOf w v k rs) (hs : Short k rs) :
    Calls Try.prog 18 #[.agg #[.int .i64 x, v]] w fun e w' => (∃ u, e = .returned (.agg #[.int .i64 x, u]) ∧ ∃ g β X, u = sl g k ∧ w.heap.size ≤ g ∧ AW 52 w' w.heap.size g k k rs β X) ∧ Below w.heap.size w w' := by
  have HY := hide hv
  obtain ⟨a1, c1, rfl⟩ := hv.form
  clear hv
  go_enter Try.func18, Try.ntmps18
  go_wp2_with fail
  generalize hW : ((w.alloc _).alloc _).alloc _ = W
  obtain ⟨m0, m1, m2, hbW, hsW⟩ := two2 w _ _ _ _ _ _ (n := 2) (p2 _ _) (p2 _ _) (p2 _ _) rfl rfl rfl W hW.symm
  clear hW
  refine (to_rows _ k rs _ (HY.out.below hbW) hs).mono ?_
  rintro e w1 ⟨⟨rfl, β, X, hX⟩, hb1⟩
  have hbw1 := hbW.trans (hb1.mono (by omega))
  have n0 := m0.down hb1
  have n1 := m1.down hb1
  have n2 := m2.down hb1
  have HX := hide hX
  obtain ⟨d0, d1, -, -⟩ := n0.pair
  obtain ⟨e0, e1, e2, e3⟩ := n1.pair
  obtain ⟨r0, r1, r2, r3⟩ := n2.pair
  have HW := hide hsW
  clear hb1 m0 m1 m2 n0 n1 n2 hX HY hbW hsW
  go_wp2
  refine bodyPost_ret (v := .agg #[.int .i64 x, sl W.heap.size k]) (by simp [results, Try.results18, go_sem, e0, e1]) rfl ⟨⟨sl W.heap.size k, rfl, W.heap.size, β, X, rfl, by have := HW.out; omega, ?_⟩, ?_⟩
  · have hh := HW.out
    exact (((HX.out.set_low (by omega) _ _).set_low (by omega) _ _).set_low (by omega) _ _).mono (by omega)
  · exact ((hbw1.setCell (by simp; omega) _).setCell (by simp) _).setCell (by simp) _
namespace M
/-- Marks on a row. -/
def mkT (k0 : Nat) : Nat → Int := fun q => ((k0 + q : Nat) : Int)
theorem mkT_two {g : Nat → Int} {j : Nat} {k0 : Nat} (h : ∀ q, q < j * 2 → g q = mkT k0 q) : ∀ q, q < (j + 1) * 2 → upd (upd g (j * 2) ((k0 + j * 2 : Nat) : Int)) (j * 2 + 1) (((k0 + j * 2 : Nat) : Int) + 1) q = mkT k0 q := fun q hq => by
  unfold upd
  split
  · rename_i e; rw [e]; unfold mkT; omega
  · split
    · rename_i e; rw [e]; rfl
    · exact h q (by omega)
end M
set_option maxHeartbeats 2000000 in
theorem mark_timers (b n c k0 : Nat) (f : Nat → Int) (w : World) (hg : OwnT w b n c f) (hn : n ≤ 1048576) (hk0 : k0 ≤ 1000000000) :
    Calls Try.prog 35 #[.slice (some ⟨b, 0, none⟩) n c, .int .i64 (k0 : Nat)] w fun e w' => e = .returned (.int .i64 ((k0 + n * 2 : Nat) : Int)) ∧ OwnT w' b n c (mkT k0) ∧ Only b w w' := by
  have HG := hide hg
  clear hg
  go_enter Try.func35, Try.ntmps35
  go_wp2
  go_loopw [1, 5] (fun x i wr => ∃ (j : Nat) (g : Nat → Int), j ≤ n ∧ i = .int .i64 j ∧ x = .int .i64 ((k0 + j * 2 : Nat) : Int) ∧ Hid (OwnT wr b n c g ∧ ∀ q, q < j * 2 → g q = mkT k0 q) ∧ Only b w wr) (fun _ i _ => n - (intOf i).toNat)
  case atStart => exact ⟨0, f, Nat.zero_le _, rfl, rfl, hide ⟨HG.out, fun q hq => by omega⟩, Only.refl _ _⟩
  case round =>
    obtain ⟨j, g, hj, rfl, rfl, HA, hbw⟩ := hrel
    by_cases hlt : j < n
    · have d0 := HA.out.1.cell (show j * 2 < n * 2 by omega)
      have f0 := HA.out.1.thaw (j * 2)
      have hA1 := HA.out.1.set (j * 2) ((k0 + j * 2 : Nat) : Int)
      have d1 := hA1.cell (show j * 2 + 1 < n * 2 by omega)
      have f1 := hA1.thaw (j * 2 + 1)
      have HA2 := hide (show OwnT _ b n c _ ∧ _ from ⟨hA1.set (j * 2 + 1) (((k0 + j * 2 : Nat) : Int) + 1), mkT_two HA.out.2⟩)
      have hbw2 := (hbw.set (j * 2) (.int .i64 ((k0 + j * 2 : Nat) : Int))).set (j * 2 + 1) (.int .i64 (((k0 + j * 2 : Nat) : Int) + 1))
      have HE := hide (show ((k0 + (j + 1) * 2 : Nat) : Int) = ((k0 + j * 2 : Nat) : Int) + 1 + 1 by omega)
      have hb0 : k0 + j * 2 ≤ 1010000000 := by omega
      generalize k0 + j * 2 = m at *
      clear HA HG hA1
      go_wp2
      exact ⟨⟨j + 1, _, by omega, by go_num, by rw [HE.out], HA2, hbw2⟩, by simp [intOf]; omega⟩
    · obtain rfl : j = n := by omega
      have HB := hide (HA.out.1.ext HA.out.2)
      clear HA HG
      go_wp2
      go_ret
      exact ⟨rfl, HB.out, hbw⟩
theorem mark_none (a : Option Addr) (c : Nat) (k0 : Int) (w : World) :
    Calls Try.prog 35 #[.slice a 0 c, .int .i64 k0] w fun e w' => e = .returned (.int .i64 k0) ∧ w' = w := by
  go_enter Try.func35, Try.ntmps35
  go_wp2
  refine wp_loop_rounds 1 ?_; rw [rounds_succ]
  go_wp2
  go_ret
  exact ⟨rfl, rfl⟩
set_option maxHeartbeats 2000000 in
theorem held_timers (v : Value) (n k0 : Nat) (w : World) (hv : TimersOf w v n (mkT k0)) (hn : n ≤ 1048576) (hk0 : k0 ≤ 1000000000) :
    Calls Try.prog 36 #[v, .int .i64 (k0 : Nat)] w fun e w' => e = .returned (.int .i64 ((k0 + n * 2 : Nat) : Int)) ∧ w' = w := by
  obtain ⟨a, cap, rfl, hr⟩ := hv
  have HR := hide hr
  clear hr
  go_enter Try.func36, Try.ntmps36
  go_wp2
  go_loop [1, 5] (fun x i => ∃ j : Nat, j ≤ n ∧ i = .int .i64 j ∧ x = .int .i64 ((k0 + j * 2 : Nat) : Int)) (fun _ i => n - (intOf i).toNat)
  case atStart => exact ⟨0, Nat.zero_le _, rfl, rfl⟩
  case round =>
    obtain ⟨j, hj, rfl, rfl⟩ := hrel
    by_cases hlt : j < n
    · obtain ⟨b, off, rfl, hb, hrow⟩ := HR.out (by omega)
      have c0 := hrow (j * 2) (by omega)
      have c1 := hrow (j * 2 + 1) (by omega)
      rw [show mkT k0 (j * 2) = ((k0 + j * 2 : Nat) : Int) from rfl] at c0
      rw [show mkT k0 (j * 2 + 1) = ((k0 + j * 2 : Nat) : Int) + 1 by unfold mkT; omega, ← Nat.add_assoc] at c1
      have HE := hide (show ((k0 + (j + 1) * 2 : Nat) : Int) = ((k0 + j * 2 : Nat) : Int) + 1 + 1 by omega)
      have hb0 : k0 + j * 2 ≤ 1010000000 := by omega
      have hE2 : (((k0 + j * 2 : Nat) : Int) != ((k0 + j * 2 : Nat) : Int)) = false := by simp
      have hE3 : (((k0 + j * 2 : Nat) : Int) + 1 != ((k0 + j * 2 : Nat) : Int) + 1) = false := by simp
      generalize k0 + j * 2 = m at *
      clear HR hrow
      go_wp2
      go_round
      case rel => exact ⟨j + 1, by omega, by go_num, by rw [HE.out]⟩
      case measure => simp [intOf]; omega
    · obtain rfl : j = n := by omega
      clear HR
      go_wp2
      go_ret
      exact ⟨rfl, rfl⟩
end Go.Proofs.Ytcodllammndciaa
