/-
  The law's helpers on lists of tasks, second part: two that are told alike, marks; and what came in, read as data.
-/
import Derived.Test.YtkfnfgencaplfaaTaskM
import Derived.Deep.Slices
import Derived.Deep.SlicePairs
import Derived.Lib.SmallJoins
import Derived.ProofKit
import Derived.OpenShut
namespace Go.Proofs.Ytkfnfgencaplfaa
open Go.ChangeShapes Go.WideShapes Go.ChangeAt Go.RowKit Go.Joins Go.Deep
open M
open Clk (upd upd_same upd_other)
open Go.Sort (grow)
set_option maxHeartbeats 1000000 in
theorem eq_task (x : Int) (y y' : Value) (n : Nat) (f : Nat → Int) (w : World) (hy : IntsOf w y n f) (hy' : IntsOf w y' n f) (h1 : n ≤ 1048576) :
    Calls Try.prog 61 #[.agg #[.int .i64 x, y], .agg #[.int .i64 x, y']] w fun e w' => e = .returned (.bool true) ∧ Below w.heap.size w w' := by
  have HY := hide hy
  have HY' := hide hy'
  obtain ⟨a2, c2, rfl⟩ := hy.form
  obtain ⟨a4, c4, rfl⟩ := hy'.form
  have hx : (x != x) = false := by simp
  clear hy hy'
  go_enter Try.func61, Try.ntmps61
  go_wp2_with fail
  generalize hW : (w.alloc _).alloc _ = W
  obtain ⟨m0, m1, hbW, hsW⟩ := two w _ _ _ _ _ _ W hW.symm
  clear hW
  refine (eq_ints _ _ n f _ (HY.out.below hbW) (HY'.out.below hbW) h1).mono ?_
  rintro e w1 ⟨rfl, hb1⟩
  have hbw1 := hbW.trans (hb1.mono hbW.size)
  clear m0 m1 hb1 hbW hsW HY HY'
  go_wp2
  go_ret
  exact ⟨rfl, hbw1⟩
set_option maxHeartbeats 2000000 in
theorem eq_tasks (v u : Value) (k : Nat) (ts : Nat → Tk) (w : World) (hv : TasksOf w v k ts) (hu : TasksOf w u k ts) (hs : Short k ts) :
    Calls Try.prog 19 #[v, u] w fun e w' => e = .returned (.bool true) ∧ Below w.heap.size w w' := by
  obtain ⟨a, cap, rfl, hr⟩ := hv
  obtain ⟨a2, cap2, rfl, hr2⟩ := hu
  have HR := hide hr
  have HR2 := hide hr2
  have HS := hide hs.2
  have hk := hs.1
  clear hr hr2 hs
  go_enter Try.func19, Try.ntmps19
  go_wp2
  go_loopw [5] (fun i wr => ∃ j : Nat, j ≤ k ∧ i = .int .i64 j ∧ Below w.heap.size w wr) (fun i _ => k - (intOf i).toNat)
  case atStart => exact ⟨0, Nat.zero_le _, rfl, Below.refl _ _⟩
  case round =>
    obtain ⟨j, hj, rfl, hbw⟩ := hrel
    by_cases hlt : j < k
    · obtain ⟨b, off, rfl, hb, hrow⟩ := HR.out (by omega)
      obtain ⟨b2, off2, rfl, hb2, hrow2⟩ := HR2.out (by omega)
      obtain ⟨y, q1, q2, i2⟩ := hrow j hlt
      obtain ⟨y', q3, q4, i4⟩ := hrow2 j hlt
      have k0 := cell_regrown ((hbw.cell (p := ⟨b, off + j * 2, none⟩) hb).trans q1)
      have k1 := cell_regrown ((hbw.cell (p := ⟨b, off + j * 2 + 1, none⟩) hb).trans q2)
      have g0 := cell_regrown ((hbw.cell (p := ⟨b2, off2 + j * 2, none⟩) hb2).trans q3)
      have g1 := cell_regrown ((hbw.cell (p := ⟨b2, off2 + j * 2 + 1, none⟩) hb2).trans q4)
      have hi0 : (0 : Int) ≤ (j : Int) := by omega
      have hi1 : (j : Int) < (k : Int) := by omega
      have hS := HS.out j hlt
      have HE := hide (show ∀ d os, Calls Try.prog 61 #[.agg #[.int .i64 (ts j).long, y], .agg #[.int .i64 (ts j).long, y']] (grow (redrawn wr d) os) fun e w'' => e = .returned (.bool true) ∧ ∃ p : Regrown, w'' = grow (redrawn wr p.d) p.os from fun d os =>
        Calls.regrown_of (eq_task (ts j).long y y' (ts j).nn (ts j).fn _ ((i2.below hbw).below (below_regrown wr d os)) ((i4.below hbw).below (below_regrown wr d os)) hS))
      clear hrow hrow2 HR HR2 q1 q2 q3 q4 i2 i4 hS HS
      go_wp2
      refine wp_region_quiet_below (by kernel_rfl) (by kernel_rfl) ?_
      repeat (go_big_quiet_step (exact HE.out _ _))
      refine wpQuiet_nil ?_
      intro _ hw'
      obtain ⟨⟨dq, osq⟩, hw''⟩ := hw'
      subst hw''
      have hbw2 := hbw.trans ((below_regrown wr dq osq).mono hbw.size)
      go_wp2
      go_roundw
      case rel => exact ⟨j + 1, by omega, by go_num, hbw2⟩
      case measure => simp [intOf]; omega
    · clear HR HR2 HS
      go_wp2
      go_ret
      exact ⟨rfl, hbw⟩
theorem M.Rng.setCell {lo hi : Nat} {a w : World} (h : Rng lo hi a w) {g : Nat} (h1 : lo ≤ g) (h2 : g < hi) (o : Nat) (v : Value) : Rng lo hi a (w.setCell ⟨g, o, none⟩ v) :=
  ⟨h.os, h.tape, h.output, by rw [World.size_setCell]; exact h.size, fun k hk => (Go.heap_setCell_other _ _ _ _ (show k ≠ g by omega)).trans (h.block k hk)⟩
set_option maxHeartbeats 2000000 in
theorem mark_tasks (g k cap hi k0 : Nat) (ts : Nat → Tk) (X : Nat → Value) (w : World) (hm : MB w g k hi ts X) (hs : Small k ts) (hk0 : k0 ≤ 100000000) :
    Calls Try.prog 23 #[.slice (some ⟨g, 0, none⟩) k cap, .int .i64 (k0 : Nat)] w fun e w' => e = .returned (.int .i64 ((k0 + (k + tot ts k) : Nat) : Int)) ∧ Rng g hi w w' := by
  have HM := hide hm
  have HS := hide hs
  have hk : k ≤ 1048576 := hs.short.1
  have hghi := hm.1
  clear hm hs
  go_enter Try.func23, Try.ntmps23
  go_wp2
  go_loopw [1, 5] (fun x i wr => ∃ (j : Nat) (X : Nat → Value), j ≤ k ∧ i = .int .i64 j ∧ x = .int .i64 ((k0 + (j + tot ts j) : Nat) : Int) ∧ Hid (MB wr g k hi ts X) ∧ Rng g hi w wr) (fun _ i _ => k - (intOf i).toNat)
  case atStart => exact ⟨0, X, Nat.zero_le _, rfl, rfl, HM, Rng.refl _ _ _⟩
  case round =>
    obtain ⟨j, X, hj, rfl, rfl, HA, hbw⟩ := hrel
    by_cases hlt : j < k
    · have HT := hide (show k0 + (j + 1 + tot ts (j + 1)) = k0 + (j + tot ts j) + 1 + (ts j).nn by simp only [tot]; omega)
      have hS := HS.out.short.2 j hlt
      have ht1 : k0 + (j + tot ts j) ≤ 200000000 := by have := tot_mono ts (i := j) k hj; have := HS.out; unfold Small at this; omega
      generalize k0 + (j + tot ts j) = m at *
      have hA1 := HA.out.set j ((m : Nat) : Int)
      obtain ⟨b1, f1, x1, h1, h2, h3, h4, h5⟩ := hA1.2.2 j hlt
      have c0 := HA.out.2.1.cell (show j * 2 < k * 2 by omega)
      obtain ⟨b0, f0, x0, g1, g2, g3, g4, g5⟩ := HA.out.2.2 j hlt
      rw [g1] at c0
      have t0 := HA.out.2.1.thaw (j * 2)
      have c1 := hA1.2.1.cell (show j * 2 + 1 < k * 2 by omega)
      rw [h2] at c1
      have HB := hide h5
      have HA1 := hide hA1
      have hbw1 := hbw.setCell (Nat.le_refl _) hghi (j * 2) (.int .i64 ((m : Nat) : Int))
      clear h5 h1 h2 hA1 HA g1 g2 g3 g4 g5
      go_wp2_with fail
      refine (mark_ints b1 (ts j).nn (ts j).nn (m + 1) f1 _ HB.out hS (by omega)).mono ?_
      rintro e w2 ⟨rfl, hB2, ho⟩
      have HA2 := hide (HA1.out.only ho h3 HB.out hB2)
      have hbw2 := hbw1.trans (ho.rng (by omega) h4)
      clear ho HA1 hB2 HB hbw1 c1
      go_wp2
      exact ⟨⟨j + 1, _, by omega, by go_num, by rw [HT.out]; go_num, HA2, hbw2⟩, by simp [intOf]; omega⟩
    · obtain rfl : j = k := by omega
      clear HA HM HS
      go_wp2
      go_ret
      exact ⟨rfl, hbw⟩

theorem trod_nums {H : Type} {enc : TypeId × Value → H} {W : World} {fuel : Nat} {v : Value} {x : DataW H × List MemPlace}
    (hf : DataW.trod enc Try.prog W 0 (fun _ => true) true fuel 29 [v] = some x) : ∃ n f, IntsOf W v n f ∧ n ≤ maxLen := by
  rcases open_ints Try.underlying29 Try.underlying3 (by kernel_rfl) hf with ⟨hcs, _⟩ | ⟨x, l, c, zs, hcs, _, hl, hm, hz, _, hcell, hwz⟩
  · simp at hcs
    subst hcs
    exact ⟨0, fun _ => 0, ⟨none, 0, rfl, fun h => absurd h (Nat.lt_irrefl _)⟩, Nat.zero_le _⟩
  · simp at hcs
    subst hcs
    have hz' : zs.length = c := by simpa using hz
    refine ⟨l, fun i => zs.getD i 0, ⟨some x, c, rfl, fun hp => ?_⟩, Nat.le_trans hl hm⟩
    obtain ⟨b, off, spot⟩ := x
    have h0 := hcell 0 (by omega)
    have hs := World.cell?_spot h0
    have hspot : spot = none := by simpa [Addr.add] using hs
    subst hspot
    have ha : ∀ n, (⟨b, off, none⟩ : Addr).add n = ⟨b, off + n, none⟩ := fun n => by unfold Addr.add; split <;> simp_all
    rw [ha] at h0
    exact ⟨b, off, rfl, World.block_lt_of_cell? W _ h0, fun i hi => by rw [← ha]; exact hcell i (by omega)⟩
theorem pick_of {Pn : Nat → Tk → Prop} : ∀ n : Nat, (∀ i, i < n → ∃ e : Tk, Pn i e) → ∃ l : Nat → Tk, ∀ i, i < n → Pn i (l i)
  | 0, _ => ⟨fun _ => ⟨0, 0, fun _ => 0⟩, fun i h => absurd h (by omega)⟩
  | n + 1, h => by
    obtain ⟨l, hl⟩ := pick_of n (fun i hi => h i (by omega))
    obtain ⟨e, he⟩ := h n (by omega)
    refine ⟨fun i => if i = n then e else l i, fun i hi => ?_⟩
    show Pn i (if i = n then e else l i)
    by_cases hin : i = n
    · subst hin; rw [if_pos rfl]; exact he
    · rw [if_neg hin]; exact hl i (by omega)
set_option maxRecDepth 100000 in
theorem trod_tasks {H : Type} {enc : TypeId × Value → H} {W : World} {fuel : Nat} {v : Value} {x : DataW H × List MemPlace}
    (hf : DataW.trod enc Try.prog W 0 (fun _ => true) true fuel 22 [v] = some x) : ∃ k ts, TasksOf W v k ts ∧ Lens k ts := by
  rcases open_slice_pairs Try.underlying22 Try.underlying63 (by kernel_rfl) rfl rfl (by kernel_rfl) (by kernel_rfl) hf with ⟨hcs, _⟩ | ⟨a, len, cap, m, n, V0, V1, D0, D1, P0, P1, hcs, _, hl, hm, hmm, _, hx⟩
  · simp at hcs
    subst hcs
    exact ⟨0, fun _ => ⟨0, 0, fun _ => 0⟩, ⟨none, 0, rfl, fun h => absurd h (Nat.lt_irrefl _)⟩, Nat.zero_le _, fun i h => absurd h (by omega)⟩
  · simp at hcs
    subst hcs
    simp only [if_true] at hmm
    subst hmm
    by_cases h0 : len = 0
    · subst h0
      exact ⟨0, fun _ => ⟨0, 0, fun _ => 0⟩, ⟨some a, _, rfl, fun h => absurd h (Nat.lt_irrefl _)⟩, Nat.zero_le _, fun i h => absurd h (by omega)⟩
    · obtain ⟨b, off, spot⟩ := a
      have hc0 := (hx 0 (by omega)).1
      have hspot : spot = none := by
        have := World.cell?_spot hc0
        simpa [Addr.add] using this
      subst hspot
      have ha : ∀ n, (⟨b, off, none⟩ : Addr).add n = ⟨b, off + n, none⟩ := fun n => by unfold Addr.add; split <;> simp_all
      have key : ∀ i, i < len → ∃ e : Tk, V0 i = .int .i64 e.long ∧ IntsOf W (V1 i) e.nn e.fn ∧ e.nn ≤ maxLen := by
        intro i hi
        obtain ⟨_, _, t0, t1⟩ := hx i (by omega)
        obtain ⟨q, e0, -, hw⟩ := DataW.trod_int Try.underlying3 t0
        obtain ⟨n1, f1, i1, l1⟩ := trod_nums t1
        simp at e0
        exact ⟨⟨q, n1, f1⟩, e0, i1, l1⟩
      obtain ⟨ts, hts⟩ := pick_of len key
      rw [ha] at hc0
      refine ⟨len, ts, ⟨_, _, rfl, fun _ => ⟨b, off, rfl, World.block_lt_of_cell? W _ hc0, fun i hi => ?_⟩⟩, by omega, fun i hi => (hts i hi).2.2⟩
      obtain ⟨c0, c1, _, _⟩ := hx i (by omega)
      rw [ha] at c0 c1
      exact ⟨V1 i, by rw [← (hts i hi).1]; exact c0, c1, (hts i hi).2.1⟩
set_option maxRecDepth 100000 in
theorem open_tasks {H : Type} {enc : TypeId × Value → H} {W : World} {b0 : Nat} {v : Value} {d : DataW H} {p : List MemPlace}
    (hv : Value.okWide Try.prog W .any b0 22 v) (h : DataW.Trod enc Try.prog W 0 (fun _ => true) true 22 v d p) :
    ∃ k ts, TasksOf W v k ts ∧ Lens k ts := by
  obtain ⟨a0, len0, cap0, rfl⟩ := okWide_slice Try.underlying22 hv
  obtain ⟨fuel, hf⟩ := h
  exact trod_tasks hf
end Go.Proofs.Ytkfnfgencaplfaa
