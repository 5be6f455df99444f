/-
  Slices of calls and of bools in memory, and what the law does with them: how much is left, copies in new memory, two that are told alike, marks that are written and found again.
-/
import Derived.Test.YtegbfmdilmbpmaaRtO
import Derived.Lib.QuietBelow
import Derived.BigQuiet
namespace Go.Proofs.Ytegbfmdilmbpmaa
open Go.RowKit M
open Clk (upd upd_same upd_other)
open Go.Sort (grow)
namespace M
def cv (l : Nat → Cl) : Nat → Value := fun j => if j % 2 = 0 then .int .i64 (l (j / 2)).w else .bool (l (j / 2)).y
theorem cv_even (l : Nat → Cl) (i : Nat) : cv l (i * 2) = .int .i64 (l i).w := by
  unfold cv; rw [if_pos (by omega), show i * 2 / 2 = i by omega]
theorem cv_odd (l : Nat → Cl) (i : Nat) : cv l (i * 2 + 1) = .bool (l i).y := by
  unfold cv; rw [if_neg (by omega), show (i * 2 + 1) / 2 = i by omega]
theorem Blk.calls {w : World} {g n cap : Nat} {l : Nat → Cl} {t : TypeId} (h : Blk w g (n * 2) (cv l) t) : CallsOf w (.slice (some ⟨g, 0, none⟩) n cap) n l := by
  refine ⟨_, _, rfl, fun _ => ⟨g, 0, rfl, h.lt, fun i hi => ?_⟩⟩
  rw [Nat.zero_add, ← cv_even l i, ← cv_odd l i]
  exact ⟨h.cell (by omega), h.cell (by omega)⟩
theorem cv_upd (l : Nat → Cl) (i : Nat) (c : Cl) : upd (upd (cv l) (i * 2) (.int .i64 c.w)) (i * 2 + 1) (.bool c.y) = cv (upd l i c) := by
  funext j
  by_cases h1 : j = i * 2 + 1
  · subst h1
    rw [upd_same, cv_odd, upd_same]
  · rw [upd_other _ _ _ _ h1]
    by_cases h2 : j = i * 2
    · subst h2
      rw [upd_same, cv_even, upd_same]
    · rw [upd_other _ _ _ _ h2]
      have h3 : j / 2 ≠ i := by omega
      unfold cv
      rw [upd_other _ _ _ _ h3]
theorem madeCl (n : Nat) : madeCells #[(.int .i64 0 : Value), .bool false] (n * 2) = cf (n * 2) (cv fun _ => ⟨0, false⟩) := by
  apply Array.ext_getElem?
  intro j
  by_cases hj : j < n * 2
  · rw [cf_get _ hj]
    have h1 : (madeCells #[(.int .i64 0 : Value), .bool false] (n * 2))[j]? = some (#[(.int .i64 0 : Value), .bool false][j % 2]!) := by simp [madeCells, hj]
    rw [h1]
    unfold cv
    rcases (show j % 2 = 0 ∨ j % 2 = 1 by omega) with h | h
    · rw [h]; rfl
    · rw [h]; rfl
  · rw [Array.getElem?_eq_none (by rw [size_madeCells]; omega), Array.getElem?_eq_none (by rw [cf_size]; omega)]
/-- A slice of bools that is read. -/
def BoolsOf (w : World) (v : Value) (n : Nat) (f : Nat → Bool) : Prop :=
  ∃ a cap, v = .slice a n cap ∧ (0 < n → ∃ b off, a = some ⟨b, off, none⟩ ∧ b < w.heap.size ∧ ∀ i, i < n → w.cell? ⟨b, off + i, none⟩ = some (.bool (f i)))
theorem BoolsOf.below {w w' : World} {v : Value} {n : Nat} {f : Nat → Bool} (h : BoolsOf w v n f) (hb : Below w.heap.size w w') : BoolsOf w' v n f := by
  obtain ⟨a, cap, hv, hr⟩ := h
  refine ⟨a, cap, hv, fun hn => ?_⟩
  obtain ⟨b, off, ha, hlt, hrow⟩ := hr hn
  exact ⟨b, off, ha, Nat.lt_of_lt_of_le hlt hb.size, fun i hi => (hb.cell (p := ⟨b, off + i, none⟩) hlt).trans (hrow i hi)⟩
theorem BoolsOf.form {w : World} {v : Value} {n : Nat} {f : Nat → Bool} (h : BoolsOf w v n f) : ∃ a cap, v = .slice a n cap := by
  obtain ⟨a, cap, hv, _⟩ := h; exact ⟨a, cap, hv⟩
def bv (f : Nat → Bool) : Nat → Value := fun i => .bool (f i)
theorem Blk.bools {w : World} {g n cap : Nat} {f : Nat → Bool} {t : TypeId} (h : Blk w g n (bv f) t) : BoolsOf w (.slice (some ⟨g, 0, none⟩) n cap) n f :=
  ⟨_, _, rfl, fun _ => ⟨g, 0, rfl, h.lt, fun i hi => by rw [Nat.zero_add]; exact h.cell hi⟩⟩
theorem bv_upd (f : Nat → Bool) (i : Nat) (x : Bool) : upd (bv f) i (.bool x) = bv (upd f i x) := by
  funext j; unfold bv upd; split <;> rfl
theorem Blk.set_bool {w : World} {g n : Nat} {f : Nat → Bool} {t : TypeId} (h : Blk w g n (bv f) t) (i : Nat) (x : Bool) : Blk (w.setCell ⟨g, i, none⟩ (.bool x)) g n (bv (upd f i x)) t := by
  rw [← bv_upd]; exact h.set i _
theorem Blk.cell_bool {w : World} {g n : Nat} {f : Nat → Bool} {t : TypeId} (h : Blk w g n (bv f) t) {i : Nat} (hi : i < n) : w.cell? ⟨g, i, none⟩ = some (.bool (f i)) := h.cell hi
def cpb (z f : Nat → Bool) (k : Nat) : Nat → Bool := fun i => if i < k then f i else z i
theorem cpb_zero (z f : Nat → Bool) : cpb z f 0 = z := by funext q; simp [cpb]
theorem cpb_succ (z f : Nat → Bool) (k : Nat) : upd (cpb z f k) k (f k) = cpb z f (k + 1) := by
  funext q; unfold upd cpb
  by_cases h : q = k
  · subst h; simp
  · rw [if_neg h]
    by_cases h2 : q < k
    · rw [if_pos h2, if_pos (by omega)]
    · rw [if_neg h2, if_neg (by omega)]
/-- Bools in memory of the call's own, at block B or behind it. -/
def AnsB (w : World) (B : Nat) (r : Value) (n : Nat) (f : Nat → Bool) : Prop :=
  (r = .slice none 0 0 ∧ n = 0) ∨ ∃ b cap, r = .slice (some ⟨b, 0, none⟩) n cap ∧ B ≤ b ∧ Blk w b n (bv f) 4
theorem AnsB.bools {w : World} {B n : Nat} {r : Value} {f : Nat → Bool} (h : AnsB w B r n f) : BoolsOf w r n f := by
  rcases h with ⟨rfl, rfl⟩ | ⟨b, cap, rfl, _, hb⟩
  · exact ⟨none, 0, rfl, fun h => absurd h (Nat.lt_irrefl _)⟩
  · exact hb.bools
theorem AnsB.form {w : World} {B n : Nat} {r : Value} {f : Nat → Bool} (h : AnsB w B r n f) : ∃ a cap, r = .slice a n cap := h.bools.form
theorem AnsB.below {w w' : World} {B n : Nat} {r : Value} {f : Nat → Bool} (h : AnsB w B r n f) (hb : Below w.heap.size w w') : AnsB w' B r n f := by
  rcases h with h | ⟨b, cap, hr, hB, hk⟩
  · exact .inl h
  · exact .inr ⟨b, cap, hr, hB, hk.down hb⟩
theorem AnsB.only {w w' : World} {B n g : Nat} {r : Value} {f : Nat → Bool} (h : AnsB w B r n f) (ho : Only g w w') (hg : g < B) : AnsB w' B r n f := by
  rcases h with h | ⟨b, cap, hr, hB, hk⟩
  · exact .inl h
  · exact .inr ⟨b, cap, hr, hB, ho.blk hk (by omega)⟩
theorem AnsB.mono {w : World} {B B' n : Nat} {r : Value} {f : Nat → Bool} (h : AnsB w B r n f) (hB : B' ≤ B) : AnsB w B' r n f := by
  rcases h with h | ⟨b, cap, hr, hB2, hk⟩
  · exact .inl h
  · exact .inr ⟨b, cap, hr, by omega, hk⟩
def mkb (k0 : Nat) : Nat → Bool := fun i => decide ((k0 + i) % 3 = 0)
theorem tmod3 (m : Nat) : (m : Int).tmod 3 = ((m % 3 : Nat) : Int) := by
  rw [Int.tmod_eq_emod_of_nonneg (by omega)]; omega
theorem mod3 (m : Nat) : (((m % 3 : Nat) : Int) == 0) = decide (m % 3 = 0) := by
  rw [Bool.eq_iff_iff, beq_iff_eq, decide_eq_true_eq]; omega
end M
theorem info_call : (Try.prog.info? 50).map (fun i => (i.zero, i.size, i.bytes)) = some (some (.agg #[.int .i64 0, .bool false]), 2, 16) := by kernel_rfl
theorem make_calls (n : Nat) (h : n ≤ 1048576) (w : World) : (Instr.makeSlice 58 (.int .i64 (n : Int)) (.int .i64 (n : Int))).run Try.prog w = .ok (.slice (some ⟨w.heap.size, 0, none⟩) n n) (w.alloc (.cells (cf (n * 2) (cv fun _ => ⟨0, false⟩)) 50)) := by
  obtain ⟨i, hi, hz0, hz1, hz2⟩ := info_parts info_call
  have hr := run_make (P := Try.prog) w 58 50 i _ Try.underlying58 hi hz0 .i64 .i64 (n : Int) (n : Int) (by omega) (Int.le_refl _) (by rw [hz2]; omega) (by omega)
  rw [hr, hz1]
  simp only [Int.toNat_natCast]
  rw [← madeCl]
  rfl
theorem sz_calls (a : Option Addr) (n cap : Nat) (left : Int) (w : World) (hn : n ≤ maxLen) (h0 : 0 ≤ left) (h1 : left ≤ 1048576) :
    Calls Try.prog 32 #[.slice a n cap, .int .i64 left] w fun e w' => (∃ r : Int, e = .returned (.int .i64 r) ∧ ((r = -1) ∨ (r = left - n ∧ 0 ≤ r))) ∧ w' = w := by
  unfold maxLen at hn
  by_cases h : left - (n : Int) < 0
  · go_enter Try.func32, Try.ntmps32
    go_wp2
    go_ret
    exact ⟨⟨_, rfl, .inl rfl⟩, rfl⟩
  · go_enter Try.func32, Try.ntmps32
    go_wp2
    go_ret
    exact ⟨⟨_, rfl, .inr ⟨rfl, by omega⟩⟩, rfl⟩
set_option maxHeartbeats 2000000 in
theorem to_calls (v : Value) (n : Nat) (l : Nat → Cl) (w : World) (hv : CallsOf w v n l) (hn : n ≤ 1048576) :
    Calls Try.prog 34 #[v] w fun e w' => (e = .returned (.slice (some ⟨w.heap.size, 0, none⟩) n n) ∧ Blk w' w.heap.size (n * 2) (cv l) 50) ∧ Below w.heap.size w w' := by
  obtain ⟨a, cap, rfl, hr⟩ := hv
  have HR := hide hr
  clear hr
  have hmk := make_calls n hn
  go_enter Try.func34, Try.ntmps34
  go_wp2
  go_loopw [4] (fun i wr => ∃ (j : Nat) (g : Nat → Cl), j ≤ n ∧ i = .int .i64 j ∧ Hid (Blk wr w.heap.size (n * 2) (cv g) 50 ∧ (∀ q, q < j → g q = l q)) ∧ Below w.heap.size w wr) (fun i _ => n - (intOf i).toNat)
  case atStart => exact ⟨0, _, Nat.zero_le _, rfl, hide ⟨Blk.new w (n * 2) _ _, fun q h => absurd h (by omega)⟩, (Below.refl _ _).alloc (Nat.le_refl _) _⟩
  case round =>
    obtain ⟨j, g, hj, rfl, HA, hbw⟩ := hrel
    by_cases hlt : j < n
    · obtain ⟨b, off, rfl, hb, hrow⟩ := HR.out (by omega)
      have c0 := (hbw.cell (p := ⟨b, off + j * 2, none⟩) hb).trans (hrow j hlt).1
      have c1 := (hbw.cell (p := ⟨b, off + j * 2 + 1, none⟩) hb).trans (hrow j hlt).2
      clear hrow HR
      have hA0 := HA.out.1.lt
      go_wp2_with fail
      refine (to_call (l j) _).mono ?_
      rintro e w1 ⟨rfl, hb1⟩
      have hbw1 := hbw.trans (hb1.mono hbw.size)
      have hA1 := HA.out.1.down hb1
      have d0 := hA1.cell (show j * 2 < n * 2 by omega)
      have d1 := hA1.cell (show j * 2 + 1 < n * 2 by omega)
      rw [cv_even] at d0
      rw [cv_odd] at d1
      have f0 := hA1.thaw (j * 2)
      have f1 := hA1.thaw (j * 2 + 1)
      have HA2 := hide (show Blk ((w1.setCell ⟨w.heap.size, j * 2, none⟩ (.int .i64 (l j).w)).setCell ⟨w.heap.size, j * 2 + 1, none⟩ (.bool (l j).y)) w.heap.size (n * 2) (cv (upd g j (l j))) 50 ∧ (∀ q, q < j + 1 → upd g j (l j) q = l q) from
        ⟨by rw [← cv_upd]; exact (hA1.set _ _).set _ _, fun q hq => by
          by_cases e : q = j
          · subst e; rw [upd_same]
          · rw [upd_other _ _ _ _ e]; exact HA.out.2 q (by omega)⟩)
      have hbw2 := (hbw1.setCell (p := ⟨w.heap.size, j * 2, none⟩) (Nat.le_refl _) (.int .i64 (l j).w)).setCell (p := ⟨w.heap.size, j * 2 + 1, none⟩) (Nat.le_refl _) (.bool (l j).y)
      clear HA hA1 hb1 c0 c1
      go_wp2
      exact ⟨⟨j + 1, _, by omega, by go_num, HA2, hbw2⟩, by simp [intOf]; omega⟩
    · obtain rfl : j = n := by omega
      have HB := hide (HA.out.1.ext (f' := cv l) (fun i hi => by unfold cv; rw [HA.out.2 (i / 2) (by omega)]))
      clear HR HA
      go_wp2
      go_ret
      exact ⟨⟨rfl, HB.out⟩, hbw⟩
set_option maxHeartbeats 2000000 in
theorem eq_calls (v u : Value) (n : Nat) (l : Nat → Cl) (w : World) (hv : CallsOf w v n l) (hu : CallsOf w u n l) (hn : n ≤ 1048576) :
    Calls Try.prog 37 #[v, u] w fun e w' => e = .returned (.bool true) ∧ Below w.heap.size w w' := by
  obtain ⟨a, cap, rfl, hr⟩ := hv
  obtain ⟨a2, cap2, rfl, hr2⟩ := hu
  have HR := hide hr
  have HR2 := hide hr2
  have hnn : ((n : Int) != (n : Int)) = false := by simp
  clear hr hr2
  go_enter Try.func37, Try.ntmps37
  go_wp2
  go_loopw [5] (fun i wr => ∃ j : Nat, j ≤ n ∧ i = .int .i64 j ∧ Below w.heap.size w wr) (fun i _ => n - (intOf i).toNat)
  case atStart => exact ⟨0, Nat.zero_le _, rfl, Below.refl _ _⟩
  case round =>
    obtain ⟨j, hj, rfl, hbw⟩ := hrel
    by_cases hlt : j < n
    · obtain ⟨b, off, rfl, hb, hrow⟩ := HR.out (by omega)
      obtain ⟨b2, off2, rfl, hb2, hrow2⟩ := HR2.out (by omega)
      have k0 := cell_regrown ((hbw.cell (p := ⟨b, off + j * 2, none⟩) hb).trans (hrow j hlt).1)
      have k1 := cell_regrown ((hbw.cell (p := ⟨b, off + j * 2 + 1, none⟩) hb).trans (hrow j hlt).2)
      have g0 := cell_regrown ((hbw.cell (p := ⟨b2, off2 + j * 2, none⟩) hb2).trans (hrow2 j hlt).1)
      have g1 := cell_regrown ((hbw.cell (p := ⟨b2, off2 + j * 2 + 1, none⟩) hb2).trans (hrow2 j hlt).2)
      have hi0 : (0 : Int) ≤ (j : Int) := by omega
      have hi1 : (j : Int) < (n : Int) := by omega
      have HE := hide (show ∀ d os, Calls Try.prog 58 #[.agg #[.int .i64 (l j).w, .bool (l j).y], .agg #[.int .i64 (l j).w, .bool (l j).y]] (grow (redrawn wr d) os) fun e w'' => e = .returned (.bool true) ∧ ∃ p : Regrown, w'' = grow (redrawn wr p.d) p.os from fun d os =>
        Calls.regrown_of (eq_call _ _))
      clear hrow hrow2 HR HR2
      go_wp2
      refine wp_region_quiet_below (by kernel_rfl) (by kernel_rfl) ?_
      repeat (go_big_quiet_step (exact HE.out _ _))
      refine wpQuiet_nil ?_
      intro _ hw'
      obtain ⟨⟨dq, osq⟩, hw''⟩ := hw'
      subst hw''
      have hbw2 := hbw.trans ((below_regrown wr dq osq).mono hbw.size)
      go_wp2
      go_roundw
      case rel => exact ⟨j + 1, by omega, by go_num, hbw2⟩
      case measure => simp [intOf]; omega
    · obtain rfl : n = j := by omega
      clear HR HR2
      go_wp2
      go_ret
      exact ⟨rfl, hbw⟩
set_option maxHeartbeats 2000000 in
theorem eq_bools (v u : Value) (n : Nat) (f : Nat → Bool) (w : World) (hv : BoolsOf w v n f) (hu : BoolsOf w u n f) (hn : n ≤ 1048576) :
    Calls Try.prog 36 #[v, u] w fun e w' => e = .returned (.bool true) ∧ Below w.heap.size w w' := by
  obtain ⟨a, cap, rfl, hr⟩ := hv
  obtain ⟨a2, cap2, rfl, hr2⟩ := hu
  have HR := hide hr
  have HR2 := hide hr2
  have hnn : ((n : Int) != (n : Int)) = false := by simp
  clear hr hr2
  go_enter Try.func36, Try.ntmps36
  go_wp2
  go_loopw [5] (fun i wr => ∃ j : Nat, j ≤ n ∧ i = .int .i64 j ∧ Below w.heap.size w wr) (fun i _ => n - (intOf i).toNat)
  case atStart => exact ⟨0, Nat.zero_le _, rfl, Below.refl _ _⟩
  case round =>
    obtain ⟨j, hj, rfl, hbw⟩ := hrel
    by_cases hlt : j < n
    · obtain ⟨b, off, rfl, hb, hrow⟩ := HR.out (by omega)
      obtain ⟨b2, off2, rfl, hb2, hrow2⟩ := HR2.out (by omega)
      have k0 := cell_regrown ((hbw.cell (p := ⟨b, off + j, none⟩) hb).trans (hrow j hlt))
      have g0 := cell_regrown ((hbw.cell (p := ⟨b2, off2 + j, none⟩) hb2).trans (hrow2 j hlt))
      have hi0 : (0 : Int) ≤ (j : Int) := by omega
      have hi1 : (j : Int) < (n : Int) := by omega
      have hff : (f j != f j) = false := by simp
      generalize f j = fj at *
      clear hrow hrow2 HR HR2
      go_wp2
      refine wp_region_quiet_below (by kernel_rfl) (by kernel_rfl) ?_
      repeat (go_big_quiet_step (fail))
      refine wpQuiet_nil ?_
      intro _ hw'
      obtain ⟨⟨dq, osq⟩, hw''⟩ := hw'
      subst hw''
      have hbw2 := hbw.trans ((below_regrown wr dq osq).mono hbw.size)
      go_wp2
      go_roundw
      case rel => exact ⟨j + 1, by omega, by go_num, hbw2⟩
      case measure => simp [intOf]; omega
    · obtain rfl : n = j := by omega
      clear HR HR2
      go_wp2
      go_ret
      exact ⟨rfl, hbw⟩
set_option maxHeartbeats 2000000 in
theorem mark_bools (b n c k0 : Nat) (f : Nat → Bool) (w : World) (hg : Blk w b n (bv f) 4) (hn : n ≤ 1048576) (hk0 : k0 ≤ 1000000000) :
    Calls Try.prog 39 #[.slice (some ⟨b, 0, none⟩) n c, .int .i64 (k0 : Nat)] w fun e w' => e = .returned (.int .i64 ((k0 + n : Nat) : Int)) ∧ Blk w' b n (bv (mkb k0)) 4 ∧ Only b w w' := by
  have HG := hide hg
  clear hg
  go_enter Try.func39, Try.ntmps39
  go_wp2
  go_loopw [1, 5] (fun x i wr => ∃ (j : Nat), j ≤ n ∧ i = .int .i64 j ∧ x = .int .i64 ((k0 + j : Nat) : Int) ∧ Hid (Blk wr b n (bv (cpb f (mkb k0) j)) 4) ∧ Only b w wr) (fun _ i _ => n - (intOf i).toNat)
  case atStart => exact ⟨0, Nat.zero_le _, rfl, rfl, hide (by rw [cpb_zero]; exact HG.out), Only.refl _ _⟩
  case round =>
    obtain ⟨j, hj, rfl, rfl, HA, hbw⟩ := hrel
    by_cases hlt : j < n
    · have d0 := HA.out.cell_bool hlt
      have f0 := HA.out.thaw j
      have hA := HA.out.set_bool j (mkb k0 j)
      rw [cpb_succ] at hA
      have HA2 := hide hA
      have hbw2 := hbw.set j (.bool (mkb k0 j))
      have HE := hide (show ((k0 + (j + 1) : Nat) : Int) = ((k0 + j : Nat) : Int) + 1 by omega)
      have hE1 : ((k0 + j : Nat) : Int).tmod 3 = (((k0 + j) % 3 : Nat) : Int) := tmod3 _
      have hE2 : ((((k0 + j) % 3 : Nat) : Int) == 0) = mkb k0 j := mod3 _
      have hb0 : k0 + j ≤ 1010000000 := by omega
      have hq : (k0 + j) % 3 < 3 := by omega
      generalize mkb k0 j = mj at *
      generalize (k0 + j) % 3 = q at *
      generalize k0 + j = m at *
      clear HA HG hA
      go_wp2
      exact ⟨⟨j + 1, by omega, by go_num, by rw [HE.out], HA2, hbw2⟩, by simp [intOf]; omega⟩
    · obtain rfl : j = n := by omega
      have HB := hide (HA.out.ext (f' := bv (mkb k0)) (fun i hi => by unfold bv cpb; rw [if_pos hi]))
      clear HA HG
      go_wp2
      go_ret
      exact ⟨rfl, HB.out, hbw⟩
theorem mark_nobool (k0 : Int) (w : World) :
    Calls Try.prog 39 #[.slice none 0 0, .int .i64 k0] w fun e w' => e = .returned (.int .i64 k0) ∧ w' = w := by
  go_enter Try.func39, Try.ntmps39
  go_wp2
  refine wp_loop_rounds 1 ?_; rw [rounds_succ]
  go_wp2
  go_ret
  exact ⟨rfl, rfl⟩
theorem mark_ansB (B n k0 : Nat) (r : Value) (f : Nat → Bool) (w : World) (h : AnsB w B r n f) (hn : n ≤ 1048576) (hk0 : k0 ≤ 1000000000) :
    Calls Try.prog 39 #[r, .int .i64 (k0 : Nat)] w fun e w' => e = .returned (.int .i64 ((k0 + n : Nat) : Int)) ∧ AnsB w' B r n (mkb k0) ∧ Below B w w' ∧ w'.heap.size = w.heap.size := by
  rcases h with ⟨rfl, rfl⟩ | ⟨b, cap, rfl, hB, hb⟩
  · refine (mark_nobool (k0 : Nat) w).mono ?_
    rintro e w' ⟨rfl, rfl⟩
    exact ⟨rfl, .inl ⟨rfl, rfl⟩, Below.refl _ _, rfl⟩
  · refine (mark_bools b n cap k0 f w hb hn hk0).mono ?_
    rintro e w' ⟨rfl, hk', ho⟩
    exact ⟨rfl, .inr ⟨b, cap, rfl, hB, hk'⟩, ho.below hB, ho.size⟩
set_option maxHeartbeats 2000000 in
theorem held_bools (v : Value) (n k0 : Nat) (w : World) (hv : BoolsOf w v n (mkb k0)) (hn : n ≤ 1048576) (hk0 : k0 ≤ 1000000000) :
    Calls Try.prog 40 #[v, .int .i64 (k0 : Nat)] w fun e w' => e = .returned (.int .i64 ((k0 + n : Nat) : Int)) ∧ w' = w := by
  obtain ⟨a, cap, rfl, hr⟩ := hv
  have HR := hide hr
  clear hr
  go_enter Try.func40, Try.ntmps40
  go_wp2
  go_loop [1, 5] (fun x i => ∃ j : Nat, j ≤ n ∧ i = .int .i64 j ∧ x = .int .i64 ((k0 + j : Nat) : Int)) (fun _ i => n - (intOf i).toNat)
  case atStart => exact ⟨0, Nat.zero_le _, rfl, rfl⟩
  case round =>
    obtain ⟨j, hj, rfl, rfl⟩ := hrel
    by_cases hlt : j < n
    · obtain ⟨b, off, rfl, hb, hrow⟩ := HR.out (by omega)
      have c0 := hrow j hlt
      have HE := hide (show ((k0 + (j + 1) : Nat) : Int) = ((k0 + j : Nat) : Int) + 1 by omega)
      have hE1 : ((k0 + j : Nat) : Int).tmod 3 = (((k0 + j) % 3 : Nat) : Int) := tmod3 _
      have hE2 : ((((k0 + j) % 3 : Nat) : Int) == 0) = mkb k0 j := mod3 _
      have hE3 : (mkb k0 j != mkb k0 j) = false := by simp
      have hb0 : k0 + j ≤ 1010000000 := by omega
      have hq : (k0 + j) % 3 < 3 := by omega
      generalize mkb k0 j = mj at *
      generalize (k0 + j) % 3 = q at *
      generalize k0 + j = m at *
      clear HR hrow
      go_wp2
      go_round
      case rel => exact ⟨j + 1, by omega, by go_num, by rw [HE.out]⟩
      case measure => simp [intOf]; omega
    · obtain rfl : j = n := by omega
      clear HR
      go_wp2
      go_ret
      exact ⟨rfl, rfl⟩
end Go.Proofs.Ytegbfmdilmbpmaa
