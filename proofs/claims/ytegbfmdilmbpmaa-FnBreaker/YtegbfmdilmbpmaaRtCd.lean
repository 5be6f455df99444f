/-
  A breaker told by hand: a row of faults and the time since when it is open. What FnBreaker compares.
-/
import Derived.Test.YtegbfmdilmbpmaaRtCc
import Derived.Laws.StructEq
namespace Go.Proofs.Ytegbfmdilmbpmaa
open Go.RowKit M
open Go.Sort (grow)
namespace M
/-- A breaker that is never half open: the faults in a row, and since when it is open, -1 where it is not. -/
structure RwB (b : Br) (l c row o : Int) : Prop where
  hl : b.l = l
  hc : b.c = c
  hk : b.k = row
  hs : (b.s = 0 ∧ o = -1) ∨ (b.s = 1 ∧ o = b.o ∧ 0 ≤ o ∧ o ≤ 1000000)
  g : GBr b
theorem RwB.zero {l c : Int} (h : GBd l c) : RwB (fresh l c) l c 0 (-1) := ⟨rfl, rfl, rfl, .inl ⟨rfl, rfl⟩, fresh_good h⟩
theorem RwB.nums {b : Br} {l c row o : Int} (h : RwB b l c row o) : 1 ≤ l ∧ l ≤ 20 ∧ 1 ≤ c ∧ c ≤ 10000 ∧ 0 ≤ row ∧ row ≤ 20 ∧ -1 ≤ o ∧ o ≤ 1000000 ∧ (o < 0 → row + 1 ≤ l) := by
  obtain ⟨rfl, rfl, rfl, hs, hg⟩ := h
  obtain ⟨h1, h2⟩ := hg
  unfold GBd at h1
  unfold GT at h2
  omega
theorem RwB.lets {b : Br} {l c row o : Int} (h : RwB b l c row o) (n : Int) : lt b n = true ↔ (o < 0 ∨ o + c ≤ n) := by
  have hn := h.nums
  obtain ⟨rfl, rfl, rfl, hs, hg⟩ := h
  unfold lt
  rcases hs with ⟨h0, h1⟩ | ⟨h0, h1, h2, h3⟩
  · simp [h0, h1]
  · simp [h0, ← h1]; omega
theorem RwB.no {b : Br} {l c row o : Int} (h : RwB b l c row o) {x : Cl} (hl : lt b x.w = false) : RwB (cal b x) l c row o := by
  unfold cal; rw [if_neg (by rw [hl]; decide)]; exact h
theorem RwB.fine {b : Br} {l c row o : Int} (h : RwB b l c row o) {x : Cl} (hl : lt b x.w = true) (hy : x.y = true) : RwB (cal b x) l c 0 (-1) := by
  unfold cal; rw [if_pos hl, if_pos hy, ← h.hl, ← h.hc]; exact RwB.zero h.g.1
theorem RwB.fault {b : Br} {l c row o : Int} (h : RwB b l c row o) {x : Cl} (hl : lt b x.w = true) (hy : x.y = false) (hw : GT x.w) :
    ((0 ≤ o ∨ row + 1 = l) → RwB (cal b x) l c l x.w) ∧ (¬ (0 ≤ o ∨ row + 1 = l) → RwB (cal b x) l c (row + 1) o) := by
  have hn := h.nums
  have hg := flr_good h.g hw
  have e : cal b x = flr b x.w := by unfold cal; rw [if_pos hl, if_neg (by rw [hy]; decide)]
  rw [e]
  obtain ⟨rfl, rfl, rfl, hs, hgb⟩ := h
  have hk : b.s = 1 → b.k = b.l := by
    obtain ⟨-, h2⟩ := hgb
    intro h1
    rcases h2 with ⟨h3, -⟩ | ⟨-, h3, -⟩
    · omega
    · exact h3
  unfold GT at hw
  unfold flr at hg ⊢
  rcases hs with ⟨h0, h1⟩ | ⟨h0, h1, h2, h3⟩
  · rw [if_pos h0] at hg ⊢
    constructor
    · intro hor
      have hkl : b.k + 1 = b.l := by omega
      rw [if_pos hkl] at hg ⊢
      exact ⟨rfl, rfl, hkl, .inr ⟨rfl, rfl, hw.1, hw.2⟩, hg⟩
    · intro hno
      have hkl : ¬ b.k + 1 = b.l := by omega
      rw [if_neg hkl] at hg ⊢
      exact ⟨rfl, rfl, rfl, .inl ⟨h0, h1⟩, hg⟩
  · rw [if_neg (by omega)] at hg ⊢
    constructor
    · intro _
      exact ⟨rfl, rfl, hk h0, .inr ⟨rfl, rfl, hw.1, hw.2⟩, hg⟩
    · intro hno; exact absurd (.inl h2) hno
end M
set_option maxHeartbeats 1000000 in
theorem same_bools (v u : Value) (n : Nat) (f : Nat → Bool) (w : World) (hv : BoolsOf w v n f) (hu : BoolsOf w u n f) (hn : n ≤ 1048576) :
    Calls Try.prog 46 #[v, u] w fun e w' => e = .returned (.bool true) ∧ Below w.heap.size w w' := by
  obtain ⟨a, cap, rfl, hr⟩ := hv
  obtain ⟨a2, cap2, rfl, hr2⟩ := hu
  have HR := hide hr
  have HR2 := hide hr2
  clear hr hr2
  go_enter Try.func46, Try.ntmps46
  go_wp2
  go_loopw [13] (fun i wr => ∃ k : Nat, k ≤ n ∧ i = .int .i64 k ∧ Below w.heap.size w wr) (fun i _ => n - (intOf i).toNat)
  case atStart => exact ⟨0, Nat.zero_le _, rfl, Below.refl _ _⟩
  case round =>
    obtain ⟨k, hk, rfl, hbw⟩ := hrel
    by_cases hlt : k < n
    · obtain ⟨b, off, rfl, hb, hrow⟩ := HR.out (by omega)
      obtain ⟨b2, off2, rfl, hb2, hrow2⟩ := HR2.out (by omega)
      obtain ⟨x, hx⟩ : ∃ x, f k = x := ⟨_, rfl⟩
      have k0 := cell_regrown ((hbw.cell (p := ⟨b, off + k, none⟩) hb).trans (hrow k hlt))
      have k1 := cell_regrown ((hbw.cell (p := ⟨b2, off2 + k, none⟩) hb2).trans (hrow2 k hlt))
      rw [hx] at k0 k1
      have hi0 : (0 : Int) ≤ (k : Int) := by omega
      have hi1 : (k : Int) < (n : Int) := by omega
      have hxx : (x != x) = false := by simp
      clear hrow hrow2 HR HR2 hx
      go_wp2
      refine wp_region_quiet_below (by kernel_rfl) (by kernel_rfl) ?_
      repeat (go_big_quiet_step (fail))
      refine wpQuiet_nil ?_
      intro _ hw'
      obtain ⟨⟨dq, osq⟩, hw''⟩ := hw'
      subst hw''
      have hbw2 := hbw.trans ((below_regrown wr dq osq).mono hbw.size)
      go_wp2
      go_roundw
      case rel => exact ⟨k + 1, by omega, by go_num, hbw2⟩
      case measure => simp [intOf]; omega
    · clear HR HR2
      go_wp2
      go_ret
      exact ⟨rfl, hbw⟩
theorem eq_br (op : BinOp) (b : Bool) (ho : (op = .neq ∧ b = false) ∨ (op = .eql ∧ b = true)) (x : Br) (w : World) : (binOp op 37 (.agg #[.int .i64 x.l, .int .i64 x.c, .int .i64 x.s, .int .i64 x.k, .int .i64 x.o]) (.agg #[.int .i64 x.l, .int .i64 x.c, .int .i64 x.s, .int .i64 x.k, .int .i64 x.o])).run Try.prog w = .ok (.bool b) w := by
  have u3 := Try.underlying3
  have a3 := Try.isAgg3
  have z3 := Try.sizeOf3
  have hS : Try.prog.underlying 37 = some (.struct (Try.prog.fieldsOf 37)) := by kernel_rfl
  have hp : Try.prog.stoodInHeld 37 = false := by kernel_rfl
  rcases ho with ⟨rfl, rfl⟩ | ⟨rfl, rfl⟩
  · rw [run_neq_struct, show (10000 : Nat) = 9999 + 1 from rfl, run_equalIn_agg w 9999 37 _ _ hS hp]
    simp only [Program.fieldsOf, Try.underlying37]
    go_simp
  · rw [run_eql_struct, show (10000 : Nat) = 9999 + 1 from rfl, run_equalIn_agg w 9999 37 _ _ hS hp]
    simp only [Program.fieldsOf, Try.underlying37]
    go_simp
theorem guard_br (op : BinOp) (a b : Operand) (x y : Array Value) (w : World) : (eqGuard op 37 a b (.agg x) (.agg y)).run Try.prog w = .ok () w := run_eqGuard_agg w op 37 a b _ _ (by kernel_rfl)
/-- A play by both texts, whatever is handed in. -/
theorem both_play (l c : Int) (n : Nat) (cs : Nat → Cl) (hn : n ≤ 1048576) : ∃ (r : Br) (q : Nat) (h : Nat → Bool) (ok : Bool), q ≤ 1048576 ∧ (ok = true → q = n ∧ r = ply l c cs n ∧ h = thr l c cs ∧ GBd l c ∧ GCs n cs) ∧
    (∀ (v : Value) (W : World), CallsOf W v n cs → Calls Try.prog 33 #[.int .i64 l, .int .i64 c, v] W fun e w' => (∃ R, e = .returned (.tuple #[brv r, R, .bool ok]) ∧ BoolsOf w' R q h) ∧ Below W.heap.size W w') ∧
    (∀ (v : Value) (W : World), CallsOf W v n cs → Calls Try.prog 35 #[.int .i64 l, .int .i64 c, v] W fun e w' => (∃ R, e = .returned (.tuple #[brv r, R, .bool ok]) ∧ BoolsOf w' R q h) ∧ Below W.heap.size W w') := by
  have hnil : ∀ W, BoolsOf W (.slice none 0 0) 0 (fun _ => false) := fun W => ⟨none, 0, rfl, fun h => absurd h (Nat.lt_irrefl _)⟩
  by_cases h1 : GBd l c ∧ n ≤ 120
  · by_cases h2 : GCs n cs
    · refine ⟨ply l c cs n, n, thr l c cs, true, hn, fun _ => ⟨rfl, rfl, rfl, h1.1, h2⟩, fun v W hW => (spec_play l c v n cs W hW h1.1 h1.2).mono ?_, fun v W hW => (impl_play l c v n cs W hW h1.1 h1.2 h2).mono ?_⟩
      · rintro e w' ⟨⟨-, R, he, hR⟩ | ⟨hno, -⟩, hb⟩
        · exact ⟨⟨R, he, hR⟩, hb⟩
        · exact absurd h2 hno
      · rintro e w' ⟨⟨R, he, hR⟩, hb⟩
        exact ⟨⟨R, he, hR.bools⟩, hb⟩
    · refine ⟨⟨0, 0, 0, 0, 0⟩, 0, fun _ => false, false, by omega, fun h => (by cases h), fun v W hW => (spec_play l c v n cs W hW h1.1 h1.2).mono ?_, fun v W hW => (impl_play_no l c v n cs W hW hn (fun h => h2 h.2.2)).mono ?_⟩
      · rintro e w' ⟨⟨hy, -⟩ | ⟨-, he⟩, hb⟩
        · exact absurd hy h2
        · exact ⟨⟨_, he, hnil _⟩, hb⟩
      · rintro e w' ⟨he, hb⟩
        exact ⟨⟨_, he, hnil _⟩, hb⟩
  · refine ⟨⟨0, 0, 0, 0, 0⟩, 0, fun _ => false, false, by omega, fun h => (by cases h), fun v W hW => (spec_play_no l c v n cs W hW hn h1).mono ?_, fun v W hW => (impl_play_no l c v n cs W hW hn (fun h => h1 ⟨h.1, h.2.1⟩)).mono ?_⟩
    · rintro e w' ⟨he, hb⟩
      exact ⟨⟨_, he, hnil _⟩, hb⟩
    · rintro e w' ⟨he, hb⟩
      exact ⟨⟨_, he, hnil _⟩, hb⟩
end Go.Proofs.Ytegbfmdilmbpmaa
