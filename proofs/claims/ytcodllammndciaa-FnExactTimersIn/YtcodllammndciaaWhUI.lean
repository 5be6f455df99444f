/-
  The program's TimersIn: all timers in one list, sorted by the library under the program's own comparison.
-/
import Derived.Test.YtcodllammndciaaWhUM
import Derived.Test.YtcodllammndciaaShelf
import Derived.Deep.RegionWith
import Derived.Deep.RegionHeld
namespace Go.Proofs.Ytcodllammndciaa
open Go.RowKit M
open Clk (upd upd_same upd_other)
open Go.Sort (grow alloc_eq_grow grow_grow drew_grow)
set_option maxHeartbeats 1000000 in
theorem cmp_or (b : Nat) (x y : Int) (W : World) (c0 : W.cell? ⟨b, 0, none⟩ = some (.int .i64 x)) (c1 : W.cell? ⟨b, 1, none⟩ = some (.int .i64 y)) :
    Calls Try.prog 66 #[.slice (some ⟨b, 0, none⟩) 2 2] W fun e w' => e = .returned (.int .i64 (if x = 0 then y else x)) ∧ w' = W := by
  go_enter Try.func66, Try.ntmps66
  go_wp2
  refine wp_loop_rounds 3 ?_
  rw [rounds_succ]
  by_cases hx : x = 0
  · subst hx
    go_wp2
    rw [rounds_succ]
    by_cases hy : y = 0
    · subst hy
      go_wp2
      rw [rounds_succ]
      go_wp2
      go_ret
      exact ⟨rfl, rfl⟩
    · have hy' : (y != 0) = true := by simpa using hy
      go_wp2
      go_ret
      exact ⟨rfl, rfl⟩
  · have hx' : (x != 0) = true := by simpa using hx
    go_wp2
    go_ret
    exact ⟨rfl, rfl⟩
set_option maxRecDepth 20000 in
set_option maxHeartbeats 1000000 in
/-- The comparison: by At, then Id; three blocks are laid. -/
theorem cmp_timers (x y : Tp) (W : World) : Calls Try.prog 65 #[.agg #[.int .i64 x.1, .int .i64 x.2], .agg #[.int .i64 y.1, .int .i64 y.2]] W fun e w' => e = .returned (.int .i64 (cfT x y)) ∧ ∃ q os', w' = grow (W.drewN q) os' := by
  obtain ⟨x1, x2⟩ := x
  obtain ⟨y1, y2⟩ := y
  have h1 := fun W' => Try.cmp_Compare_int x1 y1 W'
  have h2 := fun W' => Try.cmp_Compare_int x2 y2 W'
  have hr : cfT (x1, x2) (y1, y2) = if Lib.compareInt x1 y1 = 0 then Lib.compareInt x2 y2 else Lib.compareInt x1 y1 := rfl
  rw [hr]
  clear hr
  generalize Lib.compareInt x1 y1 = r1 at *
  generalize Lib.compareInt x2 y2 = r2 at *
  have HP := hide (fun X : World => (Blk.fresh X #[.int .i64 r1, .int .i64 r2] 2 (p2 (.int .i64 r1) (.int .i64 r2)) 3 rfl).pair)
  obtain ⟨r3, hr3⟩ : ∃ r3, (if r1 = 0 then r2 else r1) = r3 := ⟨_, rfl⟩
  have HO := hide (fun X : World => cmp_or X.heap.size r1 r2 _ (HP.out X).1 (HP.out X).2.1)
  rw [hr3] at HO
  rw [hr3]
  clear HP hr3
  have H1 := hide h1
  have H2 := hide h2
  clear h1 h2
  go_enter Try.func65, Try.ntmps65
  go_wp2_with fail
  obtain ⟨W2, hW2⟩ : ∃ W2, (W.alloc (.cells #[.int .i64 x1, .int .i64 x2] 40)).alloc (.cells #[.int .i64 y1, .int .i64 y2] 40) = W2 := ⟨_, rfl⟩
  rw [hW2]
  obtain ⟨p, hp⟩ : ∃ p, W.heap.size = p := ⟨_, rfl⟩
  have hS2 : W2.cell? ⟨p, 0, none⟩ = some (.int .i64 x1) ∧ W2.cell? ⟨p, 1, none⟩ = some (.int .i64 x2) ∧ W2.cell? ⟨p + 1, 0, none⟩ = some (.int .i64 y1) ∧ W2.cell? ⟨p + 1, 1, none⟩ = some (.int .i64 y2) := by
    subst hW2
    subst hp
    have h1 := ((Blk.fresh W #[.int .i64 x1, .int .i64 x2] 2 (p2 (.int .i64 x1) (.int .i64 x2)) 40 rfl).alloc (.cells #[.int .i64 y1, .int .i64 y2] 40)).pair
    have h2 := (Blk.fresh (W.alloc (.cells #[.int .i64 x1, .int .i64 x2] 40)) #[.int .i64 y1, .int .i64 y2] 2 (p2 (.int .i64 y1) (.int .i64 y2)) 40 rfl).pair
    rw [World.size_alloc] at h2
    exact ⟨h1.1, h1.2.1, h2.1, h2.2.1⟩
  have hsz : W2.heap.size = p + 2 := by rw [← hW2, World.size_alloc, World.size_alloc, hp]
  have hSa : ∀ o, (W2.drew.alloc o).cell? ⟨p, 0, none⟩ = some (.int .i64 x1) ∧ (W2.drew.alloc o).cell? ⟨p, 1, none⟩ = some (.int .i64 x2) ∧ (W2.drew.alloc o).cell? ⟨p + 1, 0, none⟩ = some (.int .i64 y1) ∧ (W2.drew.alloc o).cell? ⟨p + 1, 1, none⟩ = some (.int .i64 y2) := fun o => by
    have hb := (Below.refl W2.heap.size W2).drew.alloc (Nat.le_refl _) o
    exact ⟨(hb.cell (p := ⟨p, 0, none⟩) (show p < W2.heap.size by omega)).trans hS2.1, (hb.cell (p := ⟨p, 1, none⟩) (show p < W2.heap.size by omega)).trans hS2.2.1, (hb.cell (p := ⟨p + 1, 0, none⟩) (show p + 1 < W2.heap.size by omega)).trans hS2.2.2.1, (hb.cell (p := ⟨p + 1, 1, none⟩) (show p + 1 < W2.heap.size by omega)).trans hS2.2.2.2⟩
  rw [hp]
  have HO2 := hide (show Calls Try.prog 66 #[.slice (some ⟨W2.heap.size, 0, none⟩) 2 2] (W2.drew.alloc (.cells #[.int .i64 r1, .int .i64 r2] 3)) fun e w' => e = .returned (.int .i64 r3) ∧ w' = W2.drew.alloc (.cells #[.int .i64 r1, .int .i64 r2] 3) from HO.out W2.drew)
  clear HO
  have HSa := hide hSa
  have HS2 := hide (show W2.drew.cell? ⟨p, 0, none⟩ = some (.int .i64 x1) ∧ W2.drew.cell? ⟨p, 1, none⟩ = some (.int .i64 x2) ∧ W2.drew.cell? ⟨p + 1, 0, none⟩ = some (.int .i64 y1) ∧ W2.drew.cell? ⟨p + 1, 1, none⟩ = some (.int .i64 y2) from hS2)
  have HE := hide (show ∀ o, ∃ os', W2.drew.alloc o = grow (W.drewN 1) os' from fun o => ⟨_, by rw [← hW2, alloc_eq_grow, alloc_eq_grow, alloc_eq_grow, grow_grow, drew_grow, grow_grow]; rfl⟩)
  clear hW2 hSa hS2 hp hsz
  go_region_held (fun w' => w'.cell? ⟨p, 0, none⟩ = some (.int .i64 x1) ∧ w'.cell? ⟨p, 1, none⟩ = some (.int .i64 x2) ∧ w'.cell? ⟨p + 1, 0, none⟩ = some (.int .i64 y1) ∧ w'.cell? ⟨p + 1, 1, none⟩ = some (.int .i64 y2)) (first | exact HS2.out | exact HSa.out _) (first
    | (go_at_call_of 67 (Value.int IntKind.i64 x1); refine (H1.out _).mono ?_; rintro e w' ⟨rfl, rfl⟩)
    | (go_at_call_of 67 (Value.int IntKind.i64 x2); refine (H2.out _).mono ?_; rintro e w' ⟨rfl, rfl⟩)
    | (go_at_call 66; refine HO2.out.mono ?_; rintro e w' ⟨rfl, rfl⟩))
  all_goals
    go_wp2
    go_ret
    exact ⟨rfl, 1, HE.out _⟩
end Go.Proofs.Ytcodllammndciaa
