/-
  A wheel, and a timer, that came in: read as data.
-/
import Derived.Test.YtcodllammndciaaWhA
import Derived.Deep.Slices
import Derived.Deep.SlicePairs
import Derived.Lib.SmallJoins
import Derived.ProofKit
import Derived.OpenShut
namespace Go.Proofs.Ytcodllammndciaa
open Go.ChangeShapes Go.WideShapes Go.ChangeAt Go.RowKit Go.Joins Go.Deep
open M
theorem pick_of {α : Type} (z : α) {Pn : Nat → α → Prop} : ∀ n : Nat, (∀ i, i < n → ∃ e : α, Pn i e) → ∃ l : Nat → α, ∀ i, i < n → Pn i (l i)
  | 0, _ => ⟨fun _ => z, fun i h => absurd h (by omega)⟩
  | n + 1, h => by
    obtain ⟨l, hl⟩ := pick_of z n (fun i hi => h i (by omega))
    obtain ⟨e, he⟩ := h n (by omega)
    refine ⟨fun i => if i = n then e else l i, fun i hi => ?_⟩
    show Pn i (if i = n then e else l i)
    by_cases hin : i = n
    · subst hin; rw [if_pos rfl]; exact he
    · rw [if_neg hin]; exact hl i (by omega)
set_option maxRecDepth 100000 in
theorem trod_timers {H : Type} {enc : TypeId × Value → H} {W : World} {fuel : Nat} {v : Value} {x : DataW H × List MemPlace}
    (hf : DataW.trod enc Try.prog W 0 (fun _ => true) true fuel 91 [v] = some x) : ∃ r : Rw, TimersOf W v r.n r.f ∧ r.n ≤ maxLen := by
  rcases open_slice_pairs Try.underlying91 Try.underlying37 (by kernel_rfl) rfl rfl (by kernel_rfl) (by kernel_rfl) hf with ⟨hcs, _⟩ | ⟨a, len, cap, m, n, V0, V1, D0, D1, P0, P1, hcs, _, hl, hm, hmm, _, hx⟩
  · simp at hcs
    subst hcs
    exact ⟨noRow, ⟨none, 0, rfl, fun h => absurd h (Nat.lt_irrefl _)⟩, Nat.zero_le _⟩
  · simp at hcs
    subst hcs
    simp only [if_true] at hmm
    subst hmm
    by_cases h0 : len = 0
    · subst h0
      exact ⟨noRow, ⟨some a, _, rfl, fun h => absurd h (Nat.lt_irrefl _)⟩, Nat.zero_le _⟩
    · obtain ⟨b, off, spot⟩ := a
      have hc0 := (hx 0 (by omega)).1
      have hspot : spot = none := by
        have := World.cell?_spot hc0
        simpa [Addr.add] using this
      subst hspot
      have ha : ∀ n, (⟨b, off, none⟩ : Addr).add n = ⟨b, off + n, none⟩ := fun n => by unfold Addr.add; split <;> simp_all
      have key : ∀ i, i < len → ∃ e : Int × Int, V0 i = .int .i64 e.1 ∧ V1 i = .int .i64 e.2 := by
        intro i hi
        obtain ⟨_, _, t0, t1⟩ := hx i (by omega)
        obtain ⟨q, e0, -, hw⟩ := DataW.trod_int Try.underlying3 t0
        obtain ⟨q1, e1, -, hw1⟩ := DataW.trod_int Try.underlying3 t1
        simp at e0 e1
        exact ⟨(q, q1), e0, e1⟩
      obtain ⟨ts, hts⟩ := pick_of (0, 0) len key
      rw [ha] at hc0
      refine ⟨⟨len, fun q => if q % 2 = 0 then (ts (q / 2)).1 else (ts (q / 2)).2⟩, ⟨_, _, rfl, fun _ => ⟨b, off, rfl, World.block_lt_of_cell? W _ hc0, fun q hq => ?_⟩⟩, by show len ≤ maxLen; omega⟩
      have hq' : q < len * 2 := hq
      obtain ⟨c0, c1, _, _⟩ := hx (q / 2) (by omega)
      rw [ha] at c0 c1
      show W.cell? ⟨b, off + q, none⟩ = some (.int .i64 (if q % 2 = 0 then (ts (q / 2)).1 else (ts (q / 2)).2))
      rcases (show q % 2 = 0 ∨ q % 2 = 1 by omega) with h | h
      · rw [if_pos h, ← (hts (q / 2) (by omega)).1, ← c0]
        congr 2; omega
      · rw [if_neg (by omega), ← (hts (q / 2) (by omega)).2, ← c1]
        congr 2; omega
set_option maxRecDepth 100000 in
theorem trod_rows {H : Type} {enc : TypeId × Value → H} {W : World} {fuel : Nat} {v : Value} {x : DataW H × List MemPlace}
    (hf : DataW.trod enc Try.prog W 0 (fun _ => true) true fuel 29 [v] = some x) : ∃ k rs, RowsOf W v k rs ∧ Lens k rs := by
  rcases open_slice1 Try.underlying29 (by kernel_rfl) hf with ⟨hcs, _⟩ | ⟨a, len, cap, m, n, V, D, P0, hcs, _, hl, hm, hmm, _, hx⟩
  · simp at hcs
    subst hcs
    exact ⟨0, fun _ => noRow, ⟨none, 0, rfl, fun h => absurd h (Nat.lt_irrefl _)⟩, Nat.zero_le _, fun i h => absurd h (by omega)⟩
  · simp at hcs
    subst hcs
    simp only [if_true] at hmm
    subst hmm
    by_cases h0 : len = 0
    · subst h0
      exact ⟨0, fun _ => noRow, ⟨some a, _, rfl, fun h => absurd h (Nat.lt_irrefl _)⟩, Nat.zero_le _, fun i h => absurd h (by omega)⟩
    · obtain ⟨b, off, spot⟩ := a
      have hc0 := (hx 0 (by omega)).1
      have hspot : spot = none := by
        have := World.cell?_spot hc0
        simpa [Addr.add] using this
      subst hspot
      have ha : ∀ n, (⟨b, off, none⟩ : Addr).add n = ⟨b, off + n, none⟩ := fun n => by unfold Addr.add; split <;> simp_all
      obtain ⟨rs, hrs⟩ := pick_of (α := Rw) noRow len (Pn := fun i e => TimersOf W (V i) e.n e.f ∧ e.n ≤ maxLen) (fun i hi => trod_timers (hx i (by omega)).2)
      rw [ha] at hc0
      refine ⟨len, rs, ⟨_, _, rfl, fun _ => ⟨b, off, rfl, World.block_lt_of_cell? W _ hc0, fun i hi => ?_⟩⟩, by omega, fun i hi => (hrs i hi).2⟩
      have c0 := (hx i (by omega)).1
      rw [ha] at c0
      exact ⟨V i, c0, (hrs i hi).1⟩
set_option maxRecDepth 100000 in
theorem open_wheel {H : Type} {enc : TypeId × Value → H} {W : World} {b0 : Nat} {v : Value} {d : DataW H} {p : List MemPlace}
    (hv : Value.okWide Try.prog W .any b0 31 v) (h : DataW.Trod enc Try.prog W 0 (fun _ => true) true 31 v d p) :
    ∃ (q : Int) (u : Value) (k : Nat) (rs : Nat → Rw), v = .agg #[.int .i64 q, u] ∧ (Lit.int .i64 q).wf = true ∧ RowsOf W u k rs ∧ Lens k rs := by
  obtain ⟨v0, v1, y0, y1, n, rfl, -, -, t0, t1⟩ := open_agg2 Try.underlying31 (by kernel_rfl) (by kernel_rfl) hv h
  obtain ⟨q, e0, -, hw⟩ := DataW.trod_int Try.underlying3 t0
  simp at e0
  subst e0
  obtain ⟨k, st, hs, hl⟩ := trod_rows t1
  exact ⟨q, v1, k, st, rfl, hw, hs, hl⟩
set_option maxRecDepth 100000 in
theorem open_timer {H : Type} {enc : TypeId × Value → H} {W : World} {b0 : Nat} {v : Value} {d : DataW H} {p : List MemPlace}
    (hv : Value.okWide Try.prog W .any b0 37 v) (h : DataW.Trod enc Try.prog W 0 (fun _ => true) true 37 v d p) :
    ∃ (x y : Int), v = .agg #[.int .i64 x, .int .i64 y] ∧ (Lit.int .i64 x).wf = true ∧ (Lit.int .i64 y).wf = true := by
  obtain ⟨v0, v1, y0, y1, n, rfl, -, -, t0, t1⟩ := open_agg2 Try.underlying37 (by kernel_rfl) (by kernel_rfl) hv h
  obtain ⟨q, e0, -, hw⟩ := DataW.trod_int Try.underlying3 t0
  obtain ⟨q1, e1, -, hw1⟩ := DataW.trod_int Try.underlying3 t1
  simp at e0 e1
  subst e0
  subst e1
  exact ⟨q, q1, rfl, hw, hw1⟩
end Go.Proofs.Ytcodllammndciaa
