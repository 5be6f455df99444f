/-
  Items that came in, read as data.
-/
import Derived.Test.YtbajiamkgffhkaaItA
import Derived.Deep.Slices
import Derived.Deep.SlicePairs
import Derived.Lib.SmallJoins
import Derived.ProofKit
import Derived.OpenShut
namespace Go.Proofs.Ytbajiamkgffhkaa
open Go.ChangeShapes Go.WideShapes Go.ChangeAt Go.RowKit Go.Joins Go.Deep
open M
theorem pick_of {α : Type} (z : α) {Pn : Nat → α → Prop} : ∀ n : Nat, (∀ i, i < n → ∃ e : α, Pn i e) → ∃ l : Nat → α, ∀ i, i < n → Pn i (l i)
  | 0, _ => ⟨fun _ => z, fun i h => absurd h (by omega)⟩
  | n + 1, h => by
    obtain ⟨l, hl⟩ := pick_of z n (fun i hi => h i (by omega))
    obtain ⟨e, he⟩ := h n (by omega)
    refine ⟨fun i => if i = n then e else l i, fun i hi => ?_⟩
    show Pn i (if i = n then e else l i)
    by_cases hin : i = n
    · subst hin; rw [if_pos rfl]; exact he
    · rw [if_neg hin]; exact hl i (by omega)
set_option maxRecDepth 100000 in
theorem trod_items {H : Type} {enc : TypeId × Value → H} {W : World} {fuel : Nat} {v : Value} {x : DataW H × List MemPlace}
    (hf : DataW.trod enc Try.prog W 0 (fun _ => true) true fuel 22 [v] = some x) : ∃ (n : Nat) (l : Nat → Im), ItemsOf W v n l ∧ n ≤ maxLen := by
  rcases open_slice_pairs Try.underlying22 Try.underlying54 (by kernel_rfl) rfl rfl (by kernel_rfl) (by kernel_rfl) hf with ⟨hcs, _⟩ | ⟨a, len, cap, m, n, V0, V1, D0, D1, P0, P1, hcs, _, hl, hm, hmm, _, hx⟩
  · simp at hcs
    subst hcs
    exact ⟨0, fun _ => im0, .nil _ _ _ _, Nat.zero_le _⟩
  · simp at hcs
    subst hcs
    simp only [if_true] at hmm
    subst hmm
    by_cases h0 : len = 0
    · subst h0
      exact ⟨0, fun _ => im0, .nil _ _ _ _, Nat.zero_le _⟩
    · obtain ⟨b, off, spot⟩ := a
      have hc0 := (hx 0 (by omega)).1
      have hspot : spot = none := by
        have := World.cell?_spot hc0
        simpa [Addr.add] using this
      subst hspot
      have ha : ∀ n, (⟨b, off, none⟩ : Addr).add n = ⟨b, off + n, none⟩ := fun n => by unfold Addr.add; split <;> simp_all
      have key : ∀ i, i < len → ∃ e : Im, V0 i = .int .i64 e.u ∧ V1 i = .int .i64 e.v := by
        intro i hi
        obtain ⟨_, _, t0, t1⟩ := hx i (by omega)
        obtain ⟨q, e0, -, hw⟩ := DataW.trod_int Try.underlying3 t0
        obtain ⟨q1, e1, -, hw1⟩ := DataW.trod_int Try.underlying3 t1
        simp at e0 e1
        exact ⟨⟨q, q1⟩, e0, e1⟩
      obtain ⟨ts, hts⟩ := pick_of im0 len key
      rw [ha] at hc0
      refine ⟨len, ts, ⟨_, _, rfl, fun _ => ⟨b, off, rfl, World.block_lt_of_cell? W _ hc0, fun i hi => ?_⟩⟩, by omega⟩
      obtain ⟨c0, c1, _, _⟩ := hx i (by omega)
      rw [ha] at c0 c1
      exact ⟨by rw [c0, (hts i hi).1], by rw [← (hts i hi).2, ← c1]; rfl⟩
set_option maxRecDepth 100000 in
theorem open_items {H : Type} {enc : TypeId × Value → H} {W : World} {b0 : Nat} {v : Value} {d : DataW H} {p : List MemPlace}
    (hv : Value.okWide Try.prog W .any b0 22 v) (h : DataW.Trod enc Try.prog W 0 (fun _ => true) true 22 v d p) :
    ∃ (n : Nat) (l : Nat → Im), ItemsOf W v n l ∧ n ≤ maxLen := by
  obtain ⟨a0, len0, cap0, rfl⟩ := okWide_slice Try.underlying22 hv
  obtain ⟨fuel, hf⟩ := h
  simp only [Value.cells] at hf
  exact trod_items hf
end Go.Proofs.Ytbajiamkgffhkaa
