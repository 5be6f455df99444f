/-
  What came in, read as data, is a slice of numbers, or of acts, in memory.
-/
import Derived.Test.YtlbcmlleoncddaaMem
import Derived.Deep.Slices
import Derived.Lib.SmallJoins
import Derived.ProofKit
import Derived.OpenShut
namespace Go.Proofs.Ytlbcmlleoncddaa
open Go.ChangeShapes Go.WideShapes Go.ChangeAt Go.RowKit Go.Joins Go.Deep
open M

theorem cellsLawAct : Try.prog.cellsOf 64 = 2 := by kernel_rfl
theorem cellsInt : Try.prog.cellsOf 3 = 1 := by kernel_rfl

theorem open_nums {H : Type} {enc : TypeId × Value → H} {W : World} {b0 : Nat} {v : Value} {d : DataW H} {p : List MemPlace}
    (hv : Value.okWide Try.prog W .any b0 29 v) (h : DataW.Trod enc Try.prog W 0 (fun _ => true) true 29 v d p) :
    ∃ n f, IntsOf W v n f ∧ n ≤ maxLen := by
  obtain ⟨a0, len0, cap0, rfl⟩ := okWide_slice Try.underlying29 hv
  obtain ⟨fuel, hf⟩ := h
  rcases open_ints Try.underlying29 Try.underlying3 (by kernel_rfl) hf with ⟨hcs, _⟩ | ⟨x, l, c, zs, hcs, _, hl, hm, hz, _, hcell, hwz⟩
  · simp [Value.cells] at hcs
    obtain ⟨rfl, rfl, rfl⟩ := hcs
    exact ⟨0, fun _ => 0, ⟨none, 0, rfl, fun h => absurd h (Nat.lt_irrefl _)⟩, Nat.zero_le _⟩
  · simp [Value.cells] at hcs
    obtain ⟨rfl, rfl, rfl⟩ := hcs
    have hz' : zs.length = cap0 := by simpa using hz
    refine ⟨len0, fun i => zs.getD i 0, ⟨some x, cap0, rfl, fun hp => ?_⟩, Nat.le_trans hl hm⟩
    obtain ⟨b, off, spot⟩ := x
    have h0 := hcell 0 (by omega)
    have hs := World.cell?_spot h0
    have hspot : spot = none := by simpa [Addr.add] using hs
    subst hspot
    have ha : ∀ n, (⟨b, off, none⟩ : Addr).add n = ⟨b, off + n, none⟩ := fun n => by unfold Addr.add; split <;> simp_all
    rw [ha] at h0
    exact ⟨b, off, rfl, World.block_lt_of_cell? W _ h0, fun i hi => by rw [← ha]; exact hcell i (by omega)⟩

theorem pick_of {Pn : Nat → Ac → Prop} : ∀ n : Nat, (∀ i, i < n → ∃ e : Ac, Pn i e) → ∃ l : Nat → Ac, ∀ i, i < n → Pn i (l i)
  | 0, _ => ⟨fun _ => ⟨0, 0⟩, fun i h => absurd h (by omega)⟩
  | n + 1, h => by
    obtain ⟨l, hl⟩ := pick_of n (fun i hi => h i (by omega))
    obtain ⟨e, he⟩ := h n (by omega)
    refine ⟨fun i => if i = n then e else l i, fun i hi => ?_⟩
    show Pn i (if i = n then e else l i)
    by_cases hin : i = n
    · subst hin; rw [if_pos rfl]; exact he
    · rw [if_neg hin]; exact hl i (by omega)

set_option maxRecDepth 100000 in
theorem open_acts {H : Type} {enc : TypeId × Value → H} {W : World} {b0 : Nat} {v : Value} {d : DataW H} {p : List MemPlace}
    (hv : Value.okWide Try.prog W .any b0 22 v) (h : DataW.Trod enc Try.prog W 0 (fun _ => true) true 22 v d p) :
    ∃ n l, ActsOf W v n l ∧ n ≤ maxLen := by
  obtain ⟨a0, len0, cap0, rfl⟩ := okWide_slice Try.underlying22 hv
  obtain ⟨fuel, hf⟩ := h
  rcases open_slice Try.underlying22 hf with ⟨hcs, _⟩ | ⟨a, len, cap, m, n, D, Pl, hcs, _, hl, hm, hmm, _, hx⟩
  · simp [Value.cells] at hcs
    obtain ⟨rfl, rfl, rfl⟩ := hcs
    exact ⟨0, fun _ => ⟨0, 0⟩, ⟨none, 0, rfl, fun h => absurd h (Nat.lt_irrefl _)⟩, Nat.zero_le _⟩
  · simp [Value.cells] at hcs
    obtain ⟨rfl, rfl, rfl⟩ := hcs
    simp only [if_true] at hmm
    subst hmm
    by_cases h0 : len0 = 0
    · subst h0
      exact ⟨0, fun _ => ⟨0, 0⟩, ⟨some a, _, rfl, fun h => absurd h (Nat.lt_irrefl _)⟩, Nat.zero_le _⟩
    · obtain ⟨b, off, spot⟩ := a
      have hspot : spot = none := by
        obtain ⟨cs', h1, _⟩ := hx 0 (by omega)
        rw [cellsLawAct] at h1
        obtain ⟨_, hlen, hcell⟩ := World.cells?_some h1
        have q := hcell 0 (by omega)
        have hs : ∃ c, W.cell? (((⟨b, off, spot⟩ : Addr).add (0 * 2)).add 0) = some c := by
          rw [q]
          match cs', hlen with
          | [c0, c1], _ => exact ⟨c0, rfl⟩
        obtain ⟨c, hc⟩ := hs
        have := World.cell?_spot hc
        simpa [Addr.add] using this
      subst hspot
      have ha : ∀ n, (⟨b, off, none⟩ : Addr).add n = ⟨b, off + n, none⟩ := fun n => by unfold Addr.add; split <;> simp_all
      have ha2 : ∀ k n, (⟨b, k, none⟩ : Addr).add n = ⟨b, k + n, none⟩ := fun k n => by unfold Addr.add; split <;> simp_all
      have key : ∀ i, i < len0 → ∃ e : Ac, W.cell? ⟨b, off + i * 2, none⟩ = some (.int .i64 e.proc) ∧ W.cell? ⟨b, off + i * 2 + 1, none⟩ = some (.int .i64 e.frm) := by
        intro i hi
        obtain ⟨cs', h1, h2⟩ := hx i (by omega)
        rw [cellsLawAct] at h1
        obtain ⟨_, hlen, hcell⟩ := World.cells?_some h1
        match cs', hlen with
        | [c0, c1], _ =>
          obtain ⟨y0, y1, k, _, _, t0, t1⟩ := trod_struct2 Try.underlying64 h2
          simp only [cellsInt] at t0 t1
          obtain ⟨x0, e0, -, -⟩ := DataW.trod_int Try.underlying3 t0
          obtain ⟨x1, e1, -, -⟩ := DataW.trod_int Try.underlying3 t1
          simp at e0 e1
          have q0 := hcell 0 (by omega)
          have q1 := hcell 1 (by omega)
          simp only [List.getElem?_cons_zero, List.getElem?_cons_succ] at q0 q1
          rw [ha, ha2] at q0 q1
          subst e0 e1
          exact ⟨⟨x0, x1⟩, q0, q1⟩
      obtain ⟨l, hl2⟩ := pick_of len0 key
      refine ⟨len0, l, ⟨_, _, rfl, fun _ => ⟨b, off, rfl, ?_, hl2⟩⟩, by omega⟩
      exact World.block_lt_of_cell? W _ (hl2 0 (by omega)).1
end Go.Proofs.Ytlbcmlleoncddaa
