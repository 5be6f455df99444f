/-
  What came in, read as data, is a slice of numbers, or a net, in memory.
-/
import Derived.Test.YthilapalgakhhaaNetAid
import Derived.Deep.Slices
import Derived.Deep.SlicePairs
import Derived.Lib.SmallJoins
import Derived.ProofKit
import Derived.OpenShut
namespace Go.Proofs.Ythilapalgakhhaa
open Go.ChangeShapes Go.WideShapes Go.ChangeAt Go.RowKit Go.Joins Go.Deep
open M

theorem trod_nums {H : Type} {enc : TypeId × Value → H} {W : World} {fuel : Nat} {v : Value} {x : DataW H × List MemPlace}
    (hf : DataW.trod enc Try.prog W 0 (fun _ => true) true fuel 33 [v] = some x) : ∃ n f, IntsOf W v n f ∧ n ≤ maxLen := by
  rcases open_ints Try.underlying33 Try.underlying3 (by kernel_rfl) hf with ⟨hcs, _⟩ | ⟨x, l, c, zs, hcs, _, hl, hm, hz, _, hcell, hwz⟩
  · simp at hcs
    subst hcs
    exact ⟨0, fun _ => 0, ⟨none, 0, rfl, fun h => absurd h (Nat.lt_irrefl _)⟩, Nat.zero_le _⟩
  · simp at hcs
    subst hcs
    have hz' : zs.length = c := by simpa using hz
    refine ⟨l, fun i => zs.getD i 0, ⟨some x, c, rfl, fun hp => ?_⟩, Nat.le_trans hl hm⟩
    obtain ⟨b, off, spot⟩ := x
    have h0 := hcell 0 (by omega)
    have hs := World.cell?_spot h0
    have hspot : spot = none := by simpa [Addr.add] using hs
    subst hspot
    have ha : ∀ n, (⟨b, off, none⟩ : Addr).add n = ⟨b, off + n, none⟩ := fun n => by unfold Addr.add; split <;> simp_all
    rw [ha] at h0
    exact ⟨b, off, rfl, World.block_lt_of_cell? W _ h0, fun i hi => by rw [← ha]; exact hcell i (by omega)⟩

set_option maxRecDepth 100000 in
theorem open_nums {H : Type} {enc : TypeId × Value → H} {W : World} {b0 : Nat} {v : Value} {d : DataW H} {p : List MemPlace}
    (hv : Value.okWide Try.prog W .any b0 33 v) (h : DataW.Trod enc Try.prog W 0 (fun _ => true) true 33 v d p) :
    ∃ n f, IntsOf W v n f ∧ n ≤ maxLen := by
  obtain ⟨a0, len0, cap0, rfl⟩ := okWide_slice Try.underlying33 hv
  obtain ⟨fuel, hf⟩ := h
  exact trod_nums hf

theorem pick_of {Pn : Nat → Sp → Prop} : ∀ n : Nat, (∀ i, i < n → ∃ e : Sp, Pn i e) → ∃ l : Nat → Sp, ∀ i, i < n → Pn i (l i)
  | 0, _ => ⟨fun _ => ⟨0, fun _ => 0, 0, fun _ => 0⟩, fun i h => absurd h (by omega)⟩
  | n + 1, h => by
    obtain ⟨l, hl⟩ := pick_of n (fun i hi => h i (by omega))
    obtain ⟨e, he⟩ := h n (by omega)
    refine ⟨fun i => if i = n then e else l i, fun i hi => ?_⟩
    show Pn i (if i = n then e else l i)
    by_cases hin : i = n
    · subst hin; rw [if_pos rfl]; exact he
    · rw [if_neg hin]; exact hl i (by omega)

set_option maxRecDepth 100000 in
theorem trod_steps {H : Type} {enc : TypeId × Value → H} {W : World} {fuel : Nat} {v : Value} {x : DataW H × List MemPlace}
    (hf : DataW.trod enc Try.prog W 0 (fun _ => true) true fuel 22 [v] = some x) : ∃ k st, StepsOf W v k st ∧ Lens k st := by
  rcases open_slice_pairs Try.underlying22 Try.underlying98 (by kernel_rfl) rfl rfl (by kernel_rfl) (by kernel_rfl) hf with ⟨hcs, _⟩ | ⟨a, len, cap, m, n, V0, V1, D0, D1, P0, P1, hcs, _, hl, hm, hmm, _, hx⟩
  · simp at hcs
    subst hcs
    exact ⟨0, fun _ => ⟨0, fun _ => 0, 0, fun _ => 0⟩, ⟨none, 0, rfl, fun h => absurd h (Nat.lt_irrefl _)⟩, Nat.zero_le _, fun i h => absurd h (by omega)⟩
  · simp at hcs
    subst hcs
    simp only [if_true] at hmm
    subst hmm
    by_cases h0 : len = 0
    · subst h0
      exact ⟨0, fun _ => ⟨0, fun _ => 0, 0, fun _ => 0⟩, ⟨some a, _, rfl, fun h => absurd h (Nat.lt_irrefl _)⟩, Nat.zero_le _, fun i h => absurd h (by omega)⟩
    · obtain ⟨b, off, spot⟩ := a
      have hc0 := (hx 0 (by omega)).1
      have hspot : spot = none := by
        have := World.cell?_spot hc0
        simpa [Addr.add] using this
      subst hspot
      have ha : ∀ n, (⟨b, off, none⟩ : Addr).add n = ⟨b, off + n, none⟩ := fun n => by unfold Addr.add; split <;> simp_all
      have key : ∀ i, i < len → ∃ e : Sp, IntsOf W (V0 i) e.ni e.fi ∧ IntsOf W (V1 i) e.no e.fo ∧ e.ni ≤ maxLen ∧ e.no ≤ maxLen := by
        intro i hi
        obtain ⟨_, _, t0, t1⟩ := hx i (by omega)
        obtain ⟨n0, f0, i0, l0⟩ := trod_nums t0
        obtain ⟨n1, f1, i1, l1⟩ := trod_nums t1
        exact ⟨⟨n0, f0, n1, f1⟩, i0, i1, l0, l1⟩
      obtain ⟨st, hst⟩ := pick_of len key
      rw [ha] at hc0
      refine ⟨len, st, ⟨_, _, rfl, fun _ => ⟨b, off, rfl, World.block_lt_of_cell? W _ hc0, fun i hi => ?_⟩⟩, by omega, fun i hi => ⟨(hst i hi).2.2.1, (hst i hi).2.2.2⟩⟩
      obtain ⟨c0, c1, _, _⟩ := hx i (by omega)
      rw [ha] at c0 c1
      exact ⟨V0 i, V1 i, c0, c1, (hst i hi).1, (hst i hi).2.1⟩

set_option maxRecDepth 100000 in
theorem open_net {H : Type} {enc : TypeId × Value → H} {W : World} {b0 : Nat} {v : Value} {d : DataW H} {p : List MemPlace}
    (hv : Value.okWide Try.prog W .any b0 24 v) (h : DataW.Trod enc Try.prog W 0 (fun _ => true) true 24 v d p) :
    ∃ (q : Int) (u : Value) (k : Nat) (st : Nat → Sp), v = netV q u ∧ (Lit.int .i64 q).wf = true ∧ StepsOf W u k st ∧ Lens k st := by
  obtain ⟨v0, v1, y0, y1, n, rfl, -, -, t0, t1⟩ := open_agg2 Try.underlying24 (by kernel_rfl) (by kernel_rfl) hv h
  obtain ⟨q, e0, -, hw⟩ := DataW.trod_int Try.underlying3 t0
  simp at e0
  subst e0
  obtain ⟨k, st, hs, hl⟩ := trod_steps t1
  exact ⟨q, v1, k, st, rfl, hw, hs, hl⟩
end Go.Proofs.Ythilapalgakhhaa
