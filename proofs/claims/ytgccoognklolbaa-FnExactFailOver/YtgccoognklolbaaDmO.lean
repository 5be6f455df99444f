/-
  Domains that came in, read as data.
-/
import Derived.Test.YtgccoognklolbaaDmA
import Derived.Deep.Slices
import Derived.Deep.SlicePairs
import Derived.Lib.SmallJoins
import Derived.ProofKit
import Derived.OpenShut
namespace Go.Proofs.Ytgccoognklolbaa
open Go.ChangeShapes Go.WideShapes Go.ChangeAt Go.RowKit Go.Joins Go.Deep
open M
theorem cellsStrO : Try.prog.cellsOf 9 = 1 := by kernel_rfl
theorem cellsIntO : Try.prog.cellsOf 3 = 1 := by kernel_rfl
theorem cellsLawDomO : Try.prog.cellsOf 57 = 3 := by kernel_rfl
theorem pick_doms {Pn : Nat → Dm → Prop} : ∀ n : Nat, (∀ i, i < n → ∃ e : Dm, Pn i e) → ∃ l : Dms, l.length = n ∧ ∀ i x, l[i]? = some x → Pn i x
  | 0, _ => ⟨[], rfl, fun i x h => by simp at h⟩
  | n + 1, h => by
    obtain ⟨l, hl, hp⟩ := pick_doms n (fun i hi => h i (by omega))
    obtain ⟨e, he⟩ := h n (by omega)
    refine ⟨l ++ [e], by simp [hl], fun i x hi => ?_⟩
    by_cases hin : i < n
    · rw [List.getElem?_append_left (by omega)] at hi; exact hp i x hi
    · rw [List.getElem?_append_right (by omega)] at hi
      have hie : i = n := by
        rcases Nat.eq_zero_or_pos (i - l.length) with h0 | h0
        · omega
        · rw [List.getElem?_eq_none (by simp; omega)] at hi; cases hi
      subst hie
      rw [hl, Nat.sub_self] at hi
      simp at hi
      subst hi
      exact he
set_option maxRecDepth 100000 in
theorem open_doms {H : Type} {enc : TypeId × Value → H} {W : World} {b0 : Nat} {v : Value} {d : DataW H} {p : List MemPlace}
    (hv : Value.okWide Try.prog W .any b0 29 v) (h : DataW.Trod enc Try.prog W 0 (fun _ => true) true 29 v d p) :
    ∃ l : Dms, DomsOf W v l ∧ LenD l := by
  obtain ⟨a0, len0, cap0, rfl⟩ := okWide_slice Try.underlying29 hv
  obtain ⟨fuel, hf⟩ := h
  rcases open_slice Try.underlying29 hf with ⟨hcs, _⟩ | ⟨a, len, cap, m, n, D, Pl, hcs, _, hl, hm, hmm, _, hx⟩
  · simp [Value.cells] at hcs
    obtain ⟨rfl, rfl, rfl⟩ := hcs
    exact ⟨[], .nil _ _ _, Nat.zero_le _, fun e h => by simp at h⟩
  · simp [Value.cells] at hcs
    obtain ⟨rfl, rfl, rfl⟩ := hcs
    simp only [if_true] at hmm
    subst hmm
    by_cases h0 : len0 = 0
    · subst h0
      exact ⟨[], .nil _ _ _, Nat.zero_le _, fun e h => by simp at h⟩
    · obtain ⟨b, off, spot⟩ := a
      have hspot : spot = none := by
        obtain ⟨cs', h1, _⟩ := hx 0 (by omega)
        rw [cellsLawDomO] at h1
        obtain ⟨_, hlen, hcell⟩ := World.cells?_some h1
        have q := hcell 0 (by omega)
        have hs : ∃ c, W.cell? (((⟨b, off, spot⟩ : Addr).add (0 * 3)).add 0) = some c := by
          rw [q]
          match cs', hlen with
          | [c0, c1, c2], _ => exact ⟨c0, rfl⟩
        obtain ⟨c, hc⟩ := hs
        have := World.cell?_spot hc
        simpa [Addr.add] using this
      subst hspot
      have ha : ∀ n, (⟨b, off, none⟩ : Addr).add n = ⟨b, off + n, none⟩ := fun n => by unfold Addr.add; split <;> simp_all
      have ha2 : ∀ k n, (⟨b, k, none⟩ : Addr).add n = ⟨b, k + n, none⟩ := fun k n => by unfold Addr.add; split <;> simp_all
      have key : ∀ i, i < len0 → ∃ e : Dm, D3 W b (off + i * 3) e ∧ e.nm.size ≤ maxLen ∧ e.nt.size ≤ maxLen := by
        intro i hi
        obtain ⟨cs', h1, h2⟩ := hx i (by omega)
        rw [cellsLawDomO] at h1
        obtain ⟨_, hlen, hcell⟩ := World.cells?_some h1
        match cs', hlen with
        | [c0, c1, c2], _ =>
          obtain ⟨xs, k, hk, hxy, _, hxl, hg⟩ := DataW.trod_struct Try.underlying57 h2
          match xs, hxl with
          | [y0, y1, y2], _ =>
            have g0 := hg 0 _ rfl
            have g1 := hg 1 _ rfl
            have g2 := hg 2 _ rfl
            simp [cellsIntO, cellsStrO] at g0 g1 g2
            obtain ⟨x0, e0, -, hn0⟩ := DataW.trod_string Try.underlying9 g0
            obtain ⟨x1, e1, -, -⟩ := DataW.trod_int Try.underlying3 g1
            obtain ⟨x2, e2, -, hn2⟩ := DataW.trod_string Try.underlying9 g2
            simp at e0 e1 e2
            have q0 := hcell 0 (by omega)
            have q1 := hcell 1 (by omega)
            have q2 := hcell 2 (by omega)
            simp only [List.getElem?_cons_zero, List.getElem?_cons_succ] at q0 q1 q2
            rw [ha, ha2] at q0 q1 q2
            subst e0 e1 e2
            exact ⟨⟨x0, x1, x2⟩, ⟨q0, q1, q2⟩, hn0, hn2⟩
      obtain ⟨l, hll, hp⟩ := pick_doms len0 key
      subst hll
      have hlt : b < W.heap.size := by
        obtain ⟨e, he, _⟩ := key 0 (by omega)
        exact World.block_lt_of_cell? W _ he.1
      refine ⟨l, ⟨_, _, rfl, fun _ => ⟨b, off, rfl, hlt, fun i x hi => (hp i x hi).1⟩⟩, by omega, fun x hx => ?_⟩
      obtain ⟨i, hi, rfl⟩ := List.mem_iff_getElem.1 hx
      exact (hp i _ (List.getElem?_eq_getElem hi)).2
end Go.Proofs.Ytgccoognklolbaa
