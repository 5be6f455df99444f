/-
  A slice of the law's events that came in, read as data, is a slice of events in memory.
-/
import Derived.Test.YtjgopjnkkhkcnaaGreatDoorRows4
import Derived.Deep.Slices
import Derived.Lib.SmallJoins
import Derived.ProofKit
namespace Go.Proofs.YtjgopjnkkhkcnaaGreatDoor
open Go.ChangeShapes Go.WideShapes Go.ChangeAt Go.RowKit Go.Joins Go.Deep
open M

theorem cellsLawEv : Tryz.prog.cellsOf 310 = 4 := by kernel_rfl
theorem cellsInt : Tryz.prog.cellsOf 3 = 1 := by kernel_rfl
theorem cellsStr : Tryz.prog.cellsOf 9 = 1 := by kernel_rfl

theorem rows_of {W : World} {b off : Nat} {Pn : Ev → Prop} : ∀ n : Nat, (∀ i, i < n → ∃ e : Ev, EvAt W b (off + i * 4) e ∧ Pn e) → ∃ es : List Ev, es.length = n ∧ Row W b off es ∧ ∀ e ∈ es, Pn e
  | 0, _ => ⟨[], rfl, fun i e h => by simp at h, fun e h => by simp at h⟩
  | n + 1, h => by
    obtain ⟨es, hl, hr, hp⟩ := rows_of n (fun i hi => h i (by omega))
    obtain ⟨e, he, hpe⟩ := h n (by omega)
    refine ⟨es ++ [e], by simp [hl], ?_, ?_⟩
    · intro i x hi
      by_cases hin : i < n
      · exact hr i x (by rw [List.getElem?_append_left (by omega)] at hi; exact hi)
      · rw [List.getElem?_append_right (by omega)] at hi
        have : i = n := by
          rcases Nat.eq_zero_or_pos (i - es.length) with h0 | h0
          · omega
          · rw [List.getElem?_eq_none (by simp; omega)] at hi; cases hi
        subst this
        rw [hl, Nat.sub_self] at hi
        simp at hi
        subst hi
        exact he
    · intro x hx
      rcases List.mem_append.1 hx with hx | hx
      · exact hp x hx
      · simp at hx; subst hx; exact hpe

set_option maxRecDepth 100000 in
theorem open_evs {H : Type} {enc : TypeId × Value → H} {W : World} {b0 : Nat} {v : Value} {d : DataW H} {p : List MemPlace}
    (hv : Value.okWide Tryz.prog W .any b0 204 v) (h : DataW.Trod enc Tryz.prog W 0 (fun _ => true) true 204 v d p) :
    ∃ es : List Ev, SliceOf W v es ∧ es.length ≤ maxLen ∧ ∀ e ∈ es, e.name.size ≤ maxLen := by
  obtain ⟨a0, len0, cap0, rfl⟩ := okWide_slice Tryz.underlying204 hv
  obtain ⟨fuel, hf⟩ := h
  rcases open_slice Tryz.underlying204 hf with ⟨hcs, _⟩ | ⟨a, len, cap, m, n, D, Pl, hcs, _, hl, hm, hmm, _, hx⟩
  · simp [Value.cells] at hcs
    obtain ⟨rfl, rfl, rfl⟩ := hcs
    exact ⟨[], ⟨none, 0, rfl, fun h => absurd rfl h⟩, Nat.zero_le _, fun e h => by simp at h⟩
  · simp [Value.cells] at hcs
    obtain ⟨rfl, rfl, rfl⟩ := hcs
    simp only [if_true] at hmm
    subst hmm
    by_cases h0 : len0 = 0
    · subst h0
      exact ⟨[], ⟨some a, _, rfl, fun h => absurd rfl h⟩, Nat.zero_le _, fun e h => by simp at h⟩
    · obtain ⟨b, off, spot⟩ := a
      have hspot : spot = none := by
        obtain ⟨cs', h1, _⟩ := hx 0 (by omega)
        rw [cellsLawEv] at h1
        obtain ⟨_, hlen, hcell⟩ := World.cells?_some h1
        have q := hcell 0 (by omega)
        have hs : ∃ c, W.cell? (((⟨b, off, spot⟩ : Addr).add (0 * 4)).add 0) = some c := by
          rw [q]
          match cs', hlen with
          | [c0, c1, c2, c3], _ => exact ⟨c0, rfl⟩
        obtain ⟨c, hc⟩ := hs
        have := World.cell?_spot hc
        simpa [Addr.add] using this
      subst hspot
      have ha : ∀ n, (⟨b, off, none⟩ : Addr).add n = ⟨b, off + n, none⟩ := fun n => by unfold Addr.add; split <;> simp_all
      have ha2 : ∀ k n, (⟨b, k, none⟩ : Addr).add n = ⟨b, k + n, none⟩ := fun k n => by unfold Addr.add; split <;> simp_all
      have key : ∀ i, i < len0 → ∃ e : Ev, EvAt W b (off + i * 4) e ∧ e.name.size ≤ maxLen := by
        intro i hi
        obtain ⟨cs', h1, h2⟩ := hx i (by omega)
        rw [cellsLawEv] at h1
        obtain ⟨_, hlen, hcell⟩ := World.cells?_some h1
        match cs', hlen with
        | [c0, c1, c2, c3], _ =>
          obtain ⟨y0, y1, y2, y3, k, _, _, t0, t1, t2, t3⟩ := trod_struct4 Tryz.underlying310 h2
          simp only [cellsInt, cellsStr] at t0 t1 t2 t3
          obtain ⟨id, e0, -, -⟩ := DataW.trod_int Tryz.underlying3 t0
          obtain ⟨ver, e1, -, -⟩ := DataW.trod_int Tryz.underlying3 t1
          obtain ⟨kind, e2, -, -⟩ := DataW.trod_int Tryz.underlying3 t2
          obtain ⟨name, e3, -, hn⟩ := DataW.trod_string Tryz.underlying9 t3
          simp at e0 e1 e2 e3
          have q0 := hcell 0 (by omega)
          have q1 := hcell 1 (by omega)
          have q2 := hcell 2 (by omega)
          have q3 := hcell 3 (by omega)
          simp only [List.getElem?_cons_zero, List.getElem?_cons_succ] at q0 q1 q2 q3
          rw [ha, ha2] at q0 q1 q2 q3
          subst e0 e1 e2 e3
          exact ⟨⟨id, ver, kind, name⟩, ⟨q0, q1, q2, q3⟩, hn⟩
      obtain ⟨es, hel, hrow, hp⟩ := rows_of len0 key
      subst hel
      have hlt : b < W.heap.size := by
        obtain ⟨e, he, _⟩ := key 0 (by omega)
        exact World.block_lt_of_cell? W _ he.1
      exact ⟨es, ⟨_, _, rfl, fun _ => ⟨b, off, rfl, hlt, hrow⟩⟩, by omega, hp⟩
end Go.Proofs.YtjgopjnkkhkcnaaGreatDoor
