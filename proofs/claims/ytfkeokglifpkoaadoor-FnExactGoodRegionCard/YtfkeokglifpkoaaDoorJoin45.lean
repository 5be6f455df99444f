/-
  Texts that follow one another, joined: BrO, RgO.
-/
import Derived.Test.YtfkeokglifpkoaaDoorJoin14
import Derived.Test.YtfkeokglifpkoaaDoorJoin44
import Derived.Deep.Slices
import Derived.Deep.SlicePairs
import Derived.Lib.SmallJoins
import Derived.ProofKit
import Derived.OpenShut
import Derived.Test.YtfkeokglifpkoaaDoorJoin17
/-
  Tellings that came in, read as data, are branches in memory.
-/
namespace Go.Proofs.YtfkeokglifpkoaaDoor
open Go.ChangeShapes Go.WideShapes Go.ChangeAt Go.RowKit Go.Joins Go.Deep
open M
theorem cellsLawEvsO : Tryd.prog.cellsOf 60 = 1 := by kernel_rfl
theorem cellsLawBrO : Tryd.prog.cellsOf 62 = 1 := by kernel_rfl
theorem cellsLawBrsO : Tryd.prog.cellsOf 22 = 1 := by kernel_rfl
theorem cellsLawTellO : Tryd.prog.cellsOf 24 = 1 := by kernel_rfl
theorem pick_list {α : Type} {Pn : Nat → α → Prop} : ∀ n : Nat, (∀ i, i < n → ∃ e : α, Pn i e) → ∃ l : List α, l.length = n ∧ ∀ i x, l[i]? = some x → Pn i x
  | 0, _ => ⟨[], rfl, fun i x h => by simp at h⟩
  | n + 1, h => by
    obtain ⟨l, hl, hp⟩ := pick_list n (fun i hi => h i (by omega))
    obtain ⟨e, he⟩ := h n (by omega)
    refine ⟨l ++ [e], by simp [hl], fun i x hi => ?_⟩
    by_cases hin : i < n
    · rw [List.getElem?_append_left (by omega)] at hi; exact hp i x hi
    · rw [List.getElem?_append_right (by omega)] at hi
      have hie : i = n := by
        rcases Nat.eq_zero_or_pos (i - l.length) with h0 | h0
        · omega
        · rw [List.getElem?_eq_none (by simp; omega)] at hi; cases hi
      subst hie
      rw [hl, Nat.sub_self] at hi
      simp at hi
      subst hi
      exact he
set_option maxRecDepth 100000 in
theorem trod_evs {H : Type} {enc : TypeId × Value → H} {W : World} {fuel : Nat} {v : Value} {x : DataW H × List MemPlace}
    (hf : DataW.trod enc Tryd.prog W 0 (fun _ => true) true fuel 60 [v] = some x) :
    ∃ es : List Ev, SliceOf W v es ∧ es.length ≤ maxLen ∧ ∀ e ∈ es, e.name.size ≤ maxLen := by
  rcases open_slice Tryd.underlying60 hf with ⟨hcs, _⟩ | ⟨a, len, cap, m, n, D, Pl, hcs, _, hl, hm, hmm, _, hx⟩
  · simp at hcs
    subst hcs
    exact ⟨[], ⟨none, 0, rfl, fun h => absurd rfl h⟩, Nat.zero_le _, fun e h => by simp at h⟩
  · simp at hcs
    subst hcs
    simp only [if_true] at hmm
    subst hmm
    by_cases h0 : len = 0
    · subst h0
      exact ⟨[], ⟨some a, _, rfl, fun h => absurd rfl h⟩, Nat.zero_le _, fun e h => by simp at h⟩
    · obtain ⟨b, off, spot⟩ := a
      have hspot : spot = none := by
        obtain ⟨cs', h1, _⟩ := hx 0 (by omega)
        rw [cellsLawEv] at h1
        obtain ⟨_, hlen, hcell⟩ := World.cells?_some h1
        have q := hcell 0 (by omega)
        have hs : ∃ c, W.cell? (((⟨b, off, spot⟩ : Addr).add (0 * 4)).add 0) = some c := by
          rw [q]
          match cs', hlen with
          | [c0, c1, c2, c3], _ => exact ⟨c0, rfl⟩
        obtain ⟨c, hc⟩ := hs
        have := World.cell?_spot hc
        simpa [Addr.add] using this
      subst hspot
      have ha : ∀ n, (⟨b, off, none⟩ : Addr).add n = ⟨b, off + n, none⟩ := fun n => by unfold Addr.add; split <;> simp_all
      have ha2 : ∀ k n, (⟨b, k, none⟩ : Addr).add n = ⟨b, k + n, none⟩ := fun k n => by unfold Addr.add; split <;> simp_all
      have key : ∀ i, i < len → ∃ e : Ev, EvAt W b (off + i * 4) e ∧ e.name.size ≤ maxLen := by
        intro i hi
        obtain ⟨cs', h1, h2⟩ := hx i (by omega)
        rw [cellsLawEv] at h1
        obtain ⟨_, hlen, hcell⟩ := World.cells?_some h1
        match cs', hlen with
        | [c0, c1, c2, c3], _ =>
          obtain ⟨y0, y1, y2, y3, k, _, _, t0, t1, t2, t3⟩ := trod_struct4 Tryd.underlying85 h2
          simp only [cellsInt, cellsStr] at t0 t1 t2 t3
          obtain ⟨id, e0, -, -⟩ := DataW.trod_int Tryd.underlying3 t0
          obtain ⟨ver, e1, -, -⟩ := DataW.trod_int Tryd.underlying3 t1
          obtain ⟨kind, e2, -, -⟩ := DataW.trod_int Tryd.underlying3 t2
          obtain ⟨name, e3, -, hn⟩ := DataW.trod_string Tryd.underlying9 t3
          simp at e0 e1 e2 e3
          have q0 := hcell 0 (by omega)
          have q1 := hcell 1 (by omega)
          have q2 := hcell 2 (by omega)
          have q3 := hcell 3 (by omega)
          simp only [List.getElem?_cons_zero, List.getElem?_cons_succ] at q0 q1 q2 q3
          rw [ha, ha2] at q0 q1 q2 q3
          subst e0 e1 e2 e3
          exact ⟨⟨id, ver, kind, name⟩, ⟨q0, q1, q2, q3⟩, hn⟩
      obtain ⟨es, hel, hrow, hp⟩ := rows_of len key
      subst hel
      have hlt : b < W.heap.size := by
        obtain ⟨e, he, _⟩ := key 0 (by omega)
        exact World.block_lt_of_cell? W _ he.1
      exact ⟨es, ⟨_, _, rfl, fun _ => ⟨b, off, rfl, hlt, hrow⟩⟩, by omega, hp⟩
set_option maxRecDepth 100000 in
theorem trod_brs {H : Type} {enc : TypeId × Value → H} {W : World} {fuel : Nat} {v : Value} {x : DataW H × List MemPlace}
    (hf : DataW.trod enc Tryd.prog W 0 (fun _ => true) true fuel 22 [v] = some x) : ∃ bs : Brs, BrsOf W v bs ∧ Fine bs := by
  rcases open_slice1 Tryd.underlying22 cellsLawBrO hf with ⟨hcs, _⟩ | ⟨a, len, cap, m, n, V, D, P0, hcs, _, hl, hm, hmm, _, hx⟩
  · simp at hcs
    subst hcs
    exact ⟨[], ⟨none, 0, rfl, fun h => absurd h (Nat.lt_irrefl _)⟩, Nat.zero_le _, fun b h => by cases h⟩
  · simp at hcs
    subst hcs
    simp only [if_true] at hmm
    subst hmm
    by_cases h0 : len = 0
    · subst h0
      exact ⟨[], ⟨some a, _, rfl, fun h => absurd h (Nat.lt_irrefl _)⟩, Nat.zero_le _, fun b h => by cases h⟩
    · obtain ⟨b, off, spot⟩ := a
      have hc0 := (hx 0 (by omega)).1
      have hspot : spot = none := by
        have := World.cell?_spot hc0
        simpa [Addr.add] using this
      subst hspot
      have ha : ∀ n, (⟨b, off, none⟩ : Addr).add n = ⟨b, off + n, none⟩ := fun n => by unfold Addr.add; split <;> simp_all
      obtain ⟨bs, hbl, hbs⟩ := pick_list (α := Evs) len (Pn := fun i es => SliceOf W (V i) es ∧ es.length ≤ maxLen ∧ ∀ e ∈ es, e.name.size ≤ maxLen) (fun i hi => by
        obtain ⟨y0, k, _, _, t0⟩ := trod_struct1 Tryd.underlying62 (hx i (by omega)).2
        simp [cellsLawEvsO] at t0
        exact trod_evs t0)
      rw [ha] at hc0
      subst hbl
      refine ⟨bs, ⟨_, _, rfl, fun _ => ⟨b, off, rfl, World.block_lt_of_cell? W _ hc0, fun i es hi => ?_⟩⟩, by omega, fun es hes => ?_⟩
      · have c0 := (hx i (by have := (List.getElem?_eq_some_iff.1 hi).1; omega)).1
        rw [ha] at c0
        exact ⟨V i, c0, (hbs i es hi).1⟩
      · obtain ⟨i, hi, rfl⟩ := List.mem_iff_getElem.1 hes
        exact (hbs i _ (List.getElem?_eq_getElem hi)).2
set_option maxRecDepth 100000 in
theorem open_tell {H : Type} {enc : TypeId × Value → H} {W : World} {b0 : Nat} {v : Value} {d : DataW H} {p : List MemPlace}
    (hv : Value.okWide Tryd.prog W .any b0 24 v) (h : DataW.Trod enc Tryd.prog W 0 (fun _ => true) true 24 v d p) :
    ∃ (u : Value) (bs : Brs), v = .agg #[u] ∧ BrsOf W u bs ∧ Fine bs := by
  obtain ⟨cs, rfl, hsz⟩ := okWide_struct Tryd.underlying24 hv
  obtain ⟨c0, rfl⟩ : ∃ c0, cs = #[c0] := by
    obtain ⟨l⟩ := cs
    match l, hsz.trans cellsLawTellO with
    | [a], _ => exact ⟨a, rfl⟩
  obtain ⟨fuel, hf⟩ := h
  obtain ⟨y0, k, _, _, t0⟩ := trod_struct1 Tryd.underlying24 hf
  simp [Value.cells, cellsLawBrsO] at t0
  obtain ⟨bs, h1, h2⟩ := trod_brs t0
  exact ⟨c0, bs, rfl, h1, h2⟩
end Go.Proofs.YtfkeokglifpkoaaDoor

/-
  A region and a word that came in, read as data.
-/
namespace Go.Proofs.YtfkeokglifpkoaaDoor
open Go.ChangeShapes Go.WideShapes Go.ChangeAt Go.RowKit Go.Joins Go.Deep
open M
theorem cellsLawRegionO : Tryd.prog.cellsOf 26 = 3 := by kernel_rfl
theorem cellsIntR : Tryd.prog.cellsOf 3 = 1 := by kernel_rfl
set_option maxRecDepth 100000 in
theorem open_region {H : Type} {enc : TypeId × Value → H} {W : World} {b0 : Nat} {v : Value} {d : DataW H} {p : List MemPlace}
    (hv : Value.okWide Tryd.prog W .any b0 26 v) (h : DataW.Trod enc Tryd.prog W 0 (fun _ => true) true 26 v d p) :
    ∃ (id ver : Int) (u : Value) (bs : Brs), v = rv id ver u ∧ BrsOf W u bs ∧ Fine bs := by
  obtain ⟨cs, rfl, hsz⟩ := okWide_struct Tryd.underlying26 hv
  obtain ⟨c0, c1, c2, rfl⟩ : ∃ c0 c1 c2, cs = #[c0, c1, c2] := by
    obtain ⟨l⟩ := cs
    match l, hsz.trans cellsLawRegionO with
    | [a, b, c], _ => exact ⟨a, b, c, rfl⟩
  obtain ⟨fuel, hf⟩ := h
  obtain ⟨xs, k, hk, hxy, _, hxl, hf⟩ := DataW.trod_struct Tryd.underlying26 hf
  match xs, hxl with
  | [y0, y1, y2], _ =>
    have g0 := hf 0 _ rfl
    have g1 := hf 1 _ rfl
    have g2 := hf 2 _ rfl
    simp [Value.cells, cellsIntR, cellsLawTellO] at g0 g1 g2
    obtain ⟨x0, e0, -, -⟩ := DataW.trod_int Tryd.underlying3 g0
    obtain ⟨x1, e1, -, -⟩ := DataW.trod_int Tryd.underlying3 g1
    simp at e0 e1
    subst e0; subst e1
    obtain ⟨z0, m, _, _, t0⟩ := trod_struct1 Tryd.underlying24 g2
    simp [cellsLawBrsO] at t0
    obtain ⟨bs, h1, h2⟩ := trod_brs t0
    exact ⟨x0, x1, c2, bs, rfl, h1, h2⟩
end Go.Proofs.YtfkeokglifpkoaaDoor
