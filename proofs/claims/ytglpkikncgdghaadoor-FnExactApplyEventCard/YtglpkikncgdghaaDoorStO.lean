/-
  A state that came in, read as data.
-/
import Derived.Test.YtglpkikncgdghaaDoorStA
import Derived.Deep.Slices
import Derived.Deep.SlicePairs
import Derived.Lib.SmallJoins
import Derived.ProofKit
import Derived.OpenShut
namespace Go.Proofs.YtglpkikncgdghaaDoor
open Go.ChangeShapes Go.WideShapes Go.ChangeAt Go.RowKit Go.Joins Go.Deep
open M
theorem cellsStrO : Tryd.prog.cellsOf 9 = 1 := by kernel_rfl
theorem cellsIntO : Tryd.prog.cellsOf 3 = 1 := by kernel_rfl
theorem cellsBoolO : Tryd.prog.cellsOf 4 = 1 := by kernel_rfl
theorem cellsStrsO : Tryd.prog.cellsOf 22 = 1 := by kernel_rfl
theorem cellsLawStateO : Tryd.prog.cellsOf 24 = 6 := by kernel_rfl
theorem array6 {cs : Array Value} (h : cs.size = 6) : ∃ a b c d e f, cs = #[a, b, c, d, e, f] := by
  obtain ⟨l⟩ := cs
  match l, h with
  | [a, b, c, d, e, f], _ => exact ⟨a, b, c, d, e, f, rfl⟩
theorem pick_txs {Pn : Nat → ByteArray → Prop} : ∀ n : Nat, (∀ i, i < n → ∃ e : ByteArray, Pn i e) → ∃ l : Txs, l.length = n ∧ ∀ i x, l[i]? = some x → Pn i x
  | 0, _ => ⟨[], rfl, fun i x h => by simp at h⟩
  | n + 1, h => by
    obtain ⟨l, hl, hp⟩ := pick_txs n (fun i hi => h i (by omega))
    obtain ⟨e, he⟩ := h n (by omega)
    refine ⟨l ++ [e], by simp [hl], fun i x hi => ?_⟩
    by_cases hin : i < n
    · rw [List.getElem?_append_left (by omega)] at hi; exact hp i x hi
    · rw [List.getElem?_append_right (by omega)] at hi
      have hie : i = n := by
        rcases Nat.eq_zero_or_pos (i - l.length) with h0 | h0
        · omega
        · rw [List.getElem?_eq_none (by simp; omega)] at hi; cases hi
      subst hie
      rw [hl, Nat.sub_self] at hi
      simp at hi
      subst hi
      exact he
set_option maxRecDepth 100000 in
theorem trod_txs {H : Type} {enc : TypeId × Value → H} {W : World} {fuel : Nat} {v : Value} {x : DataW H × List MemPlace}
    (hf : DataW.trod enc Tryd.prog W 0 (fun _ => true) true fuel 22 [v] = some x) : ∃ l : Txs, TxsOf W v l ∧ l.length ≤ maxLen ∧ ∀ x ∈ l, x.size ≤ maxLen := by
  rcases open_slice Tryd.underlying22 hf with ⟨hcs, _⟩ | ⟨a, len, cap, m, n, D, Pl, hcs, _, hl, hm, hmm, _, hx⟩
  · simp at hcs
    subst hcs
    exact ⟨[], ⟨none, 0, rfl, fun h => absurd h (Nat.lt_irrefl _)⟩, Nat.zero_le _, fun x h => by cases h⟩
  · simp at hcs
    subst hcs
    simp only [if_true] at hmm
    subst hmm
    have key : ∀ i, i < len → ∃ e : ByteArray, W.cell? (a.add i) = some (.string e) ∧ e.size ≤ maxLen := by
      intro i hi
      obtain ⟨cs', h1, h2⟩ := hx i (by omega)
      rw [cellsStrO] at h1
      obtain ⟨_, hlen, hcell⟩ := World.cells?_some h1
      match cs', hlen with
      | [c0], _ =>
        obtain ⟨name, e3, -, hn⟩ := DataW.trod_string Tryd.underlying9 h2
        have q0 := hcell 0 (by omega)
        rw [add_add] at q0
        simp at e3
        subst e3
        exact ⟨name, by simpa using q0, hn⟩
    obtain ⟨l, hll, hp⟩ := pick_txs len key
    subst hll
    refine ⟨l, ⟨some a, _, rfl, fun hp0 => ?_⟩, by omega, fun x hx => ?_⟩
    · obtain ⟨b, off, spot⟩ := a
      obtain ⟨e, he, _⟩ := key 0 hp0
      have hs := World.cell?_spot he
      have hspot : spot = none := by simpa [Addr.add] using hs
      subst hspot
      have ha : ∀ n, (⟨b, off, none⟩ : Addr).add n = ⟨b, off + n, none⟩ := fun n => by unfold Addr.add; split <;> simp_all
      rw [ha] at he
      exact ⟨b, off, rfl, World.block_lt_of_cell? W _ he, fun i x hi => by rw [← ha]; exact (hp i x hi).1⟩
    · obtain ⟨i, hi, rfl⟩ := List.mem_iff_getElem.1 hx
      exact (hp i _ (List.getElem?_eq_getElem hi)).2
set_option maxRecDepth 100000 in
theorem open_state {H : Type} {enc : TypeId × Value → H} {W : World} {b0 : Nat} {v : Value} {d : DataW H} {p : List MemPlace}
    (hv : Value.okWide Tryd.prog W .any b0 24 v) (h : DataW.Trod enc Tryd.prog W 0 (fun _ => true) true 24 v d p) :
    ∃ (v0 v1 : Value) (s : St), v = stv v0 v1 s ∧ StQ W v0 v1 s ∧ LensT s := by
  obtain ⟨cs, rfl, hsz⟩ := okWide_struct Tryd.underlying24 hv
  obtain ⟨c0, c1, c2, c3, c4, c5, rfl⟩ := array6 (hsz.trans cellsLawStateO)
  obtain ⟨fuel, hf⟩ := h
  obtain ⟨xs, k, hk, hxy, _, hxl, hf⟩ := DataW.trod_struct Tryd.underlying24 hf
  match xs, hxl with
  | [y0, y1, y2, y3, y4, y5], _ =>
    have g0 := hf 0 _ rfl
    have g1 := hf 1 _ rfl
    have g2 := hf 2 _ rfl
    have g3 := hf 3 _ rfl
    have g4 := hf 4 _ rfl
    have g5 := hf 5 _ rfl
    simp [Value.cells, cellsIntO, cellsBoolO, cellsStrsO] at g0 g1 g2 g3 g4 g5
    obtain ⟨x0, e0, -, -⟩ := DataW.trod_int Tryd.underlying3 g0
    obtain ⟨x1, e1, -, -⟩ := DataW.trod_int Tryd.underlying3 g1
    obtain ⟨x2, e2, -⟩ := DataW.trod_bool Tryd.underlying4 g2
    obtain ⟨x3, e3, -, -⟩ := DataW.trod_int Tryd.underlying3 g3
    obtain ⟨l4, t4, m4, n4⟩ := trod_txs g4
    obtain ⟨l5, t5, m5, n5⟩ := trod_txs g5
    simp at e0 e1 e2 e3
    subst e0; subst e1; subst e2; subst e3
    exact ⟨c4, c5, ⟨x0, x1, x2, x3, l4, l5⟩, rfl, ⟨t4, t5⟩, ⟨m4, n4⟩, m5, n5⟩
end Go.Proofs.YtglpkikncgdghaaDoor
