/-
  Queues and line steps that came in, read as data.
-/
import Derived.Test.YtphcaadckfemjaaQuS
import Derived.Test.YtphcaadckfemjaaQuL
import Derived.Deep.Slices
import Derived.Deep.SlicePairs
import Derived.Lib.SmallJoins
import Derived.ProofKit
import Derived.OpenShut
namespace Go.Proofs.Ytphcaadckfemjaa
open Go.ChangeShapes Go.WideShapes Go.ChangeAt Go.RowKit Go.Joins Go.Deep
open M
theorem cellsStrO : Try.prog.cellsOf 9 = 1 := by kernel_rfl
theorem cellsIntO : Try.prog.cellsOf 3 = 1 := by kernel_rfl
theorem cellsBoolO : Try.prog.cellsOf 4 = 1 := by kernel_rfl
theorem cellsStrsO : Try.prog.cellsOf 22 = 1 := by kernel_rfl
theorem cellsLawPksO : Try.prog.cellsOf 23 = 1 := by kernel_rfl
theorem cellsLawPkO : Try.prog.cellsOf 69 = 3 := by kernel_rfl
theorem cellsLawLstO : Try.prog.cellsOf 27 = 3 := by kernel_rfl
theorem cellsLawQueueO : Try.prog.cellsOf 25 = 5 := by kernel_rfl
theorem array5 {cs : Array Value} (h : cs.size = 5) : ∃ a b c d e, cs = #[a, b, c, d, e] := by
  obtain ⟨l⟩ := cs
  match l, h with
  | [a, b, c, d, e], _ => exact ⟨a, b, c, d, e, rfl⟩
theorem array3 {cs : Array Value} (h : cs.size = 3) : ∃ a b c, cs = #[a, b, c] := by
  obtain ⟨l⟩ := cs
  match l, h with
  | [a, b, c], _ => exact ⟨a, b, c, rfl⟩
theorem pick_txs {Pn : Nat → ByteArray → Prop} : ∀ n : Nat, (∀ i, i < n → ∃ e : ByteArray, Pn i e) → ∃ l : Txs, l.length = n ∧ ∀ i x, l[i]? = some x → Pn i x
  | 0, _ => ⟨[], rfl, fun i x h => by simp at h⟩
  | n + 1, h => by
    obtain ⟨l, hl, hp⟩ := pick_txs n (fun i hi => h i (by omega))
    obtain ⟨e, he⟩ := h n (by omega)
    refine ⟨l ++ [e], by simp [hl], fun i x hi => ?_⟩
    by_cases hin : i < n
    · rw [List.getElem?_append_left (by omega)] at hi; exact hp i x hi
    · rw [List.getElem?_append_right (by omega)] at hi
      have hie : i = n := by
        rcases Nat.eq_zero_or_pos (i - l.length) with h0 | h0
        · omega
        · rw [List.getElem?_eq_none (by simp; omega)] at hi; cases hi
      subst hie
      rw [hl, Nat.sub_self] at hi
      simp at hi
      subst hi
      exact he
set_option maxRecDepth 100000 in
theorem trod_txs {H : Type} {enc : TypeId × Value → H} {W : World} {fuel : Nat} {v : Value} {x : DataW H × List MemPlace}
    (hf : DataW.trod enc Try.prog W 0 (fun _ => true) true fuel 22 [v] = some x) : ∃ l : Txs, TxsOf W v l ∧ l.length ≤ maxLen ∧ ∀ x ∈ l, x.size ≤ maxLen := by
  rcases open_slice Try.underlying22 hf with ⟨hcs, _⟩ | ⟨a, len, cap, m, n, D, Pl, hcs, _, hl, hm, hmm, _, hx⟩
  · simp at hcs
    subst hcs
    exact ⟨[], ⟨none, 0, rfl, fun h => absurd h (Nat.lt_irrefl _)⟩, Nat.zero_le _, fun x h => by cases h⟩
  · simp at hcs
    subst hcs
    simp only [if_true] at hmm
    subst hmm
    have key : ∀ i, i < len → ∃ e : ByteArray, W.cell? (a.add i) = some (.string e) ∧ e.size ≤ maxLen := by
      intro i hi
      obtain ⟨cs', h1, h2⟩ := hx i (by omega)
      rw [cellsStrO] at h1
      obtain ⟨_, hlen, hcell⟩ := World.cells?_some h1
      match cs', hlen with
      | [c0], _ =>
        obtain ⟨name, e3, -, hn⟩ := DataW.trod_string Try.underlying9 h2
        have q0 := hcell 0 (by omega)
        rw [add_add] at q0
        simp at e3
        subst e3
        exact ⟨name, by simpa using q0, hn⟩
    obtain ⟨l, hll, hp⟩ := pick_txs len key
    subst hll
    refine ⟨l, ⟨some a, _, rfl, fun hp0 => ?_⟩, by omega, fun x hx => ?_⟩
    · obtain ⟨b, off, spot⟩ := a
      obtain ⟨e, he, _⟩ := key 0 hp0
      have hs := World.cell?_spot he
      have hspot : spot = none := by simpa [Addr.add] using hs
      subst hspot
      have ha : ∀ n, (⟨b, off, none⟩ : Addr).add n = ⟨b, off + n, none⟩ := fun n => by unfold Addr.add; split <;> simp_all
      rw [ha] at he
      exact ⟨b, off, rfl, World.block_lt_of_cell? W _ he, fun i x hi => by rw [← ha]; exact (hp i x hi).1⟩
    · obtain ⟨i, hi, rfl⟩ := List.mem_iff_getElem.1 hx
      exact (hp i _ (List.getElem?_eq_getElem hi)).2
theorem pick_pks {Pn : Nat → Pk → Prop} : ∀ n : Nat, (∀ i, i < n → ∃ e : Pk, Pn i e) → ∃ l : Pks, l.length = n ∧ ∀ i x, l[i]? = some x → Pn i x
  | 0, _ => ⟨[], rfl, fun i x h => by simp at h⟩
  | n + 1, h => by
    obtain ⟨l, hl, hp⟩ := pick_pks n (fun i hi => h i (by omega))
    obtain ⟨e, he⟩ := h n (by omega)
    refine ⟨l ++ [e], by simp [hl], fun i x hi => ?_⟩
    by_cases hin : i < n
    · rw [List.getElem?_append_left (by omega)] at hi; exact hp i x hi
    · rw [List.getElem?_append_right (by omega)] at hi
      have hie : i = n := by
        rcases Nat.eq_zero_or_pos (i - l.length) with h0 | h0
        · omega
        · rw [List.getElem?_eq_none (by simp; omega)] at hi; cases hi
      subst hie
      rw [hl, Nat.sub_self] at hi
      simp at hi
      subst hi
      exact he
set_option maxRecDepth 100000 in
theorem trod_pks {H : Type} {enc : TypeId × Value → H} {W : World} {fuel : Nat} {v : Value} {x : DataW H × List MemPlace}
    (hf : DataW.trod enc Try.prog W 0 (fun _ => true) true fuel 23 [v] = some x) : ∃ l : Pks, PksOf W v l ∧ LenP l := by
  rcases open_slice Try.underlying23 hf with ⟨hcs, _⟩ | ⟨a, len, cap, m, n, D, Pl, hcs, _, hl, hm, hmm, _, hx⟩
  · simp at hcs
    subst hcs
    exact ⟨[], .nil _ _ _, Nat.zero_le _, fun e h => by simp at h⟩
  · simp at hcs
    subst hcs
    simp only [if_true] at hmm
    subst hmm
    by_cases h0 : len = 0
    · subst h0
      exact ⟨[], .nil _ _ _, Nat.zero_le _, fun e h => by simp at h⟩
    · obtain ⟨b, off, spot⟩ := a
      have hspot : spot = none := by
        obtain ⟨cs', h1, _⟩ := hx 0 (by omega)
        rw [cellsLawPkO] at h1
        obtain ⟨_, hlen, hcell⟩ := World.cells?_some h1
        have q := hcell 0 (by omega)
        have hs : ∃ c, W.cell? (((⟨b, off, spot⟩ : Addr).add (0 * 3)).add 0) = some c := by
          rw [q]
          match cs', hlen with
          | [c0, c1, c2], _ => exact ⟨c0, rfl⟩
        obtain ⟨c, hc⟩ := hs
        have := World.cell?_spot hc
        simpa [Addr.add] using this
      subst hspot
      have ha : ∀ n, (⟨b, off, none⟩ : Addr).add n = ⟨b, off + n, none⟩ := fun n => by unfold Addr.add; split <;> simp_all
      have ha2 : ∀ k n, (⟨b, k, none⟩ : Addr).add n = ⟨b, k + n, none⟩ := fun k n => by unfold Addr.add; split <;> simp_all
      have key : ∀ i, i < len → ∃ e : Pk, P3 W b (off + i * 3) e ∧ e.tx.size ≤ maxLen := by
        intro i hi
        obtain ⟨cs', h1, h2⟩ := hx i (by omega)
        rw [cellsLawPkO] at h1
        obtain ⟨_, hlen, hcell⟩ := World.cells?_some h1
        match cs', hlen with
        | [c0, c1, c2], _ =>
          obtain ⟨xs, k, hk, hxy, _, hxl, hg⟩ := DataW.trod_struct Try.underlying69 h2
          match xs, hxl with
          | [y0, y1, y2], _ =>
            have g0 := hg 0 _ rfl
            have g1 := hg 1 _ rfl
            have g2 := hg 2 _ rfl
            simp [cellsIntO, cellsStrO, cellsBoolO] at g0 g1 g2
            obtain ⟨x0, e0, -⟩ := DataW.trod_bool Try.underlying4 g0
            obtain ⟨x1, e1, -, -⟩ := DataW.trod_int Try.underlying3 g1
            obtain ⟨x2, e2, -, hn2⟩ := DataW.trod_string Try.underlying9 g2
            simp at e0 e1 e2
            have q0 := hcell 0 (by omega)
            have q1 := hcell 1 (by omega)
            have q2 := hcell 2 (by omega)
            simp only [List.getElem?_cons_zero, List.getElem?_cons_succ] at q0 q1 q2
            rw [ha, ha2] at q0 q1 q2
            subst e0 e1 e2
            exact ⟨⟨x0, x1, x2⟩, ⟨q0, q1, q2⟩, hn2⟩
      obtain ⟨l, hll, hp⟩ := pick_pks len key
      subst hll
      have hlt : b < W.heap.size := by
        obtain ⟨e, he, _⟩ := key 0 (by omega)
        exact World.block_lt_of_cell? W _ he.1
      refine ⟨l, ⟨_, _, rfl, fun _ => ⟨b, off, rfl, hlt, fun i x hi => (hp i x hi).1⟩⟩, by omega, fun x hx => ?_⟩
      obtain ⟨i, hi, rfl⟩ := List.mem_iff_getElem.1 hx
      exact (hp i _ (List.getElem?_eq_getElem hi)).2
theorem pick_lsts {Pn : Nat → Lst → Prop} : ∀ n : Nat, (∀ i, i < n → ∃ e : Lst, Pn i e) → ∃ l : Lsts, l.length = n ∧ ∀ i x, l[i]? = some x → Pn i x
  | 0, _ => ⟨[], rfl, fun i x h => by simp at h⟩
  | n + 1, h => by
    obtain ⟨l, hl, hp⟩ := pick_lsts n (fun i hi => h i (by omega))
    obtain ⟨e, he⟩ := h n (by omega)
    refine ⟨l ++ [e], by simp [hl], fun i x hi => ?_⟩
    by_cases hin : i < n
    · rw [List.getElem?_append_left (by omega)] at hi; exact hp i x hi
    · rw [List.getElem?_append_right (by omega)] at hi
      have hie : i = n := by
        rcases Nat.eq_zero_or_pos (i - l.length) with h0 | h0
        · omega
        · rw [List.getElem?_eq_none (by simp; omega)] at hi; cases hi
      subst hie
      rw [hl, Nat.sub_self] at hi
      simp at hi
      subst hi
      exact he
set_option maxRecDepth 100000 in
theorem open_lsts {H : Type} {enc : TypeId × Value → H} {W : World} {b0 : Nat} {v : Value} {d : DataW H} {p : List MemPlace}
    (hv : Value.okWide Try.prog W .any b0 41 v) (h : DataW.Trod enc Try.prog W 0 (fun _ => true) true 41 v d p) :
    ∃ l : Lsts, LstsOf W v l ∧ LenL l := by
  obtain ⟨a0, len0, cap0, rfl⟩ := okWide_slice Try.underlying41 hv
  obtain ⟨fuel, hf⟩ := h
  rcases open_slice Try.underlying41 hf with ⟨hcs, _⟩ | ⟨a, len, cap, m, n, D, Pl, hcs, _, hl, hm, hmm, _, hx⟩
  · simp [Value.cells] at hcs
    obtain ⟨rfl, rfl, rfl⟩ := hcs
    exact ⟨[], .nil _ _ _, Nat.zero_le _, fun e h => by simp at h⟩
  · simp [Value.cells] at hcs
    obtain ⟨rfl, rfl, rfl⟩ := hcs
    simp only [if_true] at hmm
    subst hmm
    by_cases h0 : len0 = 0
    · subst h0
      exact ⟨[], .nil _ _ _, Nat.zero_le _, fun e h => by simp at h⟩
    · obtain ⟨b, off, spot⟩ := a
      have hspot : spot = none := by
        obtain ⟨cs', h1, _⟩ := hx 0 (by omega)
        rw [cellsLawLstO] at h1
        obtain ⟨_, hlen, hcell⟩ := World.cells?_some h1
        have q := hcell 0 (by omega)
        have hs : ∃ c, W.cell? (((⟨b, off, spot⟩ : Addr).add (0 * 3)).add 0) = some c := by
          rw [q]
          match cs', hlen with
          | [c0, c1, c2], _ => exact ⟨c0, rfl⟩
        obtain ⟨c, hc⟩ := hs
        have := World.cell?_spot hc
        simpa [Addr.add] using this
      subst hspot
      have ha : ∀ n, (⟨b, off, none⟩ : Addr).add n = ⟨b, off + n, none⟩ := fun n => by unfold Addr.add; split <;> simp_all
      have ha2 : ∀ k n, (⟨b, k, none⟩ : Addr).add n = ⟨b, k + n, none⟩ := fun k n => by unfold Addr.add; split <;> simp_all
      have key : ∀ i, i < len0 → ∃ e : Lst, L3 W b (off + i * 3) e ∧ e.tx.size ≤ maxLen := by
        intro i hi
        obtain ⟨cs', h1, h2⟩ := hx i (by omega)
        rw [cellsLawLstO] at h1
        obtain ⟨_, hlen, hcell⟩ := World.cells?_some h1
        match cs', hlen with
        | [c0, c1, c2], _ =>
          obtain ⟨xs, k, hk, hxy, _, hxl, hg⟩ := DataW.trod_struct Try.underlying27 h2
          match xs, hxl with
          | [y0, y1, y2], _ =>
            have g0 := hg 0 _ rfl
            have g1 := hg 1 _ rfl
            have g2 := hg 2 _ rfl
            simp [cellsIntO, cellsStrO] at g0 g1 g2
            obtain ⟨x0, e0, -, -⟩ := DataW.trod_int Try.underlying3 g0
            obtain ⟨x1, e1, -, -⟩ := DataW.trod_int Try.underlying3 g1
            obtain ⟨x2, e2, -, hn2⟩ := DataW.trod_string Try.underlying9 g2
            simp at e0 e1 e2
            have q0 := hcell 0 (by omega)
            have q1 := hcell 1 (by omega)
            have q2 := hcell 2 (by omega)
            simp only [List.getElem?_cons_zero, List.getElem?_cons_succ] at q0 q1 q2
            rw [ha, ha2] at q0 q1 q2
            subst e0 e1 e2
            exact ⟨⟨x0, x1, x2⟩, ⟨q0, q1, q2⟩, hn2⟩
      obtain ⟨l, hll, hp⟩ := pick_lsts len0 key
      subst hll
      have hlt : b < W.heap.size := by
        obtain ⟨e, he, _⟩ := key 0 (by omega)
        exact World.block_lt_of_cell? W _ he.1
      refine ⟨l, ⟨_, _, rfl, fun _ => ⟨b, off, rfl, hlt, fun i x hi => (hp i x hi).1⟩⟩, by omega, fun x hx => ?_⟩
      obtain ⟨i, hi, rfl⟩ := List.mem_iff_getElem.1 hx
      exact (hp i _ (List.getElem?_eq_getElem hi)).2
set_option maxRecDepth 100000 in
theorem open_queue {H : Type} {enc : TypeId × Value → H} {W : World} {b0 : Nat} {v : Value} {d : DataW H} {p : List MemPlace}
    (hv : Value.okWide Try.prog W .any b0 25 v) (h : DataW.Trod enc Try.prog W 0 (fun _ => true) true 25 v d p) :
    ∃ (v1 v3 v4 : Value) (q : Qu), v = qv v1 v3 v4 q ∧ QuQ W v1 v3 v4 q ∧ LensQ q := by
  obtain ⟨cs, rfl, hsz⟩ := okWide_struct Try.underlying25 hv
  obtain ⟨c0, c1, c2, c3, c4, rfl⟩ := array5 (hsz.trans cellsLawQueueO)
  obtain ⟨fuel, hf⟩ := h
  obtain ⟨xs, k, hk, hxy, _, hxl, hf⟩ := DataW.trod_struct Try.underlying25 hf
  match xs, hxl with
  | [y0, y1, y2, y3, y4], _ =>
    have g0 := hf 0 _ rfl
    have g1 := hf 1 _ rfl
    have g2 := hf 2 _ rfl
    have g3 := hf 3 _ rfl
    have g4 := hf 4 _ rfl
    simp [Value.cells, cellsIntO, cellsStrsO, cellsLawPksO] at g0 g1 g2 g3 g4
    obtain ⟨x0, e0, -, -⟩ := DataW.trod_int Try.underlying3 g0
    obtain ⟨l1, t1, m1, n1⟩ := trod_txs g1
    obtain ⟨x2, e2, -, -⟩ := DataW.trod_int Try.underlying3 g2
    obtain ⟨l3, t3, m3, n3⟩ := trod_txs g3
    obtain ⟨l4, t4, m4⟩ := trod_pks g4
    simp at e0 e2
    subst e0; subst e2
    exact ⟨c1, c3, c4, ⟨x0, l1, x2, l3, l4⟩, rfl, ⟨t1, t3, t4⟩, ⟨m1, n1⟩, ⟨m3, n3⟩, m4⟩
set_option maxRecDepth 100000 in
theorem open_lst {H : Type} {enc : TypeId × Value → H} {W : World} {b0 : Nat} {v : Value} {d : DataW H} {p : List MemPlace}
    (hv : Value.okWide Try.prog W .any b0 27 v) (h : DataW.Trod enc Try.prog W 0 (fun _ => true) true 27 v d p) :
    ∃ s : Lst, v = s.v ∧ s.tx.size ≤ maxLen := by
  obtain ⟨cs, rfl, hsz⟩ := okWide_struct Try.underlying27 hv
  obtain ⟨c0, c1, c2, rfl⟩ := array3 (hsz.trans cellsLawLstO)
  obtain ⟨fuel, hf⟩ := h
  obtain ⟨xs, k, hk, hxy, _, hxl, hf⟩ := DataW.trod_struct Try.underlying27 hf
  match xs, hxl with
  | [y0, y1, y2], _ =>
    have g0 := hf 0 _ rfl
    have g1 := hf 1 _ rfl
    have g2 := hf 2 _ rfl
    simp [Value.cells, cellsIntO, cellsStrO] at g0 g1 g2
    obtain ⟨x0, e0, -, -⟩ := DataW.trod_int Try.underlying3 g0
    obtain ⟨x1, e1, -, -⟩ := DataW.trod_int Try.underlying3 g1
    obtain ⟨x2, e2, -, h2⟩ := DataW.trod_string Try.underlying9 g2
    simp at e0 e1 e2
    subst e0; subst e1; subst e2
    exact ⟨⟨x0, x1, x2⟩, rfl, h2⟩
end Go.Proofs.Ytphcaadckfemjaa
