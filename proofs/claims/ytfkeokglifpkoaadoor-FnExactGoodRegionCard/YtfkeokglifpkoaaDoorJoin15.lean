/-
  Rows of one cell an element: one put behind; branches of a length that the law lets through; events in a block that is known.
-/
import Derived.Test.YtfkeokglifpkoaaDoorJoin14
import Derived.Maps.AppendAt
import Derived.Lib.AppendZeros
namespace Go.Proofs.YtfkeokglifpkoaaDoor
open Go.RowKit M
open Go.Sort (grow)
namespace M
/-- One element of one cell put behind a row of a call's own. -/
theorem wpList_put1 (w : World) {ops : Array Oper} {rest : List Oper} {o : Oper} {a : Act} {Q : Exit → Act → World → Prop} (hgd : o.guard = none) (s x : Operand) (t e : TypeId) (z : Value) (bytes : Nat) (ht : Tryd.prog.underlying t = some (.slice e)) (hinfo : (Tryd.prog.info? e).map (fun i => (i.zero, i.size, i.bytes)) = some (some z, 1, bytes)) (hz1 : z.cells.size = 1) (hby : bytes ≤ 64)
    (ho : o.op = .call { callee := .builtin .append, args := #[s, x], argTypes := #[t, t] }) (B : Nat) (n : Nat) (l : List Value) (v val : Value) (hs : a.eval s = v) (hown : w.ownsRow B e 1 v n l) (b off cu : Nat)
    (hx : a.eval x = .slice (some ⟨b, off, none⟩) 1 cu) (hc : w.cell? ⟨b, off, none⟩ = some val) (h1 : val.oneCell' = true) (hl : n + 1 ≤ 2097152) (hbase : B ≤ w.heap.size)
    (h : ∀ a' c' w', w'.ownsRow B e 1 (.slice a' (n + 1) c') (n + 1) (l ++ [val]) → w.grownBy w' v.ownBlock → ((Value.slice a' (n + 1) c').ownBlock = v.ownBlock ∨ (Value.slice a' (n + 1) c').ownBlock = some w.heap.size) → wpList Tryd.prog ops Q rest (a.put o.dst (.slice a' (n + 1) c')) w') : wpList Tryd.prog ops Q (o :: rest) a w := by
  obtain ⟨i0, hi, hz0, hz2, hz3⟩ := info_parts hinfo
  obtain ⟨v', w', hr, hown', hgr, -, hblk⟩ := run_append_own_at (P := Tryd.prog) (w := w) B t o.type e i0 z 1 bytes ht hi hz0 hz2 hz3 hz1 (by decide) v n l hown ⟨b, off, none⟩ 1 cu [val] (by simp) (fun j u hj => by
      cases j with
      | zero =>
        simp only [List.getElem?_cons_zero, Option.some.injEq] at hj
        subst hj
        have : (⟨b, off, none⟩ : Addr).add 0 = ⟨b, off, none⟩ := by unfold Addr.add; split <;> simp_all
        rw [this]; exact hc
      | succ j => simp at hj) (fun u hu => by simp only [List.mem_singleton] at hu; rw [hu]; exact h1) (by unfold maxLen; omega) (by
        have : (n + 1) * bytes ≤ 2097152 * 64 := Nat.mul_le_mul hl hby
        omega) hbase
  obtain ⟨a', c', rfl⟩ : ∃ a' c', v' = .slice a' (n + 1) c' := by
    rcases hown'.2 with ⟨_, h0⟩ | ⟨g, cap, cur, rfl, _⟩
    · omega
    · exact ⟨_, _, rfl⟩
  exact Lib.wpList_append_run (P := Tryd.prog) w hgd s x t t ho _ _ hs hx _ _ hr (h _ _ w' hown' hgr hblk)
theorem own_lt {w : World} {B e s n : Nat} {v : Value} {xs : List Value} (h : w.ownsRow B e s v n xs) {g : Nat} (hg : v.ownBlock = some g) : B ≤ g ∧ g < w.heap.size := by
  rcases h.2 with ⟨rfl, _⟩ | ⟨g', cap, cur, rfl, hB, hb, _⟩
  · simp [Value.ownBlock] at hg
  · simp only [Value.ownBlock, Option.some.injEq] at hg
    subst hg
    refine ⟨hB, ?_⟩
    rcases Nat.lt_or_ge g' w.heap.size with h' | h'
    · exact h'
    · rw [Array.getElem?_eq_none h'] at hb; cases hb
theorem take_snocB {α : Type} {bs : List α} {k : Nat} {b : α} (h : bs[k]? = some b) : bs.take (k + 1) = bs.take k ++ [b] := by
  obtain ⟨hk, rfl⟩ := List.getElem?_eq_some_iff.1 h
  exact List.take_succ_eq_append_getElem hk
theorem one_new (X : World) (a : Value) (t : TypeId) : (X.alloc (.cells #[a] t)).cell? ⟨X.heap.size, 0, none⟩ = some a := by simp
def FineS (bs : Brs) : Prop := bs.length ≤ 1048576 ∧ ∀ b ∈ bs, b.length ≤ 1048576 ∧ ∀ e ∈ b, e.name.size ≤ maxLen
theorem FineS.at {bs : Brs} (h : FineS bs) {i : Nat} {b : Evs} (hb : bs[i]? = some b) : b.length ≤ 1048576 ∧ ∀ e ∈ b, e.name.size ≤ maxLen := h.2 b (List.mem_of_getElem? hb)
theorem blk_lt {w : World} {g : Nat} {o : Obj} (h : w.heap[g]? = some o) : g < w.heap.size := by
  rcases Nat.lt_or_ge g w.heap.size with h' | h'
  · exact h'
  · rw [Array.getElem?_eq_none h'] at h; cases h
theorem evs_sl {w : World} {g n : Nat} {es : List Ev} {t : TypeId} (h : w.heap[g]? = some (.cells (cellsE es).toArray t (0, 0))) (hn : n = es.length) : SliceOf w (.slice (some ⟨g, 0, none⟩) n n) es := by
  subst hn
  exact ⟨_, _, rfl, fun _ => ⟨g, 0, rfl, blk_lt h, row_of_block (rest := []) (by simpa using h)⟩⟩
theorem evs_bk {w : World} {g : Nat} {es : List Ev} {t : TypeId} (h : w.heap[g]? = some (.cells (cellsE es).toArray t (0, 0))) : ∃ f, Blk w g (es.length * 4) f t := by
  have := blk_of h
  rw [List.size_toArray, cellsE_len] at this
  exact ⟨_, this⟩
end M
end Go.Proofs.YtfkeokglifpkoaaDoor
