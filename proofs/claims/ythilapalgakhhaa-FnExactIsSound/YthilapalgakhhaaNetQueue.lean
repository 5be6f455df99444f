/-
  A row of markings that wait: taken off the front by slicing, put to the end by append.
-/
import Derived.Test.YthilapalgakhhaaNetOrder
import Derived.Maps.AppendAt
namespace Go.Proofs.Ythilapalgakhhaa
open Go.RowKit M
open Clk (upd upd_same upd_other)
namespace M
def L8 (x : Nat → Int) : List Value := [.int .i64 (x 0), .int .i64 (x 1), .int .i64 (x 2), .int .i64 (x 3), .int .i64 (x 4), .int .i64 (x 5), .int .i64 (x 6), .int .i64 (x 7)]
theorem L8_at (x : Nat → Int) (q : Nat) (h : q < 8) : (L8 x)[q]? = some (.int .i64 (x q)) := by
  match q, h with
  | 0, _ => rfl
  | 1, _ => rfl
  | 2, _ => rfl
  | 3, _ => rfl
  | 4, _ => rfl
  | 5, _ => rfl
  | 6, _ => rfl
  | 7, _ => rfl
theorem L8_len (x : Nat → Int) : (L8 x).length = 8 := rfl
theorem L8_one (x : Nat → Int) : ∀ u ∈ L8 x, u.oneCell' = true := by
  intro u hu
  simp only [L8, List.mem_cons, List.not_mem_nil, or_false] at hu
  rcases hu with rfl | rfl | rfl | rfl | rfl | rfl | rfl | rfl <;> rfl
def lenV : Value → Nat
  | .slice _ n _ => n
  | _ => 0
/-- The markings i, i + 1, .. of c wait, in this order. -/
def Que (w : World) (base : Nat) (v : Value) (i c : Nat) (M : Nat → Nat → Int) : Prop :=
  i ≤ c ∧ ∃ g o cap cur ty, v = .slice (some ⟨g, o, none⟩) (c - i) cap ∧ base ≤ g ∧ w.heap[g]? = some (.cells cur ty (0, 0)) ∧ c - i ≤ cap ∧ o + cap * 8 ≤ cur.size ∧ ∀ j q, j < c - i → q < 8 → cur[o + (j * 8 + q)]? = some (.int .i64 (M (i + j) q))
theorem Que.kept {w w' : World} {base i c : Nat} {v : Value} {K : Nat → Nat → Int} (h : Que w base v i c K) (hk : ∀ g, v.ownBlock = some g → w'.heap[g]? = w.heap[g]?) : Que w' base v i c K := by
  obtain ⟨hic, g, o, cap, cur, ty, rfl, hb, hg, h1, h2, h3⟩ := h
  exact ⟨hic, g, o, cap, cur, ty, rfl, hb, (hk g rfl).trans hg, h1, h2, h3⟩
theorem Que.lt {w : World} {base i c : Nat} {v : Value} {K : Nat → Nat → Int} (h : Que w base v i c K) : ∃ g, v.ownBlock = some g ∧ base ≤ g ∧ g < w.heap.size := by
  obtain ⟨hic, g, o, cap, cur, ty, rfl, hb, hg, h1, h2, h3⟩ := h
  refine ⟨g, rfl, hb, ?_⟩
  rcases Nat.lt_or_ge g w.heap.size with h | h
  · exact h
  · rw [Array.getElem?_eq_none h] at hg; cases hg
theorem Que.down {w w' : World} {base i c : Nat} {v : Value} {K : Nat → Nat → Int} (h : Que w base v i c K) (hb : Below w.heap.size w w') : Que w' base v i c K := by
  obtain ⟨g, hg, -, hlt⟩ := h.lt
  exact h.kept fun g' hg' => by rw [hg] at hg'; cases hg'; exact hb.block g hlt
/-- The first that waits. -/
theorem Que.head {w : World} {base i c : Nat} {v : Value} {K : Nat → Nat → Int} (h : Que w base v i c K) (hi : i < c) : ∃ g o cap, v = .slice (some ⟨g, o, none⟩) (c - i) cap ∧ ∀ q, q < 8 → w.cell? ⟨g, o + q, none⟩ = some (.int .i64 (K i q)) := by
  obtain ⟨hic, g, o, cap, cur, ty, rfl, hb, hg, h1, h2, h3⟩ := h
  refine ⟨g, o, cap, rfl, fun q hq => ?_⟩
  have := h3 0 q (by omega) hq
  rw [Nat.zero_mul, Nat.zero_add, Nat.add_zero] at this
  rw [cell_of_row w g (o + q) cur ty (0, 0) hg]; exact this
theorem Que.len {w : World} {base i c : Nat} {v : Value} {K : Nat → Nat → Int} (h : Que w base v i c K) : lenV v = c - i := by
  obtain ⟨hic, g, o, cap, cur, ty, rfl, hb, hg, h1, h2, h3⟩ := h; rfl
theorem Que.form {w : World} {base i c : Nat} {v : Value} {K : Nat → Nat → Int} (h : Que w base v i c K) : ∃ a cap, v = .slice a (c - i) cap := by
  obtain ⟨hic, g, o, cap, cur, ty, rfl, hb, hg, h1, h2, h3⟩ := h; exact ⟨_, _, rfl⟩
theorem Que.fresh (w : World) (m : Nat → Int) (ty : TypeId) {base : Nat} (hb : base ≤ w.heap.size) : Que (w.alloc (.cells #[.int .i64 (m 0), .int .i64 (m 1), .int .i64 (m 2), .int .i64 (m 3), .int .i64 (m 4), .int .i64 (m 5), .int .i64 (m 6), .int .i64 (m 7)] ty)) base (.slice (some ⟨w.heap.size, 0, none⟩) 1 1) 0 1 (fun _ => m) := by
  refine ⟨by omega, w.heap.size, 0, 1, _, ty, rfl, hb, heap_alloc_new w _, by omega, by simp, fun j q hj hq => ?_⟩
  obtain rfl : j = 0 := by omega
  have := L8_at m q hq
  rw [show 0 + (0 * 8 + q) = q by omega]
  rw [← List.getElem?_toArray] at this
  exact this
/-- The first is taken off. -/
theorem Que.rest {w : World} {base i c : Nat} {v : Value} {K : Nat → Nat → Int} (h : Que w base v i c K) (hi : i < c) {t e : TypeId} {P : Program} (ht : P.underlying t = some (.slice e)) (hs : ∀ w, (Go.sizeOf e).run P w = .ok 8 w) :
    ∃ v', (∀ W, (Instr.slice t v (some (.int .i64 1)) none none).run P W = .ok v' W) ∧ Que w base v' (i + 1) c K ∧ v'.ownBlock = v.ownBlock := by
  obtain ⟨hic, g, o, cap, cur, ty, rfl, hb, hg, h1, h2, h3⟩ := h
  have ht' : P.underlying t = some (.slice (P.elem t)) := by simp [Program.elem, ht]
  have he : P.elem t = e := by simp [Program.elem, ht]
  have hr : ∀ W, (Instr.slice t (.slice (some ⟨g, o, none⟩) (c - i) cap) (some (.int .i64 1)) none none).run P W = .ok (sliced (some ⟨g, o, none⟩) 1 (c - i) cap 8) W := fun W => by
    have hr := run_slice_l W t (some ⟨g, o, none⟩) (c - i) cap ht' .i64 1 (by omega) (by omega)
    rw [he, hs] at hr
    exact hr
  by_cases hc : cap = 1
  · subst hc
    refine ⟨_, hr, ⟨by omega, g, o, 0, cur, ty, ?_, hb, hg, by omega, by omega, fun j q hj _ => by omega⟩, ?_⟩
    · simp [sliced]; omega
    · simp [sliced, Value.ownBlock]
  · refine ⟨_, hr, ⟨by omega, g, o + 8, cap - 1, cur, ty, ?_, hb, hg, by omega, by omega, fun j q hj hq => ?_⟩, ?_⟩
    · simp [sliced, hc, Addr.add_lit]; omega
    · have := h3 (j + 1) q (by omega) hq
      rw [show o + ((j + 1) * 8 + q) = o + 8 + (j * 8 + q) by omega, show i + (j + 1) = i + 1 + j by omega] at this
      exact this
    · simp [sliced, hc, Value.ownBlock, Addr.add_lit]
/-- One more is put to the end. -/
theorem Que.put {P : Program} {w : World} {base i c : Nat} {v : Value} {K : Nat → Nat → Int} (h : Que w base v i c K) (t ty0 e : TypeId) (ti : TypeInfo) (z : Value) (ht : P.underlying t = some (.slice e)) (hi : P.info? e = some ti) (hz : ti.zero = some z)
    (hsize : ti.size = 8) (hby : ti.bytes = 64) (hzs : z.cells.size = 8) (a cp : Nat) (x : Nat → Int) (hx : ∀ q, q < 8 → w.cell? ⟨a, q, none⟩ = some (.int .i64 (x q))) (hc : c ≤ 100000) (hbase : base ≤ w.heap.size) :
    ∃ v' w', (Builtin.append_ #[t, t] ty0 #[v, .slice (some ⟨a, 0, none⟩) 1 cp]).run P w = .ok v' w' ∧ Que w' base v' i (c + 1) (upd K c x) ∧ w.grownBy w' v.ownBlock ∧ (v'.ownBlock = v.ownBlock ∨ v'.ownBlock = some w.heap.size) := by
  obtain ⟨hic, g, o, cap, cur, ty, rfl, hb, hg, h1, h2, h3⟩ := h
  have hnews : ∀ j u, (L8 x)[j]? = some u → w.cell? ((⟨a, 0, none⟩ : Addr).add j) = some u := fun j u hj => by
    have hj8 : j < 8 := by
      rcases Nat.lt_or_ge j 8 with h | h
      · exact h
      · rw [List.getElem?_eq_none (by rw [L8_len]; exact h)] at hj; cases hj
    rw [L8_at x j hj8] at hj; cases hj
    rw [Addr.add_lit, Nat.zero_add]; exact hx j hj8
  have hl : (L8 x).length = 1 * ti.size := by rw [hsize, L8_len]
  have hnc : c + 1 - i = c - i + 1 := by omega
  by_cases hroom : c - i + 1 ≤ cap
  · have hf := run_firstCells_some (P := P) w ti.size 1 ⟨a, 0, none⟩ 1 cp (L8 x) hl hnews
    have hst := run_storeCells_at P g (o + (c - i) * 8) ty (L8 x) 0 cur w hg (by rw [L8_len]; omega) (L8_one x)
    simp only [Nat.add_zero, L8_len] at hst
    have hr : (Builtin.append_ #[t, t] ty0 #[.slice (some ⟨g, o, none⟩) (c - i) cap, .slice (some ⟨a, 0, none⟩) 1 cp]).run P w = .ok (.slice (some ⟨g, o, none⟩) (c - i + 1) cap) (w.setRow g (cur.toList.take (o + (c - i) * 8) ++ L8 x ++ cur.toList.drop (o + (c - i) * 8 + 8)).toArray) := by
      rw [hsize] at hf
      simp [Builtin.append_, run_underlying ht, sizeOf, typeInfo, hi, Builtin.lenOf, hroom, hsize, hf, Addr.add_lit, hst]
    refine ⟨_, _, hr, ⟨by omega, g, o, cap, _, ty, by rw [hnc], hb, setRow_heap w g cur _ ty _ hg, by omega, ?_, fun j q hj hq => ?_⟩, ⟨rfl, rfl, rfl, by simp, fun k _ hk => setRow_other w g k _ (fun e => hk (by simp [Value.ownBlock, e]))⟩, Or.inl rfl⟩
    · simp only [List.size_toArray, List.length_append, List.length_take, List.length_drop, Array.length_toList, L8_len]
      omega
    · rw [List.getElem?_toArray]
      have hlt : (cur.toList.take (o + (c - i) * 8)).length = o + (c - i) * 8 := by rw [List.length_take, Array.length_toList]; omega
      rcases (show j < c - i ∨ j = c - i by omega) with hj' | hj'
      · rw [List.append_assoc, List.getElem?_append_left (by rw [hlt]; omega), List.getElem?_take_of_lt (by omega), Array.getElem?_toList, upd_other _ _ _ _ (by omega)]
        exact h3 j q hj' hq
      · subst hj'
        rw [List.append_assoc, List.getElem?_append_right (by rw [hlt]; omega), hlt, List.getElem?_append_left (by rw [L8_len]; omega), show o + ((c - i) * 8 + q) - (o + (c - i) * 8) = q by omega, L8_at x q hq, show i + (c - i) = c by omega, upd_same]
  · have hlo : ((cur.toList.drop o).take ((c - i) * 8)).length = (c - i) * 8 := by rw [List.length_take, List.length_drop, Array.length_toList]; omega
    have hat : ∀ r, r < (c - i) * 8 → ((cur.toList.drop o).take ((c - i) * 8))[r]? = cur[o + r]? := fun r hr => by
      rw [List.getElem?_take_of_lt hr, List.getElem?_drop, Array.getElem?_toList]
    have hr := run_append_grow (P := P) w t ty0 e ti z ht hi hz ⟨g, o, none⟩ (c - i) cap ((cur.toList.drop o).take ((c - i) * 8)) (by rw [hsize]; exact hlo)
      (fun j u hj => by
        have hjl : j < (c - i) * 8 := by
          rcases Nat.lt_or_ge j ((c - i) * 8) with h | h
          · exact h
          · rw [List.getElem?_eq_none (by rw [hlo]; exact h)] at hj; cases hj
        rw [hat j hjl] at hj
        rw [Addr.add_lit, cell_of_row w g (o + j) cur ty (0, 0) hg]; exact hj)
      ⟨a, 0, none⟩ 1 cp (L8 x) hl hnews (by omega) (by omega) (growslice_fits (by omega) (by rw [hby]; omega))
    have hge := grownCap_ge w (c - i + 1) cap e
    refine ⟨_, _, hr, ⟨by omega, w.heap.size, 0, _, _, e, by rw [hnc], hbase, heap_alloc_new w.drew _, by omega, ?_, fun j q hj hq => ?_⟩, ⟨rfl, rfl, rfl, by simp, fun k hk _ => heap_alloc_old w.drew _ hk⟩, Or.inr rfl⟩
    · simp only [Array.size_append, List.size_toArray, size_zeroCells, hzs, hlo, L8_len]
      omega
    · rw [Nat.zero_add, Array.append_assoc, Array.getElem?_append]
      rcases (show j < c - i ∨ j = c - i by omega) with hj' | hj'
      · rw [if_pos (by rw [List.size_toArray, hlo]; omega), List.getElem?_toArray, hat _ (by omega), upd_other _ _ _ _ (by omega)]
        exact h3 j q hj' hq
      · subst hj'
        rw [if_neg (by rw [List.size_toArray, hlo]; omega), List.size_toArray, hlo, Array.getElem?_append, if_pos (by rw [List.size_toArray, L8_len]; omega), List.getElem?_toArray, show (c - i) * 8 + q - (c - i) * 8 = q by omega, L8_at x q hq, show i + (c - i) = c by omega, upd_same]
end M
end Go.Proofs.Ythilapalgakhhaa
