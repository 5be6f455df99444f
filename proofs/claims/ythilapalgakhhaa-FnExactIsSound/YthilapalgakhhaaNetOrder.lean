/-
  The program's inOrder: the markings of the map at their places, whatever the map's order.
-/
import Derived.Test.YthilapalgakhhaaNetMap
import Derived.Maps.RangeWalk
namespace Go.Proofs.Ythilapalgakhhaa
open Go.RowKit M
open Clk (upd upd_same upd_other)
open Go.ChangeMaps (setBlock heap_setBlock_same heap_setBlock_other)
namespace M
/-- How a marking was come to, as a value: its order, out of which one, by which step. -/
abbrev arrV (i : Int) (f : Nat → Int) (s : Int) : Value := .agg #[.int .i64 i, .int .i64 (f 0), .int .i64 (f 1), .int .i64 (f 2), .int .i64 (f 3), .int .i64 (f 4), .int .i64 (f 5), .int .i64 (f 6), .int .i64 (f 7), .int .i64 s]
def vv8 (f : Nat → Nat → Int) : Nat → Value := fun j => .int .i64 (f (j / 8) (j % 8))
theorem vv8_at (f : Nat → Nat → Int) (k q : Nat) (hq : q < 8) : vv8 f (k * 8 + q) = .int .i64 (f k q) := by
  unfold vv8; rw [show (k * 8 + q) / 8 = k by omega, show (k * 8 + q) % 8 = q by omega]
theorem vv8_upd (f : Nat → Nat → Int) (k : Nat) (x : Nat → Int) :
    upd (upd (upd (upd (upd (upd (upd (upd (vv8 f) (k * 8) (.int .i64 (x 0))) (k * 8 + 1) (.int .i64 (x 1))) (k * 8 + 2) (.int .i64 (x 2))) (k * 8 + 3) (.int .i64 (x 3))) (k * 8 + 4) (.int .i64 (x 4))) (k * 8 + 5) (.int .i64 (x 5))) (k * 8 + 6) (.int .i64 (x 6))) (k * 8 + 7) (.int .i64 (x 7)) = vv8 (upd f k x) := by
  funext j
  by_cases hj : j / 8 = k
  · have hjk : j = k * 8 + j % 8 := by omega
    have hm : j % 8 < 8 := by omega
    have hr : vv8 (upd f k x) j = .int .i64 (x (j % 8)) := by unfold vv8; rw [hj, upd_same]
    rw [hr]
    generalize j % 8 = q at *
    subst hjk
    clear hr hj
    unfold upd
    match q, hm with
    | 0, _ => simp
    | 1, _ => simp
    | 2, _ => simp
    | 3, _ => simp
    | 4, _ => simp
    | 5, _ => simp
    | 6, _ => simp
    | 7, _ => simp
  · rw [upd_other _ _ _ _ (by omega), upd_other _ _ _ _ (by omega), upd_other _ _ _ _ (by omega), upd_other _ _ _ _ (by omega), upd_other _ _ _ _ (by omega), upd_other _ _ _ _ (by omega), upd_other _ _ _ _ (by omega), upd_other _ _ _ _ (by omega)]
    unfold vv8; rw [upd_other _ _ _ _ hj]
theorem made8 (n : Nat) : madeCells #[.int .i64 0, .int .i64 0, .int .i64 0, .int .i64 0, .int .i64 0, .int .i64 0, .int .i64 0, .int .i64 0] (n * 8) = cf (n * 8) (vv8 fun _ _ => 0) := by
  apply Array.ext_getElem?
  intro j
  by_cases hj : j < n * 8
  · rw [cf_get _ hj]
    have h1 : (madeCells #[.int .i64 0, .int .i64 0, .int .i64 0, .int .i64 0, .int .i64 0, .int .i64 0, .int .i64 0, .int .i64 0] (n * 8))[j]? = some (#[(.int .i64 0 : Value), .int .i64 0, .int .i64 0, .int .i64 0, .int .i64 0, .int .i64 0, .int .i64 0, .int .i64 0][j % 8]!) := by simp [madeCells, hj]
    rw [h1]
    unfold vv8
    rcases (show j % 8 = 0 ∨ j % 8 = 1 ∨ j % 8 = 2 ∨ j % 8 = 3 ∨ j % 8 = 4 ∨ j % 8 = 5 ∨ j % 8 = 6 ∨ j % 8 = 7 by omega) with h | h | h | h | h | h | h | h <;> rw [h] <;> rfl
  · rw [Array.getElem?_eq_none (by rw [size_madeCells]; omega), Array.getElem?_eq_none (by rw [cf_size]; omega)]
/-- The markings that have been met, at their places. -/
def met (K : Nat → Nat → Int) (seen : Array Nat) : Nat → Nat → Int := fun j q => if seen.contains j = true then K j q else 0
theorem met_zero (K : Nat → Nat → Int) : met K #[] = fun _ _ => 0 := by funext j q; simp [met]
theorem met_push (K : Nat → Nat → Int) (seen : Array Nat) (i : Nat) : upd (met K seen) i (K i) = met K (seen.push i) := by
  funext j q
  unfold upd met
  rw [contains_push]
  by_cases h : j = i
  · subst h; simp
  · simp [h]
def leftIn (w : World) (b r : Nat) : Nat :=
  match w.heap[b]?, w.heap[r]? with
  | some (.map es _), some (.mapIter _ _ seen _) => (leftOf es seen).size
  | _, _ => 0
theorem left_is {w : World} {b r n since c0 : Nat} {K : Nat → Nat → Int} {V : Nat → Value} {seen : Array Nat} (hm : MapB w b n K V) (hr : w.heap[r]? = some (.mapIter (some b) since seen c0)) : leftIn w b r = (leftOf (entL K V 0 n).toArray seen).size := by
  unfold MapB at hm
  simp only [leftIn, hm, hr]
theorem entL_mem {K : Nat → Nat → Int} {V : Nat → Value} {n : Nat} {e : MapEntry} (h : e ∈ entL K V 0 n) : ∃ i, i < n ∧ e = ⟨mkV (K i), V i, i⟩ := by
  obtain ⟨i, hi⟩ := List.getElem?_of_mem h
  have hlt : i < n := by have := (List.getElem?_eq_some_iff.1 hi).1; rwa [entL_len] at this
  rw [entL_get K V n 0 i hlt] at hi
  simp only [Nat.zero_add, Option.some.injEq] at hi
  exact ⟨i, hlt, hi.symm⟩
theorem entL_has {K : Nat → Nat → Int} {V : Nat → Value} {n i : Nat} (h : i < n) : (⟨mkV (K i), V i, i⟩ : MapEntry) ∈ entL K V 0 n := by
  have := entL_get K V n 0 i h
  rw [Nat.zero_add] at this
  exact List.mem_of_getElem? this
theorem entL_born (K : Nat → Nat → Int) (V : Nat → Value) : ∀ n i, (entL K V i n).map (·.born) = List.range' i n
  | 0, _ => rfl
  | n + 1, i => by simp [entL, entL_born K V n, List.range'_succ]
end M
theorem info_mark : (Try.prog.info? 68).map (fun i => (i.zero, i.size, i.bytes)) = some (some (.agg #[.int .i64 0, .int .i64 0, .int .i64 0, .int .i64 0, .int .i64 0, .int .i64 0, .int .i64 0, .int .i64 0]), 8, 64) := by kernel_rfl
theorem make_marks (n : Nat) (h : n ≤ 1048576) (w : World) : (Instr.makeSlice 81 (.int .i64 (n : Int)) (.int .i64 (n : Int))).run Try.prog w = .ok (.slice (some ⟨w.heap.size, 0, none⟩) n n) (w.alloc (.cells (cf (n * 8) (vv8 fun _ _ => 0)) 68)) := by
  obtain ⟨i, hi, hz0, hz1, hz2⟩ := info_parts info_mark
  have hr := run_make (P := Try.prog) w 81 68 i _ Try.underlying81 hi hz0 .i64 .i64 (n : Int) (n : Int) (by omega) (Int.le_refl _) (by rw [hz2]; omega) (by omega)
  rw [hr, hz1]
  simp only [Int.toNat_natCast]
  rw [← made8]
  rfl
/-- 'len(m)' of a map that is known entry by entry. -/
theorem wpList_len_map {w : World} {ops : Array Oper} {rest : List Oper} {o : Oper} {a : Act} {Q : Exit → Act → World → Prop} (hg : o.guard = none) (m : Operand) (t : TypeId) (hop : o.op = Op.call { callee := Callee.builtin Builtin.len, args := #[m], argTypes := #[t] })
    (e : TypeId) (ht : Try.prog.underlying t = some (.map 68 e)) (b n : Nat) (K : Nat → Nat → Int) (V : Nat → Value) (hm : a.eval m = .map (some b)) (hb : MapB w b n K V)
    (hK : wpList Try.prog ops Q rest (a.put o.dst (.int .i64 (n : Int))) w) : wpList Try.prog ops Q (o :: rest) a w := by
  refine wpList_plain hg fun K' hK' => ?_
  have hlen : (Builtin.len_ #[t] o.type #[.map (some b)]).run Try.prog w = .ok (.int .i64 (n : Int)) w := by
    simp [Builtin.len_, run_underlying ht, Go.MapKept.run_getObj_map hb, goInt, Result.andThen, entL_len]
  unfold Oper.wp
  simp [execOp, hop, resolve, invoke, builtin, hm, hlen, Result.andThen]
  exact hK' _ _ hK
/-- A step of a range, by what it does. -/
theorem wpList_next_by {w : World} {ops : Array Oper} {rest : List Oper} {o : Oper} {a : Act} {Q : Exit → Act → World → Prop} (hg : o.guard = none) (it : Operand) (hop : o.op = Op.next it false) (r : Nat) (hit : a.eval it = .pointer (some ⟨r, 0, none⟩)) (v : Value) (w' : World)
    (hrun : ∀ ty, (Instr.next (.pointer (some ⟨r, 0, none⟩)) false ty).run Try.prog w = .ok v w') (hK : wpList Try.prog ops Q rest (a.put o.dst v) w') : wpList Try.prog ops Q (o :: rest) a w := by
  refine wpList_plain hg fun K' hK' => ?_
  unfold Oper.wp
  simp [execOp, hop, hit, hrun, Result.andThen]
  exact hK' _ _ hK
end Go.Proofs.Ythilapalgakhhaa
