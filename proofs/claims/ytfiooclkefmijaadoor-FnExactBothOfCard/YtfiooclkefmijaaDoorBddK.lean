/-
  Maps keyed by choices, known entry by entry in the order in which the keys were laid: what a look-up and a store do.
-/
import Derived.Test.YtfiooclkefmijaaDoorBddU
import Derived.MapKept
import Derived.ChangeMaps5
import Derived.Laws.StructEq
namespace Go.Proofs.YtfiooclkefmijaaDoor
open Go.RowKit M
open Clk (upd upd_same upd_other)
open Go.MapKept Go.ChangeMaps
namespace M
open Bdd
abbrev chV (c : Ch) : Value := .agg #[.int .i64 c.v, .int .i64 c.no, .int .i64 c.yes]
/-- The entries of a map, in the order in which their keys were laid: the element of the i-th points to the place P i. -/
def entC (P : Nat → Nat) : Nat → List Ch → List MapEntry
  | _, [] => []
  | i, c :: r => ⟨chV c, .pointer (some ⟨P i, 0, none⟩), i⟩ :: entC P (i + 1) r
theorem entC_len (P : Nat → Nat) : ∀ (l : List Ch) (i : Nat), (entC P i l).length = l.length
  | [], _ => rfl
  | c :: r, i => by simp [entC, entC_len P r]
theorem entC_snoc (P : Nat → Nat) (c : Ch) : ∀ (l : List Ch) (i : Nat), entC P i (l ++ [c]) = entC P i l ++ [⟨chV c, .pointer (some ⟨P (i + l.length), 0, none⟩), i + l.length⟩]
  | [], _ => rfl
  | d :: r, i => by
    rw [List.cons_append, entC, entC_snoc P c r (i + 1), entC, List.cons_append, List.length_cons, show i + 1 + r.length = i + (r.length + 1) by omega]
theorem entC_congr {P P' : Nat → Nat} : ∀ (l : List Ch) (i : Nat), (∀ j, i ≤ j → j < i + l.length → P j = P' j) → entC P i l = entC P' i l
  | [], _, _ => rfl
  | c :: r, i, h => by
    rw [entC, entC, h i (Nat.le_refl _) (by simp), entC_congr r (i + 1) (fun j h1 h2 => h j (by omega) (by simp only [List.length_cons]; omega))]
def MapC (w : World) (b : Nat) (l : List Ch) (P : Nat → Nat) : Prop := w.heap[b]? = some (.map (entC P 0 l).toArray l.length)
theorem MapC.lt {w : World} {b : Nat} {l : List Ch} {P : Nat → Nat} (h : MapC w b l P) : b < w.heap.size := by
  rcases Nat.lt_or_ge b w.heap.size with h' | h'
  · exact h'
  · unfold MapC at h; rw [Array.getElem?_eq_none h'] at h; cases h
theorem MapC.at {w w' : World} {b : Nat} {l : List Ch} {P : Nat → Nat} (h : MapC w b l P) (he : w'.heap[b]? = w.heap[b]?) : MapC w' b l P := by
  unfold MapC at *; rw [he]; exact h
theorem MapC.down {w w' : World} {b : Nat} {l : List Ch} {P : Nat → Nat} (h : MapC w b l P) (hb : Below w.heap.size w w') : MapC w' b l P := h.at (hb.block b h.lt)
theorem MapC.made (w : World) (P : Nat → Nat) : MapC (w.alloc (.map #[] 0)) w.heap.size [] P := heap_alloc_new w _
end M
theorem fields3 : (Tryd.prog.fieldsOf 66).toList = [⟨"Var", 3, 0, false, "", "", 0⟩, ⟨"No", 3, 1, false, "", "", 8⟩, ⟨"Yes", 3, 2, false, "", "", 16⟩] := by kernel_rfl
theorem under3 : Tryd.prog.underlying 66 = some (.struct (Tryd.prog.fieldsOf 66)) := by kernel_rfl
theorem part3 (cs : Array Value) (i : Nat) (x : Int) (h : cs[i]? = some (.int .i64 x)) (w : World) : (part 3 cs i).run Tryd.prog w = .ok (.int .i64 x) w := by
  simp [part, go_sem, h]
theorem eq3 (c d : Bdd.Ch) (w : World) : (Op.equalIn 10000 66 (chV c) (chV d)).run Tryd.prog w = .ok (decide (c = d)) w := by
  have he : ∀ (a b : Int) (w : World), (Op.equalIn 9999 3 (.int .i64 a) (.int .i64 b)).run Tryd.prog w = .ok (a == b) w := fun a b w => run_equalIn_int w 9998 3 .i64 .i64 a b Tryd.underlying3
  rw [show (10000 : Nat) = 9999 + 1 from rfl, run_equalIn_struct w 9999 66 _ _ under3 (by kernel_rfl), fields3]
  obtain ⟨a1, a2, a3⟩ := c
  obtain ⟨b1, b2, b3⟩ := d
  have p0 : ∀ (x y z : Int) (w : World), (part 3 #[.int .i64 x, .int .i64 y, .int .i64 z] 0).run Tryd.prog w = .ok (.int .i64 x) w := fun x y z w => part3 _ 0 x rfl w
  have p1 : ∀ (x y z : Int) (w : World), (part 3 #[.int .i64 x, .int .i64 y, .int .i64 z] 1).run Tryd.prog w = .ok (.int .i64 y) w := fun x y z w => part3 _ 1 y rfl w
  have p2 : ∀ (x y z : Int) (w : World), (part 3 #[.int .i64 x, .int .i64 y, .int .i64 z] 2).run Tryd.prog w = .ok (.int .i64 z) w := fun x y z w => part3 _ 2 z rfl w
  simp only [Op.eqFields, Sem.run_bind, Sem.run_ite, p0, p1, p2, he, Result.andThen_ok, Sem.run_pure, Bdd.Ch.mk.injEq]
  by_cases h1 : a1 = b1
  · by_cases h2 : a2 = b2
    · by_cases h3 : a3 = b3 <;> simp [h1, h2, h3]
    · simp [h1, h2]
  · simp [h1]
theorem check3 (em : Bool) (c : Bdd.Ch) (w : World) : (Instr.checkKey em 10000 66 (chV c)).run Tryd.prog w = .ok () w := by
  have hc : ∀ (a : Int) (w : World), (Instr.checkKey em 9999 3 (.int .i64 a)).run Tryd.prog w = .ok () w := fun a w => by
    rw [show (9999 : Nat) = 9998 + 1 from rfl]
    exact run_checkKey (d := .int .i64) Tryd.underlying3 (by simp [IsKey]) em 9998
  have p0 : ∀ (x y z : Int) (w : World), (part 3 #[.int .i64 x, .int .i64 y, .int .i64 z] 0).run Tryd.prog w = .ok (.int .i64 x) w := fun x y z w => part3 _ 0 x rfl w
  have p1 : ∀ (x y z : Int) (w : World), (part 3 #[.int .i64 x, .int .i64 y, .int .i64 z] 1).run Tryd.prog w = .ok (.int .i64 y) w := fun x y z w => part3 _ 1 y rfl w
  have p2 : ∀ (x y z : Int) (w : World), (part 3 #[.int .i64 x, .int .i64 y, .int .i64 z] 2).run Tryd.prog w = .ok (.int .i64 z) w := fun x y z w => part3 _ 2 z rfl w
  rw [show (10000 : Nat) = 9999 + 1 from rfl, Instr.checkKey]
  simp only [Sem.run_bind, run_underlying under3, Result.andThen_ok]
  rw [← Array.forIn_toList, fields3]
  simp [p0, p1, p2, hc]
theorem ask_no (P : Nat → Nat) (c : Bdd.Ch) (w : World) : ∀ (l : List Bdd.Ch) (i k : Nat), c ∉ l → (Instr.findAsking 66 (chV c) (entC P i l) k).run Tryd.prog w = .ok none w
  | [], i, k, _ => rfl
  | d :: r, i, k, h => by
    have h0 : decide (c = d) = false := by simp only [List.mem_cons, not_or] at h; simp [h.1]
    simp only [entC, Instr.findAsking, Sem.run_bind, Op.equal]
    rw [show Op.maxDepth = 10000 from rfl, eq3 c d w, h0]
    simp only [Result.andThen_ok]
    exact ask_no P c w r (i + 1) (k + 1) (fun hm => h (List.mem_cons_of_mem _ hm))
theorem ask_yes (P : Nat → Nat) (c : Bdd.Ch) (w : World) : ∀ (l : List Bdd.Ch) (i k : Nat), c ∈ l → (Instr.findAsking 66 (chV c) (entC P i l) k).run Tryd.prog w = .ok (some (k + l.idxOf c, .pointer (some ⟨P (i + l.idxOf c), 0, none⟩))) w
  | [], i, k, h => by cases h
  | d :: r, i, k, h => by
    simp only [entC, Instr.findAsking, Sem.run_bind, Op.equal]
    rw [show Op.maxDepth = 10000 from rfl, eq3 c d w]
    by_cases e : c = d
    · subst e
      simp
    · have hm : c ∈ r := by simpa [e] using h
      have := ask_yes P c w r (i + 1) (k + 1) hm
      have e' : (d == c) = false := by simp; exact fun h => e h.symm
      rw [List.idxOf_cons, e', show i + 1 + r.idxOf c = i + (r.idxOf c + 1) by omega, show k + 1 + r.idxOf c = k + (r.idxOf c + 1) by omega] at *
      simp [e]
      simpa using this
theorem find3_no (P : Nat → Nat) (c : Bdd.Ch) (w : World) (l : List Bdd.Ch) (h : c ∉ l) : (Instr.findKey 66 (chV c) (entC P 0 l)).run Tryd.prog w = .ok none w := by
  simp only [Instr.findKey, Sem.run_bind, run_underlying under3, Result.andThen_ok]
  cases l with
  | nil => rfl
  | cons d r => exact ask_no P c w (d :: r) 0 0 h
theorem find3_yes (P : Nat → Nat) (c : Bdd.Ch) (w : World) (l : List Bdd.Ch) (h : c ∈ l) : (Instr.findKey 66 (chV c) (entC P 0 l)).run Tryd.prog w = .ok (some (l.idxOf c, .pointer (some ⟨P (l.idxOf c), 0, none⟩))) w := by
  simp only [Instr.findKey, Sem.run_bind, run_underlying under3, Result.andThen_ok]
  cases l with
  | nil => cases h
  | cons d r =>
    have := ask_yes P c w (d :: r) 0 0 h
    rw [Nat.zero_add] at this
    exact this
theorem zeroPtr (w : World) : (zeroValue 96).run Tryd.prog w = .ok (.pointer none) w := by
  have h : (Tryd.prog.info? 96).map (fun i => i.zero) = some (some (.pointer none)) := by kernel_rfl
  cases hi : Tryd.prog.info? 96 with
  | none => rw [hi] at h; cases h
  | some ti =>
    rw [hi] at h
    simp only [Option.map_some, Option.some.injEq] at h
    simp [zeroValue, typeInfo, hi, h]
theorem look3_yes {w : World} {b : Nat} {l : List Bdd.Ch} {P : Nat → Nat} (hm : MapC w b l P) (c : Bdd.Ch) (h : c ∈ l) :
    (Instr.lookup 80 (.map (some b)) (chV c) false).run Tryd.prog w = .ok (.pointer (some ⟨P (l.idxOf c), 0, none⟩)) w := by
  simp only [Instr.lookup, Sem.run_bind, run_underlying Tryd.underlying80, Result.andThen_ok, Go.MapKept.run_getObj_map hm, Sem.run_pure, check3]
  rw [find3_yes P c w l h]
  rfl
theorem look3_no {w : World} {b : Nat} {l : List Bdd.Ch} {P : Nat → Nat} (hm : MapC w b l P) (c : Bdd.Ch) (h : c ∉ l) :
    (Instr.lookup 80 (.map (some b)) (chV c) false).run Tryd.prog w = .ok (.pointer none) w := by
  simp only [Instr.lookup, Sem.run_bind, run_underlying Tryd.underlying80, Result.andThen_ok, Go.MapKept.run_getObj_map hm, Sem.run_pure, check3]
  rw [find3_no P c w l h]
  simp only [Result.andThen_ok, Sem.run_bind, zeroPtr, Sem.run_pure]
  rfl
theorem store3 {w : World} {b : Nat} {l : List Bdd.Ch} {P : Nat → Nat} (hm : MapC w b l P) (c : Bdd.Ch) (p : Nat) (h : c ∉ l) :
    ∃ w', (Instr.mapUpdate 80 (.map (some b)) (chV c) (.pointer (some ⟨p, 0, none⟩))).run Tryd.prog w = .ok () w' ∧ MapC w' b (l ++ [c]) (upd P l.length p) ∧ (∀ k, k ≠ b → w'.heap[k]? = w.heap[k]?) ∧ w'.heap.size = w.heap.size ∧ w'.os = w.os ∧ w'.tape = w.tape ∧ w'.output = w.output := by
  refine ⟨setBlock w b (.map ((entC P 0 l).toArray.push ⟨chV c, .pointer (some ⟨p, 0, none⟩), l.length⟩) (l.length + 1)), ?_, ?_, fun k hk => heap_setBlock_other hm _ hk, by simp [setBlock], rfl, rfl, rfl⟩
  · simp only [Instr.mapUpdate, Sem.run_bind, run_underlying Tryd.underlying80, Result.andThen_ok, Go.MapKept.run_getObj_map hm, check3]
    rw [find3_no P c w l h]
    simp only [Result.andThen_ok, Go.MapKept.run_setObj_map _ hm]
    rfl
  · have hl : (entC (upd P l.length p) 0 (l ++ [c])).toArray = (entC P 0 l).toArray.push ⟨chV c, .pointer (some ⟨p, 0, none⟩), l.length⟩ := by
      rw [entC_snoc, Nat.zero_add, upd_same, entC_congr (P := upd P l.length p) (P' := P) l 0 (fun j _ hj => upd_other _ _ _ _ (by omega))]
      simp
    unfold MapC
    rw [hl, List.length_append, List.length_cons, List.length_nil]
    exact heap_setBlock_same hm _
end Go.Proofs.YtfiooclkefmijaaDoor
