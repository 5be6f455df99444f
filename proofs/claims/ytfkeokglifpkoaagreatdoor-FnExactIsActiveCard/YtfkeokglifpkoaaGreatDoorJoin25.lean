/-
  Rows of branches of the call's own, as slices one by one: what is appended to them, and one put in at a place (the library's slices.Insert at this struct).
-/
import Derived.Test.YtfkeokglifpkoaaGreatDoorJoin23
import Derived.Maps.AppendAt
import Derived.Lib.AppendZeros
import Derived.Lib.AppendZerosOnto
import Derived.Laws.AppendOwnNone
import Derived.Laws.NewBlocks
import Derived.Deep.RegionLaw
import Derived.Shelf.Spec.SlicesInsertGrow
namespace Go.Proofs.YtfkeokglifpkoaaGreatDoor
open Go.RowKit M
open Go.Sort (grow)
namespace M
theorem add_lit (b o j : Nat) : (⟨b, o, none⟩ : Addr).add j = ⟨b, o + j, none⟩ := by unfold Addr.add; split <;> simp_all
structure Sl where
  a : Option Addr
  n : Nat
  c : Nat
def Sl.sv (s : Sl) : Value := .slice s.a s.n s.c
def cellsB (l : List Sl) : List Value := l.map Sl.sv
theorem cellsB_len (l : List Sl) : (cellsB l).length = l.length := by simp [cellsB]
theorem cellsB_app (a b : List Sl) : cellsB (a ++ b) = cellsB a ++ cellsB b := by simp [cellsB]
theorem cellsB_take (l : List Sl) (i : Nat) : cellsB (l.take i) = (cellsB l).take i := by simp [cellsB, List.map_take]
theorem cellsB_drop (l : List Sl) (i : Nat) : cellsB (l.drop i) = (cellsB l).drop i := by simp [cellsB, List.map_drop]
theorem cellsB_at (l : List Sl) (i : Nat) (d : Sl) (h : l[i]? = some d) : (cellsB l)[i]? = some d.sv := by simp [cellsB, h]
theorem cellsB_one (l : List Sl) : ∀ v ∈ cellsB l, v.oneCell' = true := by
  intro v hv
  unfold cellsB at hv
  rw [List.mem_map] at hv
  obtain ⟨s, _, rfl⟩ := hv
  rfl
/-- A row of branches of the call's own. -/
def OwnB1 (w : World) (B : Nat) (v : Value) (l : List Sl) : Prop := w.ownsRow B 81 1 v l.length (cellsB l)
theorem OwnB1.down {w w' : World} {B : Nat} {v : Value} {l : List Sl} (h : OwnB1 w B v l) (hb : Below w.heap.size w w') : OwnB1 w' B v l := owns_below h hb
theorem OwnB1.split {w : World} {B : Nat} {v : Value} {l : List Sl} (h : OwnB1 w B v l) : (v = .slice none 0 0 ∧ l = []) ∨ ∃ g cap, v = .slice (some ⟨g, 0, none⟩) l.length cap ∧ B ≤ g ∧ g < w.heap.size ∧ l.length ≤ cap ∧ cap ≤ maxLen := by
  rcases h.2 with ⟨rfl, h0⟩ | ⟨g, cap, cur, rfl, hB, hg, hn, hc, hs, ht⟩
  · exact .inl ⟨rfl, List.eq_nil_of_length_eq_zero h0⟩
  · exact .inr ⟨g, cap, rfl, hB, blk_lt hg, hn, hc⟩
theorem OwnB1.form {w : World} {B : Nat} {v : Value} {l : List Sl} (h : OwnB1 w B v l) : ∃ a c, v = .slice a l.length c := by
  rcases h.split with ⟨rfl, rfl⟩ | ⟨g, cap, rfl, _⟩
  · exact ⟨_, _, rfl⟩
  · exact ⟨_, _, rfl⟩
theorem OwnB1.len {w : World} {B n cap : Nat} {a : Option Addr} {l : List Sl} (h : OwnB1 w B (.slice a n cap) l) : n = l.length := by
  obtain ⟨a', c', hv⟩ := h.form
  simp only [Value.slice.injEq] at hv; exact hv.2.1
theorem OwnB1.lt {w : World} {B g : Nat} {v : Value} {l : List Sl} (h : OwnB1 w B v l) (hg : v.ownBlock = some g) : B ≤ g ∧ g < w.heap.size := own_lt h hg
theorem OwnB1.cell {w : World} {B g n cap : Nat} {l : List Sl} (h : OwnB1 w B (.slice (some ⟨g, 0, none⟩) n cap) l) {j : Nat} {x : Value} (hj : (cellsB l)[j]? = some x) : w.cell? ⟨g, j, none⟩ = some x := by
  have e := h.len
  subst e
  exact own1_cell h hj
def VlsOf (w : World) (v : Value) (l : List Sl) : Prop :=
  ∃ a cap, v = .slice a l.length cap ∧ (0 < l.length → ∃ b off, a = some ⟨b, off, none⟩ ∧ b < w.heap.size ∧ ∀ (i : Nat) y, l[i]? = some y → w.cell? ⟨b, off + i, none⟩ = some y.sv)
theorem VlsOf.below {w w' : World} {v : Value} {l : List Sl} (h : VlsOf w v l) (hb : Below w.heap.size w w') : VlsOf w' v l := by
  obtain ⟨a, cap, hv, hr⟩ := h
  refine ⟨a, cap, hv, fun hp => ?_⟩
  obtain ⟨b, off, ha, hlt, hrow⟩ := hr hp
  exact ⟨b, off, ha, Nat.lt_of_lt_of_le hlt hb.size, fun i y hi => (hb.cell (p := ⟨b, off + i, none⟩) hlt).trans (hrow i y hi)⟩
theorem OwnB1.alloc {w : World} {B : Nat} {v : Value} {l : List Sl} (h : OwnB1 w B v l) (o : Obj) : OwnB1 (w.alloc o) B v l := h.down ((Below.refl _ w).alloc (Nat.le_refl _) o)
theorem OwnB1.lit0 (w : World) : OwnB1 (w.alloc (.cells #[] 81)) w.heap.size (.slice (some ⟨w.heap.size, 0, none⟩) 0 0) [] :=
  World.ownsRow_lit (base := w.heap.size) (e := 81) (size := 1) w #[] 0 (Nat.le_refl _) (Nat.zero_le _) rfl
theorem lit_br {w : World} {vb : Nat} {d : Sl} (h : Blk w vb 1 (fun _ => d.sv) 81) : VlsOf w (.slice (some ⟨vb, 0, none⟩) 1 1) [d] := by
  refine ⟨_, _, rfl, fun _ => ⟨vb, 0, rfl, h.lt, fun i y hi => ?_⟩⟩
  match i, hi with
  | 0, hi => simp at hi; subst hi; exact h.cell (show 0 < 1 by omega)
theorem VlsOf.src {w : World} {b off n cap : Nat} {l : List Sl} (h : VlsOf w (.slice (some ⟨b, off, none⟩) n cap) l) : ∀ j u, (cellsB l)[j]? = some u → w.cell? ((⟨b, off, none⟩ : Addr).add j) = some u := fun j u hj => by
  have hl : j < l.length := by
    have := (List.getElem?_eq_some_iff.1 hj).1
    rwa [cellsB_len] at this
  obtain ⟨a, c, hv, hr⟩ := h
  simp only [Value.slice.injEq] at hv
  obtain ⟨rfl, -, -⟩ := hv
  obtain ⟨b', off', ha, _, hrow⟩ := hr (by omega)
  simp only [Option.some.injEq, Addr.mk.injEq, and_true] at ha
  obtain ⟨rfl, rfl⟩ := ha
  rw [add_lit]
  have hd : l[j]? = some l[j] := List.getElem?_eq_getElem hl
  have := cellsB_at l j _ hd
  rw [this] at hj
  rw [hrow _ _ hd]; exact hj
/-- Branches appended to a row of the call's own. -/
theorem wpList_appB1 (w : World) {ops : Array Oper} {rest : List Oper} {o : Oper} {a : Act} {Q : Exit → Act → World → Prop} (hgd : o.guard = none) (s x : Operand)
    (ho : o.op = .call { callee := .builtin .append, args := #[s, x], argTypes := #[30, 30] }) (B : Nat) (l0 l : List Sl) (v : Value) (hs : a.eval s = v) (hown : OwnB1 w B v l0)
    (b off cu : Nat) (hx : a.eval x = .slice (some ⟨b, off, none⟩) l.length cu) (hu : VlsOf w (.slice (some ⟨b, off, none⟩) l.length cu) l) (hl : l0.length + l.length ≤ 2097152) (hbase : B ≤ w.heap.size)
    (h : ∀ a' n' c' w', OwnB1 w' B (.slice a' n' c') (l0 ++ l) → w.grownBy w' v.ownBlock → ((Value.slice a' n' c').ownBlock = v.ownBlock ∨ (Value.slice a' n' c').ownBlock = some w.heap.size) → wpList Tryz.prog ops Q rest (a.put o.dst (.slice a' n' c')) w') : wpList Tryz.prog ops Q (o :: rest) a w := by
  obtain ⟨i0, hi, hz0, hz1, hz2⟩ := info_parts info_br
  obtain ⟨v', w', hr, hown', hgr, -, hblk⟩ := run_append_own_at (P := Tryz.prog) (w := w) B 30 o.type 81 i0 _ 1 24 Tryz.underlying30 hi hz0 hz1 hz2 rfl (by decide) v _ _ hown ⟨b, off, none⟩ l.length cu (cellsB l) (by rw [cellsB_len]; omega) hu.src (cellsB_one l) (by unfold maxLen; omega) (by omega) hbase
  have hO : OwnB1 w' B v' (l0 ++ l) := by
    unfold OwnB1
    rw [List.length_append, cellsB_app]; exact hown'
  obtain ⟨a', c', rfl⟩ := hO.form
  exact Lib.wpList_append_run (P := Tryz.prog) w hgd s x 30 30 ho _ _ hs hx _ _ hr (h _ _ _ w' hO hgr hblk)
/-- A copy of cells of branches: all is read first. -/
theorem run_copy_brs (w : World) (ty : TypeId) (b o dn dc : Nat) (a : Addr) (sn sc : Nat) (cs : List Value) (k : Nat) (hk : Nat.min sn dn = k) (hcl : cs.length = k)
    (hsrc : ∀ j v, cs[j]? = some v → w.cell? (a.add j) = some v) (hc : ∀ j, j < cs.length → (w.cell? ⟨b, o + j, none⟩).isSome = true) (hf : ∀ j, j < cs.length → w.frozen? ⟨b, o + j, none⟩ = false) (h1 : ∀ v ∈ cs, v.oneCell' = true) :
    (Builtin.copy_ #[30, 30] ty #[.slice (some ⟨b, o, none⟩) dn dc, .slice (some a) sn sc]).run Tryz.prog w = .ok (goInt k) (w.setCells b o cs) := by
  obtain ⟨i, hi, hz0, hz1, hz2⟩ := info_parts info_br
  have hl := run_loadCells_list (P := Tryz.prog) w a cs hsrc
  have hst := run_storeCells_cells (P := Tryz.prog) b o cs 0 w (by simpa using hc) (by simpa using hf) h1
  rw [hcl] at hl
  simp [Builtin.copy_, run_underlying Tryz.underlying30, Builtin.lenOf, Builtin.firstCells, sizeOf, typeInfo, hi, hz1, hk, hl, hst]
theorem set_blkB {g : Nat} {e : TypeId} : ∀ (vs : List Value) (o : Nat) (w : World) (cur : Array Value), w.heap[g]? = some (.cells cur e (0, 0)) → ∃ cur', (w.setCells g o vs).heap[g]? = some (.cells cur' e (0, 0)) ∧ cur'.size = cur.size
  | [], _, _, cur, h => ⟨cur, h, rfl⟩
  | v :: r, o, w, cur, h => by
    obtain ⟨c2, h2, h3⟩ := set_blkB r (o + 1) (w.setCell ⟨g, o, none⟩ v) _ (heap_setCell_same w g o cur e v h)
    exact ⟨c2, h2, by rw [h3]; simp⟩
theorem own_ofB {w : World} {B g n cap : Nat} {l : List Sl} {cur : Array Value} (hB : B ≤ g) (hg : w.heap[g]? = some (.cells cur 81 (0, 0))) (hs : cur.size = cap) (hn : n = l.length) (hc : n ≤ cap) (hm : cap ≤ maxLen)
    (hcell : ∀ j u, (cellsB l)[j]? = some u → w.cell? ⟨g, j, none⟩ = some u) : OwnB1 w B (.slice (some ⟨g, 0, none⟩) n cap) l := by
  subst hn
  refine ⟨by rw [cellsB_len]; omega, .inr ⟨g, cap, cur, rfl, hB, hg, hc, hm, by omega, ?_⟩⟩
  apply List.ext_getElem?
  intro j
  rw [List.getElem?_take]
  by_cases hj : j < l.length
  · have hj2 : j < (cellsB l).length := by rw [cellsB_len]; exact hj
    rw [if_pos (by omega), List.getElem?_eq_getElem hj2]
    have h1 := hcell j _ (List.getElem?_eq_getElem hj2)
    simpa [World.cell?, hg] using h1
  · rw [if_neg (by omega), List.getElem?_eq_none (by rw [cellsB_len]; omega)]
theorem OwnB1.row {w : World} {B g n cap : Nat} {l : List Sl} (h : OwnB1 w B (.slice (some ⟨g, 0, none⟩) n cap) l) : ∃ cur, w.heap[g]? = some (.cells cur 81 (0, 0)) ∧ cur.size = cap ∧ B ≤ g ∧ n = l.length ∧ n ≤ cap ∧ cap ≤ maxLen := by
  have e := h.len
  subst e
  rcases h.2 with ⟨h0, _⟩ | ⟨g', cap', cur, hv, hB, hg, hn, hc, hs, ht⟩
  · cases h0
  · simp only [Value.slice.injEq, Option.some.injEq, Addr.mk.injEq, and_true, true_and] at hv
    obtain ⟨rfl, rfl⟩ := hv
    exact ⟨cur, hg, by omega, hB, rfl, hn, hc⟩
theorem gbB_trans {a b c : World} {row : Option Nat} (h : a.grownBy b row) (h2 : b.grownBy c row) : a.grownBy c row :=
  ⟨h2.os.trans h.os, h2.tape.trans h.tape, h2.output.trans h.output, Nat.le_trans h.size h2.size, fun k hk hne => (h2.block k (Nat.lt_of_lt_of_le hk h.size) hne).trans (h.block k hk hne)⟩
theorem gbB_cells {g : Nat} : ∀ (vs : List Value) (o : Nat) (w : World), w.grownBy (w.setCells g o vs) (some g)
  | [], _, w => gbT_refl w _
  | v :: r, o, w => gbB_trans (gbT_set (o := o) (v := v) (gbT_refl w (some g))) (gbB_cells r (o + 1) (w.setCell ⟨g, o, none⟩ v))
theorem gbB_drew {w w' : World} {row : Option Nat} (h : w.grownBy w' row) : w.grownBy w'.drew row := ⟨h.os, h.tape, h.output, h.size, h.block⟩
theorem gbB_alloc {w w' : World} {row : Option Nat} (h : w.grownBy w' row) (o : Obj) : w.grownBy (w'.alloc o) row :=
  gbT_below h ((Below.refl _ w').alloc (Nat.le_refl _) o)
theorem gbB_new {w w' : World} {g : Nat} (h : w.grownBy w' none) (hg : w.heap.size ≤ g) (o : Nat) (vs : List Value) : w.grownBy (w'.setCells g o vs) none :=
  have h2 := gbB_cells (g := g) vs o w'
  ⟨h2.os.trans h.os, h2.tape.trans h.tape, h2.output.trans h.output, Nat.le_trans h.size h2.size, fun k hk hne => (h2.block k (Nat.lt_of_lt_of_le hk h.size) (fun e => by simp only [Option.some.injEq] at e; omega)).trans (h.block k hk hne)⟩
theorem gbB_any {w w' : World} {row : Option Nat} (h : w.grownBy w' none) : w.grownBy w' row := ⟨h.os, h.tape, h.output, h.size, fun k hk _ => h.block k hk (fun e => by cases e)⟩
theorem rowB_some {w : World} {g cap j : Nat} {cur : Array Value} {e : TypeId} (hg : w.heap[g]? = some (.cells cur e (0, 0))) (hs : cur.size = cap) (hj : j < cap) : (w.cell? ⟨g, j, none⟩).isSome = true := by
  have h1 : w.cell? ⟨g, j, none⟩ = cur[j]? := by simp [World.cell?, hg]
  rw [h1, Array.getElem?_eq_getElem (by omega)]; rfl
theorem rowB_cell {w : World} {g : Nat} {cur : Array Value} {e : TypeId} (hg : w.heap[g]? = some (.cells cur e (0, 0))) (j : Nat) : w.cell? ⟨g, j, none⟩ = cur[j]? := by simp [World.cell?, hg]
theorem rowB_thaw {w : World} {g : Nat} {cur : Array Value} {e : TypeId} (hg : w.heap[g]? = some (.cells cur e (0, 0))) (j : Nat) : w.frozen? ⟨g, j, none⟩ = false := by simp [World.frozen?, hg]
theorem rowB_shape {w : World} {g : Nat} {cur : Array Value} {e : TypeId} (hg : w.heap[g]? = some (.cells cur e (0, 0))) : w.shape? g = some (e, cur.size) := by simp [World.shape?, hg]
/-- The cells of a list with one branch put in at i. -/
theorem cells_put (l : List Sl) (i : Nat) (d : Sl) : cellsB (l.take i ++ d :: l.drop i) = (cellsB l).take (i) ++ cellsB [d] ++ (cellsB l).drop (i) := by
  rw [show d :: l.drop i = [d] ++ l.drop i from rfl, cellsB_app, cellsB_app, cellsB_take, cellsB_drop, List.append_assoc]
theorem put_cell {l : List Sl} {i j : Nat} {d : Sl} {u : Value} (hi : i ≤ l.length) (h : (cellsB (l.take i ++ d :: l.drop i))[j]? = some u) :
    (j < i ∧ (cellsB l)[j]? = some u) ∨ (i ≤ j ∧ j < i + 1 ∧ (cellsB [d])[j - i]? = some u) ∨ (i + 1 ≤ j ∧ (cellsB l)[j - 1]? = some u) := by
  rw [cells_put] at h
  have e : ((cellsB l).take (i)).length = i := by rw [List.length_take, cellsB_len]; omega
  have e3 : (cellsB [d]).length = 1 := rfl
  rcases (show j < i ∨ (i ≤ j ∧ j < i + 1) ∨ i + 1 ≤ j by omega) with c | ⟨c, c2⟩ | c
  · refine .inl ⟨c, ?_⟩
    rw [List.append_assoc, List.getElem?_append_left (by omega), List.getElem?_take, if_pos c] at h; exact h
  · refine .inr (.inl ⟨c, c2, ?_⟩)
    rw [List.append_assoc, List.getElem?_append_right (by omega), e, List.getElem?_append_left (by omega)] at h; exact h
  · refine .inr (.inr ⟨c, ?_⟩)
    rw [List.getElem?_append_right (by rw [List.length_append]; omega), List.length_append, e, e3, List.getElem?_drop] at h
    rw [← h]; congr 1; omega
end M
namespace M
/-- What slices.Insert leaves where there is no room. -/
def GrewB (w w' : World) (l : List Sl) (i : Nat) (d : Sl) (e : Ending) : Prop :=
  ∃ (G : Nat) (ROW : Array Value), l.length + 1 ≤ G ∧ G ≤ maxLen ∧ ROW.size = G ∧ (∀ j, j < i → ROW[j]? = (cellsB l)[j]?) ∧ e = .returned (.slice (some ⟨w.heap.size, 0, none⟩) (l.length + 1) G) ∧
      w' = ((w.drew.alloc (.cells ROW 81)).setCells w.heap.size (i) (cellsB [d])).drew.setCells w.heap.size ((i + 1)) ((cellsB l).drop (i))
end M
set_option maxHeartbeats 4000000 in
set_option maxRecDepth 100000 in
theorem ins_shift (g cap i vb : Nat) (l : List Sl) (d : Sl) (B : Nat) (w : World) (h : OwnB1 w B (.slice (some ⟨g, 0, none⟩) l.length cap) l) (hi : i < l.length) (hroom : l.length + 1 ≤ cap) (hl : l.length ≤ 1048576) (hne : vb ≠ g) (hvb : Blk w vb 1 (fun _ => d.sv) 81) :
    Calls Tryz.prog 157 #[.slice (some ⟨g, 0, none⟩) l.length cap, .int .i64 (i : Int), .slice (some ⟨vb, 0, none⟩) 1 1] w fun e w' =>
      e = .returned (.slice (some ⟨g, 0, none⟩) (l.length + 1) cap) ∧ w' = (w.drew.setCells g ((i + 1)) ((cellsB l).drop (i))).setCells g (i) (cellsB [d]) := by
  obtain ⟨cur, hcur, hcs, -, -, -, hcm⟩ := h.row
  unfold maxLen at hcm
  have hz2 : ¬ ((i : Int) = (l.length : Int)) := by omega
  have hvb' : w.heap[vb]? = some (.cells (cf 1 (fun _ => d.sv)) 81 (0, 0)) := hvb
  have hov : ∀ lb cb, (callFunc 182 #[.slice (some ⟨vb, 0, none⟩) 1 1, .slice (some ⟨g, (i + 1), none⟩) lb cb]).run Tryz.prog w = .ok (.value (.bool false)) w := fun lb cb => by
    rw [run_callFunc_extern Tryz.func182 (by kernel_rfl) (by kernel_rfl) (by kernel_rfl) (e := Extern.SlicesOverlaps.overlaps #[30, 30] #[4]) (by kernel_rfl),
      Lib.run_overlaps_apart w 30 4 81 Tryz.underlying30 1 Tryz.sizeOf81 ⟨vb, 0, none⟩ ⟨g, (i + 1), none⟩ 1 1 lb cb hne 81 81 1 cap (by rw [rowB_shape hvb']; rfl) (by rw [rowB_shape hcur, hcs]) (by omega) (rowB_thaw hvb' 0) (rowB_thaw hvb' 1)]
    rfl
  have hdl : ((cellsB l).drop (i)).length = (l.length - i) := by rw [List.length_drop, cellsB_len]
  have hd : w.drew.heap[g]? = some (.cells cur 81 (0, 0)) := hcur
  have hcp1 : ∀ ty dc sc, (Builtin.copy_ #[30, 30] ty #[.slice (some ⟨g, (i + 1), none⟩) (l.length - i) dc, .slice (some ⟨g, i, none⟩) (l.length + 1 - i) sc]).run Tryz.prog w.drew = .ok (goInt (l.length - i : Nat)) (w.drew.setCells g ((i + 1)) ((cellsB l).drop (i))) := fun ty dc sc =>
    run_copy_brs w.drew ty g ((i + 1)) _ dc ⟨g, i, none⟩ _ sc _ (l.length - i) (by simp only [Nat.min_def]; split <;> omega) hdl
      (fun j v hj => by rw [add_lit]; exact h.cell (by rwa [List.getElem?_drop] at hj))
      (fun j hj => rowB_some hd hcs (by omega)) (fun j hj => rowB_thaw hd _) (fun v hv => cellsB_one l v (List.mem_of_mem_drop hv))
  obtain ⟨W1, hW1⟩ : ∃ W1, w.drew.setCells g ((i + 1)) ((cellsB l).drop (i)) = W1 := ⟨_, rfl⟩
  obtain ⟨c1, hc1, hs1⟩ := set_blkB ((cellsB l).drop (i)) ((i + 1)) w.drew cur hd
  rw [hW1] at hc1 hcp1 ⊢
  have hvW : ∀ j v, (cellsB [d])[j]? = some v → W1.cell? ⟨vb, 0 + j, none⟩ = some v := fun j v hj => by
    rw [← hW1, World.cell?_setCells_out g _ _ _ _ (fun h _ => absurd h hne)]
    have := (lit_br hvb).src j v hj
    rw [add_lit] at this
    exact this
  have hcp2 : ∀ (W : World), (∀ x, W.cell? x = W1.cell? x) → (∀ x, W.frozen? x = W1.frozen? x) → ∀ ty dc, (Builtin.copy_ #[30, 30] ty #[.slice (some ⟨g, i, none⟩) (l.length + 1 - i) dc, .slice (some ⟨vb, 0, none⟩) 1 1]).run Tryz.prog W = .ok (goInt 1) (W.setCells g (i) (cellsB [d])) := fun W hWc hWf ty dc =>
    run_copy_brs W ty g (i) _ dc ⟨vb, 0, none⟩ 1 1 _ 1 (by simp only [Nat.min_def]; split <;> omega) rfl
      (fun j v hj => by rw [add_lit, hWc]; exact hvW j v hj)
      (fun j hj => by rw [hWc]; exact rowB_some hc1 rfl (by have : (cellsB [d]).length = 1 := rfl; omega)) (fun j hj => by rw [hWf]; exact rowB_thaw hc1 _) (cellsB_one [d])
  have HC2 := hide hcp2
  have hw1 : IntKind.i64.wrap ((i : Int) + 1) = (i : Int) + 1 := by rw [IntKind.wrap_i64]; omega
  have hb1 : (0 : Int) ≤ (i : Int) + 1 := by omega
  have htn : ((i : Int) + 1).toNat = i + 1 := by omega
  have hb2 : ¬ (cap = i + 1) := by omega
  have hb3 : (i : Int) ≤ (l.length : Int) + 1 := by omega
  have hb4 : ¬ (cap = i) := by omega
  have hb5 : (i : Int) + 1 ≤ (l.length : Int) + 1 := by omega
  have hb6 : l.length + 1 - (i + 1) = l.length - i := by omega
  clear hcp2 hc1 hvW hd hvb' hcur hcs hs1
  go_enter Tryz.func157, Tryz.ntmps157
  go_wp2_with (simp only [hov])
  go_region_law (refine step_copy_runI rfl _ _ 30 30 rfl _ _ (by simp [Act.eval, Act.put]) (by simp [Act.eval, Act.put]) (hcp1 _ _ _) ?_)
  have hcp2W := HC2.out W1 (fun _ => rfl) (fun _ => rfl)
  go_wp2
  go_ret
  exact ⟨rfl, rfl⟩
set_option maxHeartbeats 4000000 in
set_option maxRecDepth 100000 in
theorem ins_grow (g cap i vb : Nat) (l : List Sl) (d : Sl) (B : Nat) (w : World) (h : OwnB1 w B (.slice (some ⟨g, 0, none⟩) l.length cap) l) (hi : i < l.length) (hroom : cap < l.length + 1) (hl : l.length ≤ 1048576) (hvb : Blk w vb 1 (fun _ => d.sv) 81) :
    Calls Tryz.prog 157 #[.slice (some ⟨g, 0, none⟩) l.length cap, .int .i64 (i : Int), .slice (some ⟨vb, 0, none⟩) 1 1] w fun e w' => GrewB w w' l i d e := by
  obtain ⟨cur, hcur, hcs, -, -, hlc, hcm⟩ := h.row
  unfold maxLen at hcm
  obtain ⟨i0, hi0, hz0, hzs, hzb⟩ := info_parts info_br
  have hgw : g < w.heap.size := (h.lt rfl).2
  have hz2 : ¬ ((i : Int) = (l.length : Int)) := by omega
  have hz3 : (cap : Int) < (l.length : Int) + 1 := by omega
  have hkk : (l.length : Int) + 1 - (i : Int) = ((l.length + 1 - i : Nat) : Int) := by omega
  have hik : i + (l.length + 1 - i) = l.length + 1 := by omega
  have hold : (Builtin.firstCells i0.size i (.slice (some ⟨g, 0, none⟩) i cap)).run Tryz.prog w.drew = .ok ((cellsB l).take (i)).toArray w.drew := by
    rw [hzs]
    exact run_firstCells_some w.drew 1 i ⟨g, 0, none⟩ i cap ((cellsB l).take (i)) (by rw [List.length_take, cellsB_len]; omega) (fun j v hj => by
      rw [add_lit, Nat.zero_add]
      rw [List.getElem?_take] at hj
      split at hj
      · exact h.cell hj
      · cases hj)
  have hrz0 := fun ty => Lib.run_append_grow_zeros (P := Tryz.prog) w 30 3 ty 81 i0 _ .i64 .i64 Tryz.underlying30 Tryz.underlying3 hi0 hz0 (some ⟨g, 0, none⟩) i cap _ hold (l.length + 1 - i) (by omega) (by rw [hzs]; omega) (by omega) (by omega) (by rw [hzb]; omega) (by rw [hzb, hik]; exact growslice_fits (by omega) (by omega))
  rw [hik] at hrz0
  obtain ⟨G, hG⟩ : ∃ G, grownCap w (l.length + 1) cap 81 = G := ⟨_, rfl⟩
  have hGn : l.length + 1 ≤ G := by rw [← hG]; exact grownCap_ge _ _ _ _
  have hGm : G ≤ maxLen := by rw [← hG]; exact grownCap_le_maxLen _ _ _ _ (by unfold maxLen; omega)
  rw [hG] at hrz0
  obtain ⟨ROW, hROW⟩ : ∃ ROW : Array Value, ((cellsB l).take (i)).toArray ++ Builtin.zeroCells (Value.agg #[.slice none 0 0]).cells (l.length + 1 - i) ++ Builtin.zeroCells (Value.agg #[.slice none 0 0]).cells (G - (l.length + 1)) = ROW := ⟨_, rfl⟩
  have hRs : ROW.size = G := by
    rw [← hROW]
    simp [Builtin.zeroCells, Value.cells, cellsB_len]
    omega
  have hRh : ∀ j, j < i → ROW[j]? = (cellsB l)[j]? := fun j hj => by
    rw [← hROW, Array.append_assoc, Array.getElem?_append_left (by simp [cellsB_len]; omega), List.getElem?_toArray, List.getElem?_take, if_pos hj]
  simp only [hROW] at hrz0
  obtain ⟨W1, hW1⟩ : ∃ W1, w.drew.alloc (.cells ROW 81) = W1 := ⟨_, rfl⟩
  rw [hW1] at hrz0
  have hrz : ∀ ty, (Builtin.append_ #[30, 3] ty #[.slice (some ⟨g, 0, none⟩) i cap, .int .i64 ((l.length : Int) + 1 - (i : Int))]).run Tryz.prog w = .ok (.slice (some ⟨w.heap.size, 0, none⟩) (l.length + 1) G) W1 := fun ty => by
    rw [hkk]; exact hrz0 ty
  obtain ⟨N, hN⟩ : ∃ N, w.heap.size = N := ⟨_, rfl⟩
  have hblk : W1.heap[N]? = some (.cells ROW 81 (0, 0)) := by rw [← hW1, ← hN]; exact heap_alloc_new w.drew _
  have hb1 : Below w.heap.size w W1 := by rw [← hW1]; exact (Below.refl _ w).drew.alloc (Nat.le_refl _) _
  have hvW : ∀ j v, (cellsB [d])[j]? = some v → W1.cell? ⟨vb, 0 + j, none⟩ = some v := fun j v hj => by
    have := ((lit_br hvb).below hb1).src j v hj
    rw [add_lit] at this
    exact this
  have hcpA : ∀ ty dc, (Builtin.copy_ #[30, 30] ty #[.slice (some ⟨N, i, none⟩) (l.length + 1 - i) dc, .slice (some ⟨vb, 0, none⟩) 1 1]).run Tryz.prog W1 = .ok (goInt 1) (W1.setCells N (i) (cellsB [d])) := fun ty dc =>
    run_copy_brs W1 ty N (i) _ dc ⟨vb, 0, none⟩ 1 1 _ 1 (by simp only [Nat.min_def]; split <;> omega) rfl
      (fun j v hj => by rw [add_lit]; exact hvW j v hj)
      (fun j hj => rowB_some hblk hRs (by have : (cellsB [d]).length = 1 := rfl; omega)) (fun j hj => rowB_thaw hblk _) (cellsB_one [d])
  obtain ⟨c1, hc1, hs1⟩ := set_blkB (cellsB [d]) (i) W1 ROW hblk
  obtain ⟨W2, hW2⟩ : ∃ W2, W1.setCells N (i) (cellsB [d]) = W2 := ⟨_, rfl⟩
  rw [hW2] at hcpA hc1
  have hdl : ((cellsB l).drop (i)).length = (l.length - i) := by rw [List.length_drop, cellsB_len]
  have hne : g ≠ N := by omega
  have hcpB : ∀ ty dc sc, (Builtin.copy_ #[30, 30] ty #[.slice (some ⟨N, (i + 1), none⟩) (l.length - i) dc, .slice (some ⟨g, i, none⟩) (l.length - i) sc]).run Tryz.prog W2.drew = .ok (goInt (l.length - i : Nat)) (W2.drew.setCells N ((i + 1)) ((cellsB l).drop (i))) := fun ty dc sc =>
    run_copy_brs W2.drew ty N ((i + 1)) _ dc ⟨g, i, none⟩ _ sc _ (l.length - i) (by simp only [Nat.min_def]; split <;> omega) hdl
      (fun j v hj => by
        rw [add_lit]
        show W2.cell? _ = _
        rw [← hW2, World.cell?_setCells_out _ _ _ _ _ (fun h _ => absurd h hne), hb1.cell (p := ⟨g, i + j, none⟩) hgw]
        exact h.cell (by rwa [List.getElem?_drop] at hj))
      (fun j hj => rowB_some (w := W2.drew) hc1 hs1 (by omega)) (fun j hj => rowB_thaw (w := W2.drew) hc1 _) (fun v hv => cellsB_one l v (List.mem_of_mem_drop hv))
  have HCA := hide hcpA
  have HCB := hide hcpB
  have HOUT := hide (show GrewB w (W2.drew.setCells N ((i + 1)) ((cellsB l).drop (i))) l i d (Ending.returned (.slice (some ⟨N, 0, none⟩) (l.length + 1) G)) from
    ⟨G, ROW, hGn, hGm, hRs, hRh, by rw [hN], by rw [hW1, hN, hW2]⟩)
  have hGi : ¬ (G = i) := by omega
  have hGim : ¬ (G = i + 1) := by omega
  have hci : ¬ (cap = i) := by omega
  have hw1 : IntKind.i64.wrap ((i : Int) + 1) = (i : Int) + 1 := by rw [IntKind.wrap_i64]; omega
  have hb1' : (0 : Int) ≤ (i : Int) + 1 := by omega
  have htn : ((i : Int) + 1).toNat = i + 1 := by omega
  have hb3 : (i : Int) ≤ (l.length : Int) := by omega
  have hb4 : (i : Int) + 1 ≤ (l.length : Int) + 1 := by omega
  have hb5 : (i : Int) ≤ (l.length : Int) + 1 := by omega
  have hb6 : l.length + 1 - (i + 1) = l.length - i := by omega
  have hG63 : G ≤ 9223372036854775807 := by unfold maxLen at hGm; omega
  have hil : i ≤ l.length := by omega
  rw [hN] at hrz
  have HRZ := hide hrz
  clear hrz0 hrz hcpA hcpB hvW hc1 hs1 hblk hold hROW hRs hRh hW1 hW2 hG hkk hik hdl hcur hcs hi0 hz0 hzs hzb hb1 hvb hN hne
  have hcpA := HCA.out
  go_enter Tryz.func157, Tryz.ntmps157
  go_wp2_with (at_builtin; refine Lib.wpList_append_run _ rfl _ _ _ _ rfl _ _ rfl rfl _ _ (HRZ.out _) ?_)
  have hcpB := HCB.out
  go_region_law (refine step_copy_runI rfl _ _ 30 30 rfl _ _ (by simp [Act.eval, Act.put]) (by simp [Act.eval, Act.put]) (hcpB _ _ _) ?_)
  go_wp2
  go_ret
  exact HOUT.out
set_option maxHeartbeats 4000000 in
set_option maxRecDepth 100000 in
theorem ins_end (v : Value) (vb : Nat) (l : List Sl) (d : Sl) (B : Nat) (w : World) (h : OwnB1 w B v l) (hl : l.length ≤ 1048576) (hB : B ≤ w.heap.size) (hvb : Blk w vb 1 (fun _ => d.sv) 81) :
    Calls Tryz.prog 157 #[v, .int .i64 (l.length : Int), .slice (some ⟨vb, 0, none⟩) 1 1] w fun e w' =>
      (∃ a n c, e = .returned (.slice a n c) ∧ OwnB1 w' B (.slice a n c) (l ++ [d])) ∧ w.grownBy w' v.ownBlock := by
  have HL := hide (lit_br hvb)
  have HO := hide h
  rcases h.split with ⟨rfl, rfl⟩ | ⟨g, cap, rfl, -, -, hc, hcm⟩
  · clear h hvb
    have hown := HO.out
    have hlit := HL.out
    go_enter Tryz.func157, Tryz.ntmps157
    go_wp2_with (at_builtin; refine wpList_appB1 _ rfl _ _ rfl B [] [d] _ rfl hown vb 0 1 rfl hlit (by simp) hB ?_)
    intro a' n' c' w' hO hg _
    have HOUT := hide (And.intro hO hg)
    clear hO hg
    go_wp2
    go_ret
    exact ⟨⟨_, _, _, rfl, HOUT.out.1⟩, HOUT.out.2⟩
  · clear h hvb
    have hown := HO.out
    have hlit := HL.out
    unfold maxLen at hcm
    go_enter Tryz.func157, Tryz.ntmps157
    go_wp2_with (at_builtin; refine wpList_appB1 _ rfl _ _ rfl B l [d] _ rfl hown vb 0 1 rfl hlit (by simp; omega) hB ?_)
    all_goals
      intro a' n' c' w' hO hg _
      have HOUT := hide (And.intro hO hg)
      clear hO hg
      go_wp2
      go_ret
      exact ⟨⟨_, _, _, rfl, HOUT.out.1⟩, HOUT.out.2⟩
namespace M
theorem own_shift {w : World} {B g cap i : Nat} {l : List Sl} {d : Sl} (h : OwnB1 w B (.slice (some ⟨g, 0, none⟩) l.length cap) l) (hi : i < l.length) (hroom : l.length + 1 ≤ cap) :
    ∀ W, (w.drew.setCells g ((i + 1)) ((cellsB l).drop (i))).setCells g (i) (cellsB [d]) = W →
    OwnB1 W B (.slice (some ⟨g, 0, none⟩) (l.length + 1) cap) (l.take i ++ d :: l.drop i) ∧ w.grownBy W (some g) := by
  rintro W rfl
  obtain ⟨cur, hcur, hcs, hB, -, -, hcm⟩ := h.row
  have hd : w.drew.heap[g]? = some (.cells cur 81 (0, 0)) := hcur
  obtain ⟨c1, hc1, hs1⟩ := set_blkB ((cellsB l).drop (i)) ((i + 1)) w.drew cur hd
  obtain ⟨c2, hc2, hs2⟩ := set_blkB (cellsB [d]) (i) _ c1 hc1
  have hlen : ((cellsB l).drop (i)).length = (l.length - i) := by rw [List.length_drop, cellsB_len]
  have h3 : (cellsB [d]).length = 1 := rfl
  refine ⟨own_ofB hB hc2 (by omega) (by simp; omega) hroom hcm (fun j y hy => ?_), gbB_trans (gbB_trans (gbB_drew (gbT_refl w _)) (gbB_cells _ _ _)) (gbB_cells _ _ _)⟩
  rcases put_cell (by omega) hy with ⟨c, h1⟩ | ⟨c, c', h1⟩ | ⟨c, h1⟩
  · rw [World.cell?_setCells_out _ _ _ _ _ (fun _ _ => .inl (by simp; omega)), World.cell?_setCells_out _ _ _ _ _ (fun _ _ => .inl (by simp; omega))]
    exact h.cell h1
  · have := World.cell?_setCells_in g (cellsB [d]) (i) (w.drew.setCells g ((i + 1)) ((cellsB l).drop (i))) (fun k hk => rowB_some hc1 rfl (by omega)) (j - i) (by omega)
    rw [show i + (j - i) = j by omega] at this
    rw [this, ← h1]
    exact (List.getElem?_eq_getElem (by omega)).symm
  · have hl2 := (List.getElem?_eq_some_iff.1 h1).1
    rw [cellsB_len] at hl2
    rw [World.cell?_setCells_out _ _ _ _ _ (fun _ _ => .inr (by simp; omega))]
    have := World.cell?_setCells_in g ((cellsB l).drop (i)) ((i + 1)) w.drew (fun k hk => rowB_some hd rfl (by omega)) (j - (i + 1)) (by omega)
    rw [show (i + 1) + (j - (i + 1)) = j by omega] at this
    rw [this, ← h1, ← List.getElem?_eq_getElem, List.getElem?_drop]
    congr 1; omega
theorem own_grew {w W : World} {B i : Nat} {l : List Sl} {d : Sl} {e : Ending} (h : GrewB w W l i d e) (hB : B ≤ w.heap.size) (hi : i < l.length) :
    ∃ c, e = .returned (.slice (some ⟨w.heap.size, 0, none⟩) (l.length + 1) c) ∧ OwnB1 W B (.slice (some ⟨w.heap.size, 0, none⟩) (l.length + 1) c) (l.take i ++ d :: l.drop i) ∧ w.grownBy W none := by
  obtain ⟨G, ROW, hGn, hGm, hRs, hRh, he, rfl⟩ := h
  refine ⟨G, he, ?_⟩
  have hg : (w.drew.alloc (.cells ROW 81)).heap[w.heap.size]? = some (.cells ROW 81 (0, 0)) := heap_alloc_new w.drew _
  obtain ⟨c1, hc1, hs1⟩ := set_blkB (cellsB [d]) (i) (w.drew.alloc (.cells ROW 81)) ROW hg
  have hc1' : ((w.drew.alloc (.cells ROW 81)).setCells w.heap.size (i) (cellsB [d])).drew.heap[w.heap.size]? = some (.cells c1 81 (0, 0)) := hc1
  obtain ⟨c2, hc2, hs2⟩ := set_blkB ((cellsB l).drop (i)) ((i + 1)) _ c1 hc1'
  have hlen : ((cellsB l).drop (i)).length = (l.length - i) := by rw [List.length_drop, cellsB_len]
  have h3 : (cellsB [d]).length = 1 := rfl
  refine ⟨own_ofB hB hc2 (by omega) (by simp; omega) hGn hGm (fun j y hy => ?_), gbB_new (gbB_drew (gbB_new (gbB_alloc (gbB_drew (gbT_refl w none)) _) (Nat.le_refl _) _ _)) (Nat.le_refl _) _ _⟩
  rcases put_cell (by omega) hy with ⟨c, h1⟩ | ⟨c, c', h1⟩ | ⟨c, h1⟩
  · rw [World.cell?_setCells_out _ _ _ _ _ (fun _ _ => .inl (by simp; omega))]
    show ((w.drew.alloc (.cells ROW 81)).setCells w.heap.size (i) (cellsB [d])).cell? _ = _
    rw [World.cell?_setCells_out _ _ _ _ _ (fun _ _ => .inl (by simp; omega)), rowB_cell hg j, hRh j c]; exact h1
  · rw [World.cell?_setCells_out _ _ _ _ _ (fun _ _ => .inl (by simp; omega))]
    show ((w.drew.alloc (.cells ROW 81)).setCells w.heap.size (i) (cellsB [d])).cell? _ = _
    have := World.cell?_setCells_in w.heap.size (cellsB [d]) (i) (w.drew.alloc (.cells ROW 81)) (fun k hk => rowB_some hg rfl (by omega)) (j - i) (by omega)
    rw [show i + (j - i) = j by omega] at this
    rw [this, ← h1]
    exact (List.getElem?_eq_getElem (by omega)).symm
  · have hl2 := (List.getElem?_eq_some_iff.1 h1).1
    rw [cellsB_len] at hl2
    have := World.cell?_setCells_in w.heap.size ((cellsB l).drop (i)) ((i + 1)) ((w.drew.alloc (.cells ROW 81)).setCells w.heap.size (i) (cellsB [d])).drew (fun k hk => rowB_some hc1' rfl (by omega)) (j - (i + 1)) (by omega)
    rw [show (i + 1) + (j - (i + 1)) = j by omega] at this
    rw [this, ← h1, ← List.getElem?_eq_getElem, List.getElem?_drop]
    congr 1; omega
end M
theorem ins_brs (v : Value) (l : List Sl) (i vb B : Nat) (d : Sl) (w : World) (h : OwnB1 w B v l) (hi : i ≤ l.length) (hl : l.length ≤ 1048576) (hB : B ≤ w.heap.size) (hvb : Blk w vb 1 (fun _ => d.sv) 81) (hne : v.ownBlock ≠ some vb) :
    Calls Tryz.prog 157 #[v, .int .i64 (i : Int), .slice (some ⟨vb, 0, none⟩) 1 1] w fun e w' =>
      (∃ a n c, e = .returned (.slice a n c) ∧ OwnB1 w' B (.slice a n c) (l.take i ++ d :: l.drop i)) ∧ w.grownBy w' v.ownBlock := by
  by_cases hin : i < l.length
  · rcases h.split with ⟨rfl, rfl⟩ | ⟨g, cap, rfl, hBg, hg, hc, hcm⟩
    · simp at hin
    · by_cases hroom : l.length + 1 ≤ cap
      · refine (ins_shift g cap i vb l d B w h hin hroom hl (fun e => hne (by rw [e]; rfl)) hvb).mono ?_
        rintro e w' ⟨rfl, hw⟩
        obtain ⟨k1, k2⟩ := own_shift (d := d) h hin hroom w' hw.symm
        exact ⟨⟨_, _, _, rfl, k1⟩, k2⟩
      · refine (ins_grow g cap i vb l d B w h hin (by omega) hl hvb).mono ?_
        intro e w' hw
        obtain ⟨c, rfl, k1, k2⟩ := own_grew hw hB hin
        exact ⟨⟨_, _, _, rfl, k1⟩, gbB_any k2⟩
  · obtain rfl : i = l.length := by omega
    refine (ins_end v vb l d B w h hl hB hvb).mono ?_
    rintro e w' ⟨⟨a, n, c, rfl, k1⟩, k2⟩
    exact ⟨⟨_, _, _, rfl, by simpa using k1⟩, k2⟩
end Go.Proofs.YtfkeokglifpkoaaGreatDoor
