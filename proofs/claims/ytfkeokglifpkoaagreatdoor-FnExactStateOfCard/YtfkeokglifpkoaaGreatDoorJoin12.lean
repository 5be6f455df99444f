/-
  Rows of texts of the call's own: where a text belongs, one taken away, one put in: the library's contracts at such rows.
-/
import Derived.Test.YtfkeokglifpkoaaGreatDoorJoin7
import Derived.Test.YtfkeokglifpkoaaGreatDoorJoin11
import Derived.Deep.Draws
namespace Go.Proofs.YtfkeokglifpkoaaGreatDoor
open Go.RowKit M
open Go.Sort (grow putRow mapBlock Holds onCells)
namespace M
theorem own_of {w : World} {B g n cap : Nat} {l : Txs} {cur : Array Value} (hB : B ≤ g) (hg : w.heap[g]? = some (.cells cur 9 (0, 0))) (hs : cur.size = cap) (hn : n = l.length) (hc : n ≤ cap) (hm : cap ≤ maxLen)
    (hcell : ∀ j x, l[j]? = some x → w.cell? ⟨g, j, none⟩ = some (.string x)) : OwnT w B (.slice (some ⟨g, 0, none⟩) n cap) l := by
  subst hn
  refine ⟨by rw [sv_len]; omega, .inr ⟨g, cap, cur, rfl, hB, hg, hc, hm, by omega, ?_⟩⟩
  apply List.ext_getElem?
  intro j
  rw [List.getElem?_take]
  by_cases hj : j < l.length
  · rw [if_pos (by omega), sv_at (List.getElem?_eq_getElem hj)]
    have h1 := hcell j l[j] (List.getElem?_eq_getElem hj)
    simpa [World.cell?, hg] using h1
  · rw [if_neg (by omega), List.getElem?_eq_none (by rw [sv_len]; omega)]
theorem OwnT.row {w : World} {B g n cap : Nat} {l : Txs} (h : OwnT w B (.slice (some ⟨g, 0, none⟩) n cap) l) : ∃ cur, w.heap[g]? = some (.cells cur 9 (0, 0)) ∧ cur.size = cap ∧ B ≤ g ∧ n = l.length ∧ n ≤ cap ∧ cap ≤ maxLen := by
  have e := h.len
  subst e
  rcases h.2 with ⟨h0, _⟩ | ⟨g', cap', cur, hv, hB, hg, hn, hc, hs, ht⟩
  · cases h0
  · simp only [Value.slice.injEq, Option.some.injEq, Addr.mk.injEq, and_true, true_and] at hv
    obtain ⟨rfl, rfl⟩ := hv
    exact ⟨cur, hg, by omega, hB, rfl, hn, hc⟩
theorem set_blk {g : Nat} {e : TypeId} : ∀ (vs : List Value) (o : Nat) (w : World) (cur : Array Value), w.heap[g]? = some (.cells cur e (0, 0)) → ∃ cur', (w.setCells g o vs).heap[g]? = some (.cells cur' e (0, 0)) ∧ cur'.size = cur.size
  | [], _, _, cur, h => ⟨cur, h, rfl⟩
  | v :: r, o, w, cur, h => by
    obtain ⟨c2, h2, h3⟩ := set_blk r (o + 1) (w.setCell ⟨g, o, none⟩ v) _ (heap_setCell_same w g o cur e v h)
    exact ⟨c2, h2, by rw [h3]; simp⟩
theorem gbT_trans {a b c : World} {row : Option Nat} (h : a.grownBy b row) (h2 : b.grownBy c row) : a.grownBy c row :=
  ⟨h2.os.trans h.os, h2.tape.trans h.tape, h2.output.trans h.output, Nat.le_trans h.size h2.size, fun k hk hne => (h2.block k (Nat.lt_of_lt_of_le hk h.size) hne).trans (h.block k hk hne)⟩
theorem gbT_cells {g : Nat} : ∀ (vs : List Value) (o : Nat) (w : World), w.grownBy (w.setCells g o vs) (some g)
  | [], _, w => gbT_refl w _
  | v :: r, o, w => gbT_trans (gbT_set (o := o) (v := v) (gbT_refl w (some g))) (gbT_cells r (o + 1) (w.setCell ⟨g, o, none⟩ v))
theorem gbT_drew {w w' : World} {row : Option Nat} (h : w.grownBy w' row) : w.grownBy w'.drew row := ⟨h.os, h.tape, h.output, h.size, h.block⟩
theorem gbT_alloc {w w' : World} {row : Option Nat} (h : w.grownBy w' row) (o : Obj) : w.grownBy (w'.alloc o) row :=
  gbT_below h ((Below.refl _ w').alloc (Nat.le_refl _) o)
/-- Stores into a block that was made later are no change of what was there. -/
theorem gbT_new {w w' : World} {g : Nat} (h : w.grownBy w' none) (hg : w.heap.size ≤ g) (o : Nat) (vs : List Value) : w.grownBy (w'.setCells g o vs) none :=
  have h2 := gbT_cells (g := g) vs o w'
  ⟨h2.os.trans h.os, h2.tape.trans h.tape, h2.output.trans h.output, Nat.le_trans h.size h2.size, fun k hk hne => (h2.block k (Nat.lt_of_lt_of_le hk h.size) (fun e => by simp only [Option.some.injEq] at e; omega)).trans (h.block k hk hne)⟩
theorem gbT_any {w w' : World} {row : Option Nat} (h : w.grownBy w' none) : w.grownBy w' row := ⟨h.os, h.tape, h.output, h.size, fun k hk _ => h.block k hk (fun e => by cases e)⟩
theorem row_some {w : World} {g cap j : Nat} {cur : Array Value} {e : TypeId} (hg : w.heap[g]? = some (.cells cur e (0, 0))) (hs : cur.size = cap) (hj : j < cap) : (w.cell? ⟨g, j, none⟩).isSome = true := by
  have h1 : w.cell? ⟨g, j, none⟩ = cur[j]? := by simp [World.cell?, hg]
  rw [h1, Array.getElem?_eq_getElem (by omega)]; rfl
theorem row_cell {w : World} {g : Nat} {cur : Array Value} {e : TypeId} (hg : w.heap[g]? = some (.cells cur e (0, 0))) (j : Nat) : w.cell? ⟨g, j, none⟩ = cur[j]? := by simp [World.cell?, hg]
theorem row_thaw {w : World} {g : Nat} {cur : Array Value} {e : TypeId} (hg : w.heap[g]? = some (.cells cur e (0, 0))) (j : Nat) : w.frozen? ⟨g, j, none⟩ = false := by simp [World.frozen?, hg]
theorem row_shape {w : World} {g : Nat} {cur : Array Value} {e : TypeId} (hg : w.heap[g]? = some (.cells cur e (0, 0))) : w.shape? g = some (e, cur.size) := by simp [World.shape?, hg]
theorem sv_one (l : Txs) : ∀ v ∈ sv l, v.oneCell' = true := fun v hv => by
  obtain ⟨x, _, rfl⟩ := List.mem_map.1 hv; rfl
theorem sv_get {l : Txs} {j : Nat} {v : Value} (h : (sv l)[j]? = some v) : ∃ x, l[j]? = some x ∧ v = .string x := by
  unfold sv at h
  rw [List.getElem?_map] at h
  cases hx : l[j]? with
  | none => rw [hx] at h; cases h
  | some x => rw [hx] at h; simp at h; exact ⟨x, rfl, h.symm⟩
theorem sv_drop (l : Txs) (i : Nat) : (sv l).drop i = sv (l.drop i) := by unfold sv; rw [List.map_drop]
theorem sv_take (l : Txs) (i : Nat) : (sv l).take i = sv (l.take i) := by unfold sv; rw [List.map_take]
/-- The place of a text in a list with one put in at i. -/
theorem put_at {l : Txs} {i j : Nat} {x y : ByteArray} (hi : i ≤ l.length) (h : (l.take i ++ x :: l.drop i)[j]? = some y) : (j < i ∧ l[j]? = some y) ∨ (j = i ∧ y = x) ∨ (i < j ∧ l[j - 1]? = some y) := by
  have e : (l.take i).length = i := by rw [List.length_take]; omega
  rcases (show j < i ∨ j = i ∨ i < j by omega) with c | c | c
  · refine .inl ⟨c, ?_⟩
    rw [List.getElem?_append_left (by omega), List.getElem?_take, if_pos c] at h; exact h
  · refine .inr (.inl ⟨c, ?_⟩)
    rw [List.getElem?_append_right (by omega), e, c, Nat.sub_self] at h
    simp at h; exact h.symm
  · refine .inr (.inr ⟨c, ?_⟩)
    rw [List.getElem?_append_right (by omega), e, show j - i = (j - i - 1) + 1 by omega, List.getElem?_cons_succ, List.getElem?_drop] at h
    rw [← h]; congr 1; omega
theorem del_at {l : Txs} {i j : Nat} {y : ByteArray} (hi : i < l.length) (h : (l.take i ++ l.drop (i + 1))[j]? = some y) : (j < i ∧ l[j]? = some y) ∨ (i ≤ j ∧ l[j + 1]? = some y) := by
  have e : (l.take i).length = i := by rw [List.length_take]; omega
  rcases (show j < i ∨ i ≤ j by omega) with c | c
  · refine .inl ⟨c, ?_⟩
    rw [List.getElem?_append_left (by omega), List.getElem?_take, if_pos c] at h; exact h
  · refine .inr ⟨c, ?_⟩
    rw [List.getElem?_append_right (by omega), e, List.getElem?_drop] at h
    rw [← h]; congr 1; omega
theorem ps_nil (x : ByteArray) : ps [] x = 0 := rfl
theorem fnd_nil (x : ByteArray) : fnd [] x = false := rfl
end M
theorem bs_txs (v : Value) (l : Txs) (x : ByteArray) (B : Nat) (w : World) (h : OwnT w B v l) (hr : Rise l) (hn : l.length ≤ 1048576) :
    Calls Tryz.prog 208 #[v, .string x] w fun e w' => e = .returned (.tuple #[.int .i64 ((ps l x : Nat) : Int), .bool (fnd l x)]) ∧ ∃ q, w' = w.drewN q := by
  rcases h.split with ⟨rfl, rfl⟩ | ⟨g, cap, rfl, hB, hg, hc, hcm⟩
  · refine (show Calls Tryz.prog 208 #[.slice none 0 0, .string x] w _ from Any2.slices_BinarySearch_string_empty Tryz.laysNm226 none 0 x w).mono ?_
    rintro e w' ⟨rfl, rfl⟩
    exact ⟨rfl, 0, rfl⟩
  · have key : Lib.bsGo (fun t => Op.bytesLess ((fun t => (l[t]?).getD x) t).toList x.toList) l.length 0 l.length = ps l x := by
      refine Lib.bsGo_spec _ (ps l x) (fun t ht => ?_) (fun t ht => ?_) _ _ _ (by omega) (Nat.zero_le _) (ps_le l x)
      · have hl := ps_le l x
        have hx : l[t]? = some l[t] := List.getElem?_eq_getElem (by omega)
        have := ps_lt l x t _ ht hx
        show Op.bytesLess ((l[t]?).getD x).toList x.toList = true
        rw [hx]; exact this
      · by_cases hl : t < l.length
        · have hx : l[t]? = some l[t] := List.getElem?_eq_getElem hl
          have := ps_ge hr ht hx
          show Op.bytesLess ((l[t]?).getD x).toList x.toList = false
          rw [hx]; exact this
        · have hx : l[t]? = none := List.getElem?_eq_none (by omega)
          have := lt_irr x
          show Op.bytesLess ((l[t]?).getD x).toList x.toList = false
          rw [hx]; exact this
    refine (show Calls Tryz.prog 208 #[.slice (some ⟨g, 0, none⟩) l.length cap, .string x] w _ from Any2.slices_BinarySearch_string Tryz.laysNm226 g 0 l.length cap (fun t => (l[t]?).getD x) x w (by omega) (fun j hj => by
      have hx : l[j]? = some l[j] := List.getElem?_eq_getElem hj
      rw [Nat.zero_add, hx]; exact h.cell hx)).mono ?_
    rintro e w' ⟨rfl, hq⟩
    refine ⟨?_, hq⟩
    have hf : decide (ps l x < l.length ∧ (l[ps l x]?).getD x = x) = fnd l x := by
      unfold fnd
      rw [decide_eq_decide]
      by_cases hl : ps l x < l.length
      · have hx : l[ps l x]? = some l[ps l x] := List.getElem?_eq_getElem hl
        rw [hx]; simp [hl]
      · have hx : l[ps l x]? = none := List.getElem?_eq_none (by omega)
        rw [hx]; simp [hl]
    rw [key, ← hf]
theorem del_txs (v : Value) (l : Txs) (i B : Nat) (w : World) (h : OwnT w B v l) (hi : i < l.length) :
    Calls Tryz.prog 209 #[v, .int .i64 (i : Int), .int .i64 ((i + 1 : Nat) : Int)] w fun e w' => ∃ a n c, e = .returned (.slice a n c) ∧ OwnT w' B (.slice a n c) (l.take i ++ l.drop (i + 1)) ∧ (Value.slice a n c).ownBlock = v.ownBlock ∧ w.grownBy w' v.ownBlock := by
  rcases h.split with ⟨rfl, rfl⟩ | ⟨g, cap, rfl, hB, hg, hc, hcm⟩
  · simp at hi
  · obtain ⟨cur, hcur, hcs, -, -, -, -⟩ := h.row
    have hz : (l.map (fun x : ByteArray => x.data.toList)).length = l.length := by simp
    have hH : Holds encStr w g 0 (l.map (fun x : ByteArray => x.data.toList)).toArray := fun j hj => by
      rw [List.size_toArray, hz] at hj
      have hx : l[j]? = some l[j] := List.getElem?_eq_getElem hj
      refine ⟨?_, by rw [Nat.zero_add]; exact h.thaw j⟩
      rw [Nat.zero_add, h.cell hx]
      simp [hj, encStr]
    have hD := Tryz.slices_Delete_string g 0 cap i (i + 1) (l.map (fun x : ByteArray => x.data.toList)) w hH (by rw [hz]; exact hc) (by unfold maxLen at hcm; omega) (by omega) (by rw [hz]; omega)
    rw [hz] at hD
    refine hD.mono ?_
    rintro e w' ⟨rfl, q, rfl⟩
    have hsz : ((l.map (fun x : ByteArray => x.data.toList)).take i ++ (l.map (fun x : ByteArray => x.data.toList)).drop (i + 1) ++ List.replicate (i + 1 - i) ([] : List UInt8)).toArray.size = (l.map (fun x : ByteArray => x.data.toList)).toArray.size := by
      simp; omega
    have hblk : (putRow encStr (Go.Sort.ahead w q) g 0 ((l.map (fun x : ByteArray => x.data.toList)).take i ++ (l.map (fun x : ByteArray => x.data.toList)).drop (i + 1) ++ List.replicate (i + 1 - i) ([] : List UInt8)).toArray).heap[g]? = some (.cells (Go.Sort.putCells encStr 0 ((l.map (fun x : ByteArray => x.data.toList)).take i ++ (l.map (fun x : ByteArray => x.data.toList)).drop (i + 1) ++ List.replicate (i + 1 - i) ([] : List UInt8)).toArray cur) 9 (0, 0)) := by
      have h1 : (Go.Sort.ahead w q).heap[g]? = some (.cells cur 9 (0, 0)) := hcur
      unfold putRow mapBlock
      simp only [Array.getElem?_modify, if_true, h1, Option.map_some, onCells]
    refine ⟨_, _, _, rfl, own_of hB hblk (by simp [Go.Sort.putCells, hcs]) ?_ (by omega) hcm (fun j y hy => ?_), rfl, ?_⟩
    · rw [List.length_append, List.length_take, List.length_drop]; omega
    · have hl := lt_of_get hy
      rw [List.length_append, List.length_take, List.length_drop] at hl
      have hc1 := Go.Sort.cell?_putRow encStr (Go.Sort.ahead w q) g 0 _ _ hH hsz j (by simp; omega)
      rw [Nat.zero_add] at hc1
      rw [hc1]
      congr 1
      have e : (l.map (fun x : ByteArray => x.data.toList)).take i ++ (l.map (fun x : ByteArray => x.data.toList)).drop (i + 1) = (l.take i ++ l.drop (i + 1)).map (fun x : ByteArray => x.data.toList) := by simp
      rw [e]
      have hl2 : j < ((l.take i ++ l.drop (i + 1)).map (fun x : ByteArray => x.data.toList)).length := by rw [List.length_map, List.length_append, List.length_take, List.length_drop]; omega
      have e2 : ((List.map (fun x : ByteArray => x.data.toList) (l.take i ++ l.drop (i + 1)) ++ List.replicate (i + 1 - i) ([] : List UInt8)).toArray)[j]! = y.data.toList := by
        rw [getElem!_def, List.getElem?_toArray, List.getElem?_append_left hl2, List.getElem?_map, hy]; rfl
      rw [e2]
    · exact ⟨rfl, rfl, rfl, by simp [putRow, mapBlock, Go.Sort.ahead], fun k hk hne => by
        have : g ≠ k := fun e => hne (by rw [← e]; rfl)
        simp [putRow, mapBlock, Array.getElem?_modify, this, Go.Sort.ahead]⟩
namespace M
theorem ins_shift {w : World} {B g cap i : Nat} {l : Txs} {x : ByteArray} (h : OwnT w B (.slice (some ⟨g, 0, none⟩) l.length cap) l) (hi : i < l.length) (hroom : l.length + 1 ≤ cap) :
    OwnT ((w.drew.setCells g (0 + (i + 1)) ((sv l).drop i)).setCells g (0 + i) [.string x]) B (.slice (some ⟨g, 0, none⟩) (l.length + 1) cap) (l.take i ++ x :: l.drop i) ∧ w.grownBy ((w.drew.setCells g (0 + (i + 1)) ((sv l).drop i)).setCells g (0 + i) [.string x]) (some g) := by
  obtain ⟨cur, hcur, hcs, hB, -, -, hcm⟩ := h.row
  have hd : w.drew.heap[g]? = some (.cells cur 9 (0, 0)) := hcur
  obtain ⟨c1, hc1, hs1⟩ := set_blk ((sv l).drop i) (0 + (i + 1)) w.drew cur hd
  obtain ⟨c2, hc2, hs2⟩ := set_blk [.string x] (0 + i) _ c1 hc1
  have hlen : ((sv l).drop i).length = l.length - i := by rw [List.length_drop, sv_len]
  refine ⟨own_of hB hc2 (by omega) (by simp; omega) hroom hcm (fun j y hy => ?_), gbT_trans (gbT_trans (gbT_drew (gbT_refl w _)) (gbT_cells _ _ _)) (gbT_cells _ _ _)⟩
  rcases put_at (by omega) hy with ⟨c, h1⟩ | ⟨c, h1⟩ | ⟨c, h1⟩
  · rw [World.cell?_setCells_out _ _ _ _ _ (fun _ _ => .inl (by simp; omega)), World.cell?_setCells_out _ _ _ _ _ (fun _ _ => .inl (by simp; omega))]
    exact h.cell h1
  · subst c; subst h1
    have := World.cell?_setCells_in g [.string y] (0 + j) _ (fun k hk => row_some hc1 rfl (by simp at hk; omega)) 0 (by simp)
    simpa using this
  · rw [World.cell?_setCells_out _ _ _ _ _ (fun _ _ => .inr (by simp; omega))]
    have hl := lt_of_get h1
    have := World.cell?_setCells_in g ((sv l).drop i) (0 + (i + 1)) w.drew (fun k hk => row_some hd rfl (by rw [hlen] at hk; omega)) (j - (i + 1)) (by rw [hlen]; omega)
    rw [show 0 + (i + 1) + (j - (i + 1)) = j by omega] at this
    rw [this]
    congr 1
    rw [List.getElem_drop]
    have h2 := sv_at h1
    rw [List.getElem?_eq_getElem (by rw [sv_len]; omega)] at h2
    simp only [Option.some.injEq] at h2
    rw [← h2]; congr 1; omega
theorem ins_end {w : World} {B g cap : Nat} {l : Txs} {x : ByteArray} (h : OwnT w B (.slice (some ⟨g, 0, none⟩) l.length cap) l) (hroom : l.length + 1 ≤ cap) :
    OwnT (w.setCells g (0 + l.length) [.string x]) B (.slice (some ⟨g, 0, none⟩) (l.length + 1) cap) (l.take l.length ++ x :: l.drop l.length) ∧ w.grownBy (w.setCells g (0 + l.length) [.string x]) (some g) := by
  obtain ⟨cur, hcur, hcs, hB, -, -, hcm⟩ := h.row
  obtain ⟨c2, hc2, hs2⟩ := set_blk [.string x] (0 + l.length) w cur hcur
  refine ⟨own_of hB hc2 (by omega) (by simp) hroom hcm (fun j y hy => ?_), gbT_cells _ _ _⟩
  rcases put_at (Nat.le_refl _) hy with ⟨c, h1⟩ | ⟨c, h1⟩ | ⟨c, h1⟩
  · rw [World.cell?_setCells_out _ _ _ _ _ (fun _ _ => .inl (by simp; omega))]
    exact h.cell h1
  · subst c; subst h1
    have := World.cell?_setCells_in g [.string y] (0 + l.length) w (fun k hk => row_some hcur rfl (by simp at hk; omega)) 0 (by simp)
    simpa using this
  · have := lt_of_get h1; omega
theorem ins_endgrow {w : World} {B cap' : Nat} {l : Txs} {x : ByteArray} (hB : B ≤ w.heap.size) (hc : l.length + 1 ≤ cap') (hcm : cap' ≤ maxLen) :
    OwnT (w.drew.alloc (.cells ((sv l ++ [Value.string x]).toArray ++ Builtin.zeroCells (Value.string ⟨#[]⟩).cells (cap' - (l.length + 1))) 9)) B (.slice (some ⟨w.heap.size, 0, none⟩) (l.length + 1) cap') (l.take l.length ++ x :: l.drop l.length) ∧ w.grownBy (w.drew.alloc (.cells ((sv l ++ [Value.string x]).toArray ++ Builtin.zeroCells (Value.string ⟨#[]⟩).cells (cap' - (l.length + 1))) 9)) none := by
  have hg := heap_alloc_new w.drew (.cells ((sv l ++ [Value.string x]).toArray ++ Builtin.zeroCells (Value.string ⟨#[]⟩).cells (cap' - (l.length + 1))) 9)
  have hz : ((sv l ++ [Value.string x]).toArray ++ Builtin.zeroCells (Value.string ⟨#[]⟩).cells (cap' - (l.length + 1))).size = cap' := by
    simp [Builtin.zeroCells, sv_len, Value.cells]; omega
  refine ⟨own_of (g := w.heap.size) hB hg hz (by simp) hc hcm (fun j y hy => ?_), gbT_alloc (gbT_drew (gbT_refl w _)) _⟩
  have hl := lt_of_get hy
  have e : l.take l.length ++ x :: l.drop l.length = l ++ [x] := by simp
  rw [e] at hy hl
  have h1 : (w.drew.alloc (.cells ((sv l ++ [Value.string x]).toArray ++ Builtin.zeroCells (Value.string ⟨#[]⟩).cells (cap' - (l.length + 1))) 9)).cell? ⟨w.heap.size, j, none⟩ = ((sv l ++ [Value.string x]).toArray ++ Builtin.zeroCells (Value.string ⟨#[]⟩).cells (cap' - (l.length + 1)))[j]? := row_cell (g := w.heap.size) hg j
  rw [h1, Array.getElem?_append_left (by simp [sv_len]; simp at hl; omega), List.getElem?_toArray]
  have h2 : sv l ++ [Value.string x] = sv (l ++ [x]) := by simp [sv]
  rw [h2]; exact sv_at hy
theorem ins_grow {w : World} {B cap' i : Nat} {l : Txs} {x : ByteArray} (hB : B ≤ w.heap.size) (hi : i < l.length) (hc : l.length + 1 ≤ cap') (hcm : cap' ≤ maxLen) :
    ∀ W, (((w.alloc (.cells (((sv l).take i).toArray ++ Builtin.zeroCells (Value.string ⟨#[]⟩).cells (l.length + 1 - i) ++ Builtin.zeroCells (Value.string ⟨#[]⟩).cells (cap' - (l.length + 1))) 9)).drew.setCells w.heap.size i [.string x]).drew).setCells w.heap.size (i + 1) ((sv l).drop i) = W →
    OwnT W B (.slice (some ⟨w.heap.size, 0, none⟩) (l.length + 1) cap') (l.take i ++ x :: l.drop i) ∧ w.grownBy W none := by
  rintro W rfl
  obtain ⟨cur, hcur⟩ : ∃ cur, ((sv l).take i).toArray ++ Builtin.zeroCells (Value.string ⟨#[]⟩).cells (l.length + 1 - i) ++ Builtin.zeroCells (Value.string ⟨#[]⟩).cells (cap' - (l.length + 1)) = cur := ⟨_, rfl⟩
  have hz : cur.size = cap' := by
    rw [← hcur]; simp [Builtin.zeroCells, sv_len, Value.cells]; omega
  have hh : ∀ j, j < i → cur[j]? = (sv l)[j]? := fun j hj => by
    rw [← hcur, Array.append_assoc, Array.getElem?_append_left (by simp [sv_len]; omega), List.getElem?_toArray, List.getElem?_take, if_pos hj]
  rw [hcur]
  have hg : (w.alloc (.cells cur 9)).heap[w.heap.size]? = some (.cells cur 9 (0, 0)) := heap_alloc_new w _
  have hg1 : (w.alloc (.cells cur 9)).drew.heap[w.heap.size]? = some (.cells cur 9 (0, 0)) := hg
  obtain ⟨c1, hc1, hs1⟩ := set_blk [.string x] i (w.alloc (.cells cur 9)).drew cur hg1
  have hc1' : (((w.alloc (.cells cur 9)).drew.setCells w.heap.size i [.string x]).drew).heap[w.heap.size]? = some (.cells c1 9 (0, 0)) := hc1
  obtain ⟨c2, hc2, hs2⟩ := set_blk ((sv l).drop i) (i + 1) _ c1 hc1'
  have hlen : ((sv l).drop i).length = l.length - i := by rw [List.length_drop, sv_len]
  refine ⟨own_of hB hc2 (by omega) (by simp; omega) hc hcm (fun j y hy => ?_), gbT_new (gbT_drew (gbT_new (gbT_drew (gbT_alloc (gbT_refl w none) _)) (Nat.le_refl _) _ _)) (Nat.le_refl _) _ _⟩
  rcases put_at (by omega) hy with ⟨c, h1⟩ | ⟨c, h1⟩ | ⟨c, h1⟩
  · rw [World.cell?_setCells_out _ _ _ _ _ (fun _ _ => .inl (by simp; omega))]
    show ((w.alloc (.cells cur 9)).drew.setCells w.heap.size i [.string x]).cell? _ = _
    rw [World.cell?_setCells_out _ _ _ _ _ (fun _ _ => .inl (by simp; omega))]
    have : (w.alloc (.cells cur 9)).drew.cell? ⟨w.heap.size, j, none⟩ = cur[j]? := row_cell hg1 j
    rw [this, hh j c]; exact sv_at h1
  · subst c; subst h1
    rw [World.cell?_setCells_out _ _ _ _ _ (fun _ _ => .inl (by simp))]
    show ((w.alloc (.cells cur 9)).drew.setCells w.heap.size j [.string y]).cell? _ = _
    have := World.cell?_setCells_in w.heap.size [.string y] j (w.alloc (.cells cur 9)).drew (fun k hk => row_some hg1 rfl (by simp at hk; omega)) 0 (by simp)
    simpa using this
  · have hl := lt_of_get h1
    have := World.cell?_setCells_in w.heap.size ((sv l).drop i) (i + 1) (((w.alloc (.cells cur 9)).drew.setCells w.heap.size i [.string x]).drew) (fun k hk => row_some hc1' rfl (by rw [hlen] at hk; omega)) (j - (i + 1)) (by rw [hlen]; omega)
    rw [show i + 1 + (j - (i + 1)) = j by omega] at this
    rw [this]
    congr 1
    rw [List.getElem_drop]
    have h2 := sv_at h1
    rw [List.getElem?_eq_getElem (by rw [sv_len]; omega)] at h2
    simp only [Option.some.injEq] at h2
    rw [← h2]; congr 1; omega
end M
theorem ins_txs (v : Value) (l : Txs) (i vb B : Nat) (x : ByteArray) (w : World) (h : OwnT w B v l) (hi : i ≤ l.length) (hl : l.length ≤ 1048576) (hB : B ≤ w.heap.size) (hvb : w.heap[vb]? = some (.cells #[.string x] 9 (0, 0))) (hne : v.ownBlock ≠ some vb) :
    Calls Tryz.prog 210 #[v, .int .i64 (i : Int), .slice (some ⟨vb, 0, none⟩) 1 1] w fun e w' => ∃ a n c, e = .returned (.slice a n c) ∧ OwnT w' B (.slice a n c) (l.take i ++ x :: l.drop i) ∧ ((Value.slice a n c).ownBlock = v.ownBlock ∨ (Value.slice a n c).ownBlock = some w.heap.size) ∧ w.grownBy w' v.ownBlock := by
  have hvs : ∀ j u, [Value.string x][j]? = some u → w.cell? ⟨vb, 0 + j, none⟩ = some u := fun j u hj => by
    match j, hj with
    | 0, hj => simp at hj; subst hj; simp [World.cell?, hvb]
  have h1v : ∀ u ∈ [Value.string x], u.oneCell' = true := fun u hu => by simp at hu; subst hu; rfl
  rcases h.split with ⟨rfl, rfl⟩ | ⟨g, cap, rfl, hBg, hg, hc, hcm⟩
  · obtain rfl : i = 0 := by simpa using hi
    have hE := Any2.slices_Insert_string_end_grow Tryz.laysNm222 none 0 0 vb 0 1 1 [] [.string x] w (by omega) (Nat.le_refl _) (by omega) (by omega) rfl rfl (fun _ => rfl) (fun a ha => by cases ha) hvs h1v
    refine (show Calls Tryz.prog 210 #[.slice none 0 0, .int .i64 ((0 : Nat) : Int), .slice (some ⟨vb, 0, none⟩) 1 1] w _ from hE).mono ?_
    rintro e w' ⟨rfl, rfl⟩
    obtain ⟨k1, k2⟩ := ins_endgrow (w := w) (B := B) (cap' := grownCap w (0 + 1) 0 9) (l := []) (x := x) hB (grownCap_ge _ _ _ _) (grownCap_le_maxLen _ _ _ _ (by unfold maxLen; omega))
    exact ⟨_, _, _, rfl, k1, .inr rfl, k2⟩
  · obtain ⟨cur, hcur, hcs, -, -, -, -⟩ := h.row
    have hne' : vb ≠ g := fun e => hne (by rw [e]; rfl)
    unfold maxLen at hcm
    have hcs' : ∀ j v, (sv l)[j]? = some v → w.cell? ⟨g, 0 + j, none⟩ = some v := fun j v hj => by
      obtain ⟨y, hy, rfl⟩ := sv_get hj
      rw [Nat.zero_add]; exact h.cell hy
    by_cases hroom : l.length + 1 ≤ cap
    · by_cases hin : i < l.length
      · have hE := Any2.slices_Insert_string_shift Tryz.laysNm222 g 0 l.length cap i vb 0 1 1 (sv l) [.string x] w hin (by omega) hroom (by omega) hne' (sv_len l) rfl hcs' (fun j hj => by rw [Nat.zero_add]; exact row_some hcur hcs (by omega)) (fun j hj => by rw [Nat.zero_add]; exact row_thaw hcur j) hvs (sv_one l) h1v 9 9 1 cap (row_shape hvb) (by rw [row_shape hcur, hcs]) (by omega) (row_thaw hvb 0) (row_thaw hvb 1)
        refine (show Calls Tryz.prog 210 #[.slice (some ⟨g, 0, none⟩) l.length cap, .int .i64 (i : Int), .slice (some ⟨vb, 0, none⟩) 1 1] w _ from hE).mono ?_
        rintro e w' ⟨rfl, rfl⟩
        obtain ⟨k1, k2⟩ := ins_shift (x := x) h hin hroom
        exact ⟨_, _, _, rfl, k1, .inl rfl, k2⟩
      · obtain rfl : i = l.length := by omega
        have hE := Any2.slices_Insert_string_end_room Tryz.laysNm222 g 0 l.length cap vb 0 1 1 [.string x] w (by omega) hroom (by omega) rfl (fun j hj => row_some hcur hcs (by omega)) (fun j hj => row_thaw hcur _) hvs h1v
        refine (show Calls Tryz.prog 210 #[.slice (some ⟨g, 0, none⟩) l.length cap, .int .i64 (l.length : Int), .slice (some ⟨vb, 0, none⟩) 1 1] w _ from hE).mono ?_
        rintro e w' ⟨rfl, rfl⟩
        obtain ⟨k1, k2⟩ := ins_end (x := x) h hroom
        exact ⟨_, _, _, rfl, k1, .inl rfl, k2⟩
    · by_cases hin : i < l.length
      · have hE := Any2.slices_Insert_string_grow Tryz.laysNm222 g 0 l.length cap i vb 0 1 1 (sv l) [.string x] w hin (by omega) hc (by omega) (by omega) (sv_len l) rfl hcs' hvs (sv_one l) h1v
        refine (show Calls Tryz.prog 210 #[.slice (some ⟨g, 0, none⟩) l.length cap, .int .i64 (i : Int), .slice (some ⟨vb, 0, none⟩) 1 1] w _ from hE).mono ?_
        rintro e w' ⟨rfl, hw'⟩
        obtain ⟨k1, k2⟩ := ins_grow (w := w) (B := B) (cap' := grownCap w (l.length + 1) cap 9) (l := l) (x := x) hB hin (grownCap_ge _ _ _ _) (grownCap_le_maxLen _ _ _ _ (by unfold maxLen; omega)) w' hw'.symm
        exact ⟨_, _, _, rfl, k1, .inr rfl, gbT_any k2⟩
      · obtain rfl : i = l.length := by omega
        have hE := Any2.slices_Insert_string_end_grow Tryz.laysNm222 (some ⟨g, 0, none⟩) l.length cap vb 0 1 1 (sv l) [.string x] w (by omega) hc (by omega) (by omega) (sv_len l) rfl (fun h => by cases h) (fun a ha j v hj => by
          simp only [Option.some.injEq] at ha
          subst ha
          obtain ⟨y, hy, rfl⟩ := sv_get hj
          have : (⟨g, 0, none⟩ : Addr).add j = ⟨g, j, none⟩ := by unfold Addr.add; split <;> simp_all
          rw [this]; exact h.cell hy) hvs h1v
        refine (show Calls Tryz.prog 210 #[.slice (some ⟨g, 0, none⟩) l.length cap, .int .i64 (l.length : Int), .slice (some ⟨vb, 0, none⟩) 1 1] w _ from hE).mono ?_
        rintro e w' ⟨rfl, hw'⟩
        obtain ⟨k1, k2⟩ := ins_endgrow (w := w) (B := B) (cap' := grownCap w (l.length + 1) cap 9) (l := l) (x := x) hB (grownCap_ge _ _ _ _) (grownCap_le_maxLen _ _ _ _ (by unfold maxLen; omega))
        subst hw'
        exact ⟨_, _, _, rfl, k1, .inr rfl, gbT_any k2⟩
end Go.Proofs.YtfkeokglifpkoaaGreatDoor
