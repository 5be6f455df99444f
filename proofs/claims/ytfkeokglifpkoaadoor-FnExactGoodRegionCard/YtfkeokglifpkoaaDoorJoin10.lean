/-
  Texts that follow one another, joined: EvM, TxA.
-/
import Derived.Test.YtfkeokglifpkoaaDoorJoin7
import Derived.Test.YtfkeokglifpkoaaDoorJoin9
import Derived.Test.YtfkeokglifpkoaaDoorJoin2
import Derived.Laws.OwnMore
import Derived.Lib.QuietBelow
import Derived.BigQuiet
/-
  The law's helpers on events in memory of their own: a copy whose block is known, that an event is told alike to itself, and marks on it, whatever they are.
-/
namespace Go.Proofs.YtfkeokglifpkoaaDoor
open Go.RowKit M
open Clk (upd upd_same upd_other)
open Go.Sort (grow)
namespace M
theorem blk_of {w : World} {g : Nat} {cur : Array Value} {t : TypeId} (h : w.heap[g]? = some (.cells cur t (0, 0))) : Blk w g cur.size (fun i => cur.getD i undef) t := by
  unfold Blk
  rw [h]
  congr 2
  apply Array.ext_getElem?
  intro j
  by_cases hj : j < cur.size
  · rw [cf_get _ hj]; simp [Array.getD, hj]
  · rw [Array.getElem?_eq_none (by omega), Array.getElem?_eq_none (by rw [cf_size]; omega)]
theorem gbe_set {w w1 : World} {g o : Nat} {v : Value} (h : w.grownBy w1 (some g)) : w.grownBy (w1.setCell ⟨g, o, none⟩ v) (some g) :=
  ⟨h.os, h.tape, h.output, by rw [World.size_setCell]; exact h.size, fun k hk hne => by rw [heap_setCell_other _ _ _ _ (fun e => hne (by rw [e]))]; exact h.block k hk hne⟩
theorem gbe_below {w w1 w2 : World} {g : Nat} (h : w.grownBy w1 (some g)) (hb : Below w1.heap.size w1 w2) : w.grownBy w2 (some g) :=
  ⟨hb.os.trans h.os, hb.tape.trans h.tape, hb.output.trans h.output, Nat.le_trans h.size hb.size, fun k hk hne => by rw [hb.block k (Nat.lt_of_lt_of_le hk h.size)]; exact h.block k hk hne⟩
theorem gb_low {w w' : World} {g B : Nat} (h : w.grownBy w' (some g)) (hB : B ≤ g) (hs : B ≤ w.heap.size) : Below B w w' :=
  ⟨h.os, h.tape, h.output, h.size, fun k hk => h.block k (by omega) (fun e => by simp at e; omega)⟩
end M
theorem eq_event (I V K : Int) (N : ByteArray) (w : World) :
    Calls Tryd.prog 52 #[ev I V K N, ev I V K N] w fun e w' => e = .returned (.bool true) ∧ Below w.heap.size w w' := by
  go_enter Tryd.func52, Tryd.ntmps52
  go_wp2
  go_ret
  exact ⟨rfl, ((Below.refl _ w).alloc (Nat.le_refl _) _).alloc (by simp) _⟩
theorem eq_ev (e : Ev) (w : World) : Calls Tryd.prog 52 #[e.v, e.v] w fun e w' => e = .returned (.bool true) ∧ Below w.heap.size w w' := eq_event e.id e.ver e.kind e.name w
set_option maxHeartbeats 1000000 in
theorem to_evs (v : Value) (es : List Ev) (w : World) (hv : SliceOf w v es) (hlen : es.length ≤ 1048576) :
    Calls Tryd.prog 39 #[v] w fun e w' => (e = .returned (.slice (some ⟨w.heap.size, 0, none⟩) es.length es.length) ∧ w'.heap[w.heap.size]? = some (.cells (cellsE es).toArray 45 (0, 0))) ∧ Below w.heap.size w w' := by
  obtain ⟨a, cap, rfl, hr⟩ := hv
  by_cases he : es = []
  · subst he
    have hmk : ∀ w : World, (Instr.makeSlice 41 (.int .i64 0) (.int .i64 0)).run Tryd.prog w = .ok (.slice (some ⟨w.heap.size, 0, none⟩) 0 0) (w.alloc (.cells #[] 45)) := make_ev 0 (by omega)
    clear hr
    go_enter Tryd.func39, Tryd.ntmps39
    go_wp2
    refine wp_loop_rounds 1 ?_; rw [rounds_succ]
    go_wp2
    go_ret
    exact ⟨⟨rfl, heap_alloc_new w _⟩, (Below.refl _ _).alloc (Nat.le_refl _) _⟩
  · have hmk := make_ev es.length hlen
    obtain ⟨b, off, rfl, hlt, hrow⟩ := hr he
    clear hr
    go_enter Tryd.func39, Tryd.ntmps39
    go_wp2
    go_loopw [4] (fun i wr => ∃ k : Nat, k ≤ es.length ∧ i = .int .i64 k ∧ Hid (wr.heap[w.heap.size]? = some (.cells (cellsE (es.take k) ++ cellsE (List.replicate (es.length - k) e0)).toArray 45 (0, 0))) ∧ Below w.heap.size w wr) (fun i _ => es.length - (intOf i).toNat)
    case atStart => exact ⟨0, Nat.zero_le _, rfl, hide (heap_alloc_new w _), (Below.refl _ _).alloc (Nat.le_refl _) _⟩
    case round =>
      obtain ⟨k, hk, rfl, HB, hbw⟩ := hrel
      by_cases hlt2 : k < es.length
      · obtain ⟨e, he⟩ : ∃ e, es[k]? = some e := ⟨es[k], List.getElem?_eq_getElem hlt2⟩
        obtain ⟨c0, c1, c2, c3⟩ := (hrow k e he).below hbw hlt
        have HS := hide (cellsE_split es k e he)
        go_wp2_with fail
        refine (to_event _ _ _ _ _).mono ?_
        rintro e' w2 ⟨rfl, hb2⟩
        have hbw2 := hbw.trans (hb2.mono hbw.size)
        have hB0 := HB.out
        have hlt3 : w.heap.size < wr.heap.size := by
          rcases Nat.lt_or_ge w.heap.size wr.heap.size with h' | h'
          · exact h'
          · rw [Array.getElem?_eq_none h'] at hB0; cases hB0
        have hB2 : w2.heap[w.heap.size]? = some (.cells (cellsE (es.take k) ++ .int .i64 0 :: .int .i64 0 :: .int .i64 0 :: .string ⟨#[]⟩ :: cellsE (List.replicate (es.length - (k + 1)) e0)).toArray 45 (0, 0)) := by
          rw [hb2.block _ hlt3, hB0, show es.length - k = (es.length - (k + 1)) + 1 by omega, List.replicate_succ]
          rfl
        have hAl : k * 4 = (cellsE (es.take k)).length := by rw [cellsE_len, List.length_take]; omega
        obtain ⟨⟨f0, f1, f2, f3⟩, d0, d1, d2, d3⟩ := there4 hB2 hAl
        have HB2 := hide (store4 hB2 hAl (.int .i64 e.id) (.int .i64 e.ver) (.int .i64 e.kind) (.string e.name))
        clear hB2 hB0 hb2 c0 c1 c2 c3 HB hAl
        go_wp2
        exact ⟨⟨k + 1, by omega, by go_num, hide (by rw [HS.out, List.append_assoc]; exact HB2.out), (((hbw2.setCell (Nat.le_refl _) _).setCell (Nat.le_refl _) _).setCell (Nat.le_refl _) _).setCell (Nat.le_refl _) _⟩, by simp [intOf]; omega⟩
      · have hB := HB.out
        rw [List.take_of_length_le (by omega), show es.length - k = 0 by omega] at hB
        have HR := hide (show wr.heap[w.heap.size]? = some (.cells (cellsE es).toArray 45 (0, 0)) from by simpa [cellsE] using hB)
        clear hB HB
        go_wp2
        go_ret
        exact ⟨⟨rfl, HR.out⟩, hbw⟩
theorem convE {w w1 : World} (a : Int) (o : Obj) (ho : o = .cells #[.int .u8 a] 5) (h : Below (w.alloc o).heap.size (w.alloc o) w1) :
    (convert 131 9 (.slice (some ⟨w.heap.size, 0, none⟩) 1 1)).run Tryd.prog w1 = .ok (.string (strOfNums [a])) w1 := by
  subst ho
  refine run_convert_bytes_arg (P := Tryd.prog) w1 131 5 Tryd.underlying131 Tryd.underlying5 _ 0 1 1 [a] rfl (fun i hi => ?_) 9 Tryd.underlying9
  obtain rfl : i = 0 := by omega
  rw [h.cell (p := ⟨w.heap.size, 0 + 0, none⟩) (by simp), World.cell?_alloc_mark]; rfl
theorem dig_step {k q s : Nat} (h : 10 ^ s * q ≤ k) : 10 ^ (1 + s) * (q / 10) ≤ k := by
  have h1 : 10 * (q / 10) ≤ q := by omega
  have h2 : 10 ^ (1 + s) * (q / 10) = 10 ^ s * (10 * (q / 10)) := by rw [Nat.pow_add, Nat.pow_one, Nat.mul_comm 10 (10 ^ s), Nat.mul_assoc]
  rw [h2]
  exact Nat.le_trans (Nat.mul_le_mul_left _ h1) h
theorem dig_size {k q s : Nat} (h : 10 ^ s * q ≤ k) (hq : 1 ≤ q) (hk : k ≤ 1000000000) : s ≤ 9 := by
  rcases Nat.lt_or_ge 9 s with h1 | h1
  · have h2 : 10 ^ 10 ≤ 10 ^ s := Nat.pow_le_pow_right (by omega) h1
    have h3 : 10 ^ s * 1 ≤ 10 ^ s * q := Nat.mul_le_mul_left _ hq
    have : (10 : Nat) ^ 10 = 10000000000 := by decide
    omega
  · exact h1
end Go.Proofs.YtfkeokglifpkoaaDoor

/-
  Slices of texts in memory, and what the law does with them: how much is left, copies in new memory, two that are told alike, marks that are written and found again.
-/
namespace Go.Proofs.YtfkeokglifpkoaaDoor
open Go.RowKit M
open Go.Sort (grow)
namespace M
def sv (l : Txs) : List Value := l.map Value.string
theorem sv_len (l : Txs) : (sv l).length = l.length := by simp [sv]
theorem sv_at {l : Txs} {i : Nat} {x : ByteArray} (h : l[i]? = some x) : (sv l)[i]? = some (.string x) := by simp [sv, h]
theorem sv_app (a b : Txs) : sv (a ++ b) = sv a ++ sv b := by simp [sv]
theorem sv_set (l : Txs) (j : Nat) (x : ByteArray) : (sv l).set j (.string x) = sv (l.set j x) := by simp [sv, List.map_set]
/-- A slice of texts that is read. -/
def TxsOf (w : World) (v : Value) (l : Txs) : Prop :=
  ∃ a cap, v = .slice a l.length cap ∧ (0 < l.length → ∃ b off, a = some ⟨b, off, none⟩ ∧ b < w.heap.size ∧ ∀ i x, l[i]? = some x → w.cell? ⟨b, off + i, none⟩ = some (.string x))
theorem TxsOf.below {w w' : World} {v : Value} {l : Txs} (h : TxsOf w v l) (hb : Below w.heap.size w w') : TxsOf w' v l := by
  obtain ⟨a, cap, hv, hr⟩ := h
  refine ⟨a, cap, hv, fun hn => ?_⟩
  obtain ⟨b, off, ha, hlt, hrow⟩ := hr hn
  exact ⟨b, off, ha, Nat.lt_of_lt_of_le hlt hb.size, fun i x hi => (hb.cell (p := ⟨b, off + i, none⟩) hlt).trans (hrow i x hi)⟩
theorem TxsOf.form {w : World} {v : Value} {l : Txs} (h : TxsOf w v l) : ∃ a cap, v = .slice a l.length cap := by
  obtain ⟨a, cap, hv, _⟩ := h; exact ⟨a, cap, hv⟩
theorem TxsOf.nil (w : World) (a : Option Addr) (c : Nat) : TxsOf w (.slice a 0 c) [] := ⟨a, c, rfl, fun h => absurd h (Nat.lt_irrefl _)⟩
/-- A slice of texts of the call's own, from block B on, with room behind. -/
def OwnT (w : World) (B : Nat) (v : Value) (l : Txs) : Prop := w.ownsRow B 9 1 v l.length (sv l)
theorem OwnT.down {w w' : World} {B : Nat} {v : Value} {l : Txs} (h : OwnT w B v l) (hb : Below w.heap.size w w') : OwnT w' B v l := owns_below h hb
theorem OwnT.mono {w : World} {B B' : Nat} {v : Value} {l : Txs} (h : OwnT w B v l) (hB : B' ≤ B) : OwnT w B' v l := owns_mono h hB
theorem OwnT.nil (w : World) (B : Nat) : OwnT w B (.slice none 0 0) [] := ⟨rfl, .inl ⟨rfl, rfl⟩⟩
theorem OwnT.split {w : World} {B : Nat} {v : Value} {l : Txs} (h : OwnT w B v l) : (v = .slice none 0 0 ∧ l = []) ∨ ∃ g cap, v = .slice (some ⟨g, 0, none⟩) l.length cap ∧ B ≤ g ∧ g < w.heap.size ∧ l.length ≤ cap ∧ cap ≤ maxLen := by
  rcases h.2 with ⟨rfl, h0⟩ | ⟨g, cap, cur, rfl, hB, hg, hn, hc, hs, ht⟩
  · exact .inl ⟨rfl, List.length_eq_zero_iff.1 h0⟩
  · refine .inr ⟨g, cap, rfl, hB, ?_, hn, hc⟩
    rcases Nat.lt_or_ge g w.heap.size with h' | h'
    · exact h'
    · rw [Array.getElem?_eq_none h'] at hg; cases hg
theorem OwnT.txs {w : World} {B : Nat} {v : Value} {l : Txs} (h : OwnT w B v l) : TxsOf w v l := by
  obtain ⟨a, cap, hv, hr⟩ := own_cells h (by rw [sv_len]; omega)
  refine ⟨a, cap, hv, fun hn => ?_⟩
  obtain ⟨g, ha, _, hlt, hc⟩ := hr hn
  exact ⟨g, 0, ha, hlt, fun i x hi => by rw [Nat.zero_add]; exact hc i _ (sv_at hi)⟩
theorem OwnT.form {w : World} {B : Nat} {v : Value} {l : Txs} (h : OwnT w B v l) : ∃ a cap, v = .slice a l.length cap := h.txs.form
theorem OwnT.cell {w : World} {B g n cap : Nat} {l : Txs} (h : OwnT w B (.slice (some ⟨g, 0, none⟩) n cap) l) {j : Nat} {x : ByteArray} (hj : l[j]? = some x) : w.cell? ⟨g, j, none⟩ = some (.string x) := by
  obtain ⟨a, c, hv, hr⟩ := own_cells h (by rw [sv_len]; omega)
  obtain ⟨g', ha, _, _, hc⟩ := hr (by have := lt_of_get hj; omega)
  simp only [Value.slice.injEq] at hv
  obtain ⟨rfl, -, -⟩ := hv
  simp only [Option.some.injEq, Addr.mk.injEq, and_true] at ha
  subst ha
  exact hc j _ (sv_at hj)
theorem OwnT.len {w : World} {B n cap : Nat} {a : Option Addr} {l : Txs} (h : OwnT w B (.slice a n cap) l) : n = l.length := by
  obtain ⟨a', c, hv⟩ := h.form
  simp only [Value.slice.injEq] at hv
  exact hv.2.1
theorem OwnT.thaw {w : World} {B g n cap : Nat} {l : Txs} (h : OwnT w B (.slice (some ⟨g, 0, none⟩) n cap) l) (j : Nat) : w.frozen? ⟨g, j, none⟩ = false := by
  have e := h.len
  subst e
  exact World.ownsRow.frozenAt h j
theorem OwnT.set {w : World} {B g n cap : Nat} {l : Txs} (h : OwnT w B (.slice (some ⟨g, 0, none⟩) n cap) l) (j : Nat) (x : ByteArray) : OwnT (w.setCell ⟨g, j, none⟩ (.string x)) B (.slice (some ⟨g, 0, none⟩) n cap) (l.set j x) := by
  have e := h.len
  subst e
  have := (World.ownsRow.stored h j (.string x)).1
  unfold OwnT
  rw [List.length_set, ← sv_set]
  exact this
theorem OwnT.other {w w' : World} {B : Nat} {v : Value} {l : Txs} {row : Option Nat} (h : OwnT w B v l) (hg : w.grownBy w' row) (hne : ∀ g, v.ownBlock = some g → some g ≠ row) : OwnT w' B v l := owns_other h hg hne
theorem OwnT.lt {w : World} {B g : Nat} {v : Value} {l : Txs} (h : OwnT w B v l) (hg : v.ownBlock = some g) : B ≤ g ∧ g < w.heap.size := by
  rcases h.split with ⟨rfl, _⟩ | ⟨g', cap, rfl, h1, h2, _⟩
  · simp [Value.ownBlock] at hg
  · simp only [Value.ownBlock, Option.some.injEq] at hg
    subst hg; exact ⟨h1, h2⟩
theorem gbT_refl (w : World) (row : Option Nat) : w.grownBy w row := ⟨rfl, rfl, rfl, Nat.le_refl _, fun _ _ _ => rfl⟩
theorem gbT_set {w w1 : World} {g o : Nat} {v : Value} (h : w.grownBy w1 (some g)) : w.grownBy (w1.setCell ⟨g, o, none⟩ v) (some g) :=
  ⟨h.os, h.tape, h.output, by rw [World.size_setCell]; exact h.size, fun k hk hne => by rw [heap_setCell_other _ _ _ _ (fun e => hne (by rw [e]))]; exact h.block k hk hne⟩
theorem gbT_below {w w1 w2 : World} {row : Option Nat} (h : w.grownBy w1 row) (hb : Below w1.heap.size w1 w2) : w.grownBy w2 row :=
  ⟨hb.os.trans h.os, hb.tape.trans h.tape, hb.output.trans h.output, Nat.le_trans h.size hb.size, fun k hk hne => by rw [hb.block k (Nat.lt_of_lt_of_le hk h.size)]; exact h.block k hk hne⟩
/-- The law's mark of a number. -/
def md : Nat → Nat → ByteArray → ByteArray
  | 0, _, out => out
  | f + 1, q, out => if q = 0 then out else md f (q / 10) (strOfNums [48 + ((q % 10 : Nat) : Int)] ++ out)
theorem md_zero (f : Nat) (out : ByteArray) : md f 0 out = out := by cases f <;> simp [md]
def mtx (k : Nat) : ByteArray := ⟨#[109]⟩ ++ md k k ⟨#[]⟩
def MD (k q : Nat) (out : ByteArray) : Prop := ∃ f, q ≤ f ∧ md f q out = md k k ⟨#[]⟩
theorem MD.step {k q : Nat} {out : ByteArray} (h : MD k q out) (hq : 1 ≤ q) : MD k (q / 10) (strOfNums [48 + ((q % 10 : Nat) : Int)] ++ out) := by
  obtain ⟨f, hf, he⟩ := h
  obtain ⟨f, rfl⟩ : ∃ f', f = f' + 1 := ⟨f - 1, by omega⟩
  refine ⟨f, by omega, ?_⟩
  rw [← he]
  conv => rhs; rw [md, if_neg (by omega)]
theorem MD.last {k : Nat} {out : ByteArray} (h : MD k 0 out) : out = md k k ⟨#[]⟩ := by
  obtain ⟨f, _, he⟩ := h
  rw [md_zero] at he; exact he
theorem digT_step {k q s : Nat} (h : 10 ^ s * q ≤ k) : 10 ^ (1 + s) * (q / 10) ≤ k := by
  have h1 : 10 * (q / 10) ≤ q := by omega
  have h2 : 10 ^ (1 + s) * (q / 10) = 10 ^ s * (10 * (q / 10)) := by rw [Nat.pow_add, Nat.pow_one, Nat.mul_comm 10 (10 ^ s), Nat.mul_assoc]
  rw [h2]
  exact Nat.le_trans (Nat.mul_le_mul_left _ h1) h
theorem digT_size {k q s : Nat} (h : 10 ^ s * q ≤ k) (hq : 1 ≤ q) (hk : k ≤ 1000000000) : s ≤ 9 := by
  rcases Nat.lt_or_ge 9 s with h1 | h1
  · have h2 : 10 ^ 10 ≤ 10 ^ s := Nat.pow_le_pow_right (by omega) h1
    have h3 : 10 ^ s * 1 ≤ 10 ^ s * q := Nat.mul_le_mul_left _ hq
    have : (10 : Nat) ^ 10 = 10000000000 := by decide
    omega
  · exact h1
/-- Marks from k on, n of them. -/
def mks (k n : Nat) : Txs := (List.range n).map (fun i => mtx (k + i))
theorem mks_len (k n : Nat) : (mks k n).length = n := by simp [mks]
theorem mks_at {k n i : Nat} (h : i < n) : (mks k n)[i]? = some (mtx (k + i)) := by simp [mks, h]
theorem set_step {l : Txs} {m : Txs} {j : Nat} {x : ByteArray} (hj : j < l.length) (hm : m.take (j + 1) = m.take j ++ [x]) (hml : j < m.length) : (m.take j ++ l.drop j).set j x = m.take (j + 1) ++ l.drop (j + 1) := by
  have e : (m.take j).length = j := by rw [List.length_take]; omega
  rw [List.set_append_right _ _ (by omega), e, Nat.sub_self, List.drop_eq_getElem_cons hj, List.set_cons_zero, hm]
  simp
theorem mks_snoc (k n j : Nat) (h : j < n) : (mks k n).take (j + 1) = (mks k n).take j ++ [mtx (k + j)] := take_snoc' (mks_at h)
end M
theorem info_str : (Tryd.prog.info? 9).map (fun i => (i.zero, i.size, i.bytes)) = some (some (.string ⟨#[]⟩), 1, 16) := by kernel_rfl
theorem make_strs (n : Nat) (h : n ≤ 1048576) (w : World) : (Instr.makeSlice 71 (.int .i64 (n : Int)) (.int .i64 (n : Int))).run Tryd.prog w = .ok (.slice (some ⟨w.heap.size, 0, none⟩) n n) (w.alloc (.cells (madeCells #[(.string ⟨#[]⟩ : Value)] n) 9)) := by
  obtain ⟨i, hi, hz0, hz1, hz2⟩ := info_parts info_str
  have hr := run_make (P := Tryd.prog) w 71 9 i _ Tryd.underlying71 hi hz0 .i64 .i64 (n : Int) (n : Int) (by omega) (Int.le_refl _) (by rw [hz2]; omega) (by omega)
  rw [hr, hz1]
  simp only [Int.toNat_natCast, Nat.mul_one]
  rfl
namespace M
theorem made_strs (w : World) (n : Nat) (h : n ≤ 1048576) : OwnT (w.alloc (.cells (madeCells #[(.string ⟨#[]⟩ : Value)] n) 9)) w.heap.size (.slice (some ⟨w.heap.size, 0, none⟩) n n) (List.replicate n ⟨#[]⟩) := by
  have h1 := World.ownsRow_lit (base := w.heap.size) (e := 9) (size := 1) w (madeCells #[(.string ⟨#[]⟩ : Value)] n) n (Nat.le_refl _) (by unfold maxLen; omega) (by rw [size_madeCells]; omega)
  unfold OwnT
  rw [List.length_replicate]
  rw [toList_madeCells_one] at h1
  have e : sv (List.replicate n ⟨#[]⟩) = List.replicate n (Value.string ⟨#[]⟩) := by simp [sv]
  rw [e]; exact h1
end M
theorem convT {w w1 : World} (a : Int) (o : Obj) (ho : o = .cells #[.int .u8 a] 5) (h : Below (w.alloc o).heap.size (w.alloc o) w1) :
    (convert 131 9 (.slice (some ⟨w.heap.size, 0, none⟩) 1 1)).run Tryd.prog w1 = .ok (.string (strOfNums [a])) w1 := by
  subst ho
  refine run_convert_bytes_arg (P := Tryd.prog) w1 131 5 Tryd.underlying131 Tryd.underlying5 _ 0 1 1 [a] rfl (fun i hi => ?_) 9 Tryd.underlying9
  obtain rfl : i = 0 := by omega
  rw [h.cell (p := ⟨w.heap.size, 0 + 0, none⟩) (by simp), World.cell?_alloc_mark]; rfl
end Go.Proofs.YtfkeokglifpkoaaDoor
