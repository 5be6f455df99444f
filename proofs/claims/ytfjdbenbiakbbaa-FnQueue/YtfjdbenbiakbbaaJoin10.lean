/-
  Slices of line steps in memory (two numbers, a text each), and what the law does with them: how much is left, copies in new memory, two that are told alike, marks that are written and found again. Written by tools/mk_lst.py.
-/
import Derived.Test.YtfjdbenbiakbbaaJoin4
import Derived.Test.YtfjdbenbiakbbaaJoin7
namespace Go.Proofs.Ytfjdbenbiakbbaa
open Go.RowKit M
open Go.Sort (grow)
namespace M
theorem ltL {l : Lsts} {k : Nat} {y : Lst} (hy : l[k]? = some y) : k < l.length := (List.getElem?_eq_some_iff.1 hy).1
abbrev Lst.v (d : Lst) : Value := .agg #[.int .i64 d.kind, .int .i64 d.k, .string d.tx]
def cellsL : Lsts → List Value
  | [] => []
  | d :: r => .int .i64 d.kind :: .int .i64 d.k :: .string d.tx :: cellsL r
theorem cellsL_len : ∀ l : Lsts, (cellsL l).length = l.length * 3
  | [] => rfl
  | d :: r => by simp [cellsL, cellsL_len r]; omega
theorem cellsL_at : ∀ (l : Lsts) (i : Nat) (d : Lst), l[i]? = some d → (cellsL l)[i * 3]? = some (.int .i64 d.kind) ∧ (cellsL l)[i * 3 + 1]? = some (.int .i64 d.k) ∧ (cellsL l)[i * 3 + 2]? = some (.string d.tx)
  | [], i, e, h => by simp at h
  | x :: r, 0, e, h => by simp at h; subst h; simp [cellsL]
  | x :: r, i + 1, e, h => by
    obtain ⟨a, b, c⟩ := cellsL_at r i e (by simpa using h)
    have q : (i + 1) * 3 = i * 3 + 1 + 1 + 1 := by omega
    rw [q]
    simp only [cellsL, List.getElem?_cons_succ, a, b, c, and_self]
theorem cellsL_app : ∀ a b : Lsts, cellsL (a ++ b) = cellsL a ++ cellsL b
  | [], b => rfl
  | e :: r, b => by simp [cellsL, cellsL_app r b]
theorem cellsL_drop : ∀ (l : Lsts) (i : Nat), (cellsL l).drop (i * 3) = cellsL (l.drop i)
  | [], i => by simp [cellsL]
  | d :: r, 0 => by simp
  | d :: r, i + 1 => by
    rw [show (i + 1) * 3 = i * 3 + 1 + 1 + 1 by omega]
    simp only [cellsL, List.drop_succ_cons]
    exact cellsL_drop r i
theorem cellsL_take : ∀ (l : Lsts) (i : Nat), (cellsL l).take (i * 3) = cellsL (l.take i)
  | [], i => by simp [cellsL]
  | d :: r, 0 => by simp [cellsL]
  | d :: r, i + 1 => by
    rw [show (i + 1) * 3 = i * 3 + 1 + 1 + 1 by omega]
    simp only [cellsL, List.take_succ_cons]
    rw [cellsL_take r i]
theorem cellsL_kind : ∀ (l : Lsts) (i : Nat) (d : Lst) (x : Int), l[i]? = some d → (cellsL l).set (i * 3) (.int .i64 x) = cellsL (l.set i ⟨x, d.k, d.tx⟩)
  | [], i, e, x, h => by simp at h
  | y :: r, 0, e, x, h => by simp at h; subst h; simp [cellsL]
  | y :: r, i + 1, e, x, h => by
    rw [show (i + 1) * 3 = i * 3 + 1 + 1 + 1 by omega]
    simp only [cellsL, List.set_cons_succ]
    rw [cellsL_kind r i e x (by simpa using h)]
theorem cellsL_k : ∀ (l : Lsts) (i : Nat) (d : Lst) (x : Int), l[i]? = some d → (cellsL l).set (i * 3 + 1) (.int .i64 x) = cellsL (l.set i ⟨d.kind, x, d.tx⟩)
  | [], i, e, x, h => by simp at h
  | y :: r, 0, e, x, h => by simp at h; subst h; simp [cellsL]
  | y :: r, i + 1, e, x, h => by
    rw [show (i + 1) * 3 + 1 = i * 3 + 1 + 1 + 1 + 1 by omega]
    simp only [cellsL, List.set_cons_succ]
    rw [cellsL_k r i e x (by simpa using h)]
theorem cellsL_tx : ∀ (l : Lsts) (i : Nat) (d : Lst) (x : ByteArray), l[i]? = some d → (cellsL l).set (i * 3 + 2) (.string x) = cellsL (l.set i ⟨d.kind, d.k, x⟩)
  | [], i, e, x, h => by simp at h
  | y :: r, 0, e, x, h => by simp at h; subst h; simp [cellsL]
  | y :: r, i + 1, e, x, h => by
    rw [show (i + 1) * 3 + 2 = i * 3 + 2 + 1 + 1 + 1 by omega]
    simp only [cellsL, List.set_cons_succ]
    rw [cellsL_tx r i e x (by simpa using h)]
theorem cellsL_one (l : Lsts) : ∀ v ∈ cellsL l, v.oneCell' = true := by
  induction l with
  | nil => intro v h; simp [cellsL] at h
  | cons d r ih =>
    intro v h
    simp only [cellsL, List.mem_cons] at h
    rcases h with rfl | rfl | rfl | h
    · rfl
    · rfl
    · rfl
    · exact ih v h
theorem at_setL {l : Lsts} {i : Nat} (h : i < l.length) (d : Lst) : (l.set i d)[i]? = some d := by simp [h]
/-- The three cells of a line step. -/
def L3 (w : World) (b o : Nat) (d : Lst) : Prop := w.cell? ⟨b, o, none⟩ = some (.int .i64 d.kind) ∧ w.cell? ⟨b, o + 1, none⟩ = some (.int .i64 d.k) ∧ w.cell? ⟨b, o + 2, none⟩ = some (.string d.tx)
theorem L3.below {w w' : World} {b o B : Nat} {d : Lst} (h : L3 w b o d) (hb : Below B w w') (hB : b < B) : L3 w' b o d := by
  obtain ⟨h0, h1, h2⟩ := h
  exact ⟨(hb.cell hB).trans h0, (hb.cell hB).trans h1, (hb.cell hB).trans h2⟩
/-- A slice of line steps that is read. -/
def LstsOf (w : World) (v : Value) (l : Lsts) : Prop :=
  ∃ a cap, v = .slice a l.length cap ∧ (0 < l.length → ∃ b off, a = some ⟨b, off, none⟩ ∧ b < w.heap.size ∧ ∀ i d, l[i]? = some d → L3 w b (off + i * 3) d)
theorem LstsOf.below {w w' : World} {v : Value} {l : Lsts} (h : LstsOf w v l) (hb : Below w.heap.size w w') : LstsOf w' v l := by
  obtain ⟨a, cap, hv, hr⟩ := h
  refine ⟨a, cap, hv, fun hn => ?_⟩
  obtain ⟨b, off, ha, hlt, hrow⟩ := hr hn
  exact ⟨b, off, ha, Nat.lt_of_lt_of_le hlt hb.size, fun i x hi => (hrow i x hi).below hb hlt⟩
theorem LstsOf.form {w : World} {v : Value} {l : Lsts} (h : LstsOf w v l) : ∃ a cap, v = .slice a l.length cap := by
  obtain ⟨a, cap, hv, _⟩ := h; exact ⟨a, cap, hv⟩
theorem LstsOf.nil (w : World) (a : Option Addr) (c : Nat) : LstsOf w (.slice a 0 c) [] := ⟨a, c, rfl, fun h => absurd h (Nat.lt_irrefl _)⟩
/-- A slice of line steps of the call's own, from block B on, with room behind. -/
def OwnL (w : World) (B : Nat) (v : Value) (l : Lsts) : Prop := w.ownsRow B 36 3 v l.length (cellsL l)
theorem OwnL.down {w w' : World} {B : Nat} {v : Value} {l : Lsts} (h : OwnL w B v l) (hb : Below w.heap.size w w') : OwnL w' B v l := owns_below h hb
theorem OwnL.mono {w : World} {B B' : Nat} {v : Value} {l : Lsts} (h : OwnL w B v l) (hB : B' ≤ B) : OwnL w B' v l := owns_mono h hB
theorem OwnL.nil (w : World) (B : Nat) : OwnL w B (.slice none 0 0) [] := ⟨rfl, .inl ⟨rfl, rfl⟩⟩
theorem OwnL.split {w : World} {B : Nat} {v : Value} {l : Lsts} (h : OwnL w B v l) : (v = .slice none 0 0 ∧ l = []) ∨ ∃ g cap, v = .slice (some ⟨g, 0, none⟩) l.length cap ∧ B ≤ g ∧ g < w.heap.size ∧ l.length ≤ cap ∧ cap ≤ maxLen := by
  rcases h.2 with ⟨rfl, h0⟩ | ⟨g, cap, cur, rfl, hB, hg, hn, hc, hs, ht⟩
  · exact .inl ⟨rfl, List.length_eq_zero_iff.1 h0⟩
  · refine .inr ⟨g, cap, rfl, hB, ?_, hn, hc⟩
    rcases Nat.lt_or_ge g w.heap.size with h' | h'
    · exact h'
    · rw [Array.getElem?_eq_none h'] at hg; cases hg
theorem OwnL.lsts {w : World} {B : Nat} {v : Value} {l : Lsts} (h : OwnL w B v l) : LstsOf w v l := by
  obtain ⟨a, cap, hv, hr⟩ := own_cells h (cellsL_len l)
  refine ⟨a, cap, hv, fun hn => ?_⟩
  obtain ⟨g, ha, _, hlt, hc⟩ := hr hn
  exact ⟨g, 0, ha, hlt, fun i x hi => by
    obtain ⟨k0, k1, k2⟩ := cellsL_at l i x hi
    rw [Nat.zero_add]; exact ⟨hc _ _ k0, hc _ _ k1, hc _ _ k2⟩⟩
theorem OwnL.form {w : World} {B : Nat} {v : Value} {l : Lsts} (h : OwnL w B v l) : ∃ a cap, v = .slice a l.length cap := h.lsts.form
theorem OwnL.len {w : World} {B n cap : Nat} {a : Option Addr} {l : Lsts} (h : OwnL w B (.slice a n cap) l) : n = l.length := by
  obtain ⟨a', c, hv⟩ := h.form
  simp only [Value.slice.injEq] at hv
  exact hv.2.1
theorem OwnL.cell {w : World} {B g n cap : Nat} {l : Lsts} (h : OwnL w B (.slice (some ⟨g, 0, none⟩) n cap) l) {j : Nat} {u : Value} (hj : (cellsL l)[j]? = some u) : w.cell? ⟨g, j, none⟩ = some u := by
  have hl : 0 < l.length := by
    have := (List.getElem?_eq_some_iff.1 hj).1
    rw [cellsL_len] at this; omega
  obtain ⟨a, c, hv, hr⟩ := own_cells h (cellsL_len l)
  obtain ⟨g', ha, _, _, hc⟩ := hr hl
  simp only [Value.slice.injEq] at hv
  obtain ⟨rfl, -, -⟩ := hv
  simp only [Option.some.injEq, Addr.mk.injEq, and_true] at ha
  subst ha
  exact hc j _ hj
theorem OwnL.l3 {w : World} {B g n cap : Nat} {l : Lsts} (h : OwnL w B (.slice (some ⟨g, 0, none⟩) n cap) l) {j : Nat} {d : Lst} (hj : l[j]? = some d) : L3 w g (j * 3) d := by
  obtain ⟨k0, k1, k2⟩ := cellsL_at l j d hj
  exact ⟨h.cell k0, h.cell k1, h.cell k2⟩
theorem OwnL.thaw {w : World} {B g n cap : Nat} {l : Lsts} (h : OwnL w B (.slice (some ⟨g, 0, none⟩) n cap) l) (j : Nat) : w.frozen? ⟨g, j, none⟩ = false := by
  have e := h.len
  subst e
  exact World.ownsRow.frozenAt h j
theorem OwnL.setKind {w : World} {B g n cap : Nat} {l : Lsts} (h : OwnL w B (.slice (some ⟨g, 0, none⟩) n cap) l) {j : Nat} {d : Lst} (hj : l[j]? = some d) (x : Int) : OwnL (w.setCell ⟨g, j * 3, none⟩ (.int .i64 x)) B (.slice (some ⟨g, 0, none⟩) n cap) (l.set j ⟨x, d.k, d.tx⟩) := by
  have e := h.len
  subst e
  have := (World.ownsRow.stored h (j * 3) (.int .i64 x)).1
  unfold OwnL
  rw [List.length_set, ← cellsL_kind l j d x hj]
  exact this
theorem OwnL.setK {w : World} {B g n cap : Nat} {l : Lsts} (h : OwnL w B (.slice (some ⟨g, 0, none⟩) n cap) l) {j : Nat} {d : Lst} (hj : l[j]? = some d) (x : Int) : OwnL (w.setCell ⟨g, j * 3 + 1, none⟩ (.int .i64 x)) B (.slice (some ⟨g, 0, none⟩) n cap) (l.set j ⟨d.kind, x, d.tx⟩) := by
  have e := h.len
  subst e
  have := (World.ownsRow.stored h (j * 3 + 1) (.int .i64 x)).1
  unfold OwnL
  rw [List.length_set, ← cellsL_k l j d x hj]
  exact this
theorem OwnL.setTx {w : World} {B g n cap : Nat} {l : Lsts} (h : OwnL w B (.slice (some ⟨g, 0, none⟩) n cap) l) {j : Nat} {d : Lst} (hj : l[j]? = some d) (x : ByteArray) : OwnL (w.setCell ⟨g, j * 3 + 2, none⟩ (.string x)) B (.slice (some ⟨g, 0, none⟩) n cap) (l.set j ⟨d.kind, d.k, x⟩) := by
  have e := h.len
  subst e
  have := (World.ownsRow.stored h (j * 3 + 2) (.string x)).1
  unfold OwnL
  rw [List.length_set, ← cellsL_tx l j d x hj]
  exact this
theorem OwnL.set {w : World} {B g n cap : Nat} {l : Lsts} (h : OwnL w B (.slice (some ⟨g, 0, none⟩) n cap) l) {j : Nat} (hj : j < l.length) (x : Lst) : OwnL (((w.setCell ⟨g, j * 3, none⟩ (.int .i64 x.kind)).setCell ⟨g, j * 3 + 1, none⟩ (.int .i64 x.k)).setCell ⟨g, j * 3 + 2, none⟩ (.string x.tx)) B (.slice (some ⟨g, 0, none⟩) n cap) (l.set j x) := by
  have h1 := h.setKind (List.getElem?_eq_getElem hj) x.kind
  have h2 := h1.setK (at_setL hj _) x.k
  have h3 := h2.setTx (at_setL (by simpa using hj) _) x.tx
  simpa using h3
theorem OwnL.other {w w' : World} {B : Nat} {v : Value} {l : Lsts} {row : Option Nat} (h : OwnL w B v l) (hg : w.grownBy w' row) (hne : ∀ g, v.ownBlock = some g → some g ≠ row) : OwnL w' B v l := owns_other h hg hne
theorem OwnL.lt {w : World} {B g : Nat} {v : Value} {l : Lsts} (h : OwnL w B v l) (hg : v.ownBlock = some g) : B ≤ g ∧ g < w.heap.size := by
  rcases h.split with ⟨rfl, _⟩ | ⟨g', cap, rfl, h1, h2, _⟩
  · simp [Value.ownBlock] at hg
  · simp only [Value.ownBlock, Option.some.injEq] at hg
    subst hg; exact ⟨h1, h2⟩
def lst0 : Lst := ⟨0, 0, ⟨#[]⟩⟩
theorem made_cellsL (n : Nat) : (madeCells #[(.int .i64 0 : Value), .int .i64 0, .string ⟨#[]⟩] (n * 3)).toList = cellsL (List.replicate n lst0) := by
  apply List.ext_getElem?
  intro i
  by_cases hi : i < n * 3
  · have h1 : (madeCells #[(.int .i64 0 : Value), .int .i64 0, .string ⟨#[]⟩] (n * 3))[i]? = some (#[(.int .i64 0 : Value), .int .i64 0, .string ⟨#[]⟩][i % 3]!) := by
      simp [madeCells, hi]
    rw [Array.getElem?_toList, h1]
    obtain ⟨a, b, c⟩ := cellsL_at (List.replicate n lst0) (i / 3) lst0 (by rw [List.getElem?_replicate, if_pos (by omega)])
    rcases (show i % 3 = 0 ∨ i % 3 = 1 ∨ i % 3 = 2 by omega) with h | h | h
    · rw [h, show i = i / 3 * 3 by omega, a]; rfl
    · rw [h, show i = i / 3 * 3 + 1 by omega, b]; rfl
    · rw [h, show i = i / 3 * 3 + 2 by omega, c]; rfl
  · rw [List.getElem?_eq_none (by rw [Array.length_toList, size_madeCells]; omega), List.getElem?_eq_none (by rw [cellsL_len, List.length_replicate]; omega)]
/-- Marks from k on. -/
def mkl (k : Nat) : Lst := ⟨((k : Nat) : Int), ((k + 1 : Nat) : Int), mtx (k + 2)⟩
def mkL (k n : Nat) : Lsts := (List.range n).map (fun i => mkl (k + i * 3))
theorem mkL_len (k n : Nat) : (mkL k n).length = n := by simp [mkL]
theorem mkL_at {k n i : Nat} (h : i < n) : (mkL k n)[i]? = some (mkl (k + i * 3)) := by simp [mkL, h]
end M
theorem info_lst : (Try.prog.info? 36).map (fun i => (i.zero, i.size, i.bytes)) = some (some (.agg #[.int .i64 0, .int .i64 0, .string ⟨#[]⟩]), 3, 32) := by kernel_rfl
theorem make_lsts (n : Nat) (h : n ≤ 1048576) (w : World) : (Instr.makeSlice 46 (.int .i64 (n : Int)) (.int .i64 (n : Int))).run Try.prog w = .ok (.slice (some ⟨w.heap.size, 0, none⟩) n n) (w.alloc (.cells (madeCells #[(.int .i64 0 : Value), .int .i64 0, .string ⟨#[]⟩] (n * 3)) 36)) := by
  obtain ⟨i, hi, hz0, hz1, hz2⟩ := info_parts info_lst
  have hr := run_make (P := Try.prog) w 46 36 i _ Try.underlying46 hi hz0 .i64 .i64 (n : Int) (n : Int) (by omega) (Int.le_refl _) (by rw [hz2]; omega) (by omega)
  rw [hr, hz1]
  simp only [Int.toNat_natCast]
  rfl
namespace M
theorem made_lsts (w : World) (n : Nat) (h : n ≤ 1048576) : OwnL (w.alloc (.cells (madeCells #[(.int .i64 0 : Value), .int .i64 0, .string ⟨#[]⟩] (n * 3)) 36)) w.heap.size (.slice (some ⟨w.heap.size, 0, none⟩) n n) (List.replicate n lst0) := by
  have h1 := World.ownsRow_lit (base := w.heap.size) (e := 36) (size := 3) w (madeCells #[(.int .i64 0 : Value), .int .i64 0, .string ⟨#[]⟩] (n * 3)) n (Nat.le_refl _) (by unfold maxLen; omega) (by rw [size_madeCells])
  unfold OwnL
  rw [List.length_replicate]
  rw [made_cellsL] at h1
  exact h1
end M
set_option maxHeartbeats 2000000 in
theorem to_lst (d : Lst) (w : World) :
    Calls Try.prog 13 #[d.v] w fun e w' => e = .returned d.v ∧ Below w.heap.size w w' := by
  have hbA := (((Below.refl w.heap.size w).alloc (Nat.le_refl _) (.cells #[.int .i64 d.kind, .int .i64 d.k, .string d.tx] 27)).alloc (by simp) (.cells #[.int .i64 d.kind, .int .i64 d.k, .string d.tx] 36)).alloc (by simp; omega) (.cells #[.int .i64 d.kind, .int .i64 d.k, .string d.tx] 36)
  go_enter Try.func13, Try.ntmps13
  go_wp2
  exact bodyPost_ret (v := d.v) (by simp [results, Try.results13, go_sem]) rfl ⟨rfl, hbA⟩
set_option maxHeartbeats 2000000 in
theorem to_lsts (v : Value) (l : Lsts) (w : World) (hv : LstsOf w v l) (hn : l.length ≤ 1048576) :
    Calls Try.prog 20 #[v] w fun e w' => (e = .returned (.slice (some ⟨w.heap.size, 0, none⟩) l.length l.length) ∧ OwnL w' w.heap.size (.slice (some ⟨w.heap.size, 0, none⟩) l.length l.length) l) ∧ Below w.heap.size w w' := by
  obtain ⟨a, cap, rfl, hr⟩ := hv
  have HR := hide hr
  clear hr
  have hmk := make_lsts l.length hn
  have HZ := hide (made_lsts w l.length hn)
  go_enter Try.func20, Try.ntmps20
  go_wp2
  go_loopw [4] (fun i wr => ∃ k : Nat, k ≤ l.length ∧ i = .int .i64 k ∧ Hid (OwnL wr w.heap.size (.slice (some ⟨w.heap.size, 0, none⟩) l.length l.length) (l.take k ++ (List.replicate l.length lst0).drop k)) ∧ Below w.heap.size w wr) (fun i _ => l.length - (intOf i).toNat)
  case atStart => exact ⟨0, Nat.zero_le _, rfl, HZ, (Below.refl _ _).alloc (Nat.le_refl _) _⟩
  case round =>
    obtain ⟨k, hk, rfl, HA, hbw⟩ := hrel
    by_cases hlt : k < l.length
    · obtain ⟨b, off, rfl, hb, hrow⟩ := HR.out (by omega)
      obtain ⟨x, hx⟩ : ∃ x, l[k]? = some x := ⟨l[k], List.getElem?_eq_getElem hlt⟩
      obtain ⟨c0, c1, c2⟩ := (hrow k x hx).below hbw hb
      have hsz0 : w.heap.size < wr.heap.size := (HA.out.lt rfl).2
      have HX := hide hx
      clear hrow HR HZ hx
      go_wp2_with fail
      refine (to_lst x _).mono ?_
      rintro e w1 ⟨rfl, hb1⟩
      have hbw1 := hbw.trans (hb1.mono hbw.size)
      have hA1 := HA.out.down hb1
      obtain ⟨e0, e1, e2⟩ := hA1.l3 (j := k) (d := lst0) (mid_atA (by simp [hlt]) (by omega))
      have f0 := hA1.thaw (k * 3)
      have f1 := hA1.thaw (k * 3 + 1)
      have f2 := hA1.thaw (k * 3 + 2)
      have hA2 := hA1.set (j := k) (by rw [List.length_append, List.length_take, List.length_drop, List.length_replicate]; omega) x
      rw [set_stepA (by rw [List.length_replicate]; exact hlt) HX.out] at hA2
      have HA2 := hide hA2
      have hbw2 := ((hbw1.setCell (p := ⟨w.heap.size, k * 3, none⟩) (Nat.le_refl _) (.int .i64 x.kind)).setCell (p := ⟨w.heap.size, k * 3 + 1, none⟩) (Nat.le_refl _) (.int .i64 x.k)).setCell (p := ⟨w.heap.size, k * 3 + 2, none⟩) (Nat.le_refl _) (.string x.tx)
      clear HA hA1 hA2 hb1 c0 c1 c2
      go_wp2
      exact ⟨⟨k + 1, by omega, by go_num, HA2, hbw2⟩, by simp [intOf]; omega⟩
    · have hB := HA.out
      rw [List.take_of_length_le (by omega), List.drop_eq_nil_of_le (by rw [List.length_replicate]; omega), List.append_nil] at hB
      have HB := hide hB
      clear HA HR hB HZ
      go_wp2
      go_ret
      exact ⟨⟨rfl, HB.out⟩, hbw⟩
set_option maxHeartbeats 2000000 in
theorem eq_lst (d : Lst) (w : World) :
    Calls Try.prog 55 #[d.v, d.v] w fun e w' => e = .returned (.bool true) ∧ Below w.heap.size w w' := by
  have hbA := ((Below.refl w.heap.size w).alloc (Nat.le_refl _) (.cells #[.int .i64 d.kind, .int .i64 d.k, .string d.tx] 36)).alloc (by simp) (.cells #[.int .i64 d.kind, .int .i64 d.k, .string d.tx] 36)
  go_enter Try.func55, Try.ntmps55
  go_wp2
  go_ret
  exact ⟨rfl, hbA⟩
set_option maxHeartbeats 2000000 in
theorem eq_lsts (v u : Value) (l : Lsts) (w : World) (hv : LstsOf w v l) (hu : LstsOf w u l) (hn : l.length ≤ 1048576) :
    Calls Try.prog 23 #[v, u] w fun e w' => e = .returned (.bool true) ∧ Below w.heap.size w w' := by
  obtain ⟨a, cap, rfl, hr⟩ := hv
  obtain ⟨a2, cap2, rfl, hr2⟩ := hu
  have HR := hide hr
  have HR2 := hide hr2
  clear hr hr2
  go_enter Try.func23, Try.ntmps23
  go_wp2
  go_loopw [5] (fun i wr => ∃ k : Nat, k ≤ l.length ∧ i = .int .i64 k ∧ Below w.heap.size w wr) (fun i _ => l.length - (intOf i).toNat)
  case atStart => exact ⟨0, Nat.zero_le _, rfl, Below.refl _ _⟩
  case round =>
    obtain ⟨k, hk, rfl, hbw⟩ := hrel
    by_cases hlt : k < l.length
    · obtain ⟨b, off, rfl, hb, hrow⟩ := HR.out (by omega)
      obtain ⟨b2, off2, rfl, hb2, hrow2⟩ := HR2.out (by omega)
      obtain ⟨x, hx⟩ : ∃ x, l[k]? = some x := ⟨l[k], List.getElem?_eq_getElem hlt⟩
      obtain ⟨c0, c1, c2⟩ := (hrow k x hx).below hbw hb
      obtain ⟨e0, e1, e2⟩ := (hrow2 k x hx).below hbw hb2
      have k0 := cell_regrown c0
      have k1 := cell_regrown c1
      have k2 := cell_regrown c2
      have g0 := cell_regrown e0
      have g1 := cell_regrown e1
      have g2 := cell_regrown e2
      have hi0 : (0 : Int) ≤ (k : Int) := by omega
      have hi1 : (k : Int) < (l.length : Int) := by omega
      have HE := hide (show ∀ d os, Calls Try.prog 55 #[x.v, x.v] (grow (redrawn wr d) os) fun e w'' => e = .returned (.bool true) ∧ ∃ p : Regrown, w'' = grow (redrawn wr p.d) p.os from fun d os => Calls.regrown_of (eq_lst _ _))
      clear hrow hrow2 HR HR2 hx c0 c1 c2 e0 e1 e2
      go_wp2
      refine wp_region_quiet_below (by kernel_rfl) (by kernel_rfl) ?_
      repeat (go_big_quiet_step (exact HE.out _ _))
      refine wpQuiet_nil ?_
      intro _ hw'
      obtain ⟨⟨dq, osq⟩, hw''⟩ := hw'
      subst hw''
      have hbw2 := hbw.trans ((below_regrown wr dq osq).mono hbw.size)
      clear HE
      go_wp2
      go_roundw
      case rel => exact ⟨k + 1, by omega, by go_num, hbw2⟩
      case measure => simp [intOf]; omega
    · clear HR HR2
      go_wp2
      go_ret
      exact ⟨rfl, hbw⟩
theorem sz_lst (d : Lst) (left : Int) (w : World) (h0 : 0 ≤ left) (h1 : left ≤ 1048576) (ht : d.tx.size ≤ maxLen) :
    Calls Try.prog 10 #[d.v, .int .i64 left] w fun e w' => (∃ r : Int, e = .returned (.int .i64 r) ∧ (r = -1 ∨ (0 ≤ r ∧ r ≤ left))) ∧ Below w.heap.size w w' := by
  unfold maxLen at ht
  have hbA := (Below.refl w.heap.size w).alloc (Nat.le_refl _) (.cells #[.int .i64 d.kind, .int .i64 d.k, .string d.tx] 27)
  by_cases hA : left - (d.tx.size : Int) < 0
  · go_enter Try.func10, Try.ntmps10
    go_wp2
    go_ret
    exact ⟨⟨_, rfl, .inl rfl⟩, hbA⟩
  · go_enter Try.func10, Try.ntmps10
    go_wp2
    go_ret
    exact ⟨⟨_, rfl, .inr ⟨by omega, by omega⟩⟩, hbA⟩
namespace M
/-- What came in is within what a machine can hold. -/
def LenL (l : Lsts) : Prop := l.length ≤ maxLen ∧ ∀ d ∈ l, d.tx.size ≤ maxLen
end M
set_option maxHeartbeats 2000000 in
theorem sz_lsts (v : Value) (l : Lsts) (left : Int) (w : World) (hv : LstsOf w v l) (hl : LenL l) (h0 : 0 ≤ left) (h1 : left ≤ 1048576) :
    Calls Try.prog 18 #[v, .int .i64 left] w fun e w' => (∃ r : Int, e = .returned (.int .i64 r) ∧ (r = -1 ∨ (0 ≤ r ∧ r ≤ left ∧ l.length ≤ 1048576))) ∧ Below w.heap.size w w' := by
  obtain ⟨a, cap, rfl, hr⟩ := hv
  have HR := hide hr
  have HN := hide hl.2
  have hl0 := hl.1
  clear hr hl
  unfold maxLen at hl0
  by_cases hbig : left - (l.length : Int) < 0
  · go_enter Try.func18, Try.ntmps18
    go_wp2
    go_ret
    exact ⟨⟨_, rfl, .inl rfl⟩, Below.refl _ _⟩
  · have hlen : l.length ≤ 1048576 := by omega
    go_enter Try.func18, Try.ntmps18
    go_wp2
    go_loopw [1, 5] (fun x i wr => ∃ (k : Nat) (r : Int), k ≤ l.length ∧ i = .int .i64 k ∧ x = .int .i64 r ∧ 0 ≤ r ∧ r ≤ left ∧ Below w.heap.size w wr) (fun _ i _ => l.length - (intOf i).toNat)
    case atStart => exact ⟨0, _, Nat.zero_le _, rfl, rfl, by omega, by omega, Below.refl _ _⟩
    case round =>
      obtain ⟨k, r, hk, rfl, rfl, hr0, hr1, hbw⟩ := hrel
      by_cases hlt : k < l.length
      · obtain ⟨b, off, rfl, hb, hrow⟩ := HR.out (by omega)
        obtain ⟨x, hx⟩ : ∃ x, l[k]? = some x := ⟨l[k], List.getElem?_eq_getElem hlt⟩
        obtain ⟨c0, c1, c2⟩ := (hrow k x hx).below hbw hb
        have HS := hide (HN.out x (List.mem_of_getElem? hx))
        clear hrow HR HN hx
        go_wp2_with fail
        refine (sz_lst x r _ hr0 (by omega) HS.out).mono ?_
        rintro e w1 ⟨⟨r2, rfl, hr2⟩, hb1⟩
        have hbw1 := hbw.trans (hb1.mono hbw.size)
        clear hb1 c0 c1 c2
        rcases hr2 with hr2 | ⟨hr2, hr3⟩
        · have hneg : r2 < 0 := by omega
          clear hr2
          go_wp2
          go_ret
          exact ⟨⟨_, rfl, .inl rfl⟩, hbw1⟩
        · have hneg : ¬ r2 < 0 := by omega
          go_wp2
          go_roundw
          case rel => exact ⟨k + 1, r2, by omega, by go_num, rfl, hr2, by omega, hbw1⟩
          case measure => simp [intOf]; omega
      · clear HR HN
        go_wp2
        go_ret
        exact ⟨⟨_, rfl, .inr ⟨hr0, hr1, hlen⟩⟩, hbw⟩
set_option maxHeartbeats 2000000 in
theorem mark_lsts (B k0 : Nat) (v : Value) (l : Lsts) (w : World) (h : OwnL w B v l) (hn : l.length ≤ 1048576) (h1 : 1 ≤ k0) (hk0 : k0 ≤ 10000000) :
    Calls Try.prog 24 #[v, .int .i64 (k0 : Int)] w fun e w' => e = .returned (.int .i64 ((k0 + l.length * 3 : Nat) : Int)) ∧ OwnL w' B v (mkL k0 l.length) ∧ w.grownBy w' v.ownBlock := by
  rcases h.split with ⟨rfl, rfl⟩ | ⟨g, cap, rfl, hB, hg, hc, hcm⟩
  · go_enter Try.func24, Try.ntmps24
    go_wp2
    refine wp_loop_rounds 1 ?_; rw [rounds_succ]
    go_wp2
    go_ret
    exact ⟨rfl, OwnL.nil _ _, gbT_refl _ _⟩
  · have HG := hide h
    clear h
    go_enter Try.func24, Try.ntmps24
    go_wp2
    go_loopw [1, 5] (fun x i wr => ∃ k : Nat, k ≤ l.length ∧ i = .int .i64 k ∧ x = .int .i64 ((k0 + k * 3 : Nat) : Int) ∧ Hid (OwnL wr B (.slice (some ⟨g, 0, none⟩) l.length cap) ((mkL k0 l.length).take k ++ l.drop k)) ∧ w.grownBy wr (some g)) (fun _ i _ => l.length - (intOf i).toNat)
    case atStart => exact ⟨0, Nat.zero_le _, rfl, rfl, HG, gbT_refl _ _⟩
    case round =>
      obtain ⟨k, hk, rfl, rfl, HA, hgb⟩ := hrel
      by_cases hlt : k < l.length
      · obtain ⟨x, hx⟩ : ∃ x, l[k]? = some x := ⟨l[k], List.getElem?_eq_getElem hlt⟩
        have hM := mkL_at (k := k0) hlt
        have hat : ((mkL k0 l.length).take k ++ l.drop k)[k]? = some x := mid_atA hx (by rw [mkL_len]; omega)
        have hll : k < ((mkL k0 l.length).take k ++ l.drop k).length := ltL hat
        have HST := hide (set_stepA (l := l) hlt hM)
        have HAT := hide hat
        have HLL := hide hll
        clear hat hll hx hM HG
        generalize (mkL k0 l.length).take k ++ l.drop k = m at *
        have HE3 := hide (show k0 + (k + 1) * 3 = k0 + k * 3 + 3 by omega)
        have hq1 : 1 ≤ k0 + k * 3 := by omega
        have hq2 : k0 + k * 3 ≤ 1000000 + 1000000000 - 1000010 + 0 ∨ True := .inr trivial
        have hqq : k0 + k * 3 ≤ 20000000 := by omega
        clear hq2
        generalize k0 + k * 3 = q at *
        have hA4 := HA.out
        obtain ⟨c0, c1, c2⟩ := hA4.l3 HAT.out
        have f0 := hA4.thaw (k * 3)
        have f1 := hA4.thaw (k * 3 + 1)
        have hA5 := hA4.setKind HAT.out ((q : Nat) : Int)
        have hA6 := hA5.setK (at_setL HLL.out _) ((q : Int) + 1)
        have HA6 := hide hA6
        have hgb5 := gbT_set (o := k * 3 + 1) (v := .int .i64 ((q : Int) + 1)) (gbT_set (o := k * 3) (v := .int .i64 ((q : Nat) : Int)) hgb)
        clear hA4 hA5 hA6 HA hgb c2
        go_wp2_with fail
        rw [show ((q : Int) + 1 + 1) = ((q + 2 : Nat) : Int) by omega]
        refine (mark_tx (q + 2) _ (by omega) (by omega)).mono ?_
        rintro e' w6 ⟨rfl, hb6⟩
        have hA7 := HA6.out.down hb6
        obtain ⟨-, -, g2⟩ := hA7.l3 (at_setL (by simpa using HLL.out) _)
        have f2 := hA7.thaw (k * 3 + 2)
        have hA8 := hA7.setTx (at_setL (by simpa using HLL.out) _) (mtx (q + 2))
        have hgb8 := gbT_set (o := k * 3 + 2) (v := .string (mtx (q + 2))) (gbT_below hgb5 hb6)
        have HA8 := hide (show OwnL _ B (.slice (some ⟨g, 0, none⟩) l.length cap) ((mkL k0 l.length).take (k + 1) ++ l.drop (k + 1)) from by
          rw [← HST.out]; unfold mkl; simpa using hA8)
        clear hb6 hA7 hA8 HA6 hgb5 c0 c1 f0 f1 HST HAT HLL
        go_wp2
        exact ⟨⟨k + 1, by omega, by go_num, by rw [HE3.out]; go_num, HA8, hgb8⟩, by simp [intOf]; omega⟩
      · obtain rfl : k = l.length := by omega
        have hB2 := HA.out
        rw [List.drop_length, List.append_nil, List.take_of_length_le (by rw [mkL_len]; omega)] at hB2
        have HB2 := hide hB2
        clear hB2 HA HG
        go_wp2
        go_ret
        exact ⟨rfl, HB2.out, hgb⟩
end Go.Proofs.Ytfjdbenbiakbbaa
