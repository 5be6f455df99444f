/-
  Slices of packets in memory (a bool, a number, a text each), and what the law does with them: how much is left, copies in new memory, two that are told alike, marks that are written and found again. Written by tools/mk_pk.py.
-/
import Derived.Test.YtfjdbenbiakbbaaJoin4
import Derived.Test.YtfjdbenbiakbbaaJoin6
namespace Go.Proofs.Ytfjdbenbiakbbaa
open Go.RowKit M
open Go.Sort (grow)
namespace M
theorem ltP {l : Pks} {k : Nat} {y : Pk} (hy : l[k]? = some y) : k < l.length := (List.getElem?_eq_some_iff.1 hy).1
abbrev Pk.v (d : Pk) : Value := .agg #[.bool d.ack, .int .i64 d.no, .string d.tx]
def cellsP : Pks → List Value
  | [] => []
  | d :: r => .bool d.ack :: .int .i64 d.no :: .string d.tx :: cellsP r
theorem cellsP_len : ∀ l : Pks, (cellsP l).length = l.length * 3
  | [] => rfl
  | d :: r => by simp [cellsP, cellsP_len r]; omega
theorem cellsP_at : ∀ (l : Pks) (i : Nat) (d : Pk), l[i]? = some d → (cellsP l)[i * 3]? = some (.bool d.ack) ∧ (cellsP l)[i * 3 + 1]? = some (.int .i64 d.no) ∧ (cellsP l)[i * 3 + 2]? = some (.string d.tx)
  | [], i, e, h => by simp at h
  | x :: r, 0, e, h => by simp at h; subst h; simp [cellsP]
  | x :: r, i + 1, e, h => by
    obtain ⟨a, b, c⟩ := cellsP_at r i e (by simpa using h)
    have q : (i + 1) * 3 = i * 3 + 1 + 1 + 1 := by omega
    rw [q]
    simp only [cellsP, List.getElem?_cons_succ, a, b, c, and_self]
theorem cellsP_app : ∀ a b : Pks, cellsP (a ++ b) = cellsP a ++ cellsP b
  | [], b => rfl
  | e :: r, b => by simp [cellsP, cellsP_app r b]
theorem cellsP_drop : ∀ (l : Pks) (i : Nat), (cellsP l).drop (i * 3) = cellsP (l.drop i)
  | [], i => by simp [cellsP]
  | d :: r, 0 => by simp
  | d :: r, i + 1 => by
    rw [show (i + 1) * 3 = i * 3 + 1 + 1 + 1 by omega]
    simp only [cellsP, List.drop_succ_cons]
    exact cellsP_drop r i
theorem cellsP_take : ∀ (l : Pks) (i : Nat), (cellsP l).take (i * 3) = cellsP (l.take i)
  | [], i => by simp [cellsP]
  | d :: r, 0 => by simp [cellsP]
  | d :: r, i + 1 => by
    rw [show (i + 1) * 3 = i * 3 + 1 + 1 + 1 by omega]
    simp only [cellsP, List.take_succ_cons]
    rw [cellsP_take r i]
theorem cellsP_ack : ∀ (l : Pks) (i : Nat) (d : Pk) (x : Bool), l[i]? = some d → (cellsP l).set (i * 3) (.bool x) = cellsP (l.set i ⟨x, d.no, d.tx⟩)
  | [], i, e, x, h => by simp at h
  | y :: r, 0, e, x, h => by simp at h; subst h; simp [cellsP]
  | y :: r, i + 1, e, x, h => by
    rw [show (i + 1) * 3 = i * 3 + 1 + 1 + 1 by omega]
    simp only [cellsP, List.set_cons_succ]
    rw [cellsP_ack r i e x (by simpa using h)]
theorem cellsP_no : ∀ (l : Pks) (i : Nat) (d : Pk) (x : Int), l[i]? = some d → (cellsP l).set (i * 3 + 1) (.int .i64 x) = cellsP (l.set i ⟨d.ack, x, d.tx⟩)
  | [], i, e, x, h => by simp at h
  | y :: r, 0, e, x, h => by simp at h; subst h; simp [cellsP]
  | y :: r, i + 1, e, x, h => by
    rw [show (i + 1) * 3 + 1 = i * 3 + 1 + 1 + 1 + 1 by omega]
    simp only [cellsP, List.set_cons_succ]
    rw [cellsP_no r i e x (by simpa using h)]
theorem cellsP_tx : ∀ (l : Pks) (i : Nat) (d : Pk) (x : ByteArray), l[i]? = some d → (cellsP l).set (i * 3 + 2) (.string x) = cellsP (l.set i ⟨d.ack, d.no, x⟩)
  | [], i, e, x, h => by simp at h
  | y :: r, 0, e, x, h => by simp at h; subst h; simp [cellsP]
  | y :: r, i + 1, e, x, h => by
    rw [show (i + 1) * 3 + 2 = i * 3 + 2 + 1 + 1 + 1 by omega]
    simp only [cellsP, List.set_cons_succ]
    rw [cellsP_tx r i e x (by simpa using h)]
theorem cellsP_one (l : Pks) : ∀ v ∈ cellsP l, v.oneCell' = true := by
  induction l with
  | nil => intro v h; simp [cellsP] at h
  | cons d r ih =>
    intro v h
    simp only [cellsP, List.mem_cons] at h
    rcases h with rfl | rfl | rfl | h
    · rfl
    · rfl
    · rfl
    · exact ih v h
theorem at_setP {l : Pks} {i : Nat} (h : i < l.length) (d : Pk) : (l.set i d)[i]? = some d := by simp [h]
/-- The three cells of a packet. -/
def P3 (w : World) (b o : Nat) (d : Pk) : Prop := w.cell? ⟨b, o, none⟩ = some (.bool d.ack) ∧ w.cell? ⟨b, o + 1, none⟩ = some (.int .i64 d.no) ∧ w.cell? ⟨b, o + 2, none⟩ = some (.string d.tx)
theorem P3.below {w w' : World} {b o B : Nat} {d : Pk} (h : P3 w b o d) (hb : Below B w w') (hB : b < B) : P3 w' b o d := by
  obtain ⟨h0, h1, h2⟩ := h
  exact ⟨(hb.cell hB).trans h0, (hb.cell hB).trans h1, (hb.cell hB).trans h2⟩
/-- A slice of packets that is read. -/
def PksOf (w : World) (v : Value) (l : Pks) : Prop :=
  ∃ a cap, v = .slice a l.length cap ∧ (0 < l.length → ∃ b off, a = some ⟨b, off, none⟩ ∧ b < w.heap.size ∧ ∀ i d, l[i]? = some d → P3 w b (off + i * 3) d)
theorem PksOf.below {w w' : World} {v : Value} {l : Pks} (h : PksOf w v l) (hb : Below w.heap.size w w') : PksOf w' v l := by
  obtain ⟨a, cap, hv, hr⟩ := h
  refine ⟨a, cap, hv, fun hn => ?_⟩
  obtain ⟨b, off, ha, hlt, hrow⟩ := hr hn
  exact ⟨b, off, ha, Nat.lt_of_lt_of_le hlt hb.size, fun i x hi => (hrow i x hi).below hb hlt⟩
theorem PksOf.form {w : World} {v : Value} {l : Pks} (h : PksOf w v l) : ∃ a cap, v = .slice a l.length cap := by
  obtain ⟨a, cap, hv, _⟩ := h; exact ⟨a, cap, hv⟩
theorem PksOf.nil (w : World) (a : Option Addr) (c : Nat) : PksOf w (.slice a 0 c) [] := ⟨a, c, rfl, fun h => absurd h (Nat.lt_irrefl _)⟩
/-- A slice of packets of the call's own, from block B on, with room behind. -/
def OwnP (w : World) (B : Nat) (v : Value) (l : Pks) : Prop := w.ownsRow B 88 3 v l.length (cellsP l)
theorem OwnP.down {w w' : World} {B : Nat} {v : Value} {l : Pks} (h : OwnP w B v l) (hb : Below w.heap.size w w') : OwnP w' B v l := owns_below h hb
theorem OwnP.mono {w : World} {B B' : Nat} {v : Value} {l : Pks} (h : OwnP w B v l) (hB : B' ≤ B) : OwnP w B' v l := owns_mono h hB
theorem OwnP.nil (w : World) (B : Nat) : OwnP w B (.slice none 0 0) [] := ⟨rfl, .inl ⟨rfl, rfl⟩⟩
theorem OwnP.split {w : World} {B : Nat} {v : Value} {l : Pks} (h : OwnP w B v l) : (v = .slice none 0 0 ∧ l = []) ∨ ∃ g cap, v = .slice (some ⟨g, 0, none⟩) l.length cap ∧ B ≤ g ∧ g < w.heap.size ∧ l.length ≤ cap ∧ cap ≤ maxLen := by
  rcases h.2 with ⟨rfl, h0⟩ | ⟨g, cap, cur, rfl, hB, hg, hn, hc, hs, ht⟩
  · exact .inl ⟨rfl, List.length_eq_zero_iff.1 h0⟩
  · refine .inr ⟨g, cap, rfl, hB, ?_, hn, hc⟩
    rcases Nat.lt_or_ge g w.heap.size with h' | h'
    · exact h'
    · rw [Array.getElem?_eq_none h'] at hg; cases hg
theorem OwnP.pks {w : World} {B : Nat} {v : Value} {l : Pks} (h : OwnP w B v l) : PksOf w v l := by
  obtain ⟨a, cap, hv, hr⟩ := own_cells h (cellsP_len l)
  refine ⟨a, cap, hv, fun hn => ?_⟩
  obtain ⟨g, ha, _, hlt, hc⟩ := hr hn
  exact ⟨g, 0, ha, hlt, fun i x hi => by
    obtain ⟨k0, k1, k2⟩ := cellsP_at l i x hi
    rw [Nat.zero_add]; exact ⟨hc _ _ k0, hc _ _ k1, hc _ _ k2⟩⟩
theorem OwnP.form {w : World} {B : Nat} {v : Value} {l : Pks} (h : OwnP w B v l) : ∃ a cap, v = .slice a l.length cap := h.pks.form
theorem OwnP.len {w : World} {B n cap : Nat} {a : Option Addr} {l : Pks} (h : OwnP w B (.slice a n cap) l) : n = l.length := by
  obtain ⟨a', c, hv⟩ := h.form
  simp only [Value.slice.injEq] at hv
  exact hv.2.1
theorem OwnP.cell {w : World} {B g n cap : Nat} {l : Pks} (h : OwnP w B (.slice (some ⟨g, 0, none⟩) n cap) l) {j : Nat} {u : Value} (hj : (cellsP l)[j]? = some u) : w.cell? ⟨g, j, none⟩ = some u := by
  have hl : 0 < l.length := by
    have := (List.getElem?_eq_some_iff.1 hj).1
    rw [cellsP_len] at this; omega
  obtain ⟨a, c, hv, hr⟩ := own_cells h (cellsP_len l)
  obtain ⟨g', ha, _, _, hc⟩ := hr hl
  simp only [Value.slice.injEq] at hv
  obtain ⟨rfl, -, -⟩ := hv
  simp only [Option.some.injEq, Addr.mk.injEq, and_true] at ha
  subst ha
  exact hc j _ hj
theorem OwnP.p3 {w : World} {B g n cap : Nat} {l : Pks} (h : OwnP w B (.slice (some ⟨g, 0, none⟩) n cap) l) {j : Nat} {d : Pk} (hj : l[j]? = some d) : P3 w g (j * 3) d := by
  obtain ⟨k0, k1, k2⟩ := cellsP_at l j d hj
  exact ⟨h.cell k0, h.cell k1, h.cell k2⟩
theorem OwnP.thaw {w : World} {B g n cap : Nat} {l : Pks} (h : OwnP w B (.slice (some ⟨g, 0, none⟩) n cap) l) (j : Nat) : w.frozen? ⟨g, j, none⟩ = false := by
  have e := h.len
  subst e
  exact World.ownsRow.frozenAt h j
theorem OwnP.setAck {w : World} {B g n cap : Nat} {l : Pks} (h : OwnP w B (.slice (some ⟨g, 0, none⟩) n cap) l) {j : Nat} {d : Pk} (hj : l[j]? = some d) (x : Bool) : OwnP (w.setCell ⟨g, j * 3, none⟩ (.bool x)) B (.slice (some ⟨g, 0, none⟩) n cap) (l.set j ⟨x, d.no, d.tx⟩) := by
  have e := h.len
  subst e
  have := (World.ownsRow.stored h (j * 3) (.bool x)).1
  unfold OwnP
  rw [List.length_set, ← cellsP_ack l j d x hj]
  exact this
theorem OwnP.setNo {w : World} {B g n cap : Nat} {l : Pks} (h : OwnP w B (.slice (some ⟨g, 0, none⟩) n cap) l) {j : Nat} {d : Pk} (hj : l[j]? = some d) (x : Int) : OwnP (w.setCell ⟨g, j * 3 + 1, none⟩ (.int .i64 x)) B (.slice (some ⟨g, 0, none⟩) n cap) (l.set j ⟨d.ack, x, d.tx⟩) := by
  have e := h.len
  subst e
  have := (World.ownsRow.stored h (j * 3 + 1) (.int .i64 x)).1
  unfold OwnP
  rw [List.length_set, ← cellsP_no l j d x hj]
  exact this
theorem OwnP.setTx {w : World} {B g n cap : Nat} {l : Pks} (h : OwnP w B (.slice (some ⟨g, 0, none⟩) n cap) l) {j : Nat} {d : Pk} (hj : l[j]? = some d) (x : ByteArray) : OwnP (w.setCell ⟨g, j * 3 + 2, none⟩ (.string x)) B (.slice (some ⟨g, 0, none⟩) n cap) (l.set j ⟨d.ack, d.no, x⟩) := by
  have e := h.len
  subst e
  have := (World.ownsRow.stored h (j * 3 + 2) (.string x)).1
  unfold OwnP
  rw [List.length_set, ← cellsP_tx l j d x hj]
  exact this
theorem OwnP.set {w : World} {B g n cap : Nat} {l : Pks} (h : OwnP w B (.slice (some ⟨g, 0, none⟩) n cap) l) {j : Nat} (hj : j < l.length) (x : Pk) : OwnP (((w.setCell ⟨g, j * 3, none⟩ (.bool x.ack)).setCell ⟨g, j * 3 + 1, none⟩ (.int .i64 x.no)).setCell ⟨g, j * 3 + 2, none⟩ (.string x.tx)) B (.slice (some ⟨g, 0, none⟩) n cap) (l.set j x) := by
  have h1 := h.setAck (List.getElem?_eq_getElem hj) x.ack
  have h2 := h1.setNo (at_setP hj _) x.no
  have h3 := h2.setTx (at_setP (by simpa using hj) _) x.tx
  simpa using h3
theorem OwnP.other {w w' : World} {B : Nat} {v : Value} {l : Pks} {row : Option Nat} (h : OwnP w B v l) (hg : w.grownBy w' row) (hne : ∀ g, v.ownBlock = some g → some g ≠ row) : OwnP w' B v l := owns_other h hg hne
theorem OwnP.lt {w : World} {B g : Nat} {v : Value} {l : Pks} (h : OwnP w B v l) (hg : v.ownBlock = some g) : B ≤ g ∧ g < w.heap.size := by
  rcases h.split with ⟨rfl, _⟩ | ⟨g', cap, rfl, h1, h2, _⟩
  · simp [Value.ownBlock] at hg
  · simp only [Value.ownBlock, Option.some.injEq] at hg
    subst hg; exact ⟨h1, h2⟩
def pk0 : Pk := ⟨false, 0, ⟨#[]⟩⟩
theorem made_cellsP (n : Nat) : (madeCells #[(.bool false : Value), .int .i64 0, .string ⟨#[]⟩] (n * 3)).toList = cellsP (List.replicate n pk0) := by
  apply List.ext_getElem?
  intro i
  by_cases hi : i < n * 3
  · have h1 : (madeCells #[(.bool false : Value), .int .i64 0, .string ⟨#[]⟩] (n * 3))[i]? = some (#[(.bool false : Value), .int .i64 0, .string ⟨#[]⟩][i % 3]!) := by
      simp [madeCells, hi]
    rw [Array.getElem?_toList, h1]
    obtain ⟨a, b, c⟩ := cellsP_at (List.replicate n pk0) (i / 3) pk0 (by rw [List.getElem?_replicate, if_pos (by omega)])
    rcases (show i % 3 = 0 ∨ i % 3 = 1 ∨ i % 3 = 2 by omega) with h | h | h
    · rw [h, show i = i / 3 * 3 by omega, a]; rfl
    · rw [h, show i = i / 3 * 3 + 1 by omega, b]; rfl
    · rw [h, show i = i / 3 * 3 + 2 by omega, c]; rfl
  · rw [List.getElem?_eq_none (by rw [Array.length_toList, size_madeCells]; omega), List.getElem?_eq_none (by rw [cellsP_len, List.length_replicate]; omega)]
theorem take_snocA {α : Type} {l : List α} {k : Nat} {y : α} (hy : l[k]? = some y) : l.take (k + 1) = l.take k ++ [y] := by
  have hk : k < l.length := (List.getElem?_eq_some_iff.1 hy).1
  rw [List.getElem?_eq_getElem hk] at hy
  rw [List.take_succ_eq_append_getElem hk]
  simp at hy; rw [hy]
theorem set_stepA {α : Type} {l m : List α} {j : Nat} {x : α} (hj : j < l.length) (hm : m[j]? = some x) : (m.take j ++ l.drop j).set j x = m.take (j + 1) ++ l.drop (j + 1) := by
  have hml := (List.getElem?_eq_some_iff.1 hm).1
  have e : (m.take j).length = j := by rw [List.length_take]; omega
  rw [List.set_append_right _ _ (by omega), e, Nat.sub_self, List.drop_eq_getElem_cons hj, List.set_cons_zero, take_snocA hm]
  simp
theorem mid_atA {α : Type} {l m : List α} {j : Nat} {x : α} (hj : l[j]? = some x) (hml : j ≤ m.length) : (m.take j ++ l.drop j)[j]? = some x := by
  rw [List.getElem?_append_right (by rw [List.length_take]; omega), List.length_take, Nat.min_eq_left hml, Nat.sub_self, List.getElem?_drop]
  simpa using hj
/-- Marks from k on. -/
def mkp (k : Nat) : Pk := ⟨((k : Int) % 3 == 0), ((k + 1 : Nat) : Int), mtx (k + 2)⟩
def mkP (k n : Nat) : Pks := (List.range n).map (fun i => mkp (k + i * 3))
theorem mkP_len (k n : Nat) : (mkP k n).length = n := by simp [mkP]
theorem mkP_at {k n i : Nat} (h : i < n) : (mkP k n)[i]? = some (mkp (k + i * 3)) := by simp [mkP, h]
end M
theorem info_pk : (Try.prog.info? 88).map (fun i => (i.zero, i.size, i.bytes)) = some (some (.agg #[.bool false, .int .i64 0, .string ⟨#[]⟩]), 3, 32) := by kernel_rfl
theorem make_pks (n : Nat) (h : n ≤ 1048576) (w : World) : (Instr.makeSlice 30 (.int .i64 (n : Int)) (.int .i64 (n : Int))).run Try.prog w = .ok (.slice (some ⟨w.heap.size, 0, none⟩) n n) (w.alloc (.cells (madeCells #[(.bool false : Value), .int .i64 0, .string ⟨#[]⟩] (n * 3)) 88)) := by
  obtain ⟨i, hi, hz0, hz1, hz2⟩ := info_parts info_pk
  have hr := run_make (P := Try.prog) w 30 88 i _ Try.underlying30 hi hz0 .i64 .i64 (n : Int) (n : Int) (by omega) (Int.le_refl _) (by rw [hz2]; omega) (by omega)
  rw [hr, hz1]
  simp only [Int.toNat_natCast]
  rfl
namespace M
theorem made_pks (w : World) (n : Nat) (h : n ≤ 1048576) : OwnP (w.alloc (.cells (madeCells #[(.bool false : Value), .int .i64 0, .string ⟨#[]⟩] (n * 3)) 88)) w.heap.size (.slice (some ⟨w.heap.size, 0, none⟩) n n) (List.replicate n pk0) := by
  have h1 := World.ownsRow_lit (base := w.heap.size) (e := 88) (size := 3) w (madeCells #[(.bool false : Value), .int .i64 0, .string ⟨#[]⟩] (n * 3)) n (Nat.le_refl _) (by unfold maxLen; omega) (by rw [size_madeCells])
  unfold OwnP
  rw [List.length_replicate]
  rw [made_cellsP] at h1
  exact h1
end M
set_option maxHeartbeats 2000000 in
theorem to_pk (d : Pk) (w : World) :
    Calls Try.prog 71 #[d.v] w fun e w' => e = .returned d.v ∧ Below w.heap.size w w' := by
  have hbA := (((Below.refl w.heap.size w).alloc (Nat.le_refl _) (.cells #[.bool d.ack, .int .i64 d.no, .string d.tx] 95)).alloc (by simp) (.cells #[.bool d.ack, .int .i64 d.no, .string d.tx] 88)).alloc (by simp; omega) (.cells #[.bool d.ack, .int .i64 d.no, .string d.tx] 88)
  go_enter Try.func71, Try.ntmps71
  go_wp2
  exact bodyPost_ret (v := d.v) (by simp [results, Try.results71, go_sem]) rfl ⟨rfl, hbA⟩
set_option maxHeartbeats 2000000 in
theorem to_pks (v : Value) (l : Pks) (w : World) (hv : PksOf w v l) (hn : l.length ≤ 1048576) :
    Calls Try.prog 44 #[v] w fun e w' => (e = .returned (.slice (some ⟨w.heap.size, 0, none⟩) l.length l.length) ∧ OwnP w' w.heap.size (.slice (some ⟨w.heap.size, 0, none⟩) l.length l.length) l) ∧ Below w.heap.size w w' := by
  obtain ⟨a, cap, rfl, hr⟩ := hv
  have HR := hide hr
  clear hr
  have hmk := make_pks l.length hn
  have HZ := hide (made_pks w l.length hn)
  go_enter Try.func44, Try.ntmps44
  go_wp2
  go_loopw [4] (fun i wr => ∃ k : Nat, k ≤ l.length ∧ i = .int .i64 k ∧ Hid (OwnP wr w.heap.size (.slice (some ⟨w.heap.size, 0, none⟩) l.length l.length) (l.take k ++ (List.replicate l.length pk0).drop k)) ∧ Below w.heap.size w wr) (fun i _ => l.length - (intOf i).toNat)
  case atStart => exact ⟨0, Nat.zero_le _, rfl, HZ, (Below.refl _ _).alloc (Nat.le_refl _) _⟩
  case round =>
    obtain ⟨k, hk, rfl, HA, hbw⟩ := hrel
    by_cases hlt : k < l.length
    · obtain ⟨b, off, rfl, hb, hrow⟩ := HR.out (by omega)
      obtain ⟨x, hx⟩ : ∃ x, l[k]? = some x := ⟨l[k], List.getElem?_eq_getElem hlt⟩
      obtain ⟨c0, c1, c2⟩ := (hrow k x hx).below hbw hb
      have hsz0 : w.heap.size < wr.heap.size := (HA.out.lt rfl).2
      have HX := hide hx
      clear hrow HR HZ hx
      go_wp2_with fail
      refine (to_pk x _).mono ?_
      rintro e w1 ⟨rfl, hb1⟩
      have hbw1 := hbw.trans (hb1.mono hbw.size)
      have hA1 := HA.out.down hb1
      obtain ⟨e0, e1, e2⟩ := hA1.p3 (j := k) (d := pk0) (mid_atA (by simp [hlt]) (by omega))
      have f0 := hA1.thaw (k * 3)
      have f1 := hA1.thaw (k * 3 + 1)
      have f2 := hA1.thaw (k * 3 + 2)
      have hA2 := hA1.set (j := k) (by rw [List.length_append, List.length_take, List.length_drop, List.length_replicate]; omega) x
      rw [set_stepA (by rw [List.length_replicate]; exact hlt) HX.out] at hA2
      have HA2 := hide hA2
      have hbw2 := ((hbw1.setCell (p := ⟨w.heap.size, k * 3, none⟩) (Nat.le_refl _) (.bool x.ack)).setCell (p := ⟨w.heap.size, k * 3 + 1, none⟩) (Nat.le_refl _) (.int .i64 x.no)).setCell (p := ⟨w.heap.size, k * 3 + 2, none⟩) (Nat.le_refl _) (.string x.tx)
      clear HA hA1 hA2 hb1 c0 c1 c2
      go_wp2
      exact ⟨⟨k + 1, by omega, by go_num, HA2, hbw2⟩, by simp [intOf]; omega⟩
    · have hB := HA.out
      rw [List.take_of_length_le (by omega), List.drop_eq_nil_of_le (by rw [List.length_replicate]; omega), List.append_nil] at hB
      have HB := hide hB
      clear HA HR hB HZ
      go_wp2
      go_ret
      exact ⟨⟨rfl, HB.out⟩, hbw⟩
set_option maxHeartbeats 2000000 in
theorem eq_pk (d : Pk) (w : World) :
    Calls Try.prog 79 #[d.v, d.v] w fun e w' => e = .returned (.bool true) ∧ Below w.heap.size w w' := by
  have hbA := ((Below.refl w.heap.size w).alloc (Nat.le_refl _) (.cells #[.bool d.ack, .int .i64 d.no, .string d.tx] 88)).alloc (by simp) (.cells #[.bool d.ack, .int .i64 d.no, .string d.tx] 88)
  go_enter Try.func79, Try.ntmps79
  go_wp2
  go_ret
  exact ⟨rfl, hbA⟩
set_option maxHeartbeats 2000000 in
theorem eq_pks (v u : Value) (l : Pks) (w : World) (hv : PksOf w v l) (hu : PksOf w u l) (hn : l.length ≤ 1048576) :
    Calls Try.prog 48 #[v, u] w fun e w' => e = .returned (.bool true) ∧ Below w.heap.size w w' := by
  obtain ⟨a, cap, rfl, hr⟩ := hv
  obtain ⟨a2, cap2, rfl, hr2⟩ := hu
  have HR := hide hr
  have HR2 := hide hr2
  clear hr hr2
  go_enter Try.func48, Try.ntmps48
  go_wp2
  go_loopw [5] (fun i wr => ∃ k : Nat, k ≤ l.length ∧ i = .int .i64 k ∧ Below w.heap.size w wr) (fun i _ => l.length - (intOf i).toNat)
  case atStart => exact ⟨0, Nat.zero_le _, rfl, Below.refl _ _⟩
  case round =>
    obtain ⟨k, hk, rfl, hbw⟩ := hrel
    by_cases hlt : k < l.length
    · obtain ⟨b, off, rfl, hb, hrow⟩ := HR.out (by omega)
      obtain ⟨b2, off2, rfl, hb2, hrow2⟩ := HR2.out (by omega)
      obtain ⟨x, hx⟩ : ∃ x, l[k]? = some x := ⟨l[k], List.getElem?_eq_getElem hlt⟩
      obtain ⟨c0, c1, c2⟩ := (hrow k x hx).below hbw hb
      obtain ⟨e0, e1, e2⟩ := (hrow2 k x hx).below hbw hb2
      have k0 := cell_regrown c0
      have k1 := cell_regrown c1
      have k2 := cell_regrown c2
      have g0 := cell_regrown e0
      have g1 := cell_regrown e1
      have g2 := cell_regrown e2
      have hi0 : (0 : Int) ≤ (k : Int) := by omega
      have hi1 : (k : Int) < (l.length : Int) := by omega
      have HE := hide (show ∀ d os, Calls Try.prog 79 #[x.v, x.v] (grow (redrawn wr d) os) fun e w'' => e = .returned (.bool true) ∧ ∃ p : Regrown, w'' = grow (redrawn wr p.d) p.os from fun d os => Calls.regrown_of (eq_pk _ _))
      clear hrow hrow2 HR HR2 hx c0 c1 c2 e0 e1 e2
      go_wp2
      refine wp_region_quiet_below (by kernel_rfl) (by kernel_rfl) ?_
      repeat (go_big_quiet_step (exact HE.out _ _))
      refine wpQuiet_nil ?_
      intro _ hw'
      obtain ⟨⟨dq, osq⟩, hw''⟩ := hw'
      subst hw''
      have hbw2 := hbw.trans ((below_regrown wr dq osq).mono hbw.size)
      clear HE
      go_wp2
      go_roundw
      case rel => exact ⟨k + 1, by omega, by go_num, hbw2⟩
      case measure => simp [intOf]; omega
    · clear HR HR2
      go_wp2
      go_ret
      exact ⟨rfl, hbw⟩
theorem sz_pk (d : Pk) (left : Int) (w : World) (h0 : 0 ≤ left) (h1 : left ≤ 1048576) (ht : d.tx.size ≤ maxLen) :
    Calls Try.prog 67 #[d.v, .int .i64 left] w fun e w' => (∃ r : Int, e = .returned (.int .i64 r) ∧ (r = -1 ∨ (0 ≤ r ∧ r ≤ left))) ∧ Below w.heap.size w w' := by
  unfold maxLen at ht
  have hbA := (Below.refl w.heap.size w).alloc (Nat.le_refl _) (.cells #[.bool d.ack, .int .i64 d.no, .string d.tx] 95)
  by_cases hA : left - (d.tx.size : Int) < 0
  · go_enter Try.func67, Try.ntmps67
    go_wp2
    go_ret
    exact ⟨⟨_, rfl, .inl rfl⟩, hbA⟩
  · go_enter Try.func67, Try.ntmps67
    go_wp2
    go_ret
    exact ⟨⟨_, rfl, .inr ⟨by omega, by omega⟩⟩, hbA⟩
namespace M
/-- What came in is within what a machine can hold. -/
def LenP (l : Pks) : Prop := l.length ≤ maxLen ∧ ∀ d ∈ l, d.tx.size ≤ maxLen
end M
set_option maxHeartbeats 2000000 in
theorem sz_pks (v : Value) (l : Pks) (left : Int) (w : World) (hv : PksOf w v l) (hl : LenP l) (h0 : 0 ≤ left) (h1 : left ≤ 1048576) :
    Calls Try.prog 39 #[v, .int .i64 left] w fun e w' => (∃ r : Int, e = .returned (.int .i64 r) ∧ (r = -1 ∨ (0 ≤ r ∧ r ≤ left ∧ l.length ≤ 1048576))) ∧ Below w.heap.size w w' := by
  obtain ⟨a, cap, rfl, hr⟩ := hv
  have HR := hide hr
  have HN := hide hl.2
  have hl0 := hl.1
  clear hr hl
  unfold maxLen at hl0
  by_cases hbig : left - (l.length : Int) < 0
  · go_enter Try.func39, Try.ntmps39
    go_wp2
    go_ret
    exact ⟨⟨_, rfl, .inl rfl⟩, Below.refl _ _⟩
  · have hlen : l.length ≤ 1048576 := by omega
    go_enter Try.func39, Try.ntmps39
    go_wp2
    go_loopw [1, 5] (fun x i wr => ∃ (k : Nat) (r : Int), k ≤ l.length ∧ i = .int .i64 k ∧ x = .int .i64 r ∧ 0 ≤ r ∧ r ≤ left ∧ Below w.heap.size w wr) (fun _ i _ => l.length - (intOf i).toNat)
    case atStart => exact ⟨0, _, Nat.zero_le _, rfl, rfl, by omega, by omega, Below.refl _ _⟩
    case round =>
      obtain ⟨k, r, hk, rfl, rfl, hr0, hr1, hbw⟩ := hrel
      by_cases hlt : k < l.length
      · obtain ⟨b, off, rfl, hb, hrow⟩ := HR.out (by omega)
        obtain ⟨x, hx⟩ : ∃ x, l[k]? = some x := ⟨l[k], List.getElem?_eq_getElem hlt⟩
        obtain ⟨c0, c1, c2⟩ := (hrow k x hx).below hbw hb
        have HS := hide (HN.out x (List.mem_of_getElem? hx))
        clear hrow HR HN hx
        go_wp2_with fail
        refine (sz_pk x r _ hr0 (by omega) HS.out).mono ?_
        rintro e w1 ⟨⟨r2, rfl, hr2⟩, hb1⟩
        have hbw1 := hbw.trans (hb1.mono hbw.size)
        clear hb1 c0 c1 c2
        rcases hr2 with hr2 | ⟨hr2, hr3⟩
        · have hneg : r2 < 0 := by omega
          clear hr2
          go_wp2
          go_ret
          exact ⟨⟨_, rfl, .inl rfl⟩, hbw1⟩
        · have hneg : ¬ r2 < 0 := by omega
          go_wp2
          go_roundw
          case rel => exact ⟨k + 1, r2, by omega, by go_num, rfl, hr2, by omega, hbw1⟩
          case measure => simp [intOf]; omega
      · clear HR HN
        go_wp2
        go_ret
        exact ⟨⟨_, rfl, .inr ⟨hr0, hr1, hlen⟩⟩, hbw⟩
set_option maxHeartbeats 2000000 in
theorem mark_pks (B k0 : Nat) (v : Value) (l : Pks) (w : World) (h : OwnP w B v l) (hn : l.length ≤ 1048576) (h1 : 1 ≤ k0) (hk0 : k0 ≤ 10000000) :
    Calls Try.prog 50 #[v, .int .i64 (k0 : Int)] w fun e w' => e = .returned (.int .i64 ((k0 + l.length * 3 : Nat) : Int)) ∧ OwnP w' B v (mkP k0 l.length) ∧ w.grownBy w' v.ownBlock := by
  rcases h.split with ⟨rfl, rfl⟩ | ⟨g, cap, rfl, hB, hg, hc, hcm⟩
  · go_enter Try.func50, Try.ntmps50
    go_wp2
    refine wp_loop_rounds 1 ?_; rw [rounds_succ]
    go_wp2
    go_ret
    exact ⟨rfl, OwnP.nil _ _, gbT_refl _ _⟩
  · have HG := hide h
    clear h
    go_enter Try.func50, Try.ntmps50
    go_wp2
    go_loopw [1, 5] (fun x i wr => ∃ k : Nat, k ≤ l.length ∧ i = .int .i64 k ∧ x = .int .i64 ((k0 + k * 3 : Nat) : Int) ∧ Hid (OwnP wr B (.slice (some ⟨g, 0, none⟩) l.length cap) ((mkP k0 l.length).take k ++ l.drop k)) ∧ w.grownBy wr (some g)) (fun _ i _ => l.length - (intOf i).toNat)
    case atStart => exact ⟨0, Nat.zero_le _, rfl, rfl, HG, gbT_refl _ _⟩
    case round =>
      obtain ⟨k, hk, rfl, rfl, HA, hgb⟩ := hrel
      by_cases hlt : k < l.length
      · obtain ⟨x, hx⟩ : ∃ x, l[k]? = some x := ⟨l[k], List.getElem?_eq_getElem hlt⟩
        have hM := mkP_at (k := k0) hlt
        have hat : ((mkP k0 l.length).take k ++ l.drop k)[k]? = some x := mid_atA hx (by rw [mkP_len]; omega)
        have hll : k < ((mkP k0 l.length).take k ++ l.drop k).length := ltP hat
        have HST := hide (set_stepA (l := l) hlt hM)
        have HAT := hide hat
        have HLL := hide hll
        clear hat hll hx hM HG
        generalize (mkP k0 l.length).take k ++ l.drop k = m at *
        have HE3 := hide (show k0 + (k + 1) * 3 = k0 + k * 3 + 3 by omega)
        have hq1 : 1 ≤ k0 + k * 3 := by omega
        have hq2 : k0 + k * 3 ≤ 1000000 + 1000000000 - 1000010 + 0 ∨ True := .inr trivial
        have hqq : k0 + k * 3 ≤ 20000000 := by omega
        clear hq2
        generalize k0 + k * 3 = q at *
        have hA4 := HA.out
        obtain ⟨c0, c1, c2⟩ := hA4.p3 HAT.out
        have f0 := hA4.thaw (k * 3)
        have f1 := hA4.thaw (k * 3 + 1)
        have hA5 := hA4.setAck HAT.out ((q : Int) % 3 == 0)
        have hA6 := hA5.setNo (at_setP HLL.out _) ((q : Int) + 1)
        have HA6 := hide hA6
        have hgb5 := gbT_set (o := k * 3 + 1) (v := .int .i64 ((q : Int) + 1)) (gbT_set (o := k * 3) (v := .bool ((q : Int) % 3 == 0)) hgb)
        clear hA4 hA5 hA6 HA hgb c2
        go_wp2_with fail
        rw [show ((q : Int) + 1 + 1) = ((q + 2 : Nat) : Int) by omega]
        refine (mark_tx (q + 2) _ (by omega) (by omega)).mono ?_
        rintro e' w6 ⟨rfl, hb6⟩
        have hA7 := HA6.out.down hb6
        obtain ⟨-, -, g2⟩ := hA7.p3 (at_setP (by simpa using HLL.out) _)
        have f2 := hA7.thaw (k * 3 + 2)
        have hA8 := hA7.setTx (at_setP (by simpa using HLL.out) _) (mtx (q + 2))
        have hgb8 := gbT_set (o := k * 3 + 2) (v := .string (mtx (q + 2))) (gbT_below hgb5 hb6)
        have HA8 := hide (show OwnP _ B (.slice (some ⟨g, 0, none⟩) l.length cap) ((mkP k0 l.length).take (k + 1) ++ l.drop (k + 1)) from by
          rw [← HST.out]; unfold mkp; simpa using hA8)
        clear hb6 hA7 hA8 HA6 hgb5 c0 c1 f0 f1 HST HAT HLL
        go_wp2
        exact ⟨⟨k + 1, by omega, by go_num, by rw [HE3.out]; go_num, HA8, hgb8⟩, by simp [intOf]; omega⟩
      · obtain rfl : k = l.length := by omega
        have hB2 := HA.out
        rw [List.drop_length, List.append_nil, List.take_of_length_le (by rw [mkP_len]; omega)] at hB2
        have HB2 := hide hB2
        clear hB2 HA HG
        go_wp2
        go_ret
        exact ⟨rfl, HB2.out, hgb⟩
set_option maxHeartbeats 2000000 in
theorem held_pks (v : Value) (k0 n : Nat) (w : World) (hv : PksOf w v (mkP k0 n)) (hn : n ≤ 1048576) (h1 : 1 ≤ k0) (hk0 : k0 ≤ 10000000) :
    Calls Try.prog 52 #[v, .int .i64 (k0 : Int)] w fun e w' => e = .returned (.int .i64 ((k0 + n * 3 : Nat) : Int)) ∧ Below w.heap.size w w' := by
  obtain ⟨a, cap, rfl, hr⟩ := hv
  have HR := hide hr
  clear hr
  rw [mkP_len] at HR ⊢
  go_enter Try.func52, Try.ntmps52
  go_wp2
  go_loopw [1, 5] (fun x i wr => ∃ k : Nat, k ≤ n ∧ i = .int .i64 k ∧ x = .int .i64 ((k0 + k * 3 : Nat) : Int) ∧ Below w.heap.size w wr) (fun _ i _ => n - (intOf i).toNat)
  case atStart => exact ⟨0, Nat.zero_le _, rfl, rfl, Below.refl _ _⟩
  case round =>
    obtain ⟨k, hk, rfl, rfl, hbw⟩ := hrel
    by_cases hlt : k < n
    · obtain ⟨b, off, rfl, hb, hrow⟩ := HR.out (by omega)
      obtain ⟨c0, c1, c2⟩ := (hrow k _ (mkP_at hlt)).below hbw hb
      have HE3 := hide (show k0 + (k + 1) * 3 = k0 + k * 3 + 3 by omega)
      have hq1 : 1 ≤ k0 + k * 3 := by omega
      have hqq : k0 + k * 3 ≤ 20000000 := by omega
      have hi0 : (0 : Int) ≤ (k : Int) := by omega
      have hi1 : (k : Int) < (n : Int) := by omega
      clear HR hrow
      generalize k0 + k * 3 = q at *
      simp only [mkp] at c0 c1 c2
      have k2 := cell_regrown c2
      have HE2 := hide (show ∀ d os, Calls Try.prog 56 #[.int .i64 ((q : Int) + 1 + 1)] (grow (redrawn wr d) os) fun e w'' => e = .returned (.string (mtx (q + 2))) ∧ ∃ p : Regrown, w'' = grow (redrawn wr p.d) p.os from fun d os => by
        rw [show ((q : Int) + 1 + 1) = ((q + 2 : Nat) : Int) by omega]
        exact Calls.regrown_of (mark_tx (q + 2) _ (by omega) (by omega)))
      have hne0 : (((q : Int) % 3 == 0) != ((q : Int) % 3 == 0)) = false := by simp
      have hne : (((q + 1 : Nat) : Int) != (q : Int) + 1) = false := by simp
      clear c2
      go_wp2
      refine wp_region_quiet_below (by kernel_rfl) (by kernel_rfl) ?_
      repeat (go_big_quiet_step (exact HE2.out _ _))
      refine wpQuiet_nil ?_
      intro _ hw'
      obtain ⟨⟨dq2, osq2⟩, hw''⟩ := hw'
      subst hw''
      have hbw3 := hbw.trans ((below_regrown wr dq2 osq2).mono hbw.size)
      clear HE2 k2 c1
      go_wp2
      go_roundw
      case rel => exact ⟨k + 1, by omega, by go_num, by rw [HE3.out]; go_num, hbw3⟩
      case measure => simp [intOf]; omega
    · obtain rfl : k = n := by omega
      clear HR
      go_wp2
      go_ret
      exact ⟨rfl, hbw⟩
end Go.Proofs.Ytfjdbenbiakbbaa
