/-
  Slices of domains in memory (three cells each), and what the law does with them: how much is left, copies in new memory, two that are told alike, marks that are written and found again.
-/
import Derived.Test.YtgccoognklolbaaTxA
import Derived.Test.YtgccoognklolbaaDmM
namespace Go.Proofs.Ytgccoognklolbaa
open Go.RowKit M
open Go.Sort (grow)
namespace M
abbrev Dm.v (d : Dm) : Value := .agg #[.string d.nm, .int .i64 d.ver, .string d.nt]
def cellsD : Dms → List Value
  | [] => []
  | d :: r => .string d.nm :: .int .i64 d.ver :: .string d.nt :: cellsD r
theorem cellsD_len : ∀ l : Dms, (cellsD l).length = l.length * 3
  | [] => rfl
  | d :: r => by simp [cellsD, cellsD_len r]; omega
theorem cellsD_at : ∀ (l : Dms) (i : Nat) (d : Dm), l[i]? = some d → (cellsD l)[i * 3]? = some (.string d.nm) ∧ (cellsD l)[i * 3 + 1]? = some (.int .i64 d.ver) ∧ (cellsD l)[i * 3 + 2]? = some (.string d.nt)
  | [], i, e, h => by simp at h
  | x :: r, 0, e, h => by simp at h; subst h; simp [cellsD]
  | x :: r, i + 1, e, h => by
    obtain ⟨a, b, c⟩ := cellsD_at r i e (by simpa using h)
    have q : (i + 1) * 3 = i * 3 + 1 + 1 + 1 := by omega
    rw [q]
    simp only [cellsD, List.getElem?_cons_succ, a, b, c, and_self]
theorem cellsD_app : ∀ a b : Dms, cellsD (a ++ b) = cellsD a ++ cellsD b
  | [], b => rfl
  | e :: r, b => by simp [cellsD, cellsD_app r b]
theorem cellsD_drop : ∀ (l : Dms) (i : Nat), (cellsD l).drop (i * 3) = cellsD (l.drop i)
  | [], i => by simp [cellsD]
  | d :: r, 0 => by simp
  | d :: r, i + 1 => by
    rw [show (i + 1) * 3 = i * 3 + 1 + 1 + 1 by omega]
    simp only [cellsD, List.drop_succ_cons]
    exact cellsD_drop r i
theorem cellsD_take : ∀ (l : Dms) (i : Nat), (cellsD l).take (i * 3) = cellsD (l.take i)
  | [], i => by simp [cellsD]
  | d :: r, 0 => by simp [cellsD]
  | d :: r, i + 1 => by
    rw [show (i + 1) * 3 = i * 3 + 1 + 1 + 1 by omega]
    simp only [cellsD, List.take_succ_cons]
    rw [cellsD_take r i]
theorem cellsD_nm : ∀ (l : Dms) (i : Nat) (d : Dm) (x : ByteArray), l[i]? = some d → (cellsD l).set (i * 3) (.string x) = cellsD (l.set i ⟨x, d.ver, d.nt⟩)
  | [], i, e, x, h => by simp at h
  | y :: r, 0, e, x, h => by simp at h; subst h; simp [cellsD]
  | y :: r, i + 1, e, x, h => by
    rw [show (i + 1) * 3 = i * 3 + 1 + 1 + 1 by omega]
    simp only [cellsD, List.set_cons_succ]
    rw [cellsD_nm r i e x (by simpa using h)]
theorem cellsD_ver : ∀ (l : Dms) (i : Nat) (d : Dm) (x : Int), l[i]? = some d → (cellsD l).set (i * 3 + 1) (.int .i64 x) = cellsD (l.set i ⟨d.nm, x, d.nt⟩)
  | [], i, e, x, h => by simp at h
  | y :: r, 0, e, x, h => by simp at h; subst h; simp [cellsD]
  | y :: r, i + 1, e, x, h => by
    rw [show (i + 1) * 3 + 1 = i * 3 + 1 + 1 + 1 + 1 by omega]
    simp only [cellsD, List.set_cons_succ]
    rw [cellsD_ver r i e x (by simpa using h)]
theorem cellsD_nt : ∀ (l : Dms) (i : Nat) (d : Dm) (x : ByteArray), l[i]? = some d → (cellsD l).set (i * 3 + 2) (.string x) = cellsD (l.set i ⟨d.nm, d.ver, x⟩)
  | [], i, e, x, h => by simp at h
  | y :: r, 0, e, x, h => by simp at h; subst h; simp [cellsD]
  | y :: r, i + 1, e, x, h => by
    rw [show (i + 1) * 3 + 2 = i * 3 + 2 + 1 + 1 + 1 by omega]
    simp only [cellsD, List.set_cons_succ]
    rw [cellsD_nt r i e x (by simpa using h)]
theorem cellsD_one (l : Dms) : ∀ v ∈ cellsD l, v.oneCell' = true := by
  induction l with
  | nil => intro v h; simp [cellsD] at h
  | cons d r ih =>
    intro v h
    simp only [cellsD, List.mem_cons] at h
    rcases h with rfl | rfl | rfl | h
    · rfl
    · rfl
    · rfl
    · exact ih v h
theorem at_set {l : Dms} {i : Nat} (h : i < l.length) (d : Dm) : (l.set i d)[i]? = some d := by simp [h]
/-- The three cells of a domain. -/
def D3 (w : World) (b o : Nat) (d : Dm) : Prop := w.cell? ⟨b, o, none⟩ = some (.string d.nm) ∧ w.cell? ⟨b, o + 1, none⟩ = some (.int .i64 d.ver) ∧ w.cell? ⟨b, o + 2, none⟩ = some (.string d.nt)
theorem D3.below {w w' : World} {b o B : Nat} {d : Dm} (h : D3 w b o d) (hb : Below B w w') (hB : b < B) : D3 w' b o d := by
  obtain ⟨h0, h1, h2⟩ := h
  exact ⟨(hb.cell hB).trans h0, (hb.cell hB).trans h1, (hb.cell hB).trans h2⟩
/-- A slice of domains that is read. -/
def DomsOf (w : World) (v : Value) (l : Dms) : Prop :=
  ∃ a cap, v = .slice a l.length cap ∧ (0 < l.length → ∃ b off, a = some ⟨b, off, none⟩ ∧ b < w.heap.size ∧ ∀ i d, l[i]? = some d → D3 w b (off + i * 3) d)
theorem DomsOf.below {w w' : World} {v : Value} {l : Dms} (h : DomsOf w v l) (hb : Below w.heap.size w w') : DomsOf w' v l := by
  obtain ⟨a, cap, hv, hr⟩ := h
  refine ⟨a, cap, hv, fun hn => ?_⟩
  obtain ⟨b, off, ha, hlt, hrow⟩ := hr hn
  exact ⟨b, off, ha, Nat.lt_of_lt_of_le hlt hb.size, fun i x hi => (hrow i x hi).below hb hlt⟩
theorem DomsOf.form {w : World} {v : Value} {l : Dms} (h : DomsOf w v l) : ∃ a cap, v = .slice a l.length cap := by
  obtain ⟨a, cap, hv, _⟩ := h; exact ⟨a, cap, hv⟩
theorem DomsOf.nil (w : World) (a : Option Addr) (c : Nat) : DomsOf w (.slice a 0 c) [] := ⟨a, c, rfl, fun h => absurd h (Nat.lt_irrefl _)⟩
/-- A slice of domains of the call's own, from block B on, with room behind. -/
def OwnD (w : World) (B : Nat) (v : Value) (l : Dms) : Prop := w.ownsRow B 58 3 v l.length (cellsD l)
theorem OwnD.down {w w' : World} {B : Nat} {v : Value} {l : Dms} (h : OwnD w B v l) (hb : Below w.heap.size w w') : OwnD w' B v l := owns_below h hb
theorem OwnD.mono {w : World} {B B' : Nat} {v : Value} {l : Dms} (h : OwnD w B v l) (hB : B' ≤ B) : OwnD w B' v l := owns_mono h hB
theorem OwnD.nil (w : World) (B : Nat) : OwnD w B (.slice none 0 0) [] := ⟨rfl, .inl ⟨rfl, rfl⟩⟩
theorem OwnD.split {w : World} {B : Nat} {v : Value} {l : Dms} (h : OwnD w B v l) : (v = .slice none 0 0 ∧ l = []) ∨ ∃ g cap, v = .slice (some ⟨g, 0, none⟩) l.length cap ∧ B ≤ g ∧ g < w.heap.size ∧ l.length ≤ cap ∧ cap ≤ maxLen := by
  rcases h.2 with ⟨rfl, h0⟩ | ⟨g, cap, cur, rfl, hB, hg, hn, hc, hs, ht⟩
  · exact .inl ⟨rfl, List.length_eq_zero_iff.1 h0⟩
  · refine .inr ⟨g, cap, rfl, hB, ?_, hn, hc⟩
    rcases Nat.lt_or_ge g w.heap.size with h' | h'
    · exact h'
    · rw [Array.getElem?_eq_none h'] at hg; cases hg
theorem OwnD.doms {w : World} {B : Nat} {v : Value} {l : Dms} (h : OwnD w B v l) : DomsOf w v l := by
  obtain ⟨a, cap, hv, hr⟩ := own_cells h (cellsD_len l)
  refine ⟨a, cap, hv, fun hn => ?_⟩
  obtain ⟨g, ha, _, hlt, hc⟩ := hr hn
  exact ⟨g, 0, ha, hlt, fun i x hi => by
    obtain ⟨k0, k1, k2⟩ := cellsD_at l i x hi
    rw [Nat.zero_add]; exact ⟨hc _ _ k0, hc _ _ k1, hc _ _ k2⟩⟩
theorem OwnD.form {w : World} {B : Nat} {v : Value} {l : Dms} (h : OwnD w B v l) : ∃ a cap, v = .slice a l.length cap := h.doms.form
theorem OwnD.len {w : World} {B n cap : Nat} {a : Option Addr} {l : Dms} (h : OwnD w B (.slice a n cap) l) : n = l.length := by
  obtain ⟨a', c, hv⟩ := h.form
  simp only [Value.slice.injEq] at hv
  exact hv.2.1
theorem OwnD.cell {w : World} {B g n cap : Nat} {l : Dms} (h : OwnD w B (.slice (some ⟨g, 0, none⟩) n cap) l) {j : Nat} {u : Value} (hj : (cellsD l)[j]? = some u) : w.cell? ⟨g, j, none⟩ = some u := by
  have hl : 0 < l.length := by
    have := (List.getElem?_eq_some_iff.1 hj).1
    rw [cellsD_len] at this; omega
  obtain ⟨a, c, hv, hr⟩ := own_cells h (cellsD_len l)
  obtain ⟨g', ha, _, _, hc⟩ := hr hl
  simp only [Value.slice.injEq] at hv
  obtain ⟨rfl, -, -⟩ := hv
  simp only [Option.some.injEq, Addr.mk.injEq, and_true] at ha
  subst ha
  exact hc j _ hj
theorem OwnD.d3 {w : World} {B g n cap : Nat} {l : Dms} (h : OwnD w B (.slice (some ⟨g, 0, none⟩) n cap) l) {j : Nat} {d : Dm} (hj : l[j]? = some d) : D3 w g (j * 3) d := by
  obtain ⟨k0, k1, k2⟩ := cellsD_at l j d hj
  exact ⟨h.cell k0, h.cell k1, h.cell k2⟩
theorem OwnD.thaw {w : World} {B g n cap : Nat} {l : Dms} (h : OwnD w B (.slice (some ⟨g, 0, none⟩) n cap) l) (j : Nat) : w.frozen? ⟨g, j, none⟩ = false := by
  have e := h.len
  subst e
  exact World.ownsRow.frozenAt h j
theorem OwnD.setNm {w : World} {B g n cap : Nat} {l : Dms} (h : OwnD w B (.slice (some ⟨g, 0, none⟩) n cap) l) {j : Nat} {d : Dm} (hj : l[j]? = some d) (x : ByteArray) : OwnD (w.setCell ⟨g, j * 3, none⟩ (.string x)) B (.slice (some ⟨g, 0, none⟩) n cap) (l.set j ⟨x, d.ver, d.nt⟩) := by
  have e := h.len
  subst e
  have := (World.ownsRow.stored h (j * 3) (.string x)).1
  unfold OwnD
  rw [List.length_set, ← cellsD_nm l j d x hj]
  exact this
theorem OwnD.setVer {w : World} {B g n cap : Nat} {l : Dms} (h : OwnD w B (.slice (some ⟨g, 0, none⟩) n cap) l) {j : Nat} {d : Dm} (hj : l[j]? = some d) (x : Int) : OwnD (w.setCell ⟨g, j * 3 + 1, none⟩ (.int .i64 x)) B (.slice (some ⟨g, 0, none⟩) n cap) (l.set j ⟨d.nm, x, d.nt⟩) := by
  have e := h.len
  subst e
  have := (World.ownsRow.stored h (j * 3 + 1) (.int .i64 x)).1
  unfold OwnD
  rw [List.length_set, ← cellsD_ver l j d x hj]
  exact this
theorem OwnD.setNt {w : World} {B g n cap : Nat} {l : Dms} (h : OwnD w B (.slice (some ⟨g, 0, none⟩) n cap) l) {j : Nat} {d : Dm} (hj : l[j]? = some d) (x : ByteArray) : OwnD (w.setCell ⟨g, j * 3 + 2, none⟩ (.string x)) B (.slice (some ⟨g, 0, none⟩) n cap) (l.set j ⟨d.nm, d.ver, x⟩) := by
  have e := h.len
  subst e
  have := (World.ownsRow.stored h (j * 3 + 2) (.string x)).1
  unfold OwnD
  rw [List.length_set, ← cellsD_nt l j d x hj]
  exact this
theorem OwnD.set {w : World} {B g n cap : Nat} {l : Dms} (h : OwnD w B (.slice (some ⟨g, 0, none⟩) n cap) l) {j : Nat} (hj : j < l.length) (x : Dm) : OwnD (((w.setCell ⟨g, j * 3, none⟩ (.string x.nm)).setCell ⟨g, j * 3 + 1, none⟩ (.int .i64 x.ver)).setCell ⟨g, j * 3 + 2, none⟩ (.string x.nt)) B (.slice (some ⟨g, 0, none⟩) n cap) (l.set j x) := by
  have h1 := h.setNm (List.getElem?_eq_getElem hj) x.nm
  have h2 := h1.setVer (at_set hj _) x.ver
  have h3 := h2.setNt (at_set (by simpa using hj) _) x.nt
  simpa using h3
theorem OwnD.other {w w' : World} {B : Nat} {v : Value} {l : Dms} {row : Option Nat} (h : OwnD w B v l) (hg : w.grownBy w' row) (hne : ∀ g, v.ownBlock = some g → some g ≠ row) : OwnD w' B v l := owns_other h hg hne
theorem OwnD.lt {w : World} {B g : Nat} {v : Value} {l : Dms} (h : OwnD w B v l) (hg : v.ownBlock = some g) : B ≤ g ∧ g < w.heap.size := by
  rcases h.split with ⟨rfl, _⟩ | ⟨g', cap, rfl, h1, h2, _⟩
  · simp [Value.ownBlock] at hg
  · simp only [Value.ownBlock, Option.some.injEq] at hg
    subst hg; exact ⟨h1, h2⟩
def d0 : Dm := ⟨⟨#[]⟩, 0, ⟨#[]⟩⟩
theorem made_cells (n : Nat) : (madeCells #[(.string ⟨#[]⟩ : Value), .int .i64 0, .string ⟨#[]⟩] (n * 3)).toList = cellsD (List.replicate n d0) := by
  apply List.ext_getElem?
  intro i
  by_cases hi : i < n * 3
  · have h1 : (madeCells #[(.string ⟨#[]⟩ : Value), .int .i64 0, .string ⟨#[]⟩] (n * 3))[i]? = some (#[(.string ⟨#[]⟩ : Value), .int .i64 0, .string ⟨#[]⟩][i % 3]!) := by
      simp [madeCells, hi]
    rw [Array.getElem?_toList, h1]
    obtain ⟨a, b, c⟩ := cellsD_at (List.replicate n d0) (i / 3) d0 (by rw [List.getElem?_replicate, if_pos (by omega)])
    rcases (show i % 3 = 0 ∨ i % 3 = 1 ∨ i % 3 = 2 by omega) with h | h | h
    · rw [h, show i = i / 3 * 3 by omega, a]; rfl
    · rw [h, show i = i / 3 * 3 + 1 by omega, b]; rfl
    · rw [h, show i = i / 3 * 3 + 2 by omega, c]; rfl
  · rw [List.getElem?_eq_none (by rw [Array.length_toList, size_madeCells]; omega), List.getElem?_eq_none (by rw [cellsD_len, List.length_replicate]; omega)]
theorem take_snocA {α : Type} {l : List α} {k : Nat} {y : α} (hy : l[k]? = some y) : l.take (k + 1) = l.take k ++ [y] := by
  have hk : k < l.length := (List.getElem?_eq_some_iff.1 hy).1
  rw [List.getElem?_eq_getElem hk] at hy
  rw [List.take_succ_eq_append_getElem hk]
  simp at hy; rw [hy]
theorem set_stepA {α : Type} {l m : List α} {j : Nat} {x : α} (hj : j < l.length) (hm : m[j]? = some x) : (m.take j ++ l.drop j).set j x = m.take (j + 1) ++ l.drop (j + 1) := by
  have hml := (List.getElem?_eq_some_iff.1 hm).1
  have e : (m.take j).length = j := by rw [List.length_take]; omega
  rw [List.set_append_right _ _ (by omega), e, Nat.sub_self, List.drop_eq_getElem_cons hj, List.set_cons_zero, take_snocA hm]
  simp
theorem mid_atA {α : Type} {l m : List α} {j : Nat} {x : α} (hj : l[j]? = some x) (hml : j ≤ m.length) : (m.take j ++ l.drop j)[j]? = some x := by
  rw [List.getElem?_append_right (by rw [List.length_take]; omega), List.length_take, Nat.min_eq_left hml, Nat.sub_self, List.getElem?_drop]
  simpa using hj
/-- Marks from k on. -/
def mkd (k : Nat) : Dm := ⟨mtx k, ((k + 1 : Nat) : Int), mtx (k + 2)⟩
def mkD (k n : Nat) : Dms := (List.range n).map (fun i => mkd (k + i * 3))
theorem mkD_len (k n : Nat) : (mkD k n).length = n := by simp [mkD]
theorem mkD_at {k n i : Nat} (h : i < n) : (mkD k n)[i]? = some (mkd (k + i * 3)) := by simp [mkD, h]
end M
theorem info_dom : (Try.prog.info? 58).map (fun i => (i.zero, i.size, i.bytes)) = some (some (.agg #[.string ⟨#[]⟩, .int .i64 0, .string ⟨#[]⟩]), 3, 40) := by kernel_rfl
theorem make_doms (n : Nat) (h : n ≤ 1048576) (w : World) : (Instr.makeSlice 32 (.int .i64 (n : Int)) (.int .i64 (n : Int))).run Try.prog w = .ok (.slice (some ⟨w.heap.size, 0, none⟩) n n) (w.alloc (.cells (madeCells #[(.string ⟨#[]⟩ : Value), .int .i64 0, .string ⟨#[]⟩] (n * 3)) 58)) := by
  obtain ⟨i, hi, hz0, hz1, hz2⟩ := info_parts info_dom
  have hr := run_make (P := Try.prog) w 32 58 i _ Try.underlying32 hi hz0 .i64 .i64 (n : Int) (n : Int) (by omega) (Int.le_refl _) (by rw [hz2]; omega) (by omega)
  rw [hr, hz1]
  simp only [Int.toNat_natCast]
  rfl
namespace M
theorem made_doms (w : World) (n : Nat) (h : n ≤ 1048576) : OwnD (w.alloc (.cells (madeCells #[(.string ⟨#[]⟩ : Value), .int .i64 0, .string ⟨#[]⟩] (n * 3)) 58)) w.heap.size (.slice (some ⟨w.heap.size, 0, none⟩) n n) (List.replicate n d0) := by
  have h1 := World.ownsRow_lit (base := w.heap.size) (e := 58) (size := 3) w (madeCells #[(.string ⟨#[]⟩ : Value), .int .i64 0, .string ⟨#[]⟩] (n * 3)) n (Nat.le_refl _) (by unfold maxLen; omega) (by rw [size_madeCells])
  unfold OwnD
  rw [List.length_replicate]
  rw [made_cells] at h1
  exact h1
end M
set_option maxHeartbeats 2000000 in
theorem to_dom (d : Dm) (w : World) :
    Calls Try.prog 46 #[d.v] w fun e w' => e = .returned d.v ∧ Below w.heap.size w w' := by
  have hbA := (((Below.refl w.heap.size w).alloc (Nat.le_refl _) (.cells #[.string d.nm, .int .i64 d.ver, .string d.nt] 57)).alloc (by simp) (.cells #[.string d.nm, .int .i64 d.ver, .string d.nt] 58)).alloc (by simp; omega) (.cells #[.string d.nm, .int .i64 d.ver, .string d.nt] 58)
  go_enter Try.func46, Try.ntmps46
  go_wp2
  exact bodyPost_ret (v := d.v) (by simp [results, Try.results46, go_sem]) rfl ⟨rfl, hbA⟩
set_option maxHeartbeats 2000000 in
theorem to_doms (v : Value) (l : Dms) (w : World) (hv : DomsOf w v l) (hn : l.length ≤ 1048576) :
    Calls Try.prog 21 #[v] w fun e w' => (e = .returned (.slice (some ⟨w.heap.size, 0, none⟩) l.length l.length) ∧ OwnD w' w.heap.size (.slice (some ⟨w.heap.size, 0, none⟩) l.length l.length) l) ∧ Below w.heap.size w w' := by
  obtain ⟨a, cap, rfl, hr⟩ := hv
  have HR := hide hr
  clear hr
  have hmk := make_doms l.length hn
  have HZ := hide (made_doms w l.length hn)
  go_enter Try.func21, Try.ntmps21
  go_wp2
  go_loopw [4] (fun i wr => ∃ k : Nat, k ≤ l.length ∧ i = .int .i64 k ∧ Hid (OwnD wr w.heap.size (.slice (some ⟨w.heap.size, 0, none⟩) l.length l.length) (l.take k ++ (List.replicate l.length d0).drop k)) ∧ Below w.heap.size w wr) (fun i _ => l.length - (intOf i).toNat)
  case atStart => exact ⟨0, Nat.zero_le _, rfl, HZ, (Below.refl _ _).alloc (Nat.le_refl _) _⟩
  case round =>
    obtain ⟨k, hk, rfl, HA, hbw⟩ := hrel
    by_cases hlt : k < l.length
    · obtain ⟨b, off, rfl, hb, hrow⟩ := HR.out (by omega)
      obtain ⟨x, hx⟩ : ∃ x, l[k]? = some x := ⟨l[k], List.getElem?_eq_getElem hlt⟩
      obtain ⟨c0, c1, c2⟩ := (hrow k x hx).below hbw hb
      have hsz0 : w.heap.size < wr.heap.size := (HA.out.lt rfl).2
      have HX := hide hx
      clear hrow HR HZ hx
      go_wp2_with fail
      refine (to_dom x _).mono ?_
      rintro e w1 ⟨rfl, hb1⟩
      have hbw1 := hbw.trans (hb1.mono hbw.size)
      have hA1 := HA.out.down hb1
      obtain ⟨e0, e1, e2⟩ := hA1.d3 (j := k) (d := d0) (mid_atA (by simp [hlt]) (by omega))
      have f0 := hA1.thaw (k * 3)
      have f1 := hA1.thaw (k * 3 + 1)
      have f2 := hA1.thaw (k * 3 + 2)
      have hA2 := hA1.set (j := k) (by rw [List.length_append, List.length_take, List.length_drop, List.length_replicate]; omega) x
      rw [set_stepA (by rw [List.length_replicate]; exact hlt) HX.out] at hA2
      have HA2 := hide hA2
      have hbw2 := ((hbw1.setCell (p := ⟨w.heap.size, k * 3, none⟩) (Nat.le_refl _) (.string x.nm)).setCell (p := ⟨w.heap.size, k * 3 + 1, none⟩) (Nat.le_refl _) (.int .i64 x.ver)).setCell (p := ⟨w.heap.size, k * 3 + 2, none⟩) (Nat.le_refl _) (.string x.nt)
      clear HA hA1 hA2 hb1 c0 c1 c2
      go_wp2
      exact ⟨⟨k + 1, by omega, by go_num, HA2, hbw2⟩, by simp [intOf]; omega⟩
    · have hB := HA.out
      rw [List.take_of_length_le (by omega), List.drop_eq_nil_of_le (by rw [List.length_replicate]; omega), List.append_nil] at hB
      have HB := hide hB
      clear HA HR hB HZ
      go_wp2
      go_ret
      exact ⟨⟨rfl, HB.out⟩, hbw⟩
set_option maxHeartbeats 2000000 in
theorem eq_dom (d : Dm) (w : World) :
    Calls Try.prog 48 #[d.v, d.v] w fun e w' => e = .returned (.bool true) ∧ Below w.heap.size w w' := by
  have hbA := ((Below.refl w.heap.size w).alloc (Nat.le_refl _) (.cells #[.string d.nm, .int .i64 d.ver, .string d.nt] 58)).alloc (by simp) (.cells #[.string d.nm, .int .i64 d.ver, .string d.nt] 58)
  go_enter Try.func48, Try.ntmps48
  go_wp2
  go_ret
  exact ⟨rfl, hbA⟩
set_option maxHeartbeats 2000000 in
theorem eq_doms (v u : Value) (l : Dms) (w : World) (hv : DomsOf w v l) (hu : DomsOf w u l) (hn : l.length ≤ 1048576) :
    Calls Try.prog 23 #[v, u] w fun e w' => e = .returned (.bool true) ∧ Below w.heap.size w w' := by
  obtain ⟨a, cap, rfl, hr⟩ := hv
  obtain ⟨a2, cap2, rfl, hr2⟩ := hu
  have HR := hide hr
  have HR2 := hide hr2
  clear hr hr2
  go_enter Try.func23, Try.ntmps23
  go_wp2
  go_loopw [5] (fun i wr => ∃ k : Nat, k ≤ l.length ∧ i = .int .i64 k ∧ Below w.heap.size w wr) (fun i _ => l.length - (intOf i).toNat)
  case atStart => exact ⟨0, Nat.zero_le _, rfl, Below.refl _ _⟩
  case round =>
    obtain ⟨k, hk, rfl, hbw⟩ := hrel
    by_cases hlt : k < l.length
    · obtain ⟨b, off, rfl, hb, hrow⟩ := HR.out (by omega)
      obtain ⟨b2, off2, rfl, hb2, hrow2⟩ := HR2.out (by omega)
      obtain ⟨x, hx⟩ : ∃ x, l[k]? = some x := ⟨l[k], List.getElem?_eq_getElem hlt⟩
      obtain ⟨c0, c1, c2⟩ := (hrow k x hx).below hbw hb
      obtain ⟨e0, e1, e2⟩ := (hrow2 k x hx).below hbw hb2
      have k0 := cell_regrown c0
      have k1 := cell_regrown c1
      have k2 := cell_regrown c2
      have g0 := cell_regrown e0
      have g1 := cell_regrown e1
      have g2 := cell_regrown e2
      have hi0 : (0 : Int) ≤ (k : Int) := by omega
      have hi1 : (k : Int) < (l.length : Int) := by omega
      have HE := hide (show ∀ d os, Calls Try.prog 48 #[x.v, x.v] (grow (redrawn wr d) os) fun e w'' => e = .returned (.bool true) ∧ ∃ p : Regrown, w'' = grow (redrawn wr p.d) p.os from fun d os => Calls.regrown_of (eq_dom _ _))
      clear hrow hrow2 HR HR2 hx c0 c1 c2 e0 e1 e2
      go_wp2
      refine wp_region_quiet_below (by kernel_rfl) (by kernel_rfl) ?_
      repeat (go_big_quiet_step (exact HE.out _ _))
      refine wpQuiet_nil ?_
      intro _ hw'
      obtain ⟨⟨dq, osq⟩, hw''⟩ := hw'
      subst hw''
      have hbw2 := hbw.trans ((below_regrown wr dq osq).mono hbw.size)
      clear HE
      go_wp2
      go_roundw
      case rel => exact ⟨k + 1, by omega, by go_num, hbw2⟩
      case measure => simp [intOf]; omega
    · clear HR HR2
      go_wp2
      go_ret
      exact ⟨rfl, hbw⟩
theorem sz_dom (d : Dm) (left : Int) (w : World) (h0 : 0 ≤ left) (h1 : left ≤ 1048576) (hs : d.nm.size ≤ maxLen) (ht : d.nt.size ≤ maxLen) :
    Calls Try.prog 44 #[d.v, .int .i64 left] w fun e w' => (∃ r : Int, e = .returned (.int .i64 r) ∧ (r = -1 ∨ (0 ≤ r ∧ r ≤ left))) ∧ Below w.heap.size w w' := by
  unfold maxLen at hs ht
  have hbA := (Below.refl w.heap.size w).alloc (Nat.le_refl _) (.cells #[.string d.nm, .int .i64 d.ver, .string d.nt] 57)
  by_cases hA : left - (d.nm.size : Int) < 0
  · go_enter Try.func44, Try.ntmps44
    go_wp2
    go_ret
    exact ⟨⟨_, rfl, .inl rfl⟩, hbA⟩
  · by_cases hB : left - (d.nm.size : Int) - (d.nt.size : Int) < 0
    · go_enter Try.func44, Try.ntmps44
      go_wp2
      go_ret
      exact ⟨⟨_, rfl, .inl rfl⟩, hbA⟩
    · go_enter Try.func44, Try.ntmps44
      go_wp2
      go_ret
      exact ⟨⟨_, rfl, .inr ⟨by omega, by omega⟩⟩, hbA⟩
namespace M
/-- What came in is within what a machine can hold. -/
def LenD (l : Dms) : Prop := l.length ≤ maxLen ∧ ∀ d ∈ l, d.nm.size ≤ maxLen ∧ d.nt.size ≤ maxLen
end M
set_option maxHeartbeats 2000000 in
theorem sz_doms (v : Value) (l : Dms) (left : Int) (w : World) (hv : DomsOf w v l) (hl : LenD l) (h0 : 0 ≤ left) (h1 : left ≤ 1048576) :
    Calls Try.prog 19 #[v, .int .i64 left] w fun e w' => (∃ r : Int, e = .returned (.int .i64 r) ∧ (r = -1 ∨ (0 ≤ r ∧ r ≤ left ∧ l.length ≤ 1048576))) ∧ Below w.heap.size w w' := by
  obtain ⟨a, cap, rfl, hr⟩ := hv
  have HR := hide hr
  have HN := hide hl.2
  have hl0 := hl.1
  clear hr hl
  unfold maxLen at hl0
  by_cases hbig : left - (l.length : Int) < 0
  · go_enter Try.func19, Try.ntmps19
    go_wp2
    go_ret
    exact ⟨⟨_, rfl, .inl rfl⟩, Below.refl _ _⟩
  · have hlen : l.length ≤ 1048576 := by omega
    go_enter Try.func19, Try.ntmps19
    go_wp2
    go_loopw [1, 5] (fun x i wr => ∃ (k : Nat) (r : Int), k ≤ l.length ∧ i = .int .i64 k ∧ x = .int .i64 r ∧ 0 ≤ r ∧ r ≤ left ∧ Below w.heap.size w wr) (fun _ i _ => l.length - (intOf i).toNat)
    case atStart => exact ⟨0, _, Nat.zero_le _, rfl, rfl, by omega, by omega, Below.refl _ _⟩
    case round =>
      obtain ⟨k, r, hk, rfl, rfl, hr0, hr1, hbw⟩ := hrel
      by_cases hlt : k < l.length
      · obtain ⟨b, off, rfl, hb, hrow⟩ := HR.out (by omega)
        obtain ⟨x, hx⟩ : ∃ x, l[k]? = some x := ⟨l[k], List.getElem?_eq_getElem hlt⟩
        obtain ⟨c0, c1, c2⟩ := (hrow k x hx).below hbw hb
        have HS := hide (HN.out x (List.mem_of_getElem? hx))
        clear hrow HR HN hx
        go_wp2_with fail
        refine (sz_dom x r _ hr0 (by omega) HS.out.1 HS.out.2).mono ?_
        rintro e w1 ⟨⟨r2, rfl, hr2⟩, hb1⟩
        have hbw1 := hbw.trans (hb1.mono hbw.size)
        clear hb1 c0 c1 c2
        rcases hr2 with hr2 | ⟨hr2, hr3⟩
        · have hneg : r2 < 0 := by omega
          clear hr2
          go_wp2
          go_ret
          exact ⟨⟨_, rfl, .inl rfl⟩, hbw1⟩
        · have hneg : ¬ r2 < 0 := by omega
          go_wp2
          go_roundw
          case rel => exact ⟨k + 1, r2, by omega, by go_num, rfl, hr2, by omega, hbw1⟩
          case measure => simp [intOf]; omega
      · clear HR HN
        go_wp2
        go_ret
        exact ⟨⟨_, rfl, .inr ⟨hr0, hr1, hlen⟩⟩, hbw⟩
set_option maxHeartbeats 2000000 in
theorem mark_doms (B k0 : Nat) (v : Value) (l : Dms) (w : World) (h : OwnD w B v l) (hn : l.length ≤ 1048576) (h1 : 1 ≤ k0) (hk0 : k0 ≤ 10000000) :
    Calls Try.prog 26 #[v, .int .i64 (k0 : Int)] w fun e w' => e = .returned (.int .i64 ((k0 + l.length * 3 : Nat) : Int)) ∧ OwnD w' B v (mkD k0 l.length) ∧ w.grownBy w' v.ownBlock := by
  rcases h.split with ⟨rfl, rfl⟩ | ⟨g, cap, rfl, hB, hg, hc, hcm⟩
  · go_enter Try.func26, Try.ntmps26
    go_wp2
    refine wp_loop_rounds 1 ?_; rw [rounds_succ]
    go_wp2
    go_ret
    exact ⟨rfl, OwnD.nil _ _, gbT_refl _ _⟩
  · have HG := hide h
    clear h
    go_enter Try.func26, Try.ntmps26
    go_wp2
    go_loopw [1, 5] (fun x i wr => ∃ k : Nat, k ≤ l.length ∧ i = .int .i64 k ∧ x = .int .i64 ((k0 + k * 3 : Nat) : Int) ∧ Hid (OwnD wr B (.slice (some ⟨g, 0, none⟩) l.length cap) ((mkD k0 l.length).take k ++ l.drop k)) ∧ w.grownBy wr (some g)) (fun _ i _ => l.length - (intOf i).toNat)
    case atStart => exact ⟨0, Nat.zero_le _, rfl, rfl, HG, gbT_refl _ _⟩
    case round =>
      obtain ⟨k, hk, rfl, rfl, HA, hgb⟩ := hrel
      by_cases hlt : k < l.length
      · obtain ⟨x, hx⟩ : ∃ x, l[k]? = some x := ⟨l[k], List.getElem?_eq_getElem hlt⟩
        have hM := mkD_at (k := k0) hlt
        have hat : ((mkD k0 l.length).take k ++ l.drop k)[k]? = some x := mid_atA hx (by rw [mkD_len]; omega)
        have hll : k < ((mkD k0 l.length).take k ++ l.drop k).length := ltD hat
        have HST := hide (set_stepA (l := l) hlt hM)
        have HAT := hide hat
        have HLL := hide hll
        clear hat hll hx hM HG
        generalize (mkD k0 l.length).take k ++ l.drop k = m at *
        have HE3 := hide (show k0 + (k + 1) * 3 = k0 + k * 3 + 3 by omega)
        have hq1 : 1 ≤ k0 + k * 3 := by omega
        have hq2 : k0 + k * 3 ≤ 1000000 + 1000000000 - 1000010 + 0 ∨ True := .inr trivial
        have hqq : k0 + k * 3 ≤ 20000000 := by omega
        clear hq2
        generalize k0 + k * 3 = q at *
        go_wp2_with fail
        refine (mark_tx q _ hq1 (by omega)).mono ?_
        rintro e' w4 ⟨rfl, hb4⟩
        have hA4 := HA.out.down hb4
        obtain ⟨c0, c1, c2⟩ := hA4.d3 HAT.out
        have f0 := hA4.thaw (k * 3)
        have f1 := hA4.thaw (k * 3 + 1)
        have hA5 := hA4.setNm HAT.out (mtx q)
        have hA6 := hA5.setVer (at_set HLL.out _) ((q : Int) + 1)
        have HA6 := hide hA6
        have hgb5 := gbT_set (o := k * 3 + 1) (v := .int .i64 ((q : Int) + 1)) (gbT_set (o := k * 3) (v := .string (mtx q)) (gbT_below hgb hb4))
        clear hb4 hA4 hA5 hA6 HA hgb c2
        go_wp2_with fail
        rw [show ((q : Int) + 1 + 1) = ((q + 2 : Nat) : Int) by omega]
        refine (mark_tx (q + 2) _ (by omega) (by omega)).mono ?_
        rintro e' w6 ⟨rfl, hb6⟩
        have hA7 := HA6.out.down hb6
        obtain ⟨-, -, g2⟩ := hA7.d3 (at_set (by simpa using HLL.out) _)
        have f2 := hA7.thaw (k * 3 + 2)
        have hA8 := hA7.setNt (at_set (by simpa using HLL.out) _) (mtx (q + 2))
        have hgb8 := gbT_set (o := k * 3 + 2) (v := .string (mtx (q + 2))) (gbT_below hgb5 hb6)
        have HA8 := hide (show OwnD _ B (.slice (some ⟨g, 0, none⟩) l.length cap) ((mkD k0 l.length).take (k + 1) ++ l.drop (k + 1)) from by
          rw [← HST.out]; unfold mkd; simpa using hA8)
        clear hb6 hA7 hA8 HA6 hgb5 c0 c1 f0 f1 HST HAT HLL
        go_wp2
        exact ⟨⟨k + 1, by omega, by go_num, by rw [HE3.out]; go_num, HA8, hgb8⟩, by simp [intOf]; omega⟩
      · obtain rfl : k = l.length := by omega
        have hB2 := HA.out
        rw [List.drop_length, List.append_nil, List.take_of_length_le (by rw [mkD_len]; omega)] at hB2
        have HB2 := hide hB2
        clear hB2 HA HG
        go_wp2
        go_ret
        exact ⟨rfl, HB2.out, hgb⟩
set_option maxHeartbeats 2000000 in
theorem held_doms (v : Value) (k0 n : Nat) (w : World) (hv : DomsOf w v (mkD k0 n)) (hn : n ≤ 1048576) (h1 : 1 ≤ k0) (hk0 : k0 ≤ 10000000) :
    Calls Try.prog 27 #[v, .int .i64 (k0 : Int)] w fun e w' => e = .returned (.int .i64 ((k0 + n * 3 : Nat) : Int)) ∧ Below w.heap.size w w' := by
  obtain ⟨a, cap, rfl, hr⟩ := hv
  have HR := hide hr
  clear hr
  rw [mkD_len] at HR ⊢
  go_enter Try.func27, Try.ntmps27
  go_wp2
  go_loopw [1, 5] (fun x i wr => ∃ k : Nat, k ≤ n ∧ i = .int .i64 k ∧ x = .int .i64 ((k0 + k * 3 : Nat) : Int) ∧ Below w.heap.size w wr) (fun _ i _ => n - (intOf i).toNat)
  case atStart => exact ⟨0, Nat.zero_le _, rfl, rfl, Below.refl _ _⟩
  case round =>
    obtain ⟨k, hk, rfl, rfl, hbw⟩ := hrel
    by_cases hlt : k < n
    · obtain ⟨b, off, rfl, hb, hrow⟩ := HR.out (by omega)
      obtain ⟨c0, c1, c2⟩ := (hrow k _ (mkD_at hlt)).below hbw hb
      have HE3 := hide (show k0 + (k + 1) * 3 = k0 + k * 3 + 3 by omega)
      have hq1 : 1 ≤ k0 + k * 3 := by omega
      have hqq : k0 + k * 3 ≤ 20000000 := by omega
      have hi0 : (0 : Int) ≤ (k : Int) := by omega
      have hi1 : (k : Int) < (n : Int) := by omega
      clear HR hrow
      generalize k0 + k * 3 = q at *
      have k0' := cell_regrown c0
      have HC1 := hide c1
      have HC2 := hide c2
      clear c0 c1 c2
      simp only [mkd] at k0' HC1 HC2
      have HE := hide (show ∀ d os, Calls Try.prog 51 #[.int .i64 (q : Int)] (grow (redrawn wr d) os) fun e w'' => e = .returned (.string (mtx q)) ∧ ∃ p : Regrown, w'' = grow (redrawn wr p.d) p.os from fun d os => Calls.regrown_of (mark_tx q _ hq1 (by omega)))
      go_wp2
      refine wp_region_quiet_below (by kernel_rfl) (by kernel_rfl) ?_
      repeat (go_big_quiet_step (exact HE.out _ _))
      refine wpQuiet_nil ?_
      intro _ hw'
      obtain ⟨⟨dq, osq⟩, hw''⟩ := hw'
      subst hw''
      have hbw2 := hbw.trans ((below_regrown wr dq osq).mono hbw.size)
      have c1 := cell_regrown HC1.out dq osq
      obtain ⟨wx, hwx⟩ : ∃ wx, grow (redrawn wr dq) osq = wx := ⟨_, rfl⟩
      rw [hwx] at hbw2 c1 ⊢
      have HC2' := hide (show wx.cell? ⟨b, off + k * 3 + 2, none⟩ = some (.string (mtx (q + 2))) from by rw [← hwx]; exact cell_regrown HC2.out dq osq)
      have k2 := cell_regrown HC2'.out
      have HE2 := hide (show ∀ d os, Calls Try.prog 51 #[.int .i64 ((q : Int) + 1 + 1)] (grow (redrawn wx d) os) fun e w'' => e = .returned (.string (mtx (q + 2))) ∧ ∃ p : Regrown, w'' = grow (redrawn wx p.d) p.os from fun d os => by
        rw [show ((q : Int) + 1 + 1) = ((q + 2 : Nat) : Int) by omega]
        exact Calls.regrown_of (mark_tx (q + 2) _ (by omega) (by omega)))
      have hne : (((q + 1 : Nat) : Int) != (q : Int) + 1) = false := by simp
      clear HE k0' HC1 HC2 HC2' hwx hbw
      go_wp2
      refine wp_region_quiet_below (by kernel_rfl) (by kernel_rfl) ?_
      repeat (go_big_quiet_step (exact HE2.out _ _))
      refine wpQuiet_nil ?_
      intro _ hw'
      obtain ⟨⟨dq2, osq2⟩, hw''⟩ := hw'
      subst hw''
      have hbw3 := hbw2.trans ((below_regrown wx dq2 osq2).mono hbw2.size)
      clear HE2 k2 c1
      go_wp2
      go_roundw
      case rel => exact ⟨k + 1, by omega, by go_num, by rw [HE3.out]; go_num, hbw3⟩
      case measure => simp [intOf]; omega
    · obtain rfl : k = n := by omega
      clear HR
      go_wp2
      go_ret
      exact ⟨rfl, hbw⟩
end Go.Proofs.Ytgccoognklolbaa
