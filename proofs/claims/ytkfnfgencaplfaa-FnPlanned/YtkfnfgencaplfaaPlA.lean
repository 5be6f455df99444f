/-
  Tasks in memory of the call's own, as they are drawn: a row of tasks, the rows of what each needs, a task's box.
-/
import Derived.Test.YtkfnfgencaplfaaCw
import Derived.Test.YtkfnfgencaplfaaTaskA
import Derived.Test.YtkfnfgencaplfaaOwnR
namespace Go.Proofs.Ytkfnfgencaplfaa
open Go.RowKit M
open Clk (upd upd_same upd_other)
namespace M
/-- A task as it is laid: how long, the slice of what it needs, what that holds. -/
structure Rw where
  hd : Int
  bd : Value
  xs : List Int
def ivs (l : List Int) : List Value := l.map fun x => .int .i64 x
def lf (l : List Int) : Nat → Int := fun i => (l[i]?).getD 0
theorem ivs_len (l : List Int) : (ivs l).length = l.length := by unfold ivs; simp
theorem ivs_eq (l : List Int) : ivs l = (List.range l.length).map (iv (lf l)) := by
  apply List.ext_getElem?
  intro i
  unfold ivs iv lf
  rw [List.getElem?_map, List.getElem?_map]
  by_cases h : i < l.length
  · rw [List.getElem?_range h, List.getElem?_eq_getElem h]; simp [h]
  · rw [List.getElem?_eq_none (by omega), List.getElem?_eq_none (by simp; omega)]; rfl
theorem own_nums {w : World} {B : Nat} {v : Value} {l : List Int} (h : w.ownsRow B 3 1 v l.length (ivs l)) : IntsOf w v l.length (lf l) := own_ints (by rw [← ivs_eq]; exact h)
def cellsR : List Rw → List Value
  | [] => []
  | r :: R => .int .i64 r.hd :: r.bd :: cellsR R
theorem cellsR_snoc (R : List Rw) (r : Rw) : cellsR (R ++ [r]) = cellsR R ++ [.int .i64 r.hd, r.bd] := by
  induction R with
  | nil => rfl
  | cons a R ih => simp [cellsR, ih]
theorem cellsR_len (R : List Rw) : (cellsR R).length = R.length * 2 := by
  induction R with
  | nil => rfl
  | cons a R ih => simp [cellsR, ih]; omega
theorem cellsR_at : ∀ (R : List Rw) (i : Nat) (r : Rw), R[i]? = some r → (cellsR R)[i * 2]? = some (.int .i64 r.hd) ∧ (cellsR R)[i * 2 + 1]? = some r.bd
  | [], i, r, h => by simp at h
  | a :: R, 0, r, h => by simp at h; subst h; exact ⟨rfl, rfl⟩
  | a :: R, i + 1, r, h => by
    have := cellsR_at R i r (by simpa using h)
    rw [show (i + 1) * 2 = i * 2 + 1 + 1 by omega]
    exact this
/-- What the tasks need lies in memory of their own. -/
def Bods (w : World) (B : Nat) (R : List Rw) : Prop := ∀ r ∈ R, r.xs.length ≤ 4 ∧ w.ownsRow B 3 1 r.bd r.xs.length (ivs r.xs)
theorem Bods.but {cb : Nat} {w w' : World} {B : Nat} {R : List Rw} (h : Bods w B R) (hb : But cb w w') (hlt : cb < B) : Bods w' B R := fun r hr => ⟨(h r hr).1, hb.owns (h r hr).2 hlt⟩
theorem Bods.below {w w' : World} {B : Nat} {R : List Rw} (h : Bods w B R) (hb : Below w.heap.size w w') : Bods w' B R := fun r hr => ⟨(h r hr).1, owns_below (h r hr).2 hb⟩
theorem Bods.grown {w w' : World} {B B' n : Nat} {v : Value} {xs : List Value} {R : List Rw} (h : Bods w B R) (hown : w.ownsRow B' 56 2 v n xs) (hg : w.grownBy w' v.ownBlock) : Bods w' B R :=
  fun r hr => ⟨(h r hr).1, owns_other (h r hr).2 hg (owns_apart (h r hr).2 hown (by decide))⟩
theorem Bods.snoc {w : World} {B : Nat} {R : List Rw} {r : Rw} (h : Bods w B R) (h1 : r.xs.length ≤ 4) (h2 : w.ownsRow B 3 1 r.bd r.xs.length (ivs r.xs)) : Bods w B (R ++ [r]) := fun a ha => by
  rcases List.mem_append.1 ha with h' | h'
  · exact h a h'
  · simp at h'; subst h'; exact ⟨h1, h2⟩
/-- The rows that came ahead of block g: another row, from g on, may grow. -/
theorem Bods.apart {w w' : World} {B : Nat} {R : List Rw} {row : Option Nat} (h : Bods w B R) (hg : w.grownBy w' row) (hne : ∀ r ∈ R, ∀ q, r.bd.ownBlock = some q → some q ≠ row) : Bods w' B R :=
  fun r hr => ⟨(h r hr).1, owns_other (h r hr).2 hg (hne r hr)⟩
theorem own_ne_blk {w : World} {B e s n g m : Nat} {v : Value} {xs : List Value} {f : Nat → Value} {t : TypeId} (h : w.ownsRow B e s v n xs) (hb : Blk w g m f t) (ht : e ≠ t) : v.ownBlock ≠ some g := by
  intro he
  rcases h.2 with ⟨rfl, _⟩ | ⟨g1, cap, cur, rfl, _, hg, _⟩
  · cases he
  · simp only [Value.ownBlock, Option.some.injEq] at he
    subst he
    unfold Blk at hb
    rw [hg] at hb
    simp only [Option.some.injEq, Obj.cells.injEq] at hb
    exact ht hb.2.1
theorem gb_set (w : World) (g o : Nat) (v : Value) : w.grownBy (w.setCell ⟨g, o, none⟩ v) (some g) :=
  ⟨rfl, rfl, rfl, by rw [World.size_setCell]; exact Nat.le_refl _, fun j _ hj => Go.heap_setCell_other _ _ _ _ (fun e => hj (by rw [show j = g from e]))⟩
theorem blk_gb {w w' : World} {g n : Nat} {f : Nat → Value} {t : TypeId} {row : Option Nat} (h : Blk w g n f t) (hg : w.grownBy w' row) (hne : row ≠ some g) : Blk w' g n f t := by
  unfold Blk
  rw [hg.block g h.lt (fun e => hne e.symm)]; exact h
def q2 (a b : Value) : Nat → Value := fun i => if i = 0 then a else b
theorem new2 (w : World) (a b : Value) (t : TypeId) : Blk (w.alloc (.cells #[a, b] t)) w.heap.size 2 (q2 a b) t := Blk.fresh w _ 2 _ t rfl
theorem Blk.duo {w : World} {g : Nat} {a b : Value} {t : TypeId} (h : Blk w g 2 (q2 a b) t) : (w.cell? ⟨g, 0, none⟩ = some a ∧ w.cell? ⟨g, 1, none⟩ = some b) ∧ w.frozen? ⟨g, 0, none⟩ = false ∧ w.frozen? ⟨g, 1, none⟩ = false :=
  ⟨⟨h.cell (show 0 < 2 by omega), h.cell (show 1 < 2 by omega)⟩, h.thaw 0, h.thaw 1⟩
theorem Blk.duo1 {w : World} {g : Nat} {a b : Value} {t : TypeId} (h : Blk w g 2 (q2 a b) t) (u : Value) : Blk (w.setCell ⟨g, 1, none⟩ u) g 2 (q2 a u) t :=
  (h.set 1 u).ext fun i hi => by match i, hi with
                                | 0, _ => rfl
                                | 1, _ => rfl
theorem news2 (w : World) (c0 c1 : Value) (t : TypeId) : ∀ (j : Nat) u, [c0, c1][j]? = some u → (w.alloc (.cells #[c0, c1] t)).cell? ((⟨w.heap.size, 0, none⟩ : Addr).add j) = some u := by
  intro j u hj
  match j, hj with
  | 0, hj => simp at hj; subst hj; simp [Addr.add]
  | 1, hj => simp at hj; subst hj; simp [Addr.add]
def tsR (R : List Rw) (i : Nat) : Tk := match R[i]? with
  | some r => ⟨r.hd, r.xs.length, lf r.xs⟩
  | none => ⟨0, 0, fun _ => 0⟩
theorem tsR_some {R : List Rw} {i : Nat} {r : Rw} (h : R[i]? = some r) : tsR R i = ⟨r.hd, r.xs.length, lf r.xs⟩ := by unfold tsR; rw [h]
theorem rows_tasks {w : World} {B : Nat} {v : Value} {R : List Rw} (h : w.ownsRow B 56 2 v R.length (cellsR R)) (hd : Bods w B R) : TasksOf w v R.length (tsR R) := by
  obtain ⟨a, cap, hv, hr⟩ := own_cells h (cellsR_len R)
  refine ⟨a, cap, hv, fun hn => ?_⟩
  obtain ⟨g, ha, _, hlt, hc⟩ := hr hn
  refine ⟨g, 0, ha, hlt, fun i hi => ?_⟩
  have hs : R[i]? = some R[i] := List.getElem?_eq_getElem hi
  rw [tsR_some hs, Nat.zero_add]
  have hb := hd R[i] (List.getElem_mem hi)
  exact ⟨_, hc _ _ (cellsR_at R i _ hs).1, hc _ _ (cellsR_at R i _ hs).2, own_nums hb.2⟩
theorem tsR_nn {w : World} {B : Nat} {R : List Rw} (hd : Bods w B R) (i : Nat) : (tsR R i).nn ≤ 4 := by
  unfold tsR
  rcases h : R[i]? with _ | r
  · simp
  · exact (hd r (List.mem_of_getElem? h)).1
/-- A literal of one number. -/
theorem own_one (w : World) (x : Int) (B : Nat) (hB : B ≤ w.heap.size) : (w.alloc (.cells #[.int .i64 x] 3)).ownsRow B 3 1 (.slice (some ⟨w.heap.size, 0, none⟩) 1 1) 1 (ivs [x]) :=
  World.ownsRow_lit (base := B) (e := 3) (size := 1) w #[.int .i64 x] 1 hB (by decide) rfl
end M
end Go.Proofs.Ytkfnfgencaplfaa
