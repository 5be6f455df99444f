/-
  The program's diagramFor: the diagram of a table, in memory of its own; DiagramOf of the program.
-/
import Derived.Test.YtfiooclkefmijaaDoorBddB
import Derived.Test.YtfiooclkefmijaaDoorBddF
namespace Go.Proofs.YtfiooclkefmijaaDoor
open Go.RowKit M
open Clk (upd upd_same upd_other)
namespace M
open Bdd
/-- A row of choices in memory of the call's own, from block B on. -/
def AnsD (w : World) (B : Nat) (v : Value) (l : List Ch) : Prop := w.ownsRow B 66 3 v l.length (fl3 l)
theorem AnsD.down {w w' : World} {B : Nat} {v : Value} {l : List Ch} (h : AnsD w B v l) (hb : Below w.heap.size w w') : AnsD w' B v l := owns_below h hb
theorem AnsD.form {w : World} {B : Nat} {v : Value} {l : List Ch} (h : AnsD w B v l) : ∃ a cap, v = .slice a l.length cap := own_form h
theorem ansD_nil (w : World) (B : Nat) : AnsD w B (.slice none 0 0) [] := ⟨rfl, .inl ⟨rfl, rfl⟩⟩
abbrev dgV (v : Value) (r : Int) : Value := .agg #[v, .int .i64 r]
end M
set_option maxRecDepth 20000 in
theorem diagram_for (t : Bdd.T) (w : World) (ho : OV w) :
    Calls Tryd.prog 38 #[uv t] w fun e w' => (∃ v, e = .returned (dgV v (Bdd.dia t).1) ∧ AnsD w' w.heap.size v (Bdd.dia t).2) ∧ Below w.heap.size w w' := by
  have hg : 0 < w.heap.size := World.block_lt_of_cell? w _ (ho 0 (by omega))
  have hmm := fun W => run_makeMap (P := Tryd.prog) 80 W
  have hd1 := (Below.refl w.heap.size w).alloc (Nat.le_refl _) (.cells #[.slice none 0 0, .int .i64 0] 27)
  have hd2 := hd1.alloc hd1.size (.map #[] 0)
  have hd3 := hd2.alloc hd2.size (.cells #[.slice none 0 0, .map (some (w.heap.size + 1))] 82)
  obtain ⟨w3, hw3⟩ : ∃ w3, ((w.alloc (.cells #[.slice none 0 0, .int .i64 0] 27)).alloc (.map #[] 0)).alloc (.cells #[.slice none 0 0, .map (some (w.heap.size + 1))] 82) = w3 := ⟨_, rfl⟩
  rw [hw3] at hd3
  have hsh : Sh w3 (w.heap.size + 1) (w.heap.size + 1 + 1) [] (.slice none 0 0) (w.heap.size + 1) (fun _ => 0) := by
    rw [← hw3]
    refine ⟨?_, ⟨rfl, .inl ⟨rfl, rfl⟩⟩, ?_, fun i hi => absurd hi (by simp), by omega, by omega, fun i hi => absurd hi (by simp)⟩
    · have := Blk.fresh ((w.alloc (.cells #[.slice none 0 0, .int .i64 0] 27)).alloc (.map #[] 0)) #[.slice none 0 0, .map (some (w.heap.size + 1))] 2 (q2 (.slice none 0 0) (.map (some (w.heap.size + 1)))) 82 rfl
      simpa using this
    · have := MapC.made (w.alloc (.cells #[.slice none 0 0, .int .i64 0] 27)) (fun _ => 0)
      simp only [World.size_alloc] at this
      exact this.down ((Below.refl _ _).alloc (Nat.le_refl _) _)
  have hbx : Blk w3 w.heap.size 2 (q2 (.slice none 0 0) (.int .i64 0)) 27 := by
    rw [← hw3]
    exact ((Blk.fresh w #[.slice none 0 0, .int .i64 0] 2 (q2 (.slice none 0 0) (.int .i64 0)) 27 rfl).alloc _).alloc _
  have HN := hide (nodes_ok 6 t 0 [] (w.heap.size + 1) (w.heap.size + 1 + 1) w3 rfl (fun u hu => absurd hu (by omega)) (by decide) (ho.below hd3) (by omega) ⟨_, _, _, hsh⟩)
  rw [Bdd.dia_nod] at HN
  have HD := hide hd3
  have HX := hide hbx
  have Hw3 := hide hw3
  clear ho hd1 hd2 hd3 hsh hbx hw3
  generalize Bdd.dia t = D at *
  obtain ⟨r, l⟩ := D
  simp only at *
  go_enter Tryd.func38, Tryd.ntmps38
  go_wp2_with fail
  rw [Hw3.out]
  refine HN.out.mono ?_
  rintro e w4 ⟨rfl, ⟨v, m, P, hs4⟩, hb4⟩
  have hb : Below w.heap.size w w4 := HD.out.trans (hb4.mono (by omega))
  have x4 := HX.out.below hb4 (by omega)
  obtain ⟨a, cap, rfl⟩ := own_form hs4.row
  have s0 := hs4.box.cell (show 0 < 2 by omega)
  simp only [q2, if_true] at s0
  have x0 := x4.cell (show 0 < 2 by omega)
  have x1 := x4.cell (show 1 < 2 by omega)
  have y0 := x4.thaw 0
  have y1 := x4.thaw 1
  have HE := hide (show AnsD ((w4.setCell ⟨w.heap.size, 0, none⟩ (.slice a l.length cap)).setCell ⟨w.heap.size, 1, none⟩ (.int .i64 r)) w.heap.size (.slice a l.length cap) l ∧ Below w.heap.size w ((w4.setCell ⟨w.heap.size, 0, none⟩ (.slice a l.length cap)).setCell ⟨w.heap.size, 1, none⟩ (.int .i64 r)) from
    ⟨owns_mono (owns_set (owns_set hs4.row x4 (by decide) 0 _) (x4.set 0 _) (by decide) 1 _) (by omega), (hb.setCell (p := ⟨w.heap.size, 0, none⟩) (Nat.le_refl _) _).setCell (p := ⟨w.heap.size, 1, none⟩) (Nat.le_refl _) _⟩)
  have HC := hide (show ((w4.setCell ⟨w.heap.size, 0, none⟩ (.slice a l.length cap)).setCell ⟨w.heap.size, 1, none⟩ (.int .i64 r)).cell? ⟨w.heap.size, 0, none⟩ = some (.slice a l.length cap) ∧ ((w4.setCell ⟨w.heap.size, 0, none⟩ (.slice a l.length cap)).setCell ⟨w.heap.size, 1, none⟩ (.int .i64 r)).cell? ⟨w.heap.size, 1, none⟩ = some (.int .i64 r) from
    ⟨((x4.set 0 (.slice a l.length cap)).set 1 (.int .i64 r)).cell (show 0 < 2 by omega), ((x4.set 0 (.slice a l.length cap)).set 1 (.int .i64 r)).cell (show 1 < 2 by omega)⟩)
  clear hs4 hb4 hb HN HD HX Hw3 x4 hmm
  go_wp2
  obtain ⟨c0, c1⟩ := HC.out
  exact bodyPost_ret (v := dgV (.slice a l.length cap) r) (by simp [results, Tryd.results38, go_sem, c0, c1]) rfl ⟨⟨_, rfl, HE.out.1⟩, HE.out.2⟩
end Go.Proofs.YtfiooclkefmijaaDoor
