/-
  Answers that are diagrams: the program's DiagramOf.
-/
import Derived.Test.YtfiooclkefmijaaDoorBddD
namespace Go.Proofs.YtfiooclkefmijaaDoor
open Go.RowKit M
open Clk (upd upd_same upd_other)
open Bdd (formT dia)
namespace M
open Bdd
theorem box_ans {w w4 : World} {f : Nat → Value} {B : Nat} {v : Value} {l : List Ch} (r : Int) (x4 : Blk w4 w.heap.size 2 f 27) (hA : AnsD w4 B v l) (hB : w.heap.size ≤ B) (hb : Below w.heap.size w w4) :
    AnsD ((w4.setCell ⟨w.heap.size, 0, none⟩ v).setCell ⟨w.heap.size, 1, none⟩ (.int .i64 r)) w.heap.size v l ∧ Below w.heap.size w ((w4.setCell ⟨w.heap.size, 0, none⟩ v).setCell ⟨w.heap.size, 1, none⟩ (.int .i64 r)) ∧
    ((w4.setCell ⟨w.heap.size, 0, none⟩ v).setCell ⟨w.heap.size, 1, none⟩ (.int .i64 r)).cell? ⟨w.heap.size, 0, none⟩ = some v ∧ ((w4.setCell ⟨w.heap.size, 0, none⟩ v).setCell ⟨w.heap.size, 1, none⟩ (.int .i64 r)).cell? ⟨w.heap.size, 1, none⟩ = some (.int .i64 r) :=
  ⟨owns_mono (owns_set (owns_set hA x4 (by decide) 0 _) (x4.set 0 _) (by decide) 1 _) hB, (hb.setCell (p := ⟨w.heap.size, 0, none⟩) (Nat.le_refl _) _).setCell (p := ⟨w.heap.size, 1, none⟩) (Nat.le_refl _) _,
    ((x4.set 0 v).set 1 (.int .i64 r)).cell (show 0 < 2 by omega), ((x4.set 0 v).set 1 (.int .i64 r)).cell (show 1 < 2 by omega)⟩
/-- A diagram and a bool are told, in memory of the call's own. -/
def DiagA (w : World) (r : Int) (l : List Ch) (b : Bool) (e : Ending) (w' : World) : Prop := (∃ v, e = .returned (.tuple #[dgV v r, .bool b]) ∧ AnsD w' w.heap.size v l) ∧ Below w.heap.size w w'
theorem dbox (w : World) : Blk (w.alloc (.cells #[.slice none 0 0, .int .i64 0] 27)) w.heap.size 2 (q2 (.slice none 0 0) (.int .i64 0)) 27 := Blk.fresh w #[.slice none 0 0, .int .i64 0] 2 (q2 (.slice none 0 0) (.int .i64 0)) 27 rfl
theorem Blk.two {w : World} {g : Nat} {f : Nat → Value} {t : TypeId} (h : Blk w g 2 f t) : w.cell? ⟨g, 0, none⟩ = some (f 0) ∧ w.cell? ⟨g, 1, none⟩ = some (f 1) ∧ w.frozen? ⟨g, 0, none⟩ = false ∧ w.frozen? ⟨g, 1, none⟩ = false :=
  ⟨h.cell (by omega), h.cell (by omega), h.thaw 0, h.thaw 1⟩
end M
set_option maxRecDepth 20000 in
theorem impl_diagram (s : ByteArray) (w : World) (ho : OV w) (hm : s.size ≤ maxLen) :
    Calls Tryd.prog 17 #[.string s] w fun e w' => match formT s with
      | some x => DiagA w (dia x).1 (dia x).2 true e w'
      | none => DiagA w 0 [] false e w' := by
  have hd := (Below.refl w.heap.size w).alloc (Nat.le_refl _) (.cells #[.slice none 0 0, .int .i64 0] 27)
  have HK := hide (of_form s _ (ho.below hd) hm)
  have HX := hide (dbox w)
  have HO := hide ho
  have HD := hide hd
  clear ho hm hd
  cases hf : formT s with
  | none =>
    rw [hf] at HK
    simp only [Option.isSome_none] at HK
    clear hf
    go_enter Tryd.func17, Tryd.ntmps17
    go_wp2_with fail
    refine HK.out.mono ?_
    rintro e w1 ⟨rfl, hb1⟩
    have hb := HD.out.trans (hb1.mono (by simp))
    have x4 := HX.out.down hb1
    obtain ⟨x0, x1, y0, y1⟩ := x4.two
    have HE := hide (box_ans 0 x4 (ansD_nil w1 w.heap.size) (Nat.le_refl _) hb)
    clear HK HX HO HD hb1 hb x4
    go_wp2
    obtain ⟨hA, hB, c0, c1⟩ := HE.out
    exact bodyPost_ret (v := .tuple #[dgV (.slice none 0 0) 0, .bool false]) (by simp [results, Tryd.results17, go_sem, c0, c1]) rfl ⟨⟨_, rfl, hA⟩, hB⟩
  | some x =>
    have hx : fx s = x := by unfold fx; rw [hf]
    rw [hf, hx] at HK
    simp only [Option.isSome_some] at HK
    clear hf hx
    go_enter Tryd.func17, Tryd.ntmps17
    go_wp2_with fail
    refine HK.out.mono ?_
    rintro e w1 ⟨rfl, hb1⟩
    have hb := HD.out.trans (hb1.mono (by simp))
    have hx1 := HX.out.down hb1
    go_wp2_with fail
    refine (diagram_for x w1 (HO.out.below hb)).mono ?_
    rintro e w2 ⟨⟨v, rfl, hA⟩, hb2⟩
    have hbz := hb.trans (hb2.mono hb.size)
    have x4 := hx1.down hb2
    obtain ⟨x0, x1, y0, y1⟩ := x4.two
    obtain ⟨a, cap, rfl⟩ := hA.form
    have HE := hide (box_ans (dia x).1 x4 hA hb.size hbz)
    clear HK HX HO HD hb1 hb x4 hx1 hb2 hbz hA
    go_wp2
    obtain ⟨hA, hB, c0, c1⟩ := HE.out
    exact bodyPost_ret (v := .tuple #[dgV (.slice a (dia x).2.length cap) (dia x).1, .bool true]) (by simp [results, Tryd.results17, go_sem, c0, c1]) rfl ⟨⟨_, rfl, hA⟩, hB⟩
end Go.Proofs.YtfiooclkefmijaaDoor
