/-
  The specification's diagrams of tables: l7Diagram, l7Tell, DiagramOf.
-/
import Derived.Test.YtfiooclkefmijaaDoorBddG
import Derived.Test.YtfiooclkefmijaaDoorBddW
namespace Go.Proofs.YtfiooclkefmijaaDoor
open Go.RowKit M
open Clk (upd upd_same upd_other)
open Bdd (formT dia)
set_option maxRecDepth 20000 in
theorem l7_diagram (t : Bdd.T) (w : World) :
    Calls Tryd.prog 37 #[uv t] w fun e w' => DiagA w (dia t).1 (dia t).2 true e w' := by
  have hd := (Below.refl w.heap.size w).alloc (Nat.le_refl _) (.cells #[.slice none 0 0, .int .i64 0] 27)
  have HK := hide (builds_ok 6 t 0 [] (.slice none 0 0) (w.heap.size + 1) (w.alloc (.cells #[.slice none 0 0, .int .i64 0] 27)) rfl (fun u hu => absurd hu (by omega)) (by decide) (ansD_nil _ _) (by simp))
  have HX := hide (dbox w)
  have HD := hide hd
  have hlen := Bdd.dia_len t
  rw [show Bdd.bld 6 t 0 [] = dia t from rfl] at HK
  clear hd
  generalize dia t = D at *
  obtain ⟨r, l⟩ := D
  simp only at *
  have hle : (l.length : Int) ≤ 70 := by omega
  clear hlen
  go_enter Tryd.func37, Tryd.ntmps37
  go_wp2_with fail
  refine HK.out.mono ?_
  rintro e w1 ⟨⟨v, rfl, hA⟩, hb1⟩
  have hb := HD.out.trans (hb1.mono (by omega))
  have x4 := HX.out.below hb1 (by omega)
  obtain ⟨x0, x1, y0, y1⟩ := x4.two
  obtain ⟨a, cap, rfl⟩ := hA.form
  have HE := hide (box_ans r x4 hA (by omega) hb)
  clear HK HX HD hb1 hb x4 hA
  go_wp2
  obtain ⟨hA, hB, c0, c1⟩ := HE.out
  exact bodyPost_ret (v := .tuple #[dgV (.slice a l.length cap) r, .bool true]) (by simp [results, Tryd.results37, go_sem, c0, c1]) rfl ⟨⟨_, rfl, hA⟩, hB⟩
set_option maxRecDepth 20000 in
theorem l7_tell (t : Bdd.T) (w : World) :
    Calls Tryd.prog 52 #[uv t] w fun e w' => DiagA w (dia t).1 (dia t).2 true e w' := by
  have hd := (Below.refl w.heap.size w).alloc (Nat.le_refl _) (.cells #[.slice none 0 0, .int .i64 0] 27)
  have HK := hide (l7_diagram t (w.alloc (.cells #[.slice none 0 0, .int .i64 0] 27)))
  have HX := hide (dbox w)
  have HD := hide hd
  clear hd
  generalize dia t = D at *
  obtain ⟨r, l⟩ := D
  simp only at *
  go_enter Tryd.func52, Tryd.ntmps52
  go_wp2_with fail
  have hb := HD.out
  have hx1 := HX.out
  refine HK.out.mono ?_
  rintro e w2 ⟨⟨v, rfl, hA⟩, hb2⟩
  obtain ⟨a, cap, rfl⟩ := hA.form
  have hbz := hb.trans (hb2.mono hb.size)
  have hd2 := (Below.refl w2.heap.size w2).alloc (Nat.le_refl _) (.cells #[.slice a l.length cap, .int .i64 r] 27)
  have x4 := (hx1.down hb2).down hd2
  obtain ⟨x0, x1, y0, y1⟩ := x4.two
  have HE := hide (box_ans r x4 (hA.down hd2) hb.size (hbz.trans (hd2.mono hbz.size)))
  clear HX HD hb hb2 hbz hd2 x4 hA hx1
  go_wp2
  obtain ⟨hA, hB, c0, c1⟩ := HE.out
  exact bodyPost_ret (v := .tuple #[dgV (.slice a l.length cap) r, .bool true]) (by simp [results, Tryd.results52, go_sem, c0, c1]) rfl ⟨⟨_, rfl, hA⟩, hB⟩
set_option maxRecDepth 20000 in
theorem spec_diagram (s : ByteArray) (w : World) (hm : s.size ≤ maxLen) :
    Calls Tryd.prog 16 #[.string s] w fun e w' => match formT s with
      | some x => DiagA w (dia x).1 (dia x).2 true e w'
      | none => DiagA w 0 [] false e w' := by
  have hd := (Below.refl w.heap.size w).alloc (Nat.le_refl _) (.cells #[.slice none 0 0, .int .i64 0] 27)
  have HK := hide (l7_table s (w.alloc (.cells #[.slice none 0 0, .int .i64 0] 27)) hm)
  have HX := hide (dbox w)
  have HD := hide hd
  clear hm hd
  cases hf : formT s with
  | none =>
    unfold TabA at HK
    rw [hf] at HK
    simp only [Option.isSome_none] at HK
    clear hf
    go_enter Tryd.func16, Tryd.ntmps16
    go_wp2_with fail
    refine HK.out.mono ?_
    rintro e w1 ⟨⟨y, rfl, -⟩, hb1⟩
    have hb := HD.out.trans (hb1.mono (by simp))
    have x4 := HX.out.down hb1
    obtain ⟨x0, x1, y0, y1⟩ := x4.two
    have HE := hide (box_ans 0 x4 (ansD_nil w1 w.heap.size) (Nat.le_refl _) hb)
    clear HK HX HD hb1 hb x4
    go_wp2
    obtain ⟨hA, hB, c0, c1⟩ := HE.out
    exact bodyPost_ret (v := .tuple #[dgV (.slice none 0 0) 0, .bool false]) (by simp [results, Tryd.results16, go_sem, c0, c1]) rfl ⟨⟨_, rfl, hA⟩, hB⟩
  | some x =>
    unfold TabA at HK
    rw [hf] at HK
    simp only [Option.isSome_some] at HK
    clear hf
    have HT := hide (l7_diagram x)
    show Calls _ _ _ _ (fun e w' => DiagA w (dia x).1 (dia x).2 true e w')
    generalize dia x = D at *
    obtain ⟨r, l⟩ := D
    simp only at *
    go_enter Tryd.func16, Tryd.ntmps16
    go_wp2_with fail
    refine HK.out.mono ?_
    rintro e w1 ⟨⟨y, rfl, hy⟩, hb1⟩
    rw [hy x rfl]
    have hb := HD.out.trans (hb1.mono (by simp))
    have hx1 := HX.out.down hb1
    clear HK hb1 hy
    go_wp2_with fail
    refine (HT.out w1).mono ?_
    rintro e w2 ⟨⟨v, rfl, hA⟩, hb2⟩
    obtain ⟨a, cap, rfl⟩ := hA.form
    have hbz := hb.trans (hb2.mono hb.size)
    have hd2 := (Below.refl w2.heap.size w2).alloc (Nat.le_refl _) (.cells #[.slice a l.length cap, .int .i64 r] 27)
    have x4 := (hx1.down hb2).down hd2
    obtain ⟨x0, x1, y0, y1⟩ := x4.two
    have HE := hide (box_ans r x4 (hA.down hd2) hb.size (hbz.trans (hd2.mono hbz.size)))
    clear HX HD hb hb2 hbz hd2 x4 hA hx1
    go_wp2
    obtain ⟨hA, hB, c0, c1⟩ := HE.out
    exact bodyPost_ret (v := .tuple #[dgV (.slice a l.length cap) r, .bool true]) (by simp [results, Tryd.results16, go_sem, c0, c1]) rfl ⟨⟨_, rfl, hA⟩, hB⟩
end Go.Proofs.YtfiooclkefmijaaDoor
