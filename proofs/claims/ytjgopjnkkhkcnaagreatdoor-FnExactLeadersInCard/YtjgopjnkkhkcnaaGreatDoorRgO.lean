/-
  A region and a word that came in, read as data.
-/
import Derived.Test.YtjgopjnkkhkcnaaGreatDoorBrO
import Derived.Test.YtjgopjnkkhkcnaaGreatDoorRgX
namespace Go.Proofs.YtjgopjnkkhkcnaaGreatDoor
open Go.ChangeShapes Go.WideShapes Go.ChangeAt Go.RowKit Go.Joins Go.Deep
open M
theorem cellsLawRegionO : Tryz.prog.cellsOf 26 = 3 := by kernel_rfl
theorem cellsIntR : Tryz.prog.cellsOf 3 = 1 := by kernel_rfl
set_option maxRecDepth 100000 in
theorem open_region {H : Type} {enc : TypeId × Value → H} {W : World} {b0 : Nat} {v : Value} {d : DataW H} {p : List MemPlace}
    (hv : Value.okWide Tryz.prog W .any b0 26 v) (h : DataW.Trod enc Tryz.prog W 0 (fun _ => true) true 26 v d p) :
    ∃ (id ver : Int) (u : Value) (bs : Brs), v = rv id ver u ∧ BrsOf W u bs ∧ Fine bs := by
  obtain ⟨cs, rfl, hsz⟩ := okWide_struct Tryz.underlying26 hv
  obtain ⟨c0, c1, c2, rfl⟩ : ∃ c0 c1 c2, cs = #[c0, c1, c2] := by
    obtain ⟨l⟩ := cs
    match l, hsz.trans cellsLawRegionO with
    | [a, b, c], _ => exact ⟨a, b, c, rfl⟩
  obtain ⟨fuel, hf⟩ := h
  obtain ⟨xs, k, hk, hxy, _, hxl, hf⟩ := DataW.trod_struct Tryz.underlying26 hf
  match xs, hxl with
  | [y0, y1, y2], _ =>
    have g0 := hf 0 _ rfl
    have g1 := hf 1 _ rfl
    have g2 := hf 2 _ rfl
    simp [Value.cells, cellsIntR, cellsLawTellO] at g0 g1 g2
    obtain ⟨x0, e0, -, -⟩ := DataW.trod_int Tryz.underlying3 g0
    obtain ⟨x1, e1, -, -⟩ := DataW.trod_int Tryz.underlying3 g1
    simp at e0 e1
    subst e0; subst e1
    obtain ⟨z0, m, _, _, t0⟩ := trod_struct1 Tryz.underlying24 g2
    simp [cellsLawBrsO] at t0
    obtain ⟨bs, h1, h2⟩ := trod_brs t0
    exact ⟨x0, x1, c2, bs, rfl, h1, h2⟩
theorem cellsLawWordO : Tryz.prog.cellsOf 180 = 2 := by kernel_rfl
set_option maxRecDepth 100000 in
theorem open_word {H : Type} {enc : TypeId × Value → H} {W : World} {b0 : Nat} {v : Value} {d : DataW H} {p : List MemPlace}
    (hv : Value.okWide Tryz.prog W .any b0 180 v) (h : DataW.Trod enc Tryz.prog W 0 (fun _ => true) true 180 v d p) :
    ∃ (ver : Int) (u : Value) (bs : Brs), v = wv ver u ∧ BrsOf W u bs ∧ Fine bs := by
  obtain ⟨cs, rfl, hsz⟩ := okWide_struct Tryz.underlying180 hv
  obtain ⟨c0, c1, rfl⟩ : ∃ c0 c1, cs = #[c0, c1] := by
    obtain ⟨l⟩ := cs
    match l, hsz.trans cellsLawWordO with
    | [a, b], _ => exact ⟨a, b, rfl⟩
  obtain ⟨fuel, hf⟩ := h
  obtain ⟨xs, k, hk, hxy, _, hxl, hf⟩ := DataW.trod_struct Tryz.underlying180 hf
  match xs, hxl with
  | [y0, y1], _ =>
    have g0 := hf 0 _ rfl
    have g1 := hf 1 _ rfl
    simp [Value.cells, cellsIntR, cellsLawTellO] at g0 g1
    obtain ⟨x0, e0, -, -⟩ := DataW.trod_int Tryz.underlying3 g0
    simp at e0
    subst e0
    obtain ⟨z0, m, _, _, t0⟩ := trod_struct1 Tryz.underlying24 g1
    simp [cellsLawBrsO] at t0
    obtain ⟨bs, h1, h2⟩ := trod_brs t0
    exact ⟨x0, c1, bs, rfl, h1, h2⟩
end Go.Proofs.YtjgopjnkkhkcnaaGreatDoor
