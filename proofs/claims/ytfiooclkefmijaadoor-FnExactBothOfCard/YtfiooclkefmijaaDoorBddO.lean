/-
  A diagram that came in: read as data.
-/
import Derived.Test.YtfiooclkefmijaaDoorBddJ
import Derived.Deep.Slices
import Derived.Deep.Strs
import Derived.Lib.SmallJoins
import Derived.ProofKit
import Derived.OpenShut
namespace Go.Proofs.YtfiooclkefmijaaDoor
open Go.ChangeShapes Go.WideShapes Go.ChangeAt Go.RowKit Go.Joins Go.Deep
open M
theorem cellsLawChoice : Tryd.prog.cellsOf 86 = 3 := by kernel_rfl
theorem cellsInt : Tryd.prog.cellsOf 3 = 1 := by kernel_rfl
theorem pick_of {Pn : Nat → Bdd.Ch → Prop} : ∀ n : Nat, (∀ i, i < n → ∃ e : Bdd.Ch, Pn i e) → ∃ l : Nat → Bdd.Ch, ∀ i, i < n → Pn i (l i)
  | 0, _ => ⟨fun _ => ⟨0, 0, 0⟩, fun i h => absurd h (by omega)⟩
  | n + 1, h => by
    obtain ⟨l, hl⟩ := pick_of n (fun i hi => h i (by omega))
    obtain ⟨e, he⟩ := h n (by omega)
    refine ⟨fun i => if i = n then e else l i, fun i hi => ?_⟩
    show Pn i (if i = n then e else l i)
    by_cases hin : i = n
    · subst hin; rw [if_pos rfl]; exact he
    · rw [if_neg hin]; exact hl i (by omega)
theorem chs_nil (W : World) (a : Option Addr) (c : Nat) : ChsOf W (.slice a 0 c) [] := ⟨a, c, rfl, fun h => absurd h (by simp)⟩
set_option maxRecDepth 100000 in
theorem trod_choices {H : Type} {enc : TypeId × Value → H} {W : World} {fuel : Nat} {v : Value} {x : DataW H × List MemPlace}
    (hf : DataW.trod enc Tryd.prog W 0 (fun _ => true) true fuel 32 [v] = some x) : ∃ l, ChsOf W v l ∧ l.length ≤ maxLen := by
  rcases open_slice Tryd.underlying32 hf with ⟨hcs, _⟩ | ⟨a, len, cap, m, n, D, Pl, hcs, _, hl, hm, hmm, _, hx⟩
  · simp at hcs
    subst hcs
    exact ⟨[], chs_nil W _ _, Nat.zero_le _⟩
  · simp at hcs
    subst hcs
    simp only [if_true] at hmm
    subst hmm
    by_cases h0 : len = 0
    · subst h0
      exact ⟨[], chs_nil W _ _, Nat.zero_le _⟩
    · obtain ⟨b, off, spot⟩ := a
      have hspot : spot = none := by
        obtain ⟨cs', h1, _⟩ := hx 0 (by omega)
        rw [cellsLawChoice] at h1
        obtain ⟨_, hlen, hcell⟩ := World.cells?_some h1
        have q := hcell 0 (by omega)
        have hs : ∃ c, W.cell? (((⟨b, off, spot⟩ : Addr).add (0 * 3)).add 0) = some c := by
          rw [q]
          match cs', hlen with
          | [c0, c1, c2], _ => exact ⟨c0, rfl⟩
        obtain ⟨c, hc⟩ := hs
        have := World.cell?_spot hc
        simpa [Addr.add] using this
      subst hspot
      have ha : ∀ n, (⟨b, off, none⟩ : Addr).add n = ⟨b, off + n, none⟩ := fun n => by unfold Addr.add; split <;> simp_all
      have ha2 : ∀ k n, (⟨b, k, none⟩ : Addr).add n = ⟨b, k + n, none⟩ := fun k n => by unfold Addr.add; split <;> simp_all
      have key : ∀ i, i < len → ∃ e : Bdd.Ch, W.cell? ⟨b, off + i * 3, none⟩ = some (.int .i64 e.v) ∧ W.cell? ⟨b, off + i * 3 + 1, none⟩ = some (.int .i64 e.no) ∧ W.cell? ⟨b, off + i * 3 + 2, none⟩ = some (.int .i64 e.yes) := by
        intro i hi
        obtain ⟨cs', h1, h2⟩ := hx i (by omega)
        rw [cellsLawChoice] at h1
        obtain ⟨_, hlen, hcell⟩ := World.cells?_some h1
        match cs', hlen with
        | [c0, c1, c2], _ =>
          obtain ⟨y0, y1, y2, k, _, _, t0, t1, t2⟩ := trod_struct3 Tryd.underlying86 h2
          simp only [cellsInt] at t0 t1 t2
          obtain ⟨x0, e0, -, -⟩ := DataW.trod_int Tryd.underlying3 t0
          obtain ⟨x1, e1, -, -⟩ := DataW.trod_int Tryd.underlying3 t1
          obtain ⟨x2, e2, -, -⟩ := DataW.trod_int Tryd.underlying3 t2
          simp at e0 e1 e2
          have q0 := hcell 0 (by omega)
          have q1 := hcell 1 (by omega)
          have q2 := hcell 2 (by omega)
          simp only [List.getElem?_cons_zero, List.getElem?_cons_succ] at q0 q1 q2
          rw [ha, ha2] at q0 q1 q2
          subst e0 e1 e2
          exact ⟨⟨x0, x1, x2⟩, q0, q1, q2⟩
      obtain ⟨f, hf2⟩ := pick_of len key
      have hll : ((List.range len).map f).length = len := by simp
      refine ⟨(List.range len).map f, ⟨some ⟨b, off, none⟩, _, by rw [hll], fun _ => ⟨b, off, rfl, World.block_lt_of_cell? W _ (hf2 0 (by omega)).1, fun i c hi => ?_⟩⟩, by rw [hll]; omega⟩
      have hil : i < len := by have := (List.getElem?_eq_some_iff.1 hi).1; rw [hll] at this; exact this
      rw [List.getElem?_map, List.getElem?_range hil] at hi
      simp only [Option.map_some, Option.some.injEq] at hi
      rw [← hi]
      exact hf2 i hil
set_option maxRecDepth 100000 in
theorem open_dia {H : Type} {enc : TypeId × Value → H} {W : World} {b0 : Nat} {v : Value} {d : DataW H} {p : List MemPlace}
    (hv : Value.okWide Tryd.prog W .any b0 34 v) (h : DataW.Trod enc Tryd.prog W 0 (fun _ => true) true 34 v d p) :
    ∃ (u : Value) (l : List Bdd.Ch) (x : Int), v = dgV u x ∧ ChsOf W u l ∧ l.length ≤ maxLen := by
  obtain ⟨v0, v1, y0, y1, n, rfl, -, -, t0, t1⟩ := open_agg2 Tryd.underlying34 (by kernel_rfl) (by kernel_rfl) hv h
  obtain ⟨l, h1, h2⟩ := trod_choices t0
  obtain ⟨x, e, -, -⟩ := DataW.trod_int Tryd.underlying3 t1
  simp only [List.cons.injEq, and_true] at e
  subst e
  exact ⟨v0, l, x, rfl, h1, h2⟩
end Go.Proofs.YtfiooclkefmijaaDoor
