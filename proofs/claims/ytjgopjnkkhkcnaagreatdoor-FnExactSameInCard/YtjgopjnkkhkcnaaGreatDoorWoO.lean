/-
  A world that came in, read as data.
-/
import Derived.Test.YtjgopjnkkhkcnaaGreatDoorRgO
import Derived.Test.YtjgopjnkkhkcnaaGreatDoorWoB
namespace Go.Proofs.YtjgopjnkkhkcnaaGreatDoor
open Go.ChangeShapes Go.WideShapes Go.ChangeAt Go.RowKit Go.Joins Go.Deep
open M
theorem cellsLawRgsO : Tryz.prog.cellsOf 50 = 1 := by kernel_rfl
theorem cellsLawSdsO : Tryz.prog.cellsOf 51 = 1 := by kernel_rfl
theorem cellsLawSaidO : Tryz.prog.cellsOf 182 = 3 := by kernel_rfl
theorem cellsLawWordR : Tryz.prog.cellsOf 180 = 2 := by kernel_rfl
theorem cellsLawWorldO : Tryz.prog.cellsOf 53 = 2 := by kernel_rfl
set_option maxRecDepth 100000 in
theorem trod_rg {H : Type} {enc : TypeId × Value → H} {W : World} {fuel : Nat} {c0 c1 c2 : Value} {x : DataW H × List MemPlace}
    (hf : DataW.trod enc Tryz.prog W 0 (fun _ => true) true fuel 26 [c0, c1, c2] = some x) : ∃ r : Rg, (c0 = .int .i64 r.id ∧ c1 = .int .i64 r.ver) ∧ BrsOf W c2 r.bs ∧ Fine r.bs := by
  obtain ⟨xs, k, hk, hxy, _, hxl, hf⟩ := DataW.trod_struct Tryz.underlying26 hf
  match xs, hxl with
  | [y0, y1, y2], _ =>
    have g0 := hf 0 _ rfl
    have g1 := hf 1 _ rfl
    have g2 := hf 2 _ rfl
    simp [cellsIntR, cellsLawTellO] at g0 g1 g2
    obtain ⟨x0, e0, -, -⟩ := DataW.trod_int Tryz.underlying3 g0
    obtain ⟨x1, e1, -, -⟩ := DataW.trod_int Tryz.underlying3 g1
    simp at e0 e1
    subst e0; subst e1
    obtain ⟨z0, m, _, _, t0⟩ := trod_struct1 Tryz.underlying24 g2
    simp [cellsLawBrsO] at t0
    obtain ⟨bs, h1, h2⟩ := trod_brs t0
    exact ⟨⟨x0, x1, bs⟩, ⟨rfl, rfl⟩, h1, h2⟩
set_option maxRecDepth 100000 in
theorem trod_sd {H : Type} {enc : TypeId × Value → H} {W : World} {fuel : Nat} {c0 c1 c2 : Value} {x : DataW H × List MemPlace}
    (hf : DataW.trod enc Tryz.prog W 0 (fun _ => true) true fuel 182 [c0, c1, c2] = some x) : ∃ r : Rg, (c0 = .int .i64 r.id ∧ c1 = .int .i64 r.ver) ∧ BrsOf W c2 r.bs ∧ Fine r.bs := by
  obtain ⟨xs, k, hk, hxy, _, hxl, hf⟩ := DataW.trod_struct Tryz.underlying182 hf
  match xs, hxl with
  | [y0, y1], _ =>
    have g0 := hf 0 _ rfl
    have g1 := hf 1 _ rfl
    simp [cellsIntR, cellsLawWordR] at g0 g1
    obtain ⟨x0, e0, -, -⟩ := DataW.trod_int Tryz.underlying3 g0
    simp at e0
    subst e0
    obtain ⟨xs2, k2, hk2, hxy2, _, hxl2, hf2⟩ := DataW.trod_struct Tryz.underlying180 g1
    match xs2, hxl2 with
    | [z0, z1], _ =>
      have n0 := hf2 0 _ rfl
      have n1 := hf2 1 _ rfl
      simp [cellsIntR, cellsLawTellO] at n0 n1
      obtain ⟨x1, e1, -, -⟩ := DataW.trod_int Tryz.underlying3 n0
      simp at e1
      subst e1
      obtain ⟨z0, m, _, _, t0⟩ := trod_struct1 Tryz.underlying24 n1
      simp [cellsLawBrsO] at t0
      obtain ⟨bs, h1, h2⟩ := trod_brs t0
      exact ⟨⟨x0, x1, bs⟩, ⟨rfl, rfl⟩, h1, h2⟩
set_option maxRecDepth 100000 in
theorem trod_rgs {H : Type} {enc : TypeId × Value → H} {W : World} {fuel : Nat} {v : Value} {x : DataW H × List MemPlace}
    (hf : DataW.trod enc Tryz.prog W 0 (fun _ => true) true fuel 50 [v] = some x) : ∃ rs : List Rg, TpsOf false W v rs ∧ FinT rs := by
  rcases open_slice Tryz.underlying50 hf with ⟨hcs, _⟩ | ⟨a, len, cap, m, n, D, Pl, hcs, _, hl, hm, hmm, _, hx⟩
  · simp at hcs
    subst hcs
    exact ⟨[], TpsOf.nil _ _ _ _, Nat.zero_le _, fun e h => by simp at h⟩
  · simp at hcs
    subst hcs
    simp only [if_true] at hmm
    subst hmm
    by_cases h0 : len = 0
    · subst h0
      exact ⟨[], TpsOf.nil _ _ _ _, Nat.zero_le _, fun e h => by simp at h⟩
    · obtain ⟨b, off, spot⟩ := a
      have hspot : spot = none := by
        obtain ⟨cs', h1, _⟩ := hx 0 (by omega)
        rw [cellsLawRegionO] at h1
        obtain ⟨_, hlen, hcell⟩ := World.cells?_some h1
        have q := hcell 0 (by omega)
        have hs : ∃ c, W.cell? (((⟨b, off, spot⟩ : Addr).add (0 * 3)).add 0) = some c := by
          rw [q]
          match cs', hlen with
          | [c0, c1, c2], _ => exact ⟨c0, rfl⟩
        obtain ⟨c, hc⟩ := hs
        have := World.cell?_spot hc
        simpa [Addr.add] using this
      subst hspot
      have ha : ∀ n, (⟨b, off, none⟩ : Addr).add n = ⟨b, off + n, none⟩ := fun n => by unfold Addr.add; split <;> simp_all
      have ha2 : ∀ k n, (⟨b, k, none⟩ : Addr).add n = ⟨b, k + n, none⟩ := fun k n => by unfold Addr.add; split <;> simp_all
      have key : ∀ i, i < len → ∃ r : Rg, T3 false W b (off + i * 3) r ∧ Fine r.bs := by
        intro i hi
        obtain ⟨cs', h1, h2⟩ := hx i (by omega)
        rw [cellsLawRegionO] at h1
        obtain ⟨_, hlen, hcell⟩ := World.cells?_some h1
        match cs', hlen with
        | [c0, c1, c2], _ =>
          obtain ⟨r, ⟨e0, e1⟩, hb, hfn⟩ := trod_rg h2
          have q0 := hcell 0 (by omega)
          have q1 := hcell 1 (by omega)
          have q2 := hcell 2 (by omega)
          simp only [List.getElem?_cons_zero, List.getElem?_cons_succ] at q0 q1 q2
          rw [ha, ha2] at q0 q1 q2
          subst e0 e1
          exact ⟨r, ⟨c2, ⟨q0, q1, q2⟩, hb, fun h => by cases h⟩, hfn⟩
      obtain ⟨rs, hrl, hrow⟩ := pick_list (α := Rg) len (Pn := fun i r => T3 false W b (off + i * 3) r ∧ Fine r.bs) key
      subst hrl
      have hlt : b < W.heap.size := by
        obtain ⟨r, ⟨u, ⟨h0, _⟩, _⟩, _⟩ := key 0 (by omega)
        exact World.block_lt_of_cell? W _ h0
      refine ⟨rs, ⟨_, _, rfl, fun _ => ⟨b, off, rfl, hlt, fun i r hi => (hrow i r hi).1⟩⟩, by omega, fun r hr => ?_⟩
      obtain ⟨i, hi⟩ := List.getElem?_of_mem hr
      exact (hrow i r hi).2
set_option maxRecDepth 100000 in
theorem trod_sds {H : Type} {enc : TypeId × Value → H} {W : World} {fuel : Nat} {v : Value} {x : DataW H × List MemPlace}
    (hf : DataW.trod enc Tryz.prog W 0 (fun _ => true) true fuel 51 [v] = some x) : ∃ rs : List Rg, TpsOf false W v rs ∧ FinT rs := by
  rcases open_slice Tryz.underlying51 hf with ⟨hcs, _⟩ | ⟨a, len, cap, m, n, D, Pl, hcs, _, hl, hm, hmm, _, hx⟩
  · simp at hcs
    subst hcs
    exact ⟨[], TpsOf.nil _ _ _ _, Nat.zero_le _, fun e h => by simp at h⟩
  · simp at hcs
    subst hcs
    simp only [if_true] at hmm
    subst hmm
    by_cases h0 : len = 0
    · subst h0
      exact ⟨[], TpsOf.nil _ _ _ _, Nat.zero_le _, fun e h => by simp at h⟩
    · obtain ⟨b, off, spot⟩ := a
      have hspot : spot = none := by
        obtain ⟨cs', h1, _⟩ := hx 0 (by omega)
        rw [cellsLawSaidO] at h1
        obtain ⟨_, hlen, hcell⟩ := World.cells?_some h1
        have q := hcell 0 (by omega)
        have hs : ∃ c, W.cell? (((⟨b, off, spot⟩ : Addr).add (0 * 3)).add 0) = some c := by
          rw [q]
          match cs', hlen with
          | [c0, c1, c2], _ => exact ⟨c0, rfl⟩
        obtain ⟨c, hc⟩ := hs
        have := World.cell?_spot hc
        simpa [Addr.add] using this
      subst hspot
      have ha : ∀ n, (⟨b, off, none⟩ : Addr).add n = ⟨b, off + n, none⟩ := fun n => by unfold Addr.add; split <;> simp_all
      have ha2 : ∀ k n, (⟨b, k, none⟩ : Addr).add n = ⟨b, k + n, none⟩ := fun k n => by unfold Addr.add; split <;> simp_all
      have key : ∀ i, i < len → ∃ r : Rg, T3 false W b (off + i * 3) r ∧ Fine r.bs := by
        intro i hi
        obtain ⟨cs', h1, h2⟩ := hx i (by omega)
        rw [cellsLawSaidO] at h1
        obtain ⟨_, hlen, hcell⟩ := World.cells?_some h1
        match cs', hlen with
        | [c0, c1, c2], _ =>
          obtain ⟨r, ⟨e0, e1⟩, hb, hfn⟩ := trod_sd h2
          have q0 := hcell 0 (by omega)
          have q1 := hcell 1 (by omega)
          have q2 := hcell 2 (by omega)
          simp only [List.getElem?_cons_zero, List.getElem?_cons_succ] at q0 q1 q2
          rw [ha, ha2] at q0 q1 q2
          subst e0 e1
          exact ⟨r, ⟨c2, ⟨q0, q1, q2⟩, hb, fun h => by cases h⟩, hfn⟩
      obtain ⟨rs, hrl, hrow⟩ := pick_list (α := Rg) len (Pn := fun i r => T3 false W b (off + i * 3) r ∧ Fine r.bs) key
      subst hrl
      have hlt : b < W.heap.size := by
        obtain ⟨r, ⟨u, ⟨h0, _⟩, _⟩, _⟩ := key 0 (by omega)
        exact World.block_lt_of_cell? W _ h0
      refine ⟨rs, ⟨_, _, rfl, fun _ => ⟨b, off, rfl, hlt, fun i r hi => (hrow i r hi).1⟩⟩, by omega, fun r hr => ?_⟩
      obtain ⟨i, hi⟩ := List.getElem?_of_mem hr
      exact (hrow i r hi).2
set_option maxRecDepth 100000 in
theorem open_world {H : Type} {enc : TypeId × Value → H} {W : World} {b0 : Nat} {v : Value} {d : DataW H} {p : List MemPlace}
    (hv : Value.okWide Tryz.prog W .any b0 53 v) (h : DataW.Trod enc Tryz.prog W 0 (fun _ => true) true 53 v d p) :
    ∃ (x y : Value) (D : Wd), v = wdv x y ∧ WdOf false W x y D ∧ FinW D := by
  obtain ⟨cs, rfl, hsz⟩ := okWide_struct Tryz.underlying53 hv
  obtain ⟨c0, c1, rfl⟩ : ∃ c0 c1, cs = #[c0, c1] := by
    obtain ⟨l⟩ := cs
    match l, hsz.trans cellsLawWorldO with
    | [a, b], _ => exact ⟨a, b, rfl⟩
  obtain ⟨fuel, hf⟩ := h
  obtain ⟨xs, k, hk, hxy, _, hxl, hf⟩ := DataW.trod_struct Tryz.underlying53 hf
  match xs, hxl with
  | [y0, y1], _ =>
    have g0 := hf 0 _ rfl
    have g1 := hf 1 _ rfl
    simp [Value.cells, cellsLawRgsO, cellsLawSdsO] at g0 g1
    obtain ⟨rs, h1, h2⟩ := trod_rgs g0
    obtain ⟨ss, h3, h4⟩ := trod_sds g1
    exact ⟨c0, c1, ⟨rs, ss⟩, rfl, ⟨h1, h3⟩, h2, h4⟩
end Go.Proofs.YtjgopjnkkhkcnaaGreatDoor
