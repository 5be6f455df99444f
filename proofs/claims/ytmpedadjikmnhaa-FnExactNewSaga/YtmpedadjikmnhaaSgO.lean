/-
  A saga, and moves, that came in: read as data.
-/
import Derived.Test.YtmpedadjikmnhaaSgG
import Derived.Deep.Slices
import Derived.Deep.SlicePairs
import Derived.Lib.SmallJoins
import Derived.ProofKit
import Derived.OpenShut
namespace Go.Proofs.Ytmpedadjikmnhaa
open Go.ChangeShapes Go.WideShapes Go.ChangeAt Go.RowKit Go.Joins Go.Deep
open M
theorem trod_nums {H : Type} {enc : TypeId × Value → H} {W : World} {fuel : Nat} {v : Value} {x : DataW H × List MemPlace}
    (hf : DataW.trod enc Try.prog W 0 (fun _ => true) true fuel 22 [v] = some x) : ∃ n f, IntsOf W v n f ∧ n ≤ maxLen := by
  rcases open_ints Try.underlying22 Try.underlying3 (by kernel_rfl) hf with ⟨hcs, _⟩ | ⟨x, l, c, zs, hcs, _, hl, hm, hz, _, hcell, hwz⟩
  · simp at hcs
    subst hcs
    exact ⟨0, fun _ => 0, ⟨none, 0, rfl, fun h => absurd h (Nat.lt_irrefl _)⟩, Nat.zero_le _⟩
  · simp at hcs
    subst hcs
    have hz' : zs.length = c := by simpa using hz
    refine ⟨l, fun i => zs.getD i 0, ⟨some x, c, rfl, fun hp => ?_⟩, Nat.le_trans hl hm⟩
    obtain ⟨b, off, spot⟩ := x
    have h0 := hcell 0 (by omega)
    have hs := World.cell?_spot h0
    have hspot : spot = none := by simpa [Addr.add] using hs
    subst hspot
    have ha : ∀ n, (⟨b, off, none⟩ : Addr).add n = ⟨b, off + n, none⟩ := fun n => by unfold Addr.add; split <;> simp_all
    rw [ha] at h0
    exact ⟨b, off, rfl, World.block_lt_of_cell? W _ h0, fun i hi => by rw [← ha]; exact hcell i (by omega)⟩
theorem pick_q {α : Type} (z : α) {Pn : Nat → α → Prop} : ∀ n : Nat, (∀ i, i < n → ∃ e : α, Pn i e) → ∃ l : Nat → α, ∀ i, i < n → Pn i (l i)
  | 0, _ => ⟨fun _ => z, fun i h => absurd h (by omega)⟩
  | n + 1, h => by
    obtain ⟨l, hl⟩ := pick_q z n (fun i hi => h i (by omega))
    obtain ⟨e, he⟩ := h n (by omega)
    refine ⟨fun i => if i = n then e else l i, fun i hi => ?_⟩
    show Pn i (if i = n then e else l i)
    by_cases hin : i = n
    · subst hin; rw [if_pos rfl]; exact he
    · rw [if_neg hin]; exact hl i (by omega)
theorem cellsLawMove : Try.prog.cellsOf 54 = 3 := by kernel_rfl
theorem cellsInt1 : Try.prog.cellsOf 3 = 1 := by kernel_rfl
set_option maxRecDepth 100000 in
theorem trod_moves {H : Type} {enc : TypeId × Value → H} {W : World} {fuel : Nat} {v : Value} {x : DataW H × List MemPlace}
    (hf : DataW.trod enc Try.prog W 0 (fun _ => true) true fuel 23 [v] = some x) : ∃ n f, MovesOf W v n f ∧ n ≤ maxLen := by
  rcases open_slice Try.underlying23 hf with ⟨hcs, _⟩ | ⟨a, len, cap, m, n, D, Pl, hcs, _, hl, hm, hmm, _, hx⟩
  · simp at hcs
    subst hcs
    exact ⟨0, fun _ => 0, ⟨none, 0, rfl, fun h => absurd h (Nat.lt_irrefl _)⟩, Nat.zero_le _⟩
  · simp at hcs
    subst hcs
    simp only [if_true] at hmm
    subst hmm
    by_cases h0 : len = 0
    · subst h0
      exact ⟨0, fun _ => 0, ⟨some a, _, rfl, fun h => absurd h (Nat.lt_irrefl _)⟩, Nat.zero_le _⟩
    · have key : ∀ i, i < len → ∃ e : Int × Int × Int, W.cell? (a.add (i * 3)) = some (.int .i64 e.1) ∧ W.cell? (a.add (i * 3 + 1)) = some (.int .i64 e.2.1) ∧ W.cell? (a.add (i * 3 + 2)) = some (.int .i64 e.2.2) := by
        intro i hi
        obtain ⟨cs', h1, h2⟩ := hx i (by omega)
        rw [cellsLawMove] at h1
        obtain ⟨_, hlen, hcell⟩ := World.cells?_some h1
        obtain ⟨xs, k, hk, hxy, _, hxl, hf⟩ := DataW.trod_struct Try.underlying54 h2
        match xs, hxl, cs', hlen with
        | [y0, y1, y2], _, [v0, v1, v2], _ =>
          have g0 := hf 0 _ rfl
          have g1 := hf 1 _ rfl
          have g2 := hf 2 _ rfl
          simp [cellsInt1] at g0 g1 g2
          have e0 := hcell 0 (by omega)
          have e1 := hcell 1 (by omega)
          have e2 := hcell 2 (by omega)
          rw [add_add] at e0 e1 e2
          obtain ⟨q0, r0, -, -⟩ := DataW.trod_int Try.underlying3 g0
          obtain ⟨q1, r1, -, -⟩ := DataW.trod_int Try.underlying3 g1
          obtain ⟨q2, r2, -, -⟩ := DataW.trod_int Try.underlying3 g2
          simp at r0 r1 r2
          subst r0
          subst r1
          subst r2
          exact ⟨(q0, q1, q2), by simpa using e0, by simpa using e1, by simpa using e2⟩
      obtain ⟨b, off, spot⟩ := a
      have hspot : spot = none := by
        obtain ⟨e, h1, _⟩ := key 0 (by omega)
        have := World.cell?_spot h1
        simpa [Addr.add] using this
      subst hspot
      have ha : ∀ n, (⟨b, off, none⟩ : Addr).add n = ⟨b, off + n, none⟩ := fun n => by unfold Addr.add; split <;> simp_all
      simp only [ha] at key
      obtain ⟨ts, hts⟩ := pick_q (0, 0, 0) len key
      refine ⟨len, fun q => if q % 3 = 0 then (ts (q / 3)).1 else if q % 3 = 1 then (ts (q / 3)).2.1 else (ts (q / 3)).2.2, ⟨_, _, rfl, fun _ => ⟨b, off, rfl, World.block_lt_of_cell? W _ (hts 0 (by omega)).1, fun q hq => ?_⟩⟩, by omega⟩
      obtain ⟨c0, c1, c2⟩ := hts (q / 3) (by omega)
      show W.cell? ⟨b, off + q, none⟩ = some (.int .i64 (if q % 3 = 0 then (ts (q / 3)).1 else if q % 3 = 1 then (ts (q / 3)).2.1 else (ts (q / 3)).2.2))
      rcases (show q % 3 = 0 ∨ q % 3 = 1 ∨ q % 3 = 2 by omega) with h | h | h
      · rw [if_pos h, ← c0]
        congr 2; omega
      · rw [if_neg (by omega), if_pos h, ← c1]
        congr 2; omega
      · rw [if_neg (by omega), if_neg (by omega), ← c2]
        congr 2; omega
set_option maxRecDepth 100000 in
theorem open_moves {H : Type} {enc : TypeId × Value → H} {W : World} {b0 : Nat} {v : Value} {d : DataW H} {p : List MemPlace}
    (hv : Value.okWide Try.prog W .any b0 23 v) (h : DataW.Trod enc Try.prog W 0 (fun _ => true) true 23 v d p) :
    ∃ n f, MovesOf W v n f ∧ n ≤ maxLen := by
  obtain ⟨a0, len0, cap0, rfl⟩ := okWide_slice Try.underlying23 hv
  obtain ⟨fuel, hf⟩ := h
  exact trod_moves hf
set_option maxRecDepth 100000 in
theorem open_nums {H : Type} {enc : TypeId × Value → H} {W : World} {b0 : Nat} {v : Value} {d : DataW H} {p : List MemPlace}
    (hv : Value.okWide Try.prog W .any b0 22 v) (h : DataW.Trod enc Try.prog W 0 (fun _ => true) true 22 v d p) :
    ∃ n f, IntsOf W v n f ∧ n ≤ maxLen := by
  obtain ⟨a0, len0, cap0, rfl⟩ := okWide_slice Try.underlying22 hv
  obtain ⟨fuel, hf⟩ := h
  exact trod_nums hf
set_option maxRecDepth 100000 in
theorem open_saga {H : Type} {enc : TypeId × Value → H} {W : World} {b0 : Nat} {v : Value} {d : DataW H} {p : List MemPlace}
    (hv : Value.okWide Try.prog W .any b0 40 v) (h : DataW.Trod enc Try.prog W 0 (fun _ => true) true 40 v d p) :
    ∃ (v0 v1 : Value) (s : Sg), v = sgv v0 v1 s ∧ SagQ W v0 v1 s.na s.fa s.nm (fl s.fm) ∧ LensS s.na s.nm := by
  obtain ⟨v0, v1, v2, v3, y0, y1, y2, y3, n, rfl, -, -, t0, t1, t2, t3⟩ := open_agg4 Try.underlying40 (by kernel_rfl) (by kernel_rfl) hv h
  obtain ⟨n0, f0, i0, l0⟩ := trod_nums t0
  obtain ⟨n1, f1, i1, l1⟩ := trod_moves t1
  obtain ⟨x, e2, -, -⟩ := DataW.trod_int Try.underlying3 t2
  obtain ⟨b, e3, -⟩ := DataW.trod_bool Try.underlying4 t3
  simp at e2 e3
  subst e2; subst e3
  refine ⟨v0, v1, ⟨n0, f0, n1, mvs f1, x, b⟩, rfl, ⟨i0, ?_⟩, ⟨l0, l1⟩⟩
  show MovesOf W v1 n1 (fl (mvs f1)); rw [fl_mvs]; exact i1
set_option maxRecDepth 100000 in
theorem open_move {H : Type} {enc : TypeId × Value → H} {W : World} {b0 : Nat} {v : Value} {d : DataW H} {p : List MemPlace}
    (hv : Value.okWide Try.prog W .any b0 54 v) (h : DataW.Trod enc Try.prog W 0 (fun _ => true) true 54 v d p) :
    ∃ (m : Mv), v = mvv m := by
  obtain ⟨v0, v1, v2, y0, y1, y2, n, rfl, -, -, t0, t1, t2⟩ := open_agg3 Try.underlying54 (by kernel_rfl) (by kernel_rfl) hv h
  obtain ⟨x0, e0, -, -⟩ := DataW.trod_int Try.underlying3 t0
  obtain ⟨x1, e1, -, -⟩ := DataW.trod_int Try.underlying3 t1
  obtain ⟨x2, e2, -, -⟩ := DataW.trod_int Try.underlying3 t2
  simp at e0 e1 e2
  subst e0; subst e1; subst e2
  exact ⟨⟨x0, x1, x2⟩, rfl⟩
end Go.Proofs.Ytmpedadjikmnhaa
