/-
  A slot of a turning wheel is taken: its timers in a new row, the slot empty.
-/
import Derived.Test.YtcodllammndciaaWhP
import Derived.Lib.SliceRun
import Derived.Laws.IdiomCopy
namespace Go.Proofs.Ytcodllammndciaa
open Go.RowKit M
open Clk (upd upd_same upd_other)
open Go.Sort (grow)
namespace M
/-- A run of stores into one block. -/
theorem setCells_block {b : Nat} {t : TypeId} : ∀ (vs : List Value) (o : Nat) (w : World) (cur : Array Value), w.heap[b]? = some (.cells cur t (0, 0)) → ∃ cur', (w.setCells b o vs).heap[b]? = some (.cells cur' t (0, 0)) ∧ cur'.size = cur.size ∧ Only b w (w.setCells b o vs)
  | [], _, w, cur, h => ⟨cur, h, rfl, Only.refl _ _⟩
  | v :: r, o, w, cur, h => by
    have h1 := Go.heap_setCell_same w b o _ t v h
    obtain ⟨cur', e1, e2, e3⟩ := setCells_block r (o + 1) (w.setCell ⟨b, o, none⟩ v) _ h1
    refine ⟨cur', e1, by rw [e2, Array.size_setIfInBounds], ?_⟩
    have h2 := (Only.refl b w).set o v
    exact ⟨e3.os.trans h2.os, e3.tape.trans h2.tape, e3.output.trans h2.output, e3.size.trans h2.size, fun k hk => (e3.block k hk).trans (h2.block k hk)⟩
end M
theorem run_clear_some (w : World) (ty : TypeId) (b n c : Nat) (hn : 0 < n) (hc : ∀ j, j < n * 2 → (w.cell? ⟨b, 0 + j, none⟩).isSome = true) (hf : ∀ j, j < n * 2 → w.frozen? ⟨b, 0 + j, none⟩ = false) :
    (Builtin.clear_ #[52] ty #[.slice (some ⟨b, 0, none⟩) n c]).run Try.prog w = .ok (.tuple #[]) (w.setCells b 0 (List.replicate (n * 2) (.int .i64 0))) := by
  obtain ⟨i0, hi, hz0, hz1, hz2⟩ := info_parts info_timer
  have hzc : (Builtin.zeroCells (Value.agg #[.int .i64 0, .int .i64 0]).cells n).toList = List.replicate (n * 2) (.int .i64 0) := by
    have e : (Value.agg #[.int .i64 0, .int .i64 0]).cells = #[.int .i64 0, .int .i64 0] := by first | rfl | kernel_rfl
    rw [e]
    apply List.ext_getElem
    · simp [Builtin.zeroCells]
    · intro i h1 h2
      simp [Builtin.zeroCells]
      rcases (show i % 2 = 0 ∨ i % 2 = 1 by omega) with h | h <;> simp [h]
  have hst := run_storeCells_cells (P := Try.prog) b 0 (List.replicate (n * 2) (.int .i64 0)) 0 w (by simpa using hc) (by simpa using hf) (by intro v hv'; rw [List.eq_of_mem_replicate hv']; rfl)
  simp only [Nat.add_zero] at hst
  obtain ⟨m, rfl⟩ : ∃ m, n = m + 1 := ⟨n - 1, by omega⟩
  simp [Builtin.clear_, run_underlying Try.underlying52, hzc, hst]
theorem run_clear_none (w : World) (ty : TypeId) (a : Option Addr) (c : Nat) :
    (Builtin.clear_ #[52] ty #[.slice a 0 c]).run Try.prog w = .ok (.tuple #[]) w := by
  cases a <;> simp [Builtin.clear_, run_underlying Try.underlying52]
namespace M
theorem owns_timers {w : World} {B n : Nat} {v : Value} {f : Nat → Int} (h : w.ownsRow B 40 2 v n (tv n f)) : TimersOf w v n f := by
  obtain ⟨a, c, rfl, _, hV⟩ := own_V h
  refine ⟨a, c, rfl, fun hn => ?_⟩
  obtain ⟨b, e1, e2, e3⟩ := hV hn
  exact ⟨b, 0, e1, e3.lt, fun q hq => by rw [Nat.zero_add]; exact e3.cell hq⟩
theorem owns_only {w w' : World} {B e s n g : Nat} {v : Value} {xs : List Value} (h : w.ownsRow B e s v n xs) (ho : Only g w w') (hne : v.ownBlock ≠ some g) : w'.ownsRow B e s v n xs := by
  refine ⟨h.1, ?_⟩
  rcases h.2 with h0 | ⟨g', cap, cur, hv, hB, hg, r⟩
  · exact .inl h0
  · refine .inr ⟨g', cap, cur, hv, hB, ?_, r⟩
    rw [ho.block g' (fun e => hne (by rw [hv, e]; rfl))]
    exact hg
/-- What is known behind a taking: the row in a new block, the slot empty, all else kept. -/
def Took (B g k n : Nat) (f : Nat → Int) (rs : Nat → Rw) (X : Nat → Value) (w w' : World) (v : Value) : Prop :=
  (∃ X', TW w' B g (upd rs k noRow) X' ∧ AsideT w' B X' v n f ∧ (∀ u m h, AsideT w B X u m h → AsideT w' B X' u m h)) ∧ (∀ B' u m xs, w.ownsRow B' 3 1 u m xs → w'.ownsRow B' 3 1 u m xs) ∧ Below B w w'
/-- The slot is emptied in a world w2 that differs from w1 in the slot's own block alone. -/
theorem took {w w1 w2 : World} {B g k : Nat} {rs : Nat → Rw} {X : Nat → Value} (h : TW w B g rs X) (hk : k < 24) (hB : B ≤ w.heap.size) (hb : Below w.heap.size w w1) {v z : Value} (hv : w1.ownsRow w.heap.size 40 2 v (rs k).n (tv (rs k).n (rs k).f))
    (hz : z.ownBlock = (X k).ownBlock) (ho : ∀ q, (X k).ownBlock = some q → Only q w1 w2) (ho0 : (X k).ownBlock = none → w2 = w1) (hz2 : w2.ownsRow B 40 2 z 0 []) : Took B g k (rs k).n (rs k).f rs X w (w2.setCell ⟨g, k, none⟩ z) v := by
  have h1 := h.down hb
  have hgB : Blk w2 g 24 X 99 := by
    cases hx : (X k).ownBlock with
    | none => rw [ho0 hx]; exact h1.blk
    | some q =>
      refine (ho q hx).blk h1.blk (fun e => ?_)
      obtain ⟨cur, hc⟩ := own_block (h1.row k hk) hx
      have h3 := h1.blk
      unfold Blk at h3
      rw [e, hc] at h3
      simp only [Option.some.injEq, Obj.cells.injEq] at h3
      exact absurd h3.2.1 (by decide)
  have keep : ∀ {B' e s m : Nat} {u : Value} {xs : List Value}, w1.ownsRow B' e s u m xs → (∀ q, u.ownBlock = some q → (X k).ownBlock ≠ some q) → w2.ownsRow B' e s u m xs := fun {B' e s m u xs} hu hne => by
    cases hx : (X k).ownBlock with
    | none => rw [ho0 hx]; exact hu
    | some q => exact owns_only hu (ho q hx) (fun e => hne q e hx)
  have hw2 : Below B w1 w2 := by
    cases hx : (X k).ownBlock with
    | none => rw [ho0 hx]; exact Below.refl _ _
    | some q => exact (ho q hx).below ((h1.row k hk).lt q hx).1
  have hvne : ∀ q, v.ownBlock = some q → (X k).ownBlock ≠ some q := fun q e1 e2 => by
    have a1 := (hv.lt q e1).1
    have a2 := h.lt hk e2
    omega
  refine ⟨⟨upd X k z, ?_, ⟨?_, fun i hi q hq => ?_⟩, fun u m f hu => ⟨?_, fun i hi q hq => ?_⟩⟩, fun B' u m xs hu => ?_, ?_⟩
  · refine ⟨h.ge, hgB.set _ _, fun i hi => ?_, fun i j hi hj hij q hq => ?_⟩
    · by_cases e : i = k
      · subst e; rw [upd_same, upd_same]; exact owns_set hz2 hgB (by decide) _ _
      · rw [upd_other _ _ _ _ e, upd_other _ _ _ _ e]
        exact owns_set (keep (h1.row i hi) (fun q hq => h.apart i k hi hk e q hq)) hgB (by decide) _ _
    · by_cases e : i = k
      · subst e
        rw [upd_same, hz] at hq
        rw [upd_other _ _ _ _ (fun e => hij e.symm)]
        exact h.apart i j hi hj hij q hq
      · rw [upd_other _ _ _ _ e] at hq
        by_cases e' : j = k
        · subst e'; rw [upd_same, hz]; exact h.apart i j hi hj hij q hq
        · rw [upd_other _ _ _ _ e']; exact h.apart i j hi hj hij q hq
  · exact owns_set (owns_mono (keep hv hvne) hB) hgB (by decide) _ _
  · have a1 := (hv.lt q hq).1
    by_cases e : i = k
    · subst e; rw [upd_same, hz]; exact hvne q hq
    · rw [upd_other _ _ _ _ e]
      intro h2
      have := h.lt hi h2
      omega
  · exact owns_set (keep (owns_below hu.1 hb) (fun q hq => hu.2 k hk q hq)) hgB (by decide) _ _
  · by_cases e : i = k
    · subst e; rw [upd_same, hz]; exact hu.2 i hi q hq
    · rw [upd_other _ _ _ _ e]; exact hu.2 i hi q hq
  · have hu1 := owns_below hu hb
    exact owns_set (keep hu1 (fun q hq e => owns_type hu1 (h1.row k hk) (by decide) q hq e)) hgB (by decide) _ _
  · exact ((hb.mono hB).trans hw2).setCell h.ge _
theorem Took.drew {B g k n : Nat} {f : Nat → Int} {rs : Nat → Rw} {X : Nat → Value} {w w' : World} {v : Value} (h : Took B g k n f rs X w w' v) : Took B g k n f rs X w w'.drew v := by
  obtain ⟨⟨X', h1, h2, h3⟩, h4, h5⟩ := h
  exact ⟨⟨X', h1.same rfl, ⟨owns_same h2.1 rfl, h2.2⟩, fun u m f hu => ⟨owns_same (h3 u m f hu).1 rfl, (h3 u m f hu).2⟩⟩, fun B' u m xs hu => owns_same (h4 B' u m xs hu) rfl, h5.drew⟩
end M
set_option maxRecDepth 20000 in
set_option maxHeartbeats 4000000 in
theorem ring_take (B g lv m im : Nat) (rs : Nat → Rw) (X : Nat → Value) (w : World) (h : TW w B g rs X) (hl : lv < 3) (hm : m ≤ 1000000) (him : m % 8 = im) (hs : (rs (lv * 8 + im)).n ≤ 60) (hB : B ≤ w.heap.size) :
    Calls Try.prog 81 #[.pointer (some ⟨g, lv * 8, none⟩), .int .i64 (m : Int)] w fun e w' => ∃ v, e = .returned v ∧ Took B g (lv * 8 + im) (rs (lv * 8 + im)).n (rs (lv * 8 + im)).f rs X w w' v := by
  have him8 : im < 8 := by omega
  have hj : lv * 8 + im < 24 := by omega
  obtain ⟨a, c, hx⟩ := own_form (h.row _ hj)
  obtain ⟨n, hn⟩ : ∃ n, (rs (lv * 8 + im)).n = n := ⟨_, rfl⟩
  rw [hn] at hx hs
  have hq : (m : Int).tmod 8 = (im : Int) := by rw [Int.tmod_eq_emod_of_nonneg (by omega)]; omega
  have hw1 : IntKind.i64.wrap (im : Int) = (im : Int) := by rw [IntKind.wrap_i64]; omega
  have hi0 : (0 : Int) ≤ (im : Int) := by omega
  have hi8 : (im : Int) < 8 := by omega
  have c0 := h.blk.cell hj
  rw [hx] at c0
  have HX := hide hx
  have HN := hide hn
  have HT := hide h
  have HR := hide (show TimersOf w (.slice a n c) n (rs (lv * 8 + im)).f from by
    have := owns_timers (h.row _ hj)
    rw [hx, hn] at this
    exact this)
  clear h hx hn him
  go_enter Try.func81, Try.ntmps81
  go_wp2_with fail
  refine (clone_timers _ n (rs (lv * 8 + im)).f _ HR.out (by omega)).mono ?_
  rintro e w1 ⟨⟨v1, rfl, hv1⟩, hb1⟩
  obtain ⟨a1, c1, rfl⟩ := own_form hv1
  have HV1 := hide hv1
  have HT1 := hide (HT.out.down hb1)
  clear hv1 c0
  have c0 := HT1.out.blk.cell hj
  have c1' := HT1.out.blk.thaw (lv * 8 + im)
  rw [HX.out] at c0
  rcases (HT1.out.row _ hj).2 with ⟨e0, e1⟩ | ⟨gg, cap, cur, e0, hBg, hgg, hnc, hcm, hcs, -⟩
  · rw [HX.out] at e0
    cases e0
    have hCl := fun ty => run_clear_none w1 ty none 0
    have HF := hide (took HT.out hj hB hb1 (v := .slice a1 0 c1) (z := .slice none 0 0) (by rw [HN.out]; exact HV1.out) (by rw [HX.out]) (fun q hq => by rw [HX.out] at hq; cases hq) (fun _ => rfl) (World.ownsRow_nil _ _ _ _))
    clear HV1 HT1 HT HR HN HX hb1
    go_wp2_with fail
    go_region
    all_goals
      have HF2 := hide HF.out.drew
      clear HF c0 c1'
      go_wp2
      go_ret
      exact ⟨_, rfl, HF2.out⟩
  · rw [HX.out] at e0
    simp only [Value.slice.injEq] at e0
    obtain ⟨rfl, -, rfl⟩ := e0
    rw [HN.out] at hnc
    rcases Nat.eq_zero_or_pos n with hn0 | hn0
    · subst hn0
      have hCl := fun ty c => run_clear_none w1 ty (some ⟨gg, 0, none⟩) c
      have HF := hide (took HT.out hj hB hb1 (v := .slice a1 0 c1) (z := .slice (some ⟨gg, 0, none⟩) 0 c) (by rw [HN.out]; exact HV1.out) (by rw [HX.out] <;> rfl) (fun q _ => Only.refl _ _) (fun _ => rfl) ⟨rfl, .inr ⟨gg, c, cur, rfl, hBg, hgg, by omega, hcm, hcs, by simp⟩⟩)
      clear HV1 HT1 HT HR HN HX hb1
      go_wp2_with fail
      go_region
      all_goals
        have HF2 := hide HF.out.drew
        clear HF c0 c1'
        go_wp2
        go_ret
        exact ⟨_, rfl, HF2.out⟩
    · have hcell : ∀ j, j < n * 2 → (w1.cell? ⟨gg, 0 + j, none⟩).isSome = true ∧ w1.frozen? ⟨gg, 0 + j, none⟩ = false := fun j hj => by
        have hlt : j < cur.size := by rw [hcs]; omega
        constructor
        · rw [Nat.zero_add]
          simp [World.cell?, hgg, hlt]
        · rw [Nat.zero_add]
          simp [World.frozen?, hgg]
      have hCl := fun ty => run_clear_some w1 ty gg n c hn0 (fun j hj => (hcell j hj).1) (fun j hj => (hcell j hj).2)
      obtain ⟨cur', hg', hsz', hO'⟩ := setCells_block (List.replicate (n * 2) (.int .i64 0)) 0 w1 cur hgg
      have HF := hide (took HT.out hj hB hb1 (v := .slice a1 n c1) (z := .slice (some ⟨gg, 0, none⟩) 0 c) (w2 := w1.setCells gg 0 (List.replicate (n * 2) (.int .i64 0))) (by rw [HN.out]; exact HV1.out) (by rw [HX.out] <;> rfl) (fun q hq => by
          rw [HX.out] at hq
          simp only [Value.ownBlock, Option.some.injEq] at hq
          subst hq
          exact hO') (fun h => by rw [HX.out] at h; cases h) ⟨rfl, .inr ⟨gg, c, cur', rfl, hBg, hg', by omega, hcm, by rw [hsz', hcs], by simp⟩⟩)
      have hgne : g ≠ gg := fun e => by
        have h3 := HT1.out.blk
        unfold Blk at h3
        rw [e, hgg] at h3
        simp only [Option.some.injEq, Obj.cells.injEq] at h3
        exact absurd h3.2.1 (by decide)
      have c2 := (hO'.blk HT1.out.blk hgne).cell hj
      have c3 := (hO'.blk HT1.out.blk hgne).thaw (lv * 8 + im)
      rw [HX.out] at c2
      generalize w1.setCells gg 0 (List.replicate (n * 2) (.int .i64 0)) = w2 at *
      clear HV1 HT1 HT HR HN HX hb1 hcell hg' hO' c0 c1' hgg
      go_wp2_with fail
      go_region
      all_goals
        have HF2 := hide HF.out.drew
        clear HF c2 c3
        go_wp2
        go_ret
        exact ⟨_, rfl, HF2.out⟩
end Go.Proofs.Ytcodllammndciaa
