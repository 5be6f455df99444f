/-
  The specification's search: its two rows in memory, the markings that were found and the steps that led to each.
-/
import Derived.Test.YthilapalgakhhaaNetFromS
import Derived.Test.YthilapalgakhhaaNetSpread
import Derived.Test.YthilapalgakhhaaOwnR
namespace Go.Proofs.Ythilapalgakhhaa
open Go.RowKit M
open Clk (upd upd_same upd_other)
namespace M
/-- The steps that lead to each marking that was found. -/
def IsPath (s : Bs) (pb : Nat → List Nat) : Prop := pb 0 = [] ∧ ∀ j, 0 < j → j < s.c → pb j = pb (s.fr j) ++ [s.st j]
def pv (l : List Nat) : List Value := l.map fun t : Nat => .int .i64 (t : Int)
theorem pv_len (l : List Nat) : (pv l).length = l.length := by simp [pv]
theorem pv_snoc (l : List Nat) (t : Nat) : pv (l ++ [t]) = pv l ++ [.int .i64 (t : Int)] := by simp [pv]
theorem pv_one (l : List Nat) : ∀ u ∈ pv l, u.oneCell' = true := by
  intro u hu
  obtain ⟨j, _, rfl⟩ := List.mem_map.1 hu
  rfl
theorem IsPath.add {p k : Nat} {s : Bs} {pb : Nat → List Nat} (h : IsPath s pb) (hk : BOk p k s) {x : Nat → Int} {i t : Nat} (hi : i < s.c) : IsPath (s.add x i t) (upd pb s.c (pb i ++ [t])) := by
  have hp := hk.pos
  refine ⟨by rw [upd_other _ _ _ _ (by omega)]; exact h.1, fun j h0 hj => ?_⟩
  have hj' : j < s.c + 1 := hj
  show _ = upd pb s.c (pb i ++ [t]) (upd s.fr s.c i j) ++ [upd s.st s.c t j]
  rcases (show j < s.c ∨ j = s.c by omega) with h1 | h1
  · have hb := hk.back j h0 h1
    rw [upd_other pb _ _ _ (by omega), upd_other s.fr _ _ _ (by omega), upd_other s.st _ _ _ (by omega), upd_other pb _ _ _ (by omega)]
    exact h.2 j h0 h1
  · subst h1
    rw [upd_same, upd_same, upd_same, upd_other pb _ _ _ (by omega)]
theorem IsPath.len {p k : Nat} {s : Bs} {pb : Nat → List Nat} (h : IsPath s pb) (hk : BOk p k s) : ∀ j, j < s.c → (pb j).length ≤ j := by
  intro j
  induction j using Nat.strongRecOn with
  | _ j ih =>
    intro hj
    by_cases h0 : j = 0
    · subst h0; rw [h.1]; simp
    · have hb := hk.back j (by omega) hj
      have := ih (s.fr j) hb (by omega)
      rw [h.2 j (by omega) hj]; simp; omega
/-- The row of markings. -/
def RowO (w : World) (B : Nat) (x : Value) (c n : Nat) (K : Nat → Nat → Int) : Prop :=
  ∃ vo : Nat → Value, w.ownsRow B 33 1 x c ((List.range c).map vo) ∧ ∀ j, j < c → ∃ g cap, vo j = .slice (some ⟨g, 0, none⟩) n cap ∧ OwnB w g n cap (K j)
/-- The row of lists of steps. -/
def RowP (w : World) (B : Nat) (x : Value) (c : Nat) (pb : Nat → List Nat) : Prop :=
  ∃ vb : Nat → Value, w.ownsRow B 33 1 x c ((List.range c).map vb) ∧ (∀ j, j < c → w.ownsRow 0 3 1 (vb j) (pb j).length (pv (pb j))) ∧ vb 0 = .slice none 0 0
theorem OwnB.grown {w w' : World} {g n cap B e s m : Nat} {f : Nat → Int} {v : Value} {xs : List Value} (h : OwnB w g n cap f) (hown : w.ownsRow B e s v m xs) (ht : 3 ≠ e) (hg : w.grownBy w' v.ownBlock) : OwnB w' g n cap f := by
  obtain ⟨hc, k, hb, hk⟩ := h
  exact ⟨hc, k, hb.grown hown ht hg, hk⟩
theorem RowO.down {w w' : World} {B c n : Nat} {x : Value} {K : Nat → Nat → Int} (h : RowO w B x c n K) (hb : Below w.heap.size w w') : RowO w' B x c n K := by
  obtain ⟨vo, h1, h2⟩ := h
  refine ⟨vo, owns_below h1 hb, fun j hj => ?_⟩
  obtain ⟨g, cap, hv, ho⟩ := h2 j hj
  exact ⟨g, cap, hv, ho.down hb⟩
theorem RowP.down {w w' : World} {B c : Nat} {x : Value} {pb : Nat → List Nat} (h : RowP w B x c pb) (hb : Below w.heap.size w w') : RowP w' B x c pb := by
  obtain ⟨vb, h1, h2, h3⟩ := h
  exact ⟨vb, owns_below h1 hb, fun j hj => owns_below (h2 j hj) hb, h3⟩
theorem RowO.form {w : World} {B c n : Nat} {x : Value} {K : Nat → Nat → Int} (h : RowO w B x c n K) : ∃ a cap, x = .slice a c cap := by
  obtain ⟨vo, h1, h2⟩ := h; exact own_form h1
theorem RowP.form {w : World} {B c : Nat} {x : Value} {pb : Nat → List Nat} (h : RowP w B x c pb) : ∃ a cap, x = .slice a c cap := by
  obtain ⟨vo, h1, h2⟩ := h; exact own_form h1
theorem RowO.intss {w : World} {B c n : Nat} {x : Value} {K : Nat → Nat → Int} (h : RowO w B x c n K) : IntssOf w x c n K := by
  obtain ⟨vo, h1, h2⟩ := h
  obtain ⟨a, cap, hv, hr⟩ := own_cells h1 (by simp)
  refine ⟨a, cap, hv, fun hn => ?_⟩
  obtain ⟨g, ha, _, hlt, hc⟩ := hr hn
  refine ⟨g, 0, ha, hlt, fun i hi => ⟨vo i, by rw [Nat.zero_add]; exact hc i _ (by rw [List.getElem?_map, List.getElem?_range hi]; rfl), ?_⟩⟩
  obtain ⟨g', cap', hv', ho⟩ := h2 i hi
  rw [hv']; exact ho.ints
/-- The marking i, read. -/
theorem RowO.at {w : World} {B c n i : Nat} {x : Value} {K : Nat → Nat → Int} (h : RowO w B x c n K) (hi : i < c) : ∃ b cap g cp, x = .slice (some ⟨b, 0, none⟩) c cap ∧ w.cell? ⟨b, i, none⟩ = some (.slice (some ⟨g, 0, none⟩) n cp) ∧ IntsOf w (.slice (some ⟨g, 0, none⟩) n cp) n (K i) := by
  obtain ⟨vo, h1, h2⟩ := h
  obtain ⟨a, cap, hv, hr⟩ := own_cells h1 (by simp)
  obtain ⟨b, rfl, _, hlt, hc⟩ := hr (by omega)
  obtain ⟨g, cp, hv', ho⟩ := h2 i hi
  refine ⟨b, cap, g, cp, hv, ?_, ho.ints⟩
  rw [← hv']; exact hc i _ (by rw [List.getElem?_map, List.getElem?_range hi]; rfl)
/-- The list of steps i, read. -/
theorem RowP.at {w : World} {B c i : Nat} {x : Value} {pb : Nat → List Nat} (h : RowP w B x c pb) (hi : i < c) : ∃ b cap r, x = .slice (some ⟨b, 0, none⟩) c cap ∧ b < w.heap.size ∧ w.cell? ⟨b, i, none⟩ = some r ∧ w.ownsRow 0 3 1 r (pb i).length (pv (pb i)) := by
  obtain ⟨vb, h1, h2, h3⟩ := h
  obtain ⟨a, cap, hv, hr⟩ := own_cells h1 (by simp)
  obtain ⟨b, rfl, _, hlt, hc⟩ := hr (by omega)
  exact ⟨b, cap, vb i, hv, hlt, hc i _ (by rw [List.getElem?_map, List.getElem?_range hi]; rfl), h2 i hi⟩
theorem range_upd (f : Nat → Value) (c : Nat) (v : Value) : (List.range (c + 1)).map (upd f c v) = (List.range c).map f ++ [v] := by
  rw [range_snoc, upd_same]
  congr 1
  exact List.map_congr_left fun j hj => by have := List.mem_range.1 hj; rw [upd_other _ _ _ _ (by omega)]
theorem range_head (f : Nat → Value) {c : Nat} (hc : 0 < c) : ((List.range c).map f)[0]? = some (f 0) := by rw [List.getElem?_map, List.getElem?_range hc]; rfl
/-- One more marking is put. -/
theorem RowO.put {w w' : World} {B c n gx cx : Nat} {x x' : Value} {K : Nat → Nat → Int} {y : Nat → Int} {vo : Nat → Value} (h1 : w.ownsRow B 33 1 x c ((List.range c).map vo)) (h2 : ∀ j, j < c → ∃ g cap, vo j = .slice (some ⟨g, 0, none⟩) n cap ∧ OwnB w g n cap (K j))
    (hy : OwnB w gx n cx y) (h3 : w'.ownsRow B 33 1 x' (c + 1) ((List.range c).map vo ++ [.slice (some ⟨gx, 0, none⟩) n cx])) (hg : w.grownBy w' x.ownBlock) : RowO w' B x' (c + 1) n (upd K c y) := by
  refine ⟨upd vo c (.slice (some ⟨gx, 0, none⟩) n cx), by rw [range_upd]; exact h3, fun j hj => ?_⟩
  rcases (show j < c ∨ j = c by omega) with h | h
  · obtain ⟨g, cap, hv, ho⟩ := h2 j h
    rw [upd_other _ _ _ _ (by omega), upd_other _ _ _ _ (by omega)]
    exact ⟨g, cap, hv, ho.grown h1 (by decide) hg⟩
  · subst h
    rw [upd_same, upd_same]
    exact ⟨gx, cx, rfl, hy.grown h1 (by decide) hg⟩
theorem RowP.other {w w' : World} {B c n : Nat} {x xo : Value} {pb : Nat → List Nat} {vo : Nat → Value} {K : Nat → Nat → Int} (h : RowP w B x c pb) (hc : 0 < c) (h1 : w.ownsRow B 33 1 xo c ((List.range c).map vo)) (h2 : ∀ j, j < c → ∃ g cap, vo j = .slice (some ⟨g, 0, none⟩) n cap ∧ OwnB w g n cap (K j)) (hg : w.grownBy w' xo.ownBlock) : RowP w' B x c pb := by
  obtain ⟨vb, p1, p2, p3⟩ := h
  refine ⟨vb, owns_other p1 hg (owns_apart1 p1 h1 (range_head vb hc) (range_head vo hc) ?_), fun j hj => owns_other (p2 j hj) hg (owns_apart (p2 j hj) h1 (by decide)), p3⟩
  obtain ⟨g, cap, hv, _⟩ := h2 0 hc
  rw [p3, hv]; simp
/-- One more list is put; the markings stay. -/
theorem RowP.put {w w' : World} {B c m n : Nat} {x x' r xo : Value} {pb : Nat → List Nat} {l : List Nat} {vb : Nat → Value} {K : Nat → Nat → Int} (h1 : w.ownsRow B 33 1 x c ((List.range c).map vb)) (h2 : ∀ j, j < c → w.ownsRow 0 3 1 (vb j) (pb j).length (pv (pb j))) (h3 : vb 0 = .slice none 0 0) (hc : 0 < c)
    (hr : w.ownsRow 0 3 1 r l.length (pv l)) (h4 : w'.ownsRow B 33 1 x' (c + 1) ((List.range c).map vb ++ [r])) (hg : w.grownBy w' x.ownBlock) (hO : RowO w B xo m n K) (hm : 0 < m) : RowP w' B x' (c + 1) (upd pb c l) ∧ RowO w' B xo m n K := by
  constructor
  · refine ⟨upd vb c r, by rw [range_upd]; exact h4, fun j hj => ?_, by rw [upd_other _ _ _ _ (by omega)]; exact h3⟩
    rcases (show j < c ∨ j = c by omega) with h | h
    · rw [upd_other _ _ _ _ (by omega), upd_other _ _ _ _ (by omega)]
      exact owns_other (h2 j h) hg (owns_apart (h2 j h) h1 (by decide))
    · subst h
      rw [upd_same, upd_same]
      exact owns_other hr hg (owns_apart hr h1 (by decide))
  · obtain ⟨vo, o1, o2⟩ := hO
    refine ⟨vo, owns_other o1 hg (owns_apart1 o1 h1 (range_head vo hm) (range_head vb hc) ?_), fun j hj => ?_⟩
    · obtain ⟨g, cap, hv, _⟩ := o2 0 hm
      rw [h3, hv]; simp
    · obtain ⟨g, cap, hv, ho⟩ := o2 j hj
      exact ⟨g, cap, hv, ho.grown h1 (by decide) hg⟩
end M
end Go.Proofs.Ythilapalgakhhaa
