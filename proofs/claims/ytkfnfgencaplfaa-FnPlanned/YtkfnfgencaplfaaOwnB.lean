/-
  Numbers at the head of a block of the call's own, with room behind.
-/
import Derived.Test.YtkfnfgencaplfaaMem
namespace Go.Proofs.Ytkfnfgencaplfaa
open Go.RowKit M
open Clk (upd upd_same upd_other)
namespace M
theorem IntsOf.ext {w : World} {v : Value} {n : Nat} {f g : Nat → Int} (h : IntsOf w v n f) (e : ∀ i, i < n → f i = g i) : IntsOf w v n g := by
  obtain ⟨a, cap, hv, hr⟩ := h
  refine ⟨a, cap, hv, fun hn => ?_⟩
  obtain ⟨b, off, ha, hlt, hrow⟩ := hr hn
  exact ⟨b, off, ha, hlt, fun i hi => by rw [hrow i hi, e i hi]⟩
/-- n numbers at the head of a block of the call's own, with room behind. -/
def OwnB (w : World) (g n cap : Nat) (f : Nat → Int) : Prop := n ≤ cap ∧ ∃ h : Nat → Value, Blk w g cap h 3 ∧ ∀ i, i < n → h i = .int .i64 (f i)
theorem own_b {w : World} {B n : Nat} {v : Value} {f : Nat → Int} (h : w.ownsRow B 3 1 v n ((List.range n).map (iv f))) (hn : 0 < n) : ∃ g cap, v = .slice (some ⟨g, 0, none⟩) n cap ∧ B ≤ g ∧ OwnB w g n cap f := by
  rcases h.2 with ⟨_, h0⟩ | ⟨g, cap, cur, rfl, hB, hg, hc, hm, hs, ht⟩
  · omega
  · refine ⟨g, cap, rfl, hB, hc, fun i => cur.getD i undef, ?_, fun i hi => ?_⟩
    · unfold Blk
      rw [hg]
      congr 2
      apply Array.ext_getElem?
      intro j
      by_cases hj : j < cap
      · rw [cf_get _ hj]
        have : j < cur.size := by omega
        simp [Array.getD, this]
      · rw [Array.getElem?_eq_none (by omega), Array.getElem?_eq_none (by rw [cf_size]; omega)]
    · have h1 : ((List.range n).map (iv f))[i]? = some (iv f i) := by rw [List.getElem?_map, List.getElem?_range hi]; rfl
      rw [← ht, List.getElem?_take_of_lt (by omega), Array.getElem?_toList] at h1
      have : i < cur.size := by omega
      simp [Array.getD, this] at h1 ⊢
      exact h1
theorem OwnB.cell {w : World} {g n cap : Nat} {f : Nat → Int} (h : OwnB w g n cap f) {i : Nat} (hi : i < n) : w.cell? ⟨g, i, none⟩ = some (.int .i64 (f i)) := by
  obtain ⟨hc, k, hb, hk⟩ := h
  rw [← hk i hi]; exact hb.cell (by omega)
theorem OwnB.thaw {w : World} {g n cap : Nat} {f : Nat → Int} (h : OwnB w g n cap f) (i : Nat) : w.frozen? ⟨g, i, none⟩ = false := by
  obtain ⟨hc, k, hb, hk⟩ := h
  exact hb.thaw i
theorem OwnB.lt {w : World} {g n cap : Nat} {f : Nat → Int} (h : OwnB w g n cap f) : g < w.heap.size := by
  obtain ⟨hc, k, hb, hk⟩ := h
  exact hb.lt
theorem OwnB.down {w w' : World} {g n cap : Nat} {f : Nat → Int} (h : OwnB w g n cap f) (hb : Below w.heap.size w w') : OwnB w' g n cap f := by
  obtain ⟨hc, k, hk, he⟩ := h
  exact ⟨hc, k, hk.down hb, he⟩
theorem OwnB.set {w : World} {g n cap : Nat} {f : Nat → Int} (h : OwnB w g n cap f) (i : Nat) (x : Int) : OwnB (w.setCell ⟨g, i, none⟩ (.int .i64 x)) g n cap (upd f i x) := by
  obtain ⟨hc, k, hk, he⟩ := h
  refine ⟨hc, _, hk.set i _, fun j hj => ?_⟩
  by_cases e : j = i
  · subst e; rw [upd_same, upd_same]
  · rw [upd_other _ _ _ _ e, upd_other _ _ _ _ e]; exact he j hj
theorem OwnB.ints {w : World} {g n cap : Nat} {f : Nat → Int} (h : OwnB w g n cap f) : IntsOf w (.slice (some ⟨g, 0, none⟩) n cap) n f :=
  ⟨_, _, rfl, fun _ => ⟨g, 0, rfl, h.lt, fun i hi => by rw [Nat.zero_add]; exact h.cell hi⟩⟩
end M
end Go.Proofs.Ytkfnfgencaplfaa
