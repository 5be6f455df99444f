/-
  What the specification's TimersIn keeps: a row of timers in order, cut at a place.
-/
import Derived.Test.YtcodllammndciaaWhUM
namespace Go.Proofs.Ytcodllammndciaa
open Go.RowKit M
open Clk (upd upd_same upd_other)
open Go.Sort (grow)
namespace M
def prt (rs : Nat → Rw) (i j : Nat) : List Tp := prs rs i ++ (List.range j).map fun q => ((rs i).f (q * 2), (rs i).f (q * 2 + 1))
theorem prt_zero (rs : Nat → Rw) (i : Nat) : prt rs i 0 = prs rs i := by simp [prt]
theorem prt_succ (rs : Nat → Rw) (i j : Nat) : prt rs i (j + 1) = prt rs i j ++ [((rs i).f (j * 2), (rs i).f (j * 2 + 1))] := by
  unfold prt; rw [List.range_succ, List.map_append, List.append_assoc]; rfl
theorem prt_full (rs : Nat → Rw) (i : Nat) : prt rs i (rs i).n = prs rs (i + 1) := rfl
theorem prt_len (rs : Nat → Rw) (i j : Nat) : (prt rs i j).length = tot rs i + j := by
  unfold prt; rw [List.length_append, prs_len, List.length_map, List.length_range]
def TS (w W : World) (x : Value) (P : List Tp) : Prop := W.ownsRow w.heap.size 40 2 x (srtT P).length (pvi (flat (srtT P))) ∧ Below w.heap.size w W
theorem TS.next {w W0 W : World} {r : Value} {N i j : Nat} {rs : Nat → Rw} {L : List Tp} {t : Tp} (hL : srtT (prt rs i j) = L) (hN : L.length = N) (ht : ((rs i).f (j * 2), (rs i).f (j * 2 + 1)) = t) (h0 : Below w.heap.size w W0) (h : W.ownsRow W0.heap.size 40 2 r (N + 1) (pvi (flat (insT L t)))) (hb : Below W0.heap.size W0 W) : TS w W r (prt rs i (j + 1)) := by
  have e : insT L t = srtT (prt rs i (j + 1)) := by rw [← hL, insT_srt, prt_succ, ht]
  have e2 : (srtT (prt rs i (j + 1))).length = N + 1 := by rw [srtT_len, prt_len, ← hN, ← hL, srtT_len, prt_len]; omega
  refine ⟨?_, h0.trans (hb.mono h0.size)⟩
  rw [e2, ← e]
  exact owns_mono h h0.size
theorem own_news2 {w : World} {B g c N : Nat} {xs : List Value} (h : w.ownsRow B 40 2 (.slice (some ⟨g, 0, none⟩) N c) N xs) : ∀ j u, xs[j]? = some u → w.cell? ⟨g, j, none⟩ = some u := fun j u hj => by
  rcases h.2 with ⟨e1, _⟩ | ⟨g', cap, cur, e1, _, hg, _, _, _, ht⟩
  · cases e1
  · cases e1
    have hjl : j < xs.length := (List.getElem?_eq_some_iff.1 hj).1
    have hn := h.1
    rw [← ht, List.getElem?_take_of_lt (by omega), Array.getElem?_toList] at hj
    simp [World.cell?, hg, hj]
theorem own_cellT {w : World} {B g c N : Nat} {L : List Tp} (h : w.ownsRow B 40 2 (.slice (some ⟨g, 0, none⟩) N c) N (pvi (flat L))) {k : Nat} (hk : k < L.length) : w.cell? ⟨g, k * 2, none⟩ = some (.int .i64 (L[k]!).1) ∧ w.cell? ⟨g, k * 2 + 1, none⟩ = some (.int .i64 (L[k]!).2) := by
  have h0 := flat_get L (k * 2) (by omega)
  have h1 := flat_get L (k * 2 + 1) (by omega)
  rw [if_pos (by omega), show k * 2 / 2 = k by omega] at h0
  rw [if_neg (by omega), show (k * 2 + 1) / 2 = k by omega] at h1
  exact ⟨own_news2 h _ _ (by unfold pvi; rw [List.getElem?_map, h0]; rfl), own_news2 h _ _ (by unfold pvi; rw [List.getElem?_map, h1]; rfl)⟩
theorem flat_cut (L : List Tp) (k : Nat) : flat L = flat (L.take k) ++ flat (L.drop k) := by rw [← flat_app, List.take_append_drop]
theorem newsT_take {w : World} {B g c N : Nat} {L : List Tp} (h : w.ownsRow B 40 2 (.slice (some ⟨g, 0, none⟩) N c) N (pvi (flat L))) (k : Nat) : ∀ j u, (pvi (flat (L.take k)))[j]? = some u → w.cell? ((⟨g, 0, none⟩ : Addr).add j) = some u := fun j u hj => by
  have h1 : (pvi (flat L))[j]? = some u := by
    rw [flat_cut L k, pvi_app, List.getElem?_append_left (List.getElem?_eq_some_iff.1 hj).1]; exact hj
  rw [show (⟨g, 0, none⟩ : Addr).add j = ⟨g, j, none⟩ by unfold Addr.add; split <;> simp_all]
  exact own_news2 h j u h1
theorem newsT_drop {w W : World} {B g c N : Nat} {L : List Tp} (h : w.ownsRow B 40 2 (.slice (some ⟨g, 0, none⟩) N c) N (pvi (flat L))) (hg : g < w.heap.size) {k : Nat} (hk : k ≤ L.length) (hb : Below w.heap.size w W) : ∀ j u, (pvi (flat (L.drop k)))[j]? = some u → W.cell? ((⟨g, k * 2, none⟩ : Addr).add j) = some u := fun j u hj => by
  have hl : (pvi (flat (L.take k))).length = k * 2 := by rw [pvi_len, flat_len, List.length_take]; omega
  have h1 : (pvi (flat L))[k * 2 + j]? = some u := by
    rw [flat_cut L k, pvi_app, List.getElem?_append_right (by omega), hl, Nat.add_sub_cancel_left]; exact hj
  rw [show (⟨g, k * 2, none⟩ : Addr).add j = ⟨g, k * 2 + j, none⟩ by unfold Addr.add; split <;> simp_all]
  exact (hb.cell (p := ⟨g, k * 2 + j, none⟩) hg).trans (own_news2 h _ u h1)
theorem insT_pv {L : List Tp} {t : Tp} {k : Nat} (h1 : ∀ q, q < k → ltP (L[q]!) t = true) (h2 : k < L.length → ltP (L[k]!) t = false) (hk : k ≤ L.length) : pvi (flat (insT L t)) = pvi (flat (L.take k)) ++ [.int .i64 t.1, .int .i64 t.2] ++ pvi (flat (L.drop k)) := by
  have e : insT L t = L.take k ++ t :: L.drop k := by
    refine insT_at (twT_char _ L k (fun j hj => ⟨L[j]!, ?_, h1 j hj⟩) (fun x hx => ?_) hk)
    · have hjl : j < L.length := by omega
      simp [hjl]
    · have hkl : k < L.length := (List.getElem?_eq_some_iff.1 hx).1
      have h3 := h2 hkl
      have h4 : L[k]! = x := by simp [hx]
      rw [h4] at h3
      exact h3
  rw [e, flat_app, pvi_app, List.append_assoc]
  rfl
end M
end Go.Proofs.Ytcodllammndciaa
