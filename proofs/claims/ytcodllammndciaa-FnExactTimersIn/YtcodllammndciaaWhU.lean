/-
  A timer is put into a slot of a turning wheel.
-/
import Derived.Test.YtcodllammndciaaWhT
import Derived.Deep.RegionLaw
namespace Go.Proofs.Ytcodllammndciaa
open Go.RowKit M
open Clk (upd upd_same upd_other)
open Go.Sort (grow)
namespace M
theorem news2 (w : World) (a b : Value) (t : TypeId) (H : Nat) (hH : w.heap.size = H) : ∀ (j : Nat) u, [a, b][j]? = some u → (w.alloc (.cells #[a, b] t)).cell? ((⟨H, 0, none⟩ : Addr).add j) = some u := by
  subst hH
  intro j u hj
  match j, hj with
  | 0, hj => simp at hj; subst hj; simp [Addr.add]
  | 1, hj => simp at hj; subst hj; simp [Addr.add]
theorem TW.grown {w w' : World} {B g : Nat} {rs : Nat → Rw} {X : Nat → Value} (h : TW w B g rs X) {j : Nat} (hj : j < 24) {v : Value} {r : Rw} (hg : w.grownBy w' (X j).ownBlock) (ho : w'.ownsRow B 40 2 v r.n (tv r.n r.f)) (hat : ∀ q, v.ownBlock = some q → (X j).ownBlock = some q ∨ q = w.heap.size) :
    TW (w'.setCell ⟨g, j, none⟩ v) B g (upd rs j r) (upd X j v) := by
  have hb : Blk w' g 24 X 99 := h.blk.grown (h.row j hj) (by decide) hg
  refine ⟨h.ge, hb.set _ _, fun i hi => ?_, fun i i' hi hi' hii q hq => ?_⟩
  · by_cases e : i = j
    · subst e; rw [upd_same, upd_same]; exact owns_set ho hb (by decide) _ _
    · rw [upd_other _ _ _ _ e, upd_other _ _ _ _ e]
      exact owns_set (owns_other (h.row i hi) hg (fun q hq e2 => h.apart i j hi hj e q hq e2.symm)) hb (by decide) _ _
  · by_cases e : i = j
    · subst e
      rw [upd_same] at hq
      have e' : i' ≠ i := fun e => hii e.symm
      rw [upd_other _ _ _ _ e']
      intro h2
      rcases hat q hq with h3 | h3
      · exact h.apart i i' hi hi' hii q h3 h2
      · have := h.lt hi' h2; omega
    · rw [upd_other _ _ _ _ e] at hq
      by_cases e' : i' = j
      · subst e'
        rw [upd_same]
        intro h2
        rcases hat q h2 with h3 | h3
        · exact h.apart i i' hi hi' hii q hq h3
        · have := h.lt hi hq; omega
      · rw [upd_other _ _ _ _ e']; exact h.apart i i' hi hi' hii q hq
end M
set_option maxRecDepth 20000 in
set_option maxHeartbeats 4000000 in
theorem ring_put (B g lv m im : Nat) (rs : Nat → Rw) (X : Nat → Value) (tm id : Int) (w : World) (h : TW w B g rs X) (hl : lv < 3) (hm : m ≤ 1000000) (him : m % 8 = im) (hs : (rs (lv * 8 + im)).n ≤ 1048576) (hB : B ≤ w.heap.size) :
    Calls Try.prog 78 #[.pointer (some ⟨g, lv * 8, none⟩), .int .i64 (m : Int), .agg #[.int .i64 tm, .int .i64 id]] w fun e w' => (e = .returned (.tuple #[]) ∧ ∃ X', TW w' B g (upd rs (lv * 8 + im) ((rs (lv * 8 + im)).snoc tm id)) X') ∧ Below B w w' := by
  obtain ⟨i0, hi, hz0, hz1, hz2⟩ := info_parts info_timer
  have him8 : im < 8 := by omega
  have hj : lv * 8 + im < 24 := by omega
  have hdn := (Below.refl w.heap.size w).alloc (Nat.le_refl _) (.cells #[.int .i64 tm, .int .i64 id] 40)
  have hTm := Blk.fresh w #[.int .i64 tm, .int .i64 id] 2 (p2 (.int .i64 tm) (.int .i64 id)) 40 rfl
  have hT1 := h.down hdn
  have hdn2 := (Below.refl (w.alloc (.cells #[.int .i64 tm, .int .i64 id] 40)).heap.size (w.alloc (.cells #[.int .i64 tm, .int .i64 id] 40))).alloc (Nat.le_refl _) (.cells #[.int .i64 tm, .int .i64 id] 40)
  have hT2 := hT1.down hdn2
  obtain ⟨a, c, hx⟩ := own_form (h.row _ hj)
  obtain ⟨n, hn⟩ : ∃ n, (rs (lv * 8 + im)).n = n := ⟨_, rfl⟩
  rw [hn] at hx hs
  have hq : (m : Int).tmod 8 = (im : Int) := by rw [Int.tmod_eq_emod_of_nonneg (by omega)]; omega
  have hw1 : IntKind.i64.wrap (im : Int) = (im : Int) := by rw [IntKind.wrap_i64]; omega
  have hi0 : (0 : Int) ≤ (im : Int) := by omega
  have hi8 : (im : Int) < 8 := by omega
  have c0 := hT1.blk.cell hj
  rw [hx] at c0
  obtain ⟨x0, x1, -, -⟩ := hTm.pair
  have c2 := hT2.blk.cell hj
  rw [hx] at c2
  obtain ⟨y0, y1, -, -⟩ := (hTm.down hdn2).pair
  have hO2 := hT2.row _ hj
  rw [hn] at hO2
  have HO2 := hide hO2
  have HX := hide hx
  clear hTm him hO2 hx
  go_enter Try.func78, Try.ntmps78
  have HG := hide (show ∀ W w7 : World, W.grownBy w7 (Value.slice a n c).ownBlock → W.heap = ((w.alloc (.cells #[.int .i64 tm, .int .i64 id] 40)).alloc (.cells #[.int .i64 tm, .int .i64 id] 40)).heap → w7.cell? ⟨g, lv * 8 + im, none⟩ = some (.slice a n c) ∧ w7.frozen? ⟨g, lv * 8 + im, none⟩ = false from fun W w7 hg hh => by
    have hW := hT2.same hh
    have hb : Blk w7 g 24 X 99 := hW.blk.grown (hW.row _ hj) (by decide) (by rw [HX.out]; exact hg)
    exact ⟨by rw [← HX.out]; exact hb.cell hj, hb.thaw _⟩)
  have HF := hide (show ∀ (W w7 : World) (g7 cap7 : Nat), W.grownBy w7 (Value.slice a n c).ownBlock → W.heap = ((w.alloc (.cells #[.int .i64 tm, .int .i64 id] 40)).alloc (.cells #[.int .i64 tm, .int .i64 id] 40)).heap → Below B w W → w7.ownsRow B 40 2 (.slice (some ⟨g7, 0, none⟩) (n + 1) cap7) (n + 1) (tv n (rs (lv * 8 + im)).f ++ [.int .i64 tm, .int .i64 id]) → ((Value.slice a n c).ownBlock = some g7 ∨ g7 = W.heap.size) →
      TW (w7.setCell ⟨g, lv * 8 + im, none⟩ (.slice (some ⟨g7, 0, none⟩) (n + 1) cap7)) B g (upd rs (lv * 8 + im) ((rs (lv * 8 + im)).snoc tm id)) (upd X (lv * 8 + im) (.slice (some ⟨g7, 0, none⟩) (n + 1) cap7)) ∧ Below B w (w7.setCell ⟨g, lv * 8 + im, none⟩ (.slice (some ⟨g7, 0, none⟩) (n + 1) cap7)) from fun W w7 g7 cap7 hg hh hbW ho hat => by
    have hW := hT2.same hh
    refine ⟨hW.grown hj (by rw [HX.out]; exact hg) ?_ (fun q hq => ?_), ?_⟩
    · rw [tv_snoc, hn]
      show w7.ownsRow B 40 2 _ ((rs (lv * 8 + im)).n + 1) _
      rw [hn]; exact ho
    · rw [HX.out]
      simp only [Value.ownBlock, Option.some.injEq] at hq
      subst hq
      exact hat
    · exact (hbW.grown hg (Nat.le_trans hB hbW.size) (fun q hq => by rw [← HX.out] at hq; exact ((hW.row _ hj).lt q hq).1)).setCell h.ge _)
  go_wp2_with fail
  go_region_law (refine step_append_lies _ rfl (.tmp 15) (.tmp 17) 52 rfl B 40 i0 _ 2 16 Try.underlying52 hi hz0 hz1 hz2 rfl (by decide) (.slice a n c) n _ (by simp [Act.eval]) (by rw [← HX.out]; exact owns_same HO2.out rfl) ⟨w.heap.size + 1, 0, none⟩ 1 1 [.int .i64 tm, .int .i64 id] (by simp [Act.eval]) rfl (news2 _ _ _ _ _ (by simp)) (by intro u hu; simp at hu; rcases hu with rfl | rfl <;> rfl) (by omega) (by unfold maxLen; omega) (by omega) (by simp; omega) _ rfl ?_; intro g7 cap7 w7 hown7 hgrow7 hat hlt7; obtain ⟨z0, z1⟩ := HG.out _ w7 hgrow7 rfl)
  all_goals
    have HE := hide (HF.out _ w7 g7 cap7 hgrow7 rfl ((hdn.mono hB).alloc (by simp; omega) _).drew hown7 hat)
    clear HF HG hgrow7 hown7 hat z0 z1 HO2 HX hT1 hT2 h
    go_wp2
    go_end0
    exact ⟨⟨rfl, _, HE.out.1⟩, HE.out.2⟩
end Go.Proofs.Ytcodllammndciaa
