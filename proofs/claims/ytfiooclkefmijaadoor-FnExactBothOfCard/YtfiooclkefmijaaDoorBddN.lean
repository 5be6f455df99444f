/-
  The program's shelf of choices: what keep$1 does when a choice comes for the first time.
-/
import Derived.Test.YtfiooclkefmijaaDoorBddK
import Derived.Test.YtfiooclkefmijaaDoorBddQ
import Derived.Test.YtfiooclkefmijaaDoorOwnR
import Derived.Deep.AppendLies
import Derived.Deep.RegionLaw
namespace Go.Proofs.YtfiooclkefmijaaDoor
open Go.RowKit M
open Clk (upd upd_same upd_other)
namespace M
open Bdd
def q2 (a b : Value) : Nat → Value := fun i => if i = 0 then a else b
theorem q2_fst (a b a' : Value) : upd (q2 a b) 0 a' = q2 a' b := by
  funext i; unfold upd q2; by_cases h : i = 0 <;> simp [h]
abbrev c3 (c : Ch) : List Value := [.int .i64 c.v, .int .i64 c.no, .int .i64 c.yes]
def c3f (c : Ch) : Nat → Value := fun i => if i = 0 then .int .i64 c.v else if i = 1 then .int .i64 c.no else .int .i64 c.yes
def fl3 (l : List Ch) : List Value := l.flatMap c3
theorem fl3_snoc (l : List Ch) (c : Ch) : fl3 (l ++ [c]) = fl3 l ++ c3 c := by simp [fl3]
theorem fl3_len (l : List Ch) : (fl3 l).length = l.length * 3 := by
  induction l with
  | nil => rfl
  | cons c r ih => simp only [fl3, List.flatMap_cons, List.length_append, List.length_cons, List.length_nil] at *; omega
theorem news3 (w : World) (a b c : Value) (t : TypeId) (H : Nat) (hH : w.heap.size = H) : ∀ (j : Nat) u, [a, b, c][j]? = some u → (w.alloc (.cells #[a, b, c] t)).cell? ((⟨H, 0, none⟩ : Addr).add j) = some u := by
  subst hH
  intro j u hj
  match j, hj with
  | 0, hj => simp at hj; subst hj; simp [Addr.add]
  | 1, hj => simp at hj; subst hj; simp [Addr.add]
  | 2, hj => simp at hj; subst hj; simp [Addr.add]
theorem Blk.same {w wx : World} {g n : Nat} {f : Nat → Value} {t : TypeId} (h : Blk w g n f t) (hh : wx.heap = w.heap) : Blk wx g n f t := by unfold Blk; rw [hh]; exact h
theorem owns_same {w wx : World} {B e s n : Nat} {v : Value} {xs : List Value} (h : w.ownsRow B e s v n xs) (hh : wx.heap = w.heap) : wx.ownsRow B e s v n xs := by
  refine ⟨h.1, ?_⟩
  rcases h.2 with h0 | ⟨g, cap, cur, hv, hB, hg, r⟩
  · exact .inl h0
  · exact .inr ⟨g, cap, cur, hv, hB, by rw [hh]; exact hg, r⟩
theorem owns_set {w : World} {B e s n g m : Nat} {v : Value} {xs : List Value} {f : Nat → Value} {e' : TypeId} (h : w.ownsRow B e s v n xs) (hb : Blk w g m f e') (hne : e' ≠ e) (i : Nat) (x : Value) : (w.setCell ⟨g, i, none⟩ x).ownsRow B e s v n xs := by
  refine ⟨h.1, ?_⟩
  rcases h.2 with h0 | ⟨g', cap, cur, hv, hB, hg, r⟩
  · exact .inl h0
  · refine .inr ⟨g', cap, cur, hv, hB, ?_, r⟩
    rw [Go.heap_setCell_other]
    · exact hg
    · intro e2
      have e3 : g' = g := e2
      unfold Blk at hb
      rw [← e3, hg] at hb
      simp only [Option.some.injEq, Obj.cells.injEq] at hb
      exact hne hb.2.1.symm
theorem Blk.apart {w : World} {g g' n n' : Nat} {f f' : Nat → Value} {t t' : TypeId} (h : Blk w g n f t) (h' : Blk w g' n' f' t') (hne : t ≠ t') : g ≠ g' := fun e => by
  subst e
  unfold Blk at h h'
  rw [h] at h'
  simp only [Option.some.injEq, Obj.cells.injEq] at h'
  exact hne h'.2.1
theorem Blk.free {w : World} {g n B e s m : Nat} {f : Nat → Value} {t : TypeId} {v : Value} {xs : List Value} (h : Blk w g n f t) (hown : w.ownsRow B e s v m xs) (ht : t ≠ e) : v.ownBlock ≠ some g := by
  rcases hown.2 with ⟨rfl, _⟩ | ⟨g', cap, cur, rfl, _, hb, _⟩
  · simp [Value.ownBlock]
  · simp only [Value.ownBlock]
    intro he
    have he' : g' = g := by simpa using he
    subst he'
    unfold Blk at h
    rw [h] at hb
    simp only [Option.some.injEq, Obj.cells.injEq] at hb
    exact ht hb.2.1
theorem own_ge {w : World} {B e s m : Nat} {v : Value} {xs : List Value} (h : w.ownsRow B e s v m xs) : ∀ k, v.ownBlock = some k → B ≤ k := fun k hk => by
  rcases h.2 with ⟨rfl, _⟩ | ⟨g', cap, cur, rfl, hB, _⟩
  · simp [Value.ownBlock] at hk
  · simp only [Value.ownBlock, Option.some.injEq] at hk
    omega
/-- What the function handed to Do leaves. -/
def Laid (w w2 : World) (B S p n : Nat) (v mv : Value) (xs : List Value) (c : Ch) (f : Nat → Value) : Prop :=
  ∃ g cap, Blk w2 S 2 (q2 (.slice (some ⟨g, 0, none⟩) (n + 1) cap) mv) 82 ∧ w2.ownsRow B 66 3 (.slice (some ⟨g, 0, none⟩) (n + 1) cap) (n + 1) (xs ++ c3 c) ∧ Blk w2 p 4 (upd f 3 (.int .i64 (n : Int))) 110 ∧
    (∀ k, k < w.heap.size → k ≠ S → k ≠ p → v.ownBlock ≠ some k → w2.heap[k]? = w.heap[k]?) ∧ Below B w w2
end M
theorem info_choice : (Tryd.prog.info? 66).map (fun i => (i.zero, i.size, i.bytes)) = some (some (.agg #[.int .i64 0, .int .i64 0, .int .i64 0]), 3, 24) := by kernel_rfl
set_option maxRecDepth 20000 in
set_option maxHeartbeats 4000000 in
theorem keep_first (B S G0 G1 G2 p n : Nat) (v mv : Value) (xs : List Value) (c : Bdd.Ch) (f : Nat → Value) (w : World) (hsB : Blk w G0 1 (fun _ => .pointer (some ⟨S, 0, none⟩)) 91) (hp : w.cell? ⟨G2, 0, none⟩ = some (.pointer (some ⟨p, 0, none⟩))) (hc : Blk w G1 3 (c3f c) 66)
    (hS : Blk w S 2 (q2 v mv) 82) (hP : Blk w p 4 f 110) (hown : w.ownsRow B 66 3 v n xs) (hn : n ≤ 1000) (hBS : B ≤ S) (hBp : B ≤ p) (hB : B ≤ w.heap.size) :
    Calls Tryd.prog 69 #[.pointer (some ⟨G0, 0, none⟩), .pointer (some ⟨G2, 0, none⟩), .pointer (some ⟨G1, 0, none⟩)] w fun e w2 => e = .returned (.tuple #[]) ∧ Laid w w2 B S p n v mv xs c f := by
  obtain ⟨a, cap, rfl⟩ := own_form hown
  obtain ⟨i0, hi, hz0, hz1, hz2⟩ := info_parts info_choice
  have hs := hsB.cell (show 0 < 1 by omega)
  have s0 := hS.cell (show 0 < 2 by omega)
  have s1 := hS.thaw 0
  have p3 := hP.cell (show 3 < 4 by omega)
  have p4 := hP.thaw 3
  have d0 := hc.cell (show 0 < 3 by omega)
  have d1 := hc.cell (show 1 < 3 by omega)
  have d2 := hc.cell (show 2 < 3 by omega)
  simp only [q2, c3f, if_true] at s0 d0 d1 d2
  simp at d1 d2
  go_enter Tryd.func69, Tryd.ntmps69
  go_wp2
  go_region
  obtain ⟨w1, hw1⟩ : ∃ w1, (w.setCell ⟨p, 3, none⟩ (.int .i64 (n : Int))).drew = w1 := ⟨_, rfl⟩
  have hbw1 : Below B w w1 := by rw [← hw1]; exact ((Below.refl B w).setCell (p := ⟨p, 3, none⟩) hBp _).drew
  have hpS : S ≠ p := hS.apart hP (by decide)
  have hB0 : Blk w1 G0 1 (fun _ => .pointer (some ⟨S, 0, none⟩)) 91 := by rw [← hw1]; exact (hsB.set_other (hsB.apart hP (by decide)) 3 _).drew
  have hs1 := hB0.cell (show 0 < 1 by omega)
  have hS1 : Blk w1 S 2 (q2 (.slice a n cap) mv) 82 := by rw [← hw1]; exact (hS.set_other hpS 3 _).drew
  have hP1 : Blk w1 p 4 (upd f 3 (.int .i64 (n : Int))) 110 := by rw [← hw1]; exact (hP.set 3 _).drew
  have hc1 : Blk w1 G1 3 (c3f c) 66 := by rw [← hw1]; exact (hc.set_other (hc.apart hP (by decide)) 3 _).drew
  have hown1 : w1.ownsRow B 66 3 (.slice a n cap) n xs := by rw [← hw1]; exact owns_same (owns_set hown hP (by decide) 3 _) rfl
  have hk1 : ∀ k, k < w.heap.size → k ≠ p → w1.heap[k]? = w.heap[k]? := fun k _ hk => by rw [← hw1]; exact Go.heap_setCell_other _ _ _ _ hk
  have hz1' : w1.heap.size = w.heap.size := by rw [← hw1]; simp
  rw [hw1]
  clear hs hp hc hS hP hown hsB s0 s1 p3 p4 d0 d1 d2 hw1
  have s0 := hS1.cell (show 0 < 2 by omega)
  have s1 := hS1.thaw 0
  have d0 := hc1.cell (show 0 < 3 by omega)
  have d1 := hc1.cell (show 1 < 3 by omega)
  have d2 := hc1.cell (show 2 < 3 by omega)
  simp only [q2, c3f, if_true] at s0 d0 d1 d2
  simp at d1 d2
  have HG := hide (show ∀ W w7 : World, W.grownBy w7 (Value.slice a n cap).ownBlock → W.heap = (w1.alloc (.cells #[.int .i64 c.v, .int .i64 c.no, .int .i64 c.yes] 66)).heap → w7.cell? ⟨S, 0, none⟩ = some (.slice a n cap) ∧ w7.frozen? ⟨S, 0, none⟩ = false ∧ w7.cell? ⟨G0, 0, none⟩ = some (.pointer (some ⟨S, 0, none⟩)) from fun W w7 hg hh => by
    have hW : Blk W S 2 (q2 (.slice a n cap) mv) 82 := (hS1.alloc _).same hh
    have hO : W.ownsRow B 66 3 (.slice a n cap) n xs := owns_same (owns_below hown1 ((Below.refl _ _).alloc (Nat.le_refl _) _)) hh
    have hb := hW.grown hO (by decide) hg
    exact ⟨hb.cell (show 0 < 2 by omega), hb.thaw 0, (((hB0.alloc _).same hh).grown hO (by decide) hg).cell (show 0 < 1 by omega)⟩)
  have HF := hide (show ∀ (W w7 : World) (g7 cap7 : Nat), W.grownBy w7 (Value.slice a n cap).ownBlock → W.heap = (w1.alloc (.cells #[.int .i64 c.v, .int .i64 c.no, .int .i64 c.yes] 66)).heap → Below B w W → w7.ownsRow B 66 3 (.slice (some ⟨g7, 0, none⟩) (n + 1) cap7) (n + 1) (xs ++ c3 c) →
      Laid w (w7.setCell ⟨S, 0, none⟩ (.slice (some ⟨g7, 0, none⟩) (n + 1) cap7)) B S p n (.slice a n cap) mv xs c f from fun W w7 g7 cap7 hg hh hbW ho => by
    have hO : W.ownsRow B 66 3 (.slice a n cap) n xs := owns_same (owns_below hown1 ((Below.refl _ _).alloc (Nat.le_refl _) _)) hh
    have hWS : Blk W S 2 (q2 (.slice a n cap) mv) 82 := (hS1.alloc _).same hh
    have hWP : Blk W p 4 (upd f 3 (.int .i64 (n : Int))) 110 := (hP1.alloc _).same hh
    have hS7 := hWS.grown hO (by decide) hg
    have hP7 := hWP.grown hO (by decide) hg
    have hWz : W.heap.size = w1.heap.size + 1 := by rw [hh]; simp
    refine ⟨g7, cap7, ?_, owns_set ho hS7 (by decide) 0 _, hP7.set_other (fun e => hpS e.symm) 0 _, fun k hk k1 k2 k3 => ?_, ?_⟩
    · have := hS7.set 0 (.slice (some ⟨g7, 0, none⟩) (n + 1) cap7)
      rw [q2_fst] at this
      exact this
    · rw [Go.heap_setCell_other _ _ _ _ k1, hg.block k (by omega) (fun e => k3 e.symm), hh, Below.heap_alloc w1 _ k (by omega)]
      exact hk1 k hk k2
    · exact (hbW.grown hg (by omega) (own_ge hO)).setCell hBS _)
  have hB1 : B ≤ w1.heap.size := by omega
  clear hz1'
  have HOn := hide hown1
  have e0 := (hS1.alloc (.cells #[.int .i64 c.v, .int .i64 c.no, .int .i64 c.yes] 66)).cell (show 0 < 2 by omega)
  simp only [q2, if_true] at e0
  have e1 := (hB0.alloc (.cells #[.int .i64 c.v, .int .i64 c.no, .int .i64 c.yes] 66)).cell (show 0 < 1 by omega)
  clear hS1 hP1 hc1 hown1 hk1 hB0
  go_wp2_with fail
  go_region_law (refine step_append_lies _ rfl (.tmp 15) (.tmp 17) 25 rfl B 66 i0 _ 3 24 Tryd.underlying25 hi hz0 hz1 hz2 rfl (by decide) (.slice a n cap) n xs (by simp [Act.eval]) (owns_same (owns_below HOn.out ((Below.refl _ _).alloc (Nat.le_refl _) _)) rfl) ⟨w1.heap.size, 0, none⟩ 1 1 (c3 c) (by simp [Act.eval]) rfl (news3 _ _ _ _ _ _ (by simp)) (by intro u hu; simp at hu; rcases hu with rfl | rfl | rfl <;> rfl) (by omega) (by unfold maxLen; omega) (by omega) (by simp; omega) _ rfl ?_; intro g7 cap7 w7 hown7 hgrow7 hat hlt7; obtain ⟨z0, z1, z2⟩ := HG.out _ w7 hgrow7 rfl)
  all_goals
    have HE := hide (HF.out _ w7 g7 cap7 hgrow7 rfl ((hbw1.alloc hB1 _).drew) hown7)
    clear HF HG hgrow7 hown7 hat z0 z1 z2 HOn
    go_wp2
    go_end0
    exact ⟨rfl, HE.out⟩
end Go.Proofs.YtfiooclkefmijaaDoor
