/-
  The specification's tick.
-/
import Derived.Test.YtcodllammndciaaWhPI
import Derived.Test.YtcodllammndciaaWhZ
namespace Go.Proofs.Ytcodllammndciaa
open Go.RowKit M
open Clk (upd upd_same upd_other)
open Go.Sort (grow)
namespace M
theorem blk_ne {w : World} {g g' n n' : Nat} {f f' : Nat → Value} {t t' : TypeId} (h : Blk w g n f t) (h' : Blk w g' n' f' t') (hne : t ≠ t') : g ≠ g' := fun e => by
  subst e
  unfold Blk at h h'
  rw [h] at h'
  simp only [Option.some.injEq, Obj.cells.injEq] at h'
  exact hne h'.2.1
/-- The state of the specification's tick. -/
structure SkI (B gH cH : Nat) (t : Int) (w0 w : World) (s : (Nat → Rw) × List Int) (X : Nat → Value) (v : Value) : Prop where
  ow : OW 24 w B (.slice (some ⟨gH, 0, none⟩) 24 cH) s.1 X
  due : w.ownsRow w0.heap.size 3 1 v s.2.length (pvi (srt s.2))
  bx : Blk w w0.heap.size 2 (p2 (.int .i64 t) (.slice (some ⟨gH, 0, none⟩) 24 cH)) 24
  re : Blk w (w0.heap.size + 1) 2 (p2 (.int .i64 0) (.slice none 0 0)) 24
  kp : KpI w0 w
  bel : Below B w0 w
  hB : B ≤ w0.heap.size
theorem SkI.sz {B gH cH : Nat} {t : Int} {w0 w : World} {s : (Nat → Rw) × List Int} {X : Nat → Value} {v : Value} (h : SkI B gH cH t w0 w s X v) : B ≤ w.heap.size ∧ w0.heap.size + 2 ≤ w.heap.size := ⟨Nat.le_trans h.hB h.bel.size, by have := h.re.lt; omega⟩
theorem SkI.down {B gH cH : Nat} {t : Int} {w0 w w' : World} {s : (Nat → Rw) × List Int} {X : Nat → Value} {v : Value} (h : SkI B gH cH t w0 w s X v) (hb : Below w.heap.size w w') : SkI B gH cH t w0 w' s X v :=
  ⟨h.ow.down hb, owns_below h.due hb, h.bx.down hb, h.re.down hb, h.kp.below hb, h.bel.trans (hb.mono h.sz.1), h.hB⟩
theorem SkI.same {B gH cH : Nat} {t : Int} {w0 w wx : World} {s : (Nat → Rw) × List Int} {X : Nat → Value} {v : Value} (h : SkI B gH cH t w0 w s X v) (hh : wx.heap = w.heap) (hb : Below B w0 wx) : SkI B gH cH t w0 wx s X v :=
  ⟨h.ow.same hh, owns_same h.due hh, h.bx.same hh, h.re.same hh, fun B' u n xs hu => owns_same (h.kp B' u n xs hu) hh, hb, h.hB⟩
theorem AsideT.down {w w' : World} {B : Nat} {X : Nat → Value} {u : Value} {n : Nat} {f : Nat → Int} (h : AsideT w B X u n f) (hb : Below w.heap.size w w') : AsideT w' B X u n f := ⟨owns_below h.1 hb, h.2⟩
theorem SkI.putI {B gH cH : Nat} {t : Int} {w0 w w' : World} {s : (Nat → Rw) × List Int} {X : Nat → Value} {v v' : Value} {id : Int} (h : SkI B gH cH t w0 w s X v) (hb : Below w.heap.size w w') (hv : w'.ownsRow w.heap.size 3 1 v' (s.2.length + 1) (pvi (insL (srt s.2) id))) : SkI B gH cH t w0 w' (s.1, s.2 ++ [id]) X v' := by
  have h1 := h.down hb
  refine ⟨h1.ow, ?_, h1.bx, h1.re, h1.kp, h1.bel, h1.hB⟩
  show w'.ownsRow _ _ _ _ (s.2 ++ [id]).length (pvi (srt (s.2 ++ [id])))
  rw [← ins_srt, List.length_append]
  exact owns_mono hv h.bel.size
/-- What a slot had is taken out of it. -/
theorem SkI.empty {B gH cH : Nat} {t : Int} {w0 w : World} {s : (Nat → Rw) × List Int} {X : Nat → Value} {v : Value} (h : SkI B gH cH t w0 w s X v) {k : Nat} (hk : k < 24) :
    SkI B gH cH t w0 (w.setCell ⟨gH, k, none⟩ (.slice none 0 0)) (upd s.1 k noRow, s.2) (upd X k (.slice none 0 0)) v ∧ AsideT (w.setCell ⟨gH, k, none⟩ (.slice none 0 0)) B (upd X k (.slice none 0 0)) (X k) (s.1 k).n (s.1 k).f := by
  obtain ⟨hc, H, hb, hH⟩ := own_blk1 h.ow.hd
  have hgB : B ≤ gH := (h.ow.hd.lt gH rfl).1
  refine ⟨⟨⟨?_, fun i hi => ?_, fun i j hi hj hij q hq => ?_⟩, owns_set h.due hb (by decide) _ _, h.bx.set_other (blk_ne h.bx hb (by decide)) _ _, h.re.set_other (blk_ne h.re hb (by decide)) _ _, fun B' u n xs hu => owns_set (h.kp B' u n xs hu) hb (by decide) _ _, h.bel.setCell hgB _, h.hB⟩, owns_set (h.ow.row k hk) hb (by decide) _ _, fun i hi q hq => ?_⟩
  · rw [← hdr_set]; exact own_set_in h.ow.hd k _
  · show (w.setCell ⟨gH, k, none⟩ (.slice none 0 0)).ownsRow B 40 2 (upd X k (.slice none 0 0) i) (upd s.1 k noRow i).n (tv (upd s.1 k noRow i).n (upd s.1 k noRow i).f)
    by_cases e : i = k
    · subst e; rw [upd_same, upd_same]; exact World.ownsRow_nil _ _ _ _
    · rw [upd_other _ _ _ _ e, upd_other _ _ _ _ e]; exact owns_set (h.ow.row i hi) hb (by decide) _ _
  · by_cases e : i = k
    · subst e; rw [upd_same] at hq; cases hq
    · rw [upd_other _ _ _ _ e] at hq
      by_cases e' : j = k
      · subst e'; rw [upd_same]; intro h2; cases h2
      · rw [upd_other _ _ _ _ e']; exact h.ow.apart i j hi hj hij q hq
  · by_cases e : i = k
    · subst e; rw [upd_same]; intro h2; cases h2
    · rw [upd_other _ _ _ _ e]; exact h.ow.apart k i hk hi (fun e' => e e'.symm) q hq
/-- A timer is put behind those of a slot. -/
theorem SkI.putT {B gH cH : Nat} {t : Int} {w0 w w7 : World} {s : (Nat → Rw) × List Int} {X : Nat → Value} {v : Value} (h : SkI B gH cH t w0 w s X v) {k : Nat} (hk : k < 24) {g7 n7 c7 : Nat} {r : Rw} (hg : w.grownBy w7 (X k).ownBlock) (ho : w7.ownsRow B 40 2 (.slice (some ⟨g7, 0, none⟩) n7 c7) r.n (tv r.n r.f)) (hat : (X k).ownBlock = some g7 ∨ g7 = w.heap.size) :
    SkI B gH cH t w0 (w7.setCell ⟨gH, k, none⟩ (.slice (some ⟨g7, 0, none⟩) n7 c7)) (upd s.1 k r, s.2) (upd X k (.slice (some ⟨g7, 0, none⟩) n7 c7)) v ∧ ∀ u n f, AsideT w B X u n f → AsideT (w7.setCell ⟨gH, k, none⟩ (.slice (some ⟨g7, 0, none⟩) n7 c7)) B (upd X k (.slice (some ⟨g7, 0, none⟩) n7 c7)) u n f := by
  obtain ⟨hc, H, hb, hH⟩ := own_blk1 (h.ow.grownHd hk hg)
  have hgB : B ≤ gH := (h.ow.hd.lt gH rfl).1
  have hri : ∀ {B' n : Nat} {u : Value} {xs : List Value}, w.ownsRow B' 3 1 u n xs → w7.ownsRow B' 3 1 u n xs := fun hu => owns_other hu hg (fun q hq e => owns_type hu (h.ow.row k hk) (by decide) q hq e.symm)
  refine ⟨⟨ow_put h.ow hk hg ho (fun q hq => by simp only [Value.ownBlock, Option.some.injEq] at hq; subst hq; exact hat), owns_set (hri h.due) hb (by decide) _ _, ?_, ?_, fun B' u n xs hu => owns_set (hri (h.kp B' u n xs hu)) hb (by decide) _ _, ?_, h.hB⟩, fun u n f hu => ⟨?_, fun i hi q hq => ?_⟩⟩
  · have h1 := h.bx.grown (h.ow.row k hk) (by decide) hg
    exact h1.set_other (blk_ne h1 hb (by decide)) _ _
  · have h1 := h.re.grown (h.ow.row k hk) (by decide) hg
    exact h1.set_other (blk_ne h1 hb (by decide)) _ _
  · exact (h.bel.grown hg h.sz.1 (fun q hq => ((h.ow.row k hk).lt q hq).1)).setCell hgB _
  · exact owns_set (owns_other hu.1 hg (fun q hq e => hu.2 k hk q hq e.symm)) hb (by decide) _ _
  · by_cases e : i = k
    · subst e
      rw [upd_same]
      intro h2
      simp only [Value.ownBlock, Option.some.injEq] at h2
      subst h2
      rcases hat with h3 | h3
      · exact hu.2 i hi _ hq h3
      · have := (hu.1.lt _ hq).2; omega
    · rw [upd_other _ _ _ _ e]; exact hu.2 i hi q hq
theorem slotN_of {now tm : Int} (h : (slotA now tm).2 = true) : slotN now tm = (slotA now tm).1 := by
  have hg := slotA_lies h
  rw [slotA_of hg.1 hg.2.1] at h ⊢
  unfold slotN
  cases hs : slotF now tm with
  | none => rw [hs] at h; cases h
  | some k => rfl
end M
end Go.Proofs.Ytcodllammndciaa
