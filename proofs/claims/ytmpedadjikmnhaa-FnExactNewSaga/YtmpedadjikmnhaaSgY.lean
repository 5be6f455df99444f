/-
  The specification's NewSaga.
-/
import Derived.Test.YtmpedadjikmnhaaSgW
namespace Go.Proofs.Ytmpedadjikmnhaa
open Go.RowKit M
open Clk (upd upd_same upd_other)
open Go.Sort (grow)
set_option maxRecDepth 20000 in
set_option maxHeartbeats 4000000 in
theorem spec_new (v0 v1 : Value) (s : Sg) (b : Bool) (w : World) (hv : SagQ w v0 v1 s.na s.fa s.nm (fl s.fm)) (hs : ShortS s.na s.nm) (h0 : s.dn = 0 ∧ s.un = false) (hb : b = true ↔ GoodS s) (r : Sg) (hr : (if b = true then s else zeroS) = r) :
    Calls Try.prog 12 #[v0, v1] w fun e w' => Out w.heap.size r b e w' ∧ Below w.heap.size w w' := by
  have HV := hide hv
  have HS := hide hs
  have HB := hide hb
  have HRr := hide hr
  obtain ⟨a0, c0, rfl⟩ := hv.1.form
  obtain ⟨a1, c1, rfl⟩ := hv.2.form
  clear hv hs hb hr
  obtain ⟨hd0, hu0⟩ := h0
  obtain ⟨W, hW⟩ : ∃ W, (w.alloc (.cells #[.slice none 0 0, .slice none 0 0, .int .i64 0, .bool false] 27)).alloc (.cells #[.slice a0 s.na c0, .slice a1 s.nm c1, .int .i64 0, .bool false] 27) = W := ⟨_, rfl⟩
  have HE0 := hide (show Blk W w.heap.size 4 (p4 (.slice none 0 0) (.slice none 0 0) (.int .i64 0) (.bool false)) 27 from by subst hW; exact (new4 w _ _ _ _ _).alloc _)
  have HD0 := hide (show Blk W (w.heap.size + 1) 4 (p4 (.slice a0 s.na c0) (.slice a1 s.nm c1) (.int .i64 0) (.bool false)) 27 from by subst hW; have := new4 (w.alloc (.cells #[.slice none 0 0, .slice none 0 0, .int .i64 0, .bool false] 27)) (.slice a0 s.na c0) (.slice a1 s.nm c1) (.int .i64 0) (.bool false) 27; rw [World.size_alloc] at this; exact this)
  have hb0 : Below w.heap.size w W := by subst hW; exact ((Below.refl _ w).alloc (Nat.le_refl _) _).alloc (by simp) _
  have HSG := hide (show ∀ W, SagQ W (.slice a0 s.na c0) (.slice a1 s.nm c1) s.na s.fa s.nm (fl s.fm) → Calls Try.prog 24 #[.agg #[.slice a0 s.na c0, .slice a1 s.nm c1, .int .i64 0, .bool false]] W fun e w' => e = .returned (.bool b) ∧ Below W.heap.size W w' from fun W hW => by
    have := spec_good (.slice a0 s.na c0) (.slice a1 s.nm c1) s b W hW HS.out HB.out
    rw [sgv, hd0, hu0] at this; exact this)
  have HOw := hide (show b = true → ∀ W, SagQ W (.slice a0 s.na c0) (.slice a1 s.nm c1) s.na s.fa s.nm (fl s.fm) → Calls Try.prog 41 #[.agg #[.slice a0 s.na c0, .slice a1 s.nm c1, .int .i64 0, .bool false]] W fun e w' => (∃ u0 u1, e = .returned (.agg #[u0, u1, .int .i64 0, .bool false]) ∧ AnsS w' W.heap.size u0 u1 s) ∧ Below W.heap.size W w' from fun h W hW => by
    have := l9own (.slice a0 s.na c0) (.slice a1 s.nm c1) s W hW (short_good (HB.out.1 h))
    simp only [sgv, hd0, hu0] at this; exact this)
  have HDU := hide (And.intro hd0 hu0)
  have HWW := hide hW
  clear hW HS HB hd0 hu0
  go_enter Try.func12, Try.ntmps12
  go_wp2_with fail
  rw [HWW.out]
  clear HWW
  refine (HSG.out _ (HV.out.below hb0)).mono ?_
  rintro e w1 ⟨rfl, hb⟩
  have hb1 := hb0.trans (hb.mono hb0.size)
  have hE1 := HE0.out.down hb
  have hD1 := HD0.out.down hb
  clear hb hb0 HE0 HD0 HSG
  obtain ⟨⟨d0, d1, d2, d3⟩, -⟩ := hD1.quad
  obtain ⟨⟨e0, e1, e2, e3⟩, h0, h1, h2, h3⟩ := hE1.quad
  cases b with
  | false =>
    obtain ⟨WZ, hWZ⟩ : ∃ WZ, (((w1.setCell ⟨w.heap.size, 0, none⟩ (.slice none 0 0)).setCell ⟨w.heap.size, 1, none⟩ (.slice none 0 0)).setCell ⟨w.heap.size, 2, none⟩ (.int .i64 0)).setCell ⟨w.heap.size, 3, none⟩ (.bool false) = WZ := ⟨_, rfl⟩
    have HZ := hide (put4 hE1 hb1 (Nat.le_refl _) _ _ _ _ WZ hWZ)
    have HWZ := hide hWZ
    clear hWZ hE1 hD1 hb1 HV HOw
    go_wp2
    rw [HWZ.out]
    clear e0 e1 e2 e3 h0 h1 h2 h3 d0 d1 d2 d3
    obtain ⟨⟨e0, e1, e2, e3⟩, -⟩ := HZ.out.1.quad
    exact bodyPost_ret (v := .tuple #[.agg #[.slice none 0 0, .slice none 0 0, .int .i64 0, .bool false], .bool false]) (by simp [results, Try.results12, go_sem, e0, e1, e2, e3]) rfl (by have e1 := HRr.out; rw [← e1]; exact ⟨⟨_, _, rfl, ans_zero _ _⟩, HZ.out.2.1⟩)
  | true =>
    have hOw := HOw.out rfl _ (HV.out.below hb1)
    have HO := hide hOw
    have HE1 := hide hE1
    clear HV HOw hOw hE1 hD1 e0 e1 e2 e3 h0 h1 h2 h3
    go_wp2_with fail
    refine HO.out.mono ?_
    rintro e w2 ⟨⟨u0, u1, rfl, hA⟩, hb⟩
    have hb2 := hb1.trans (hb.mono hb1.size)
    have hE2 := HE1.out.down hb
    obtain ⟨a3, c3, rfl⟩ := hA.q.1.form
    obtain ⟨a4, c4, rfl⟩ := hA.q.2.form
    have HA := hide hA
    have hs1 := hb1.size
    clear hb hb1 HE1 HO hA d0 d1 d2 d3
    obtain ⟨⟨e0, e1, e2, e3⟩, h0, h1, h2, h3⟩ := hE2.quad
    obtain ⟨WZ, hWZ⟩ : ∃ WZ, (((w2.setCell ⟨w.heap.size, 0, none⟩ (.slice a3 s.na c3)).setCell ⟨w.heap.size, 1, none⟩ (.slice a4 s.nm c4)).setCell ⟨w.heap.size, 2, none⟩ (.int .i64 0)).setCell ⟨w.heap.size, 3, none⟩ (.bool false) = WZ := ⟨_, rfl⟩
    have HZ := hide (put4 hE2 hb2 (Nat.le_refl _) _ _ _ _ WZ hWZ)
    have HWZ := hide hWZ
    clear hWZ hE2 hb2
    go_wp2
    rw [HWZ.out]
    clear e0 e1 e2 e3 h0 h1 h2 h3
    obtain ⟨⟨e0, e1, e2, e3⟩, -⟩ := HZ.out.1.quad
    exact bodyPost_ret (v := .tuple #[.agg #[.slice a3 s.na c3, .slice a4 s.nm c4, .int .i64 0, .bool false], .bool true]) (by simp [results, Try.results12, go_sem, e0, e1, e2, e3]) rfl (by have e1 := HRr.out; rw [if_pos (by trivial)] at e1; rw [← e1]; exact ⟨⟨.slice a3 s.na c3, .slice a4 s.nm c4, by rw [sgv, HDU.out.1, HDU.out.2], (HZ.out.2.2.2.1 HA.out).mono hs1 (by rw [HZ.out.2.2.1]; exact Nat.le_refl _)⟩, HZ.out.2.1⟩)
end Go.Proofs.Ytmpedadjikmnhaa
