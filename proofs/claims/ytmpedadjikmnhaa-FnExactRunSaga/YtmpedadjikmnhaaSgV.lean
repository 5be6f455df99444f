/-
  The specification's copy of a good saga: l9Own.
-/
import Derived.Test.YtmpedadjikmnhaaSgU
namespace Go.Proofs.Ytmpedadjikmnhaa
open Go.RowKit M
open Clk (upd upd_same upd_other)
open Go.Sort (grow)
set_option maxRecDepth 20000 in
set_option maxHeartbeats 4000000 in
theorem l9own (v0 v1 : Value) (s : Sg) (w : World) (hv : SagQ w v0 v1 s.na s.fa s.nm (fl s.fm)) (hs : 1 ≤ s.na ∧ s.na ≤ 8 ∧ s.nm ≤ 20) :
    Calls Try.prog 41 #[sgv v0 v1 s] w fun e w' => (∃ u0 u1, e = .returned (sgv u0 u1 s) ∧ AnsS w' w.heap.size u0 u1 s) ∧ Below w.heap.size w w' := by
  obtain ⟨i0, hi, hz0, hz1, hz2⟩ := info_parts info_int
  obtain ⟨j0, ji, jz0, jz1, jz2⟩ := info_parts info_move
  obtain ⟨na, fa, nm, fm, dn, un⟩ := s
  simp only at *
  obtain ⟨⟨a0, c0, rfl, hr0⟩, ⟨a1, c1, rfl, hr1⟩⟩ := hv
  obtain ⟨hs1, hs2, hs3⟩ := hs
  obtain ⟨bb, off, rfl, hbb, hrow⟩ := hr0 (by omega)
  obtain ⟨W, hW⟩ : ∃ W, (w.alloc (.cells #[.slice (some ⟨bb, off, none⟩) na c0, .slice a1 nm c1, .int .i64 dn, .bool un] 27)).alloc (.cells #[.slice none 0 0, .slice none 0 0, .int .i64 0, .bool false] 27) = W := ⟨_, rfl⟩
  have hD0 : Blk W w.heap.size 4 (p4 (.slice (some ⟨bb, off, none⟩) na c0) (.slice a1 nm c1) (.int .i64 dn) (.bool un)) 27 := by subst hW; exact (new4 w _ _ _ _ _).alloc _
  have hE0 : Blk W (w.heap.size + 1) 4 (p4 (.slice none 0 0) (.slice none 0 0) (.int .i64 0) (.bool false)) 27 := by subst hW; have := new4 (w.alloc (.cells #[.slice (some ⟨bb, off, none⟩) na c0, .slice a1 nm c1, .int .i64 dn, .bool un] 27)) (.slice none 0 0) (.slice none 0 0) (.int .i64 0) (.bool false) 27; rw [World.size_alloc] at this; exact this
  have hb0 : Below w.heap.size w W := by subst hW; exact ((Below.refl _ w).alloc (Nat.le_refl _) _).alloc (by simp) _
  have hsW : W.heap.size = w.heap.size + 2 := by subst hW; simp
  have hdn := (Below.refl W.heap.size W).alloc (Nat.le_refl _) (.cells #[] 3)
  have hO := own_empty W 3 1
  have hnews : ∀ q u, (tv1 na fa)[q]? = some u → (W.alloc (.cells #[] 3)).cell? ((⟨bb, off, none⟩ : Addr).add q) = some u := by
    intro q u hj
    have hjn : q < na := by have := (List.getElem?_eq_some_iff.1 hj).1; rwa [tv1_len] at this
    rw [tv1_get hjn] at hj
    cases hj
    rw [show (⟨bb, off, none⟩ : Addr).add q = ⟨bb, off + q, none⟩ by unfold Addr.add; split <;> simp_all]
    exact ((hb0.trans (hdn.mono hb0.size)).cell (p := ⟨bb, off + q, none⟩) hbb).trans (hrow q hjn)
  have hD1 := hD0.down hdn
  have hE1 := hE0.down hdn
  obtain ⟨⟨d0, d1, d2, d3⟩, g0, g1, g2, g3⟩ := hD1.quad
  rw [← hW] at hO hnews d0 d1 d2 d3 g0 g1 g2 g3
  have HNw := hide hnews
  have HTv := hide (show (tv1 na fa).length = na * 1 by rw [tv1_len, Nat.mul_one])
  simp only [World.size_alloc] at hO
  have HR1 := hide hr1
  have HWW := hide hW
  clear hnews hrow hr0 hr1 hW
  go_enter Try.func41, Try.ntmps41
  go_wp2_with (at_builtin; refine wpList_append_own _ rfl _ _ 22 rfl (w.heap.size + 1 + 1) 3 i0 _ 1 8 Try.underlying22 hi hz0 hz1 hz2 rfl (by decide) _ 0 _ rfl hO ⟨bb, off, none⟩ na c0 (tv1 na fa) rfl HTv.out HNw.out tv1_one (by unfold maxLen; omega) (by omega) (by simp) ?_)
  rw [HWW.out] at hO ⊢
  intro v7 w7 hown7 hgrow7 _
  have hD7 := hD1.grown hO (by decide) hgrow7
  have hE7 := hE1.grown hO (by decide) hgrow7
  have hb7 : Below w.heap.size w w7 := (hb0.trans (hdn.mono hb0.size)).grown hgrow7 (by simp; omega) (fun q hq => by have := (hO.lt q hq).1; omega)
  have hI7 := (own_I hown7).mono (show w.heap.size ≤ w.heap.size + 1 + 1 by omega) (Nat.le_refl _)
  obtain ⟨aU, cU, rfl⟩ := own_form hown7
  clear hgrow7 hown7 hO HNw HTv hD0 hD1 hE0 hE1 hdn hb0 HWW hsW d0 d1 d2 d3 g0 g1 g2 g3
  obtain ⟨⟨d0, d1, d2, d3⟩, g0, g1, g2, g3⟩ := hD7.quad
  obtain ⟨⟨e0, e1, e2, e3⟩, h0, h1, h2, h3⟩ := hE7.quad
  obtain ⟨W8, hW8⟩ : ∃ W8, w7.setCell ⟨w.heap.size, 0, none⟩ (.slice aU na cU) = W8 := ⟨_, rfl⟩
  have hD8 : Blk W8 w.heap.size 4 (p4 (.slice aU na cU) (.slice a1 nm c1) (.int .i64 dn) (.bool un)) 27 := by rw [← hW8]; exact hD7.quad0 _
  have hE8 : Blk W8 (w.heap.size + 1) 4 (p4 (.slice none 0 0) (.slice none 0 0) (.int .i64 0) (.bool false)) 27 := by rw [← hW8]; exact hE7.set_other (by omega) _ _
  have hI8 : OwnI W8 w.heap.size W8.heap.size (.slice aU na cU) na fa := by rw [← hW8]; exact (hI7.setS hD7 _ _).mono (Nat.le_refl _) (by simp)
  have hb8 : Below w.heap.size w W8 := by rw [← hW8]; exact hb7.setCell (p := ⟨w.heap.size, 0, none⟩) (Nat.le_refl _) _
  have hdn := (Below.refl W8.heap.size W8).alloc (Nat.le_refl _) (.cells #[] 55)
  have hs8 := hE8.lt
  have n7 : w.heap.size < w7.heap.size := hD7.lt
  have n8 : w.heap.size + 1 < w7.heap.size := hE7.lt
  have n7' : w.heap.size ≠ w7.heap.size := by omega
  have n8' : w.heap.size + 1 ≠ w7.heap.size := by omega
  cases a1 with
  | none =>
    have hnm : nm = 0 := by
      rcases Nat.eq_zero_or_pos nm with h | h
      · exact h
      · obtain ⟨_, _, h2, _⟩ := HR1.out h; cases h2
    subst hnm
    have HF := hide (And.intro hD7 (And.intro hE7 (And.intro hI7 hb7)))
    clear hD7 hE7 hI7 hb7 hD8 hE8 hI8 hb8 hdn hs8 hW8 HR1
    obtain ⟨xx, hxx⟩ : ∃ xx : Value, .slice (some ⟨w7.heap.size, 0, none⟩) 0 0 = xx := ⟨_, rfl⟩
    have HZ := hide (show ∀ WZ, WZ = ((((((w7.setCell ⟨w.heap.size, 0, none⟩ (.slice aU na cU)).setCell ⟨w.heap.size, 1, none⟩ xx).setCell ⟨w.heap.size + 1, 0, none⟩ (.slice aU na cU)).setCell ⟨w.heap.size + 1, 1, none⟩ xx).setCell ⟨w.heap.size + 1, 2, none⟩ (.int .i64 dn)).setCell ⟨w.heap.size + 1, 3, none⟩ (.bool un)).alloc (.cells #[] 55) → Blk WZ (w.heap.size + 1) 4 (p4 (.slice aU na cU) xx (.int .i64 dn) (.bool un)) 27 ∧ Below w.heap.size w WZ ∧ AnsQ WZ w.heap.size WZ.heap.size (.slice aU na cU) xx na fa 0 (fl fm) from fun WZ hWZ => by
      rw [hWZ]
      obtain ⟨f1, f2, f3, f4⟩ := HF.out
      have k0 := (f2.set_other (show w.heap.size + 1 ≠ w.heap.size by omega) 0 (.slice aU na cU)).set_other (show w.heap.size + 1 ≠ w.heap.size by omega) 1 xx
      have m1 := f1.quad0 (.slice aU na cU)
      have hA : OwnI _ w.heap.size w7.heap.size (.slice aU na cU) na fa := ((((((f3.setS f1 0 (.slice aU na cU)).setS m1 1 xx).setS k0 0 (.slice aU na cU)).setS (k0.quad0 _) 1 xx).setS ((k0.quad0 _).quad1 _) 2 (.int .i64 dn)).setS (((k0.quad0 _).quad1 _).quad2 _) 3 (.bool un))
      have hdn := fun (X : World) => (Below.refl X.heap.size X).alloc (Nat.le_refl _) (.cells #[] 55)
      have hbz := ((((((f4.setCell (p := ⟨w.heap.size, 0, none⟩) (Nat.le_refl _) (.slice aU na cU)).setCell (p := ⟨w.heap.size, 1, none⟩) (Nat.le_refl _) xx).setCell (p := ⟨w.heap.size + 1, 0, none⟩) (show w.heap.size ≤ w.heap.size + 1 by omega) (.slice aU na cU)).setCell (p := ⟨w.heap.size + 1, 1, none⟩) (show w.heap.size ≤ w.heap.size + 1 by omega) xx).setCell (p := ⟨w.heap.size + 1, 2, none⟩) (show w.heap.size ≤ w.heap.size + 1 by omega) (.int .i64 dn)).setCell (p := ⟨w.heap.size + 1, 3, none⟩) (show w.heap.size ≤ w.heap.size + 1 by omega) (.bool un))
      refine ⟨((((k0.quad0 _).quad1 _).quad2 _).quad3 _).alloc _, hbz.trans ((hdn _).mono hbz.size), (hA.down (hdn _)).mono (Nat.le_refl _) (by simp), ?_⟩
      rw [← hxx]
      exact ⟨_, _, rfl, Nat.le_refl _, fun h => absurd h (Nat.lt_irrefl _)⟩)
    have HX := hide hxx
    obtain ⟨WZ, hWZ⟩ : ∃ WZ, ((((((w7.setCell ⟨w.heap.size, 0, none⟩ (.slice aU na cU)).setCell ⟨w.heap.size, 1, none⟩ xx).setCell ⟨w.heap.size + 1, 0, none⟩ (.slice aU na cU)).setCell ⟨w.heap.size + 1, 1, none⟩ xx).setCell ⟨w.heap.size + 1, 2, none⟩ (.int .i64 dn)).setCell ⟨w.heap.size + 1, 3, none⟩ (.bool un)).alloc (.cells #[] 55) = WZ := ⟨_, rfl⟩
    have HWZ := hide hWZ
    clear hxx HF hWZ
    go_wp2
    rw [HX.out, HWZ.out]
    clear d0 d1 d2 d3 g0 g1 g2 g3 e0 e1 e2 e3 h0 h1 h2 h3
    have hz := HZ.out _ HWZ.out.symm
    obtain ⟨⟨e0, e1, e2, e3⟩, -⟩ := hz.1.quad
    exact bodyPost_ret (v := .agg #[.slice aU na cU, xx, .int .i64 dn, .bool un]) (by simp [results, Try.results41, go_sem, e0, e1, e2, e3]) rfl ⟨⟨_, _, rfl, hz.2.2⟩, hz.2.1⟩
  | some ad =>
    have hO := own_empty W8 55 3
    have hnews : ∀ q u, (tv3 nm (fl fm))[q]? = some u → (W8.alloc (.cells #[] 55)).cell? (ad.add q) = some u := by
      intro q u hj
      have hjn : q < nm * 3 := by have := (List.getElem?_eq_some_iff.1 hj).1; rwa [tv3_len] at this
      rw [tv3_get hjn] at hj
      cases hj
      obtain ⟨b2, o2, p1, p2, p3⟩ := HR1.out (by omega)
      cases p1
      rw [show (⟨b2, o2, none⟩ : Addr).add q = ⟨b2, o2 + q, none⟩ by unfold Addr.add; split <;> simp_all]
      exact ((hb8.trans (hdn.mono hb8.size)).cell (p := ⟨b2, o2 + q, none⟩) p2).trans (p3 q hjn)
    have hD9 := hD8.down hdn
    have hE9 := hE8.down hdn
    have hI9 := hI8.down hdn
    rw [← hW8] at hO hnews
    have HNw := hide hnews
    have HTv := hide (tv3_len nm (fl fm))
    simp only [World.size_setCell] at hO
    have HWW := hide hW8
    clear hnews hW8
    go_wp2_with (at_builtin; refine wpList_append_own _ rfl _ _ 25 rfl w7.heap.size 55 j0 _ 3 24 Try.underlying25 ji jz0 jz1 jz2 rfl (by decide) _ 0 _ rfl hO ad nm c1 (tv3 nm (fl fm)) rfl HTv.out HNw.out tv3_one (by unfold maxLen; omega) (by omega) (by simp) ?_)
    rw [HWW.out] at hO ⊢
    intro vX w9 hownX hgrowX _
    have hDX := hD9.grown hO (by decide) hgrowX
    have hEX := hE9.grown hO (by decide) hgrowX
    have hbX : Below w.heap.size w w9 := (hb8.trans (hdn.mono hb8.size)).grown hgrowX (by simp; omega) (fun q hq => by have := (hO.lt q hq).1; omega)
    have hV9 := (own_V hownX).mono (show w.heap.size ≤ w7.heap.size by omega) (Nat.le_refl _)
    have hIX : OwnI w9 w.heap.size w9.heap.size (.slice aU na cU) na fa := by
      have hgs := hgrowX.size
      obtain ⟨a', c', e', hr'⟩ := hI9
      refine ⟨a', c', e', fun hn => ?_⟩
      obtain ⟨b', c'', q1, q2, q3, q4, k', q5, q6⟩ := hr' hn
      refine ⟨b', c'', q1, q2, ?_, q4, k', q5.grown hO (by decide) hgrowX, q6⟩
      have := (q5.grown hO (by decide) hgrowX).lt
      omega
    obtain ⟨aX, cX, rfl⟩ := own_form hownX
    clear hgrowX hownX hO HNw HTv hD8 hD9 hE8 hE9 hdn hb8 HWW d0 d1 d2 d3 g0 g1 g2 g3 e0 e1 e2 e3 h0 h1 h2 h3 hI7 hI8 hI9 hD7 hE7 hb7 HR1
    obtain ⟨⟨d0, d1, d2, d3⟩, g0, g1, g2, g3⟩ := hDX.quad
    obtain ⟨⟨e0, e1, e2, e3⟩, h0, h1, h2, h3⟩ := hEX.quad
    obtain ⟨WZ, hWZ⟩ : ∃ WZ, ((((w9.setCell ⟨w.heap.size, 1, none⟩ (.slice aX nm cX)).setCell ⟨w.heap.size + 1, 0, none⟩ (.slice aU na cU)).setCell ⟨w.heap.size + 1, 1, none⟩ (.slice aX nm cX)).setCell ⟨w.heap.size + 1, 2, none⟩ (.int .i64 dn)).setCell ⟨w.heap.size + 1, 3, none⟩ (.bool un) = WZ := ⟨_, rfl⟩
    have HZ := hide (show Blk WZ (w.heap.size + 1) 4 (p4 (.slice aU na cU) (.slice aX nm cX) (.int .i64 dn) (.bool un)) 27 ∧ Below w.heap.size w WZ ∧ AnsQ WZ w.heap.size WZ.heap.size (.slice aU na cU) (.slice aX nm cX) na fa nm (fl fm) from by
      rw [← hWZ]
      have k1 := hEX.set_other (show w.heap.size + 1 ≠ w.heap.size by omega) 1 (.slice aX nm cX)
      refine ⟨(((k1.quad0 _).quad1 _).quad2 _).quad3 _, ((((hbX.setCell (p := ⟨w.heap.size, 1, none⟩) (Nat.le_refl _) _).setCell (p := ⟨w.heap.size + 1, 0, none⟩) (show w.heap.size ≤ w.heap.size + 1 by omega) _).setCell (p := ⟨w.heap.size + 1, 1, none⟩) (show w.heap.size ≤ w.heap.size + 1 by omega) _).setCell (p := ⟨w.heap.size + 1, 2, none⟩) (show w.heap.size ≤ w.heap.size + 1 by omega) _).setCell (p := ⟨w.heap.size + 1, 3, none⟩) (show w.heap.size ≤ w.heap.size + 1 by omega) _, ?_⟩
      have hA : AnsQ w9 w.heap.size w9.heap.size (.slice aU na cU) (.slice aX nm cX) na fa nm (fl fm) := ⟨hIX, hV9⟩
      have := ((((hA.setS hDX 1 (.slice aX nm cX)).setS k1 0 (.slice aU na cU)).setS (k1.quad0 _) 1 (.slice aX nm cX)).setS ((k1.quad0 _).quad1 _) 2 (.int .i64 dn)).setS (((k1.quad0 _).quad1 _).quad2 _) 3 (.bool un)
      exact this.mono (Nat.le_refl _) (by simp))
    have HWZ := hide hWZ
    clear hIX hV9 hDX hEX hWZ hbX hs8
    go_wp2
    rw [HWZ.out]
    clear d0 d1 d2 d3 g0 g1 g2 g3 e0 e1 e2 e3 h0 h1 h2 h3
    obtain ⟨⟨e0, e1, e2, e3⟩, -⟩ := HZ.out.1.quad
    exact bodyPost_ret (v := .agg #[.slice aU na cU, .slice aX nm cX, .int .i64 dn, .bool un]) (by simp [results, Try.results41, go_sem, e0, e1, e2, e3]) rfl ⟨⟨_, _, rfl, HZ.out.2.2⟩, HZ.out.2.1⟩
end Go.Proofs.Ytmpedadjikmnhaa
