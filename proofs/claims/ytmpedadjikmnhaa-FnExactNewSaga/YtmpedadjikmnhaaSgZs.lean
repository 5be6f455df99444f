/-
  The specification's StepSaga.
-/
import Derived.Test.YtmpedadjikmnhaaSgZu
import Derived.Test.YtmpedadjikmnhaaSgZd
namespace Go.Proofs.Ytmpedadjikmnhaa
open Go.RowKit M
open Clk (upd upd_same upd_other)
open Go.Sort (grow)
theorem l9step (v0 v1 : Value) (s : Sg) (B : Nat) (b : Bool) (w : World) (hv : AnsS w B v0 v1 s) (hB : B ≤ w.heap.size) (hg : GoodS s) (hb : b = true ↔ canS s) :
    Calls Try.prog 55 #[sgv v0 v1 s] w fun e w' => StpA B s b e w' ∧ Below w.heap.size w w' := by
  by_cases hc : canS s
  · rw [hb.2 hc]
    rcases hc with hc | hc
    · exact step_do v0 v1 s B w hv hB hg hc
    · exact step_und v0 v1 s B w hv hB hg hc
  · rw [show b = false by rw [Bool.eq_false_iff]; exact fun h => hc (hb.1 h)]
    exact step_none v0 v1 s B w hv hg hc
open Classical in
set_option maxRecDepth 20000 in
set_option maxHeartbeats 4000000 in
theorem spec_step (v0 v1 : Value) (s : Sg) (b : Bool) (w : World) (hv : SagQ w v0 v1 s.na s.fa s.nm (fl s.fm)) (hs : ShortS s.na s.nm) (hb : b = true ↔ GoodS s ∧ canS s) (r : Sg) (hr : (if b = true then stepS s else zeroS) = r) :
    Calls Try.prog 27 #[sgv v0 v1 s] w fun e w' => Out w.heap.size r b e w' ∧ Below w.heap.size w w' := by
  have HV := hide hv
  have HS := hide hs
  have HB := hide hb
  have HRr := hide hr
  obtain ⟨bg, hbg⟩ : ∃ x, decide (GoodS s) = x := ⟨_, rfl⟩
  have HBG := hide (show bg = true ↔ GoodS s by rw [← hbg, decide_eq_true_eq])
  obtain ⟨a0, c0, rfl⟩ := hv.1.form
  obtain ⟨a1, c1, rfl⟩ := hv.2.form
  clear hv hs hb hr hbg
  obtain ⟨W, hW⟩ : ∃ W, (w.alloc (.cells #[.slice a0 s.na c0, .slice a1 s.nm c1, .int .i64 s.dn, .bool s.un] 27)).alloc (.cells #[.slice none 0 0, .slice none 0 0, .int .i64 0, .bool false] 27) = W := ⟨_, rfl⟩
  have HD0 := hide (show Blk W w.heap.size 4 (p4 (.slice a0 s.na c0) (.slice a1 s.nm c1) (.int .i64 s.dn) (.bool s.un)) 27 from by subst hW; exact (new4 w _ _ _ _ _).alloc _)
  have HE0 := hide (show Blk W (w.heap.size + 1) 4 (p4 (.slice none 0 0) (.slice none 0 0) (.int .i64 0) (.bool false)) 27 from by subst hW; have := new4 (w.alloc (.cells #[.slice a0 s.na c0, .slice a1 s.nm c1, .int .i64 s.dn, .bool s.un] 27)) (.slice none 0 0) (.slice none 0 0) (.int .i64 0) (.bool false) 27; rw [World.size_alloc] at this; exact this)
  have hb0 : Below w.heap.size w W := by subst hW; exact ((Below.refl _ w).alloc (Nat.le_refl _) _).alloc (by simp) _
  have HWW := hide hW
  clear hW
  go_enter Try.func27, Try.ntmps27
  go_wp2_with fail
  rw [HWW.out]
  clear HWW
  refine (spec_good _ _ s bg _ (HV.out.below hb0) HS.out HBG.out).mono ?_
  rintro e w1 ⟨rfl, hb⟩
  have hb1 := hb0.trans (hb.mono hb0.size)
  have hE1 := HE0.out.down hb
  have hD1 := HD0.out.down hb
  clear hb hb0 HE0 HD0
  obtain ⟨⟨d0, d1, d2, d3⟩, -⟩ := hD1.quad
  obtain ⟨⟨e0, e1, e2, e3⟩, h0, h1, h2, h3⟩ := hE1.quad
  cases bg with
  | false =>
    have HF := hide (show b = false by rw [Bool.eq_false_iff]; intro h; have := HBG.out.2 (HB.out.1 h).1; cases this)
    obtain ⟨WZ, hWZ⟩ : ∃ WZ, (((w1.setCell ⟨w.heap.size + 1, 0, none⟩ (.slice none 0 0)).setCell ⟨w.heap.size + 1, 1, none⟩ (.slice none 0 0)).setCell ⟨w.heap.size + 1, 2, none⟩ (.int .i64 0)).setCell ⟨w.heap.size + 1, 3, none⟩ (.bool false) = WZ := ⟨_, rfl⟩
    have HZ := hide (put4 hE1 hb1 (by omega) _ _ _ _ WZ hWZ)
    have HWZ := hide hWZ
    clear hWZ hE1 hD1 hb1 HV HS HB HBG
    go_wp2
    rw [HWZ.out]
    clear e0 e1 e2 e3 h0 h1 h2 h3 d0 d1 d2 d3
    obtain ⟨⟨e0, e1, e2, e3⟩, -⟩ := HZ.out.1.quad
    exact bodyPost_ret (v := .tuple #[.agg #[.slice none 0 0, .slice none 0 0, .int .i64 0, .bool false], .bool false]) (by simp [results, Try.results27, go_sem, e0, e1, e2, e3]) rfl (by have e1 := HRr.out; rw [HF.out] at e1 ⊢; rw [← e1]; exact ⟨⟨_, _, rfl, ans_zero _ _⟩, HZ.out.2.1⟩)
  | true =>
    have hg := HBG.out.1 (by trivial)
    have HG := hide hg
    have HBc := hide (show b = true ↔ canS s by rw [HB.out]; exact ⟨fun h => h.2, fun h => ⟨hg, h⟩⟩)
    have HO := hide (l9own _ _ s _ (HV.out.below hb1) (short_good hg))
    have HE1 := hide hE1
    clear HV HB HBG hE1 hD1 e0 e1 e2 e3 h0 h1 h2 h3 hg
    go_wp2_with fail
    refine HO.out.mono ?_
    rintro e w2 ⟨⟨u0, u1, rfl, hA⟩, hb⟩
    have hb2 := hb1.trans (hb.mono hb1.size)
    have HE2 := hide (HE1.out.down hb)
    have hs1 := hb1.size
    have hs2 := hb.size
    have HL := hide (l9step u0 u1 s w1.heap.size b w2 hA hs2 HG.out HBc.out)
    obtain ⟨a3, c3, rfl⟩ := hA.q.1.form
    obtain ⟨a4, c4, rfl⟩ := hA.q.2.form
    clear hb hb1 HE1 HO hA d0 d1 d2 d3
    go_wp2_with fail
    refine HL.out.mono ?_
    rintro e w3 ⟨⟨u3, u4, r', rfl, hA3, ht, hf⟩, hb⟩
    have hb3 := hb2.trans (hb.mono hb2.size)
    have hE3 := HE2.out.down hb
    have HT := hide ht
    have HFf := hide hf
    obtain ⟨a5, c5, rfl⟩ := hA3.q.1.form
    obtain ⟨a6, c6, rfl⟩ := hA3.q.2.form
    have hs3 := hE3.lt
    have n3 : w.heap.size + 1 ≠ w3.heap.size := by omega
    clear hb hb2 HE2 HL ht hf
    obtain ⟨⟨e0, e1, e2, e3⟩, h0, h1, h2, h3⟩ := hE3.quad
    cases b with
    | false =>
      have HZ := hide (show ∀ WZ, ((((w3.setCell ⟨w.heap.size + 1, 0, none⟩ (.slice none 0 0)).setCell ⟨w.heap.size + 1, 1, none⟩ (.slice none 0 0)).setCell ⟨w.heap.size + 1, 2, none⟩ (.int .i64 0)).setCell ⟨w.heap.size + 1, 3, none⟩ (.bool false)).alloc (.cells #[.slice a5 r'.na c5, .slice a6 r'.nm c6, .int .i64 r'.dn, .bool r'.un] 27) = WZ → Blk WZ (w.heap.size + 1) 4 (p4 (.slice none 0 0) (.slice none 0 0) (.int .i64 0) (.bool false)) 27 ∧ Below w.heap.size w WZ from fun WZ hWZ => by
        rw [← hWZ]
        have := put4 hE3 hb3 (by omega) (.slice none 0 0) (.slice none 0 0) (.int .i64 0) (.bool false) _ rfl
        exact ⟨this.1.alloc _, this.2.1.alloc this.2.1.size _⟩)
      obtain ⟨WZ, hWZ⟩ : ∃ WZ, ((((w3.setCell ⟨w.heap.size + 1, 0, none⟩ (.slice none 0 0)).setCell ⟨w.heap.size + 1, 1, none⟩ (.slice none 0 0)).setCell ⟨w.heap.size + 1, 2, none⟩ (.int .i64 0)).setCell ⟨w.heap.size + 1, 3, none⟩ (.bool false)).alloc (.cells #[.slice a5 r'.na c5, .slice a6 r'.nm c6, .int .i64 r'.dn, .bool r'.un] 27) = WZ := ⟨_, rfl⟩
      have HWZ := hide hWZ
      clear hWZ hE3 hb3 hA3 HT HFf
      go_wp2
      rw [HWZ.out]
      have hz := HZ.out _ HWZ.out
      clear e0 e1 e2 e3 h0 h1 h2 h3
      obtain ⟨⟨e0, e1, e2, e3⟩, -⟩ := hz.1.quad
      exact bodyPost_ret (v := .tuple #[.agg #[.slice none 0 0, .slice none 0 0, .int .i64 0, .bool false], .bool false]) (by simp [results, Try.results27, go_sem, e0, e1, e2, e3]) rfl (by have e1 := HRr.out; rw [← e1]; exact ⟨⟨_, _, rfl, ans_zero _ _⟩, hz.2⟩)
    | true =>
      have hr' : r' = stepS s := HT.out (by trivial)
      have hgr : GoodS r' := by rw [hr']; exact HG.out.step (HBc.out.1 (by trivial))
      have HR' := hide hr'
      have hdn := (Below.refl w3.heap.size w3).alloc (Nat.le_refl _) (.cells #[.slice a5 r'.na c5, .slice a6 r'.nm c6, .int .i64 r'.dn, .bool r'.un] 27)
      have HGd := hide (spec_good _ _ r' true _ (hA3.q.below hdn) ⟨by have := hgr.na8; omega, by have := hgr.nm; omega⟩ ⟨fun _ => hgr, fun _ => rfl⟩)
      have HN := hide (new4 w3 (.slice a5 r'.na c5) (.slice a6 r'.nm c6) (.int .i64 r'.dn) (.bool r'.un) 27)
      have HE4 := hide (hE3.down hdn)
      have HA4 := hide ((hA3.down hdn).mono (Nat.le_refl _) hdn.size)
      have hb4 := hb3.trans (hdn.mono hb3.size)
      obtain ⟨W4, hW4⟩ : ∃ W4, w3.alloc (.cells #[.slice a5 r'.na c5, .slice a6 r'.nm c6, .int .i64 r'.dn, .bool r'.un] 27) = W4 := ⟨_, rfl⟩
      rw [hW4] at HGd HN HE4 HA4 hb4
      have HW4 := hide hW4
      clear hW4 hr' hgr hdn hE3 hb3 hA3 HT HFf e0 e1 e2 e3 h0 h1 h2 h3
      go_wp2_with fail
      rw [HW4.out]
      refine HGd.out.mono ?_
      rintro e w5 ⟨rfl, hb⟩
      have hb5 := hb4.trans (hb.mono hb4.size)
      have hE5 := HE4.out.down hb
      have HA5 := hide ((HA4.out.down hb).mono hs1 hb.size)
      obtain ⟨⟨d0, d1, d2, d3⟩, -⟩ := (HN.out.down hb).quad
      obtain ⟨⟨e0, e1, e2, e3⟩, h0, h1, h2, h3⟩ := hE5.quad
      obtain ⟨WZ, hWZ⟩ : ∃ WZ, (((w5.setCell ⟨w.heap.size + 1, 0, none⟩ (.slice a5 r'.na c5)).setCell ⟨w.heap.size + 1, 1, none⟩ (.slice a6 r'.nm c6)).setCell ⟨w.heap.size + 1, 2, none⟩ (.int .i64 r'.dn)).setCell ⟨w.heap.size + 1, 3, none⟩ (.bool r'.un) = WZ := ⟨_, rfl⟩
      have HZ := hide (put4 hE5 hb5 (by omega) _ _ _ _ WZ hWZ)
      have HWZ := hide hWZ
      clear hWZ hE5 hb5 hb hb4 HE4 HA4 HN HGd HW4
      go_wp2
      rw [HWZ.out]
      clear d0 d1 d2 d3 e0 e1 e2 e3 h0 h1 h2 h3
      obtain ⟨⟨e0, e1, e2, e3⟩, -⟩ := HZ.out.1.quad
      exact bodyPost_ret (v := .tuple #[.agg #[.slice a5 r'.na c5, .slice a6 r'.nm c6, .int .i64 r'.dn, .bool r'.un], .bool true]) (by simp [results, Try.results27, go_sem, e0, e1, e2, e3]) rfl (by have e1 := HRr.out; rw [if_pos (by trivial), ← HR'.out] at e1; rw [← e1]; exact ⟨⟨_, _, rfl, (HZ.out.2.2.2.1 HA5.out).mono (Nat.le_refl _) (by rw [HZ.out.2.2.1]; exact Nat.le_refl _)⟩, HZ.out.2.1⟩)
end Go.Proofs.Ytmpedadjikmnhaa
