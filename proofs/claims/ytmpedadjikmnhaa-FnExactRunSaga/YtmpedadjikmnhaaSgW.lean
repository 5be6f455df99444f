/-
  The program's NewSaga, FailSaga and StepSaga.
-/
import Derived.Test.YtmpedadjikmnhaaSgV
namespace Go.Proofs.Ytmpedadjikmnhaa
open Go.RowKit M
open Clk (upd upd_same upd_other)
open Go.Sort (grow)
namespace M
theorem short_good {s : Sg} (h : GoodS s) : 1 ≤ s.na ∧ s.na ≤ 8 ∧ s.nm ≤ 20 := ⟨h.na1, h.na8, h.nm⟩
/-- A copy that was laid into a block of its own. -/
theorem sa_new {w : World} {B : Nat} {u0 u1 : Value} {s : Sg} (h : AnsS w B u0 u1 s) (hn : 1 ≤ s.na) : ∃ gl c cp, u0 = .slice (some ⟨gl, 0, none⟩) s.na cp ∧ B ≤ gl ∧ gl < w.heap.size ∧
    SA (w.alloc (.cells #[u0, u1, .int .i64 s.dn, .bool s.un] 27)) w.heap.size 4 (p4 u0 u1 (.int .i64 s.dn) (.bool s.un)) 27 gl c cp B w.heap.size u1 s := by
  obtain ⟨gl, c, cp, rfl, h1, h2, h3⟩ := h.1.blk (by omega)
  have hdn := (Below.refl w.heap.size w).alloc (Nat.le_refl _) (.cells #[.slice (some ⟨gl, 0, none⟩) s.na cp, u1, .int .i64 s.dn, .bool s.un] 27)
  exact ⟨gl, c, cp, rfl, h1, h2, ⟨⟨new4 w _ _ _ _ _, Nat.le_refl _, rfl, rfl, rfl, rfl⟩, by decide, by decide, h3.down hdn, h.2.down hdn⟩⟩
theorem SA.ans {w : World} {g n : Nat} {h : Nat → Value} {t : TypeId} {gl c cp B hi : Nat} {v1 : Value} {s : Sg} (H : SA w g n h t gl c cp B hi v1 s) (h1 : B ≤ gl) (h2 : hi ≤ w.heap.size) : AnsS w B (.slice (some ⟨gl, 0, none⟩) s.na cp) v1 s :=
  ⟨⟨_, _, rfl, fun _ => ⟨gl, c, rfl, h1, H.own.lt, H.own⟩⟩, H.mov.mono (Nat.le_refl _) h2⟩
/-- An answer is put into the cell of a result. -/
theorem put4 {w W : World} {g : Nat} {y0 y1 y2 y3 : Value} (h : Blk W g 4 (p4 y0 y1 y2 y3) 27) (hb : Below w.heap.size w W) (hg : w.heap.size ≤ g) (x0 x1 x2 x3 : Value) : ∀ WZ, (((W.setCell ⟨g, 0, none⟩ x0).setCell ⟨g, 1, none⟩ x1).setCell ⟨g, 2, none⟩ x2).setCell ⟨g, 3, none⟩ x3 = WZ →
    Blk WZ g 4 (p4 x0 x1 x2 x3) 27 ∧ Below w.heap.size w WZ ∧ WZ.heap.size = W.heap.size ∧ (∀ {B hi : Nat} {v0 v1 : Value} {na : Nat} {fa : Nat → Int} {nm : Nat} {fq : Nat → Int}, AnsQ W B hi v0 v1 na fa nm fq → AnsQ WZ B hi v0 v1 na fa nm fq) ∧ (∀ {g' n' : Nat} {f' : Nat → Value} {t' : TypeId}, g' ≠ g → Blk W g' n' f' t' → Blk WZ g' n' f' t') := by
  rintro WZ rfl
  refine ⟨(((h.quad0 _).quad1 _).quad2 _).quad3 _, (((hb.setCell (p := ⟨g, 0, none⟩) hg _).setCell (p := ⟨g, 1, none⟩) hg _).setCell (p := ⟨g, 2, none⟩) hg _).setCell (p := ⟨g, 3, none⟩) hg _, by simp, fun hA => ?_, fun hne hB => ?_⟩
  · exact (((hA.setS h 0 x0).setS (h.quad0 _) 1 x1).setS ((h.quad0 _).quad1 _) 2 x2).setS (((h.quad0 _).quad1 _).quad2 _) 3 x3
  · exact (((hB.set_other hne _ _).set_other hne _ _).set_other hne _ _).set_other hne _ _
end M
set_option maxRecDepth 20000 in
set_option maxHeartbeats 4000000 in
theorem impl_new (v0 v1 : Value) (s : Sg) (b : Bool) (w : World) (hv : SagC w v0 v1 s.na s.fa s.nm (fl s.fm)) (hs : ShortS s.na s.nm) (h0 : s.dn = 0 ∧ s.un = false) (hb : b = true ↔ GoodS s) (r : Sg) (hr : (if b = true then s else zeroS) = r) :
    Calls Try.prog 15 #[v0, v1] w fun e w' => Out w.heap.size r b e w' ∧ Below w.heap.size w w' := by
  have HV := hide hv
  have HS := hide hs
  have HB := hide hb
  obtain ⟨a0, c0, rfl⟩ := hv.1.1.form
  obtain ⟨a1, c1, rfl⟩ := hv.1.2.form
  obtain ⟨na, fa, nm, fm, dn, un⟩ := s
  simp only at *
  obtain ⟨rfl, rfl⟩ := h0
  have HRr := hide hr
  clear hv hs hb hr
  have hbA := (Below.refl w.heap.size w).alloc (Nat.le_refl _) (.cells #[.slice none 0 0, .slice none 0 0, .int .i64 0, .bool false] 27)
  have HE0 := hide (new4 w (.slice none 0 0) (.slice none 0 0) (.int .i64 0) (.bool false) 27)
  go_enter Try.func15, Try.ntmps15
  go_wp2_with fail
  refine (good_copy _ _ ⟨na, fa, nm, fm, 0, false⟩ b _ (HV.out.below hbA) HS.out HB.out).mono ?_
  rw [HRr.out]
  rintro e w1 ⟨⟨u0, u1, rfl, hA⟩, hb⟩
  have hb1 := hbA.trans (hb.mono hbA.size)
  have hE1 := HE0.out.down hb
  have HA := hide hA
  obtain ⟨a3, c3, rfl⟩ := hA.q.1.form
  obtain ⟨a4, c4, rfl⟩ := hA.q.2.form
  clear hb hbA HE0 HV HS HB hA
  obtain ⟨⟨e0, e1, e2, e3⟩, h0, h1, h2, h3⟩ := hE1.quad
  obtain ⟨WZ, hWZ⟩ : ∃ WZ, (((w1.setCell ⟨w.heap.size, 0, none⟩ (.slice a3 r.na c3)).setCell ⟨w.heap.size, 1, none⟩ (.slice a4 r.nm c4)).setCell ⟨w.heap.size, 2, none⟩ (.int .i64 r.dn)).setCell ⟨w.heap.size, 3, none⟩ (.bool r.un) = WZ := ⟨_, rfl⟩
  have HZ := hide (put4 hE1 hb1 (Nat.le_refl _) _ _ _ _ WZ hWZ)
  have HWZ := hide hWZ
  have hsz := hE1.lt
  clear hE1 hb1 hWZ HRr
  go_wp2
  rw [HWZ.out]
  clear e0 e1 e2 e3 h0 h1 h2 h3
  obtain ⟨⟨e0, e1, e2, e3⟩, -⟩ := HZ.out.1.quad
  exact bodyPost_ret (v := .tuple #[.agg #[.slice a3 r.na c3, .slice a4 r.nm c4, .int .i64 r.dn, .bool r.un], .bool b]) (by simp [results, Try.results15, go_sem, e0, e1, e2, e3]) rfl ⟨⟨_, _, rfl, (HZ.out.2.2.2.1 HA.out).mono (by simp) (by rw [HZ.out.2.2.1]; exact Nat.le_refl _)⟩, HZ.out.2.1⟩
open Classical in
set_option maxRecDepth 20000 in
set_option maxHeartbeats 4000000 in
theorem impl_fail (v0 v1 : Value) (s : Sg) (b : Bool) (w : World) (hv : SagC w v0 v1 s.na s.fa s.nm (fl s.fm)) (hs : ShortS s.na s.nm) (hb : b = true ↔ GoodS s ∧ canD s) (r : Sg) (hr : (if b = true then failS s else zeroS) = r) :
    Calls Try.prog 30 #[sgv v0 v1 s] w fun e w' => Out w.heap.size r b e w' ∧ Below w.heap.size w w' := by
  have HV := hide hv
  have HS := hide hs
  have HB := hide hb
  obtain ⟨bg, hbg⟩ : ∃ x, decide (GoodS s) = x := ⟨_, rfl⟩
  have HBG := hide (show bg = true ↔ GoodS s by rw [← hbg, decide_eq_true_eq])
  obtain ⟨a0, c0, rfl⟩ := hv.1.1.form
  obtain ⟨a1, c1, rfl⟩ := hv.1.2.form
  have HRr := hide hr
  clear hv hs hb hbg hr
  obtain ⟨W, hW⟩ : ∃ W, (w.alloc (.cells #[.slice a0 s.na c0, .slice a1 s.nm c1, .int .i64 s.dn, .bool s.un] 27)).alloc (.cells #[.slice none 0 0, .slice none 0 0, .int .i64 0, .bool false] 27) = W := ⟨_, rfl⟩
  have HE0 := hide (show Blk W (w.heap.size + 1) 4 (p4 (.slice none 0 0) (.slice none 0 0) (.int .i64 0) (.bool false)) 27 from by subst hW; have := new4 (w.alloc (.cells #[.slice a0 s.na c0, .slice a1 s.nm c1, .int .i64 s.dn, .bool s.un] 27)) (.slice none 0 0) (.slice none 0 0) (.int .i64 0) (.bool false) 27; rw [World.size_alloc] at this; exact this)
  have hb0 : Below w.heap.size w W := by subst hW; exact ((Below.refl _ w).alloc (Nat.le_refl _) _).alloc (by simp) _
  have hsW : w.heap.size ≤ W.heap.size := hb0.size
  have HWW := hide hW
  clear hW
  go_enter Try.func30, Try.ntmps30
  go_wp2_with fail
  rw [HWW.out]
  clear HWW
  refine (good_copy _ _ s bg _ (HV.out.below hb0) HS.out HBG.out).mono ?_
  rintro e w1 ⟨⟨u0, u1, rfl, hA⟩, hb⟩
  have hb1 := hb0.trans (hb.mono hb0.size)
  have hE1 := HE0.out.down hb
  have hs1 := hb.size
  clear hb hb0 HE0 HV HS
  obtain ⟨a3, c3, rfl⟩ := hA.q.1.form
  obtain ⟨a4, c4, rfl⟩ := hA.q.2.form
  cases bg with
  | false =>
    have HF := hide (show b = false by rw [Bool.eq_false_iff]; intro h; have := HBG.out.2 (HB.out.1 h).1; cases this)
    simp only [Bool.false_eq_true, if_false, zeroS] at hA ⊢
    have hdn := (Below.refl w1.heap.size w1).alloc (Nat.le_refl _) (.cells #[.slice a3 0 c3, .slice a4 0 c4, .int .i64 0, .bool false] 27)
    have hE2 := hE1.down hdn
    have hb2 := hb1.trans (hdn.mono hb1.size)
    obtain ⟨⟨e0, e1, e2, e3⟩, h0, h1, h2, h3⟩ := hE1.quad
    have n1 : w.heap.size + 1 < w1.heap.size := hE1.lt
    have n2 : w.heap.size + 1 ≠ w1.heap.size := by omega
    have HZ := hide (show ∀ WZ, ((((w1.setCell ⟨w.heap.size + 1, 0, none⟩ (.slice none 0 0)).setCell ⟨w.heap.size + 1, 1, none⟩ (.slice none 0 0)).setCell ⟨w.heap.size + 1, 2, none⟩ (.int .i64 0)).setCell ⟨w.heap.size + 1, 3, none⟩ (.bool false)).alloc (.cells #[.slice a3 0 c3, .slice a4 0 c4, .int .i64 0, .bool false] 27) = WZ → Blk WZ (w.heap.size + 1) 4 (p4 (.slice none 0 0) (.slice none 0 0) (.int .i64 0) (.bool false)) 27 ∧ Below w.heap.size w WZ from fun WZ hWZ => by
      rw [← hWZ]
      have := put4 hE1 hb1 (by omega) (.slice none 0 0) (.slice none 0 0) (.int .i64 0) (.bool false) _ rfl
      exact ⟨this.1.alloc _, this.2.1.alloc this.2.1.size _⟩)
    obtain ⟨WZ, hWZ⟩ : ∃ WZ, ((((w1.setCell ⟨w.heap.size + 1, 0, none⟩ (.slice none 0 0)).setCell ⟨w.heap.size + 1, 1, none⟩ (.slice none 0 0)).setCell ⟨w.heap.size + 1, 2, none⟩ (.int .i64 0)).setCell ⟨w.heap.size + 1, 3, none⟩ (.bool false)).alloc (.cells #[.slice a3 0 c3, .slice a4 0 c4, .int .i64 0, .bool false] 27) = WZ := ⟨_, rfl⟩
    have HWZ := hide hWZ
    clear hA hE1 hE2 hdn hb1 hb2 HB HBG hWZ
    go_wp2
    rw [HWZ.out]
    have hz := HZ.out _ HWZ.out
    clear e0 e1 e2 e3 h0 h1 h2 h3
    obtain ⟨⟨e0, e1, e2, e3⟩, -⟩ := hz.1.quad
    exact bodyPost_ret (v := .tuple #[.agg #[.slice none 0 0, .slice none 0 0, .int .i64 0, .bool false], .bool false]) (by simp [results, Try.results30, go_sem, e0, e1, e2, e3]) rfl (by have e1 := HRr.out; rw [HF.out] at e1 ⊢; rw [← e1]; exact ⟨⟨_, _, rfl, ans_zero _ _⟩, hz.2⟩)
  | true =>
    have hg := HBG.out.1 rfl
    simp only [if_true] at hA ⊢
    obtain ⟨gl, c, cq, eq, q1, q2, hSA⟩ := sa_new hA hg.na1
    cases eq
    obtain ⟨bd, hbd⟩ : ∃ x, decide (canD s) = x := ⟨_, rfl⟩
    have HBe := hide (show b = bd by rw [Bool.eq_iff_iff, HB.out, ← hbd, decide_eq_true_eq]; exact ⟨fun h => h.2, fun h => ⟨hg, h⟩⟩)
    have HC := hide (can_do w1.heap.size 4 _ 27 _ a4 c4 s bd _ hSA.sb hbd)
    obtain ⟨W2, hW2⟩ : ∃ W2, w1.alloc (.cells #[.slice (some ⟨gl, 0, none⟩) s.na c3, .slice a4 s.nm c4, .int .i64 s.dn, .bool s.un] 27) = W2 := ⟨_, rfl⟩
    have hdn := (Below.refl w1.heap.size w1).alloc (Nat.le_refl _) (.cells #[.slice (some ⟨gl, 0, none⟩) s.na c3, .slice a4 s.nm c4, .int .i64 s.dn, .bool s.un] 27)
    rw [hW2] at hSA HC hdn
    have hE2 := hE1.down hdn
    have hb2 := hb1.trans (hdn.mono hb1.size)
    have n1 : w.heap.size + 1 < w1.heap.size := hE1.lt
    have n2 : w.heap.size + 1 ≠ w1.heap.size := by omega
    have HWW := hide hW2
    have HSA := hide hSA
    have HE2 := hide hE2
    have hsz2 := hdn.size
    clear hW2 hA hE1 hE2 hdn hb1 HB HBG hbd hSA
    go_wp2_with fail
    rw [HWW.out]
    refine HC.out.mono ?_
    rintro e w3 ⟨rfl, hb⟩
    have hS3 := HSA.out.down hb
    have hE3 := HE2.out.down hb
    have hb3 := hb2.trans (hb.mono hb2.size)
    have hsz3 := hb.size
    clear hb hb2 HSA HE2 HC HWW
    obtain ⟨⟨d0, d1, d2, d3⟩, g0, g1, g2, g3⟩ := hS3.sb.cells
    obtain ⟨⟨e0, e1, e2, e3⟩, h0, h1, h2, h3⟩ := hE3.quad
    cases bd with
    | false =>
      obtain ⟨WZ, hWZ⟩ : ∃ WZ, (((w3.setCell ⟨w.heap.size + 1, 0, none⟩ (.slice none 0 0)).setCell ⟨w.heap.size + 1, 1, none⟩ (.slice none 0 0)).setCell ⟨w.heap.size + 1, 2, none⟩ (.int .i64 0)).setCell ⟨w.heap.size + 1, 3, none⟩ (.bool false) = WZ := ⟨_, rfl⟩
      have HZ := hide (put4 hE3 hb3 (by omega) _ _ _ _ WZ hWZ)
      have HWZ := hide hWZ
      clear hWZ hS3 hE3 hb3
      go_wp2
      rw [HWZ.out]
      clear e0 e1 e2 e3 h0 h1 h2 h3 d0 d1 d2 d3 g0 g1 g2 g3
      obtain ⟨⟨e0, e1, e2, e3⟩, -⟩ := HZ.out.1.quad
      exact bodyPost_ret (v := .tuple #[.agg #[.slice none 0 0, .slice none 0 0, .int .i64 0, .bool false], .bool false]) (by simp [results, Try.results30, go_sem, e0, e1, e2, e3]) rfl (by have e1 := HRr.out; rw [HBe.out] at e1 ⊢; rw [← e1]; exact ⟨⟨_, _, rfl, ans_zero _ _⟩, HZ.out.2.1⟩)
    | true =>
      have hS4 := hS3.setUn true
      have hE4 := hE3.set_other n2 3 (.bool true)
      have hb4 := hb3.setCell (p := ⟨w1.heap.size, 3, none⟩) (show w.heap.size ≤ w1.heap.size by omega) (.bool true)
      obtain ⟨WZ, hWZ⟩ : ∃ WZ, ((((w3.setCell ⟨w1.heap.size, 3, none⟩ (.bool true)).setCell ⟨w.heap.size + 1, 0, none⟩ (.slice (some ⟨gl, 0, none⟩) s.na c3)).setCell ⟨w.heap.size + 1, 1, none⟩ (.slice a4 s.nm c4)).setCell ⟨w.heap.size + 1, 2, none⟩ (.int .i64 s.dn)).setCell ⟨w.heap.size + 1, 3, none⟩ (.bool true) = WZ := ⟨_, rfl⟩
      have HZ := hide (put4 hE4 hb4 (by omega) _ _ _ _ WZ hWZ)
      have HA4 := hide (hS4.ans (by omega) (by simp; omega))
      have HWZ := hide hWZ
      clear hWZ hS3 hE3 hb3 hS4 hE4 hb4
      go_wp2
      rw [HWZ.out]
      clear e0 e1 e2 e3 h0 h1 h2 h3 d0 d1 d2 d3 g0 g1 g2 g3
      obtain ⟨⟨e0, e1, e2, e3⟩, -⟩ := HZ.out.1.quad
      exact bodyPost_ret (v := .tuple #[.agg #[.slice (some ⟨gl, 0, none⟩) s.na c3, .slice a4 s.nm c4, .int .i64 s.dn, .bool true], .bool true]) (by simp [results, Try.results30, go_sem, e0, e1, e2, e3]) rfl (by have e1 := HRr.out; rw [HBe.out] at e1 ⊢; rw [← e1]; exact ⟨⟨_, _, rfl, (HZ.out.2.2.2.1 HA4.out).mono (by omega) (by rw [HZ.out.2.2.1]; exact Nat.le_refl _)⟩, HZ.out.2.1⟩)
end Go.Proofs.Ytmpedadjikmnhaa
