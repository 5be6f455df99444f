/-
  The program's StepSaga.
-/
import Derived.Test.YtmpedadjikmnhaaSgW
namespace Go.Proofs.Ytmpedadjikmnhaa
open Go.RowKit M
open Clk (upd upd_same upd_other)
open Go.Sort (grow)
open Classical in
set_option maxRecDepth 20000 in
set_option maxHeartbeats 4000000 in
theorem impl_step (v0 v1 : Value) (s : Sg) (b : Bool) (w : World) (hv : SagC w v0 v1 s.na s.fa s.nm (fl s.fm)) (hs : ShortS s.na s.nm) (hb : b = true ↔ GoodS s ∧ canS s) (r : Sg) (hr : (if b = true then stepS s else zeroS) = r) :
    Calls Try.prog 28 #[sgv v0 v1 s] w fun e w' => Out w.heap.size r b e w' ∧ Below w.heap.size w w' := by
  have HV := hide hv
  have HS := hide hs
  have HB := hide hb
  obtain ⟨bg, hbg⟩ : ∃ x, decide (GoodS s) = x := ⟨_, rfl⟩
  have HBG := hide (show bg = true ↔ GoodS s by rw [← hbg, decide_eq_true_eq])
  obtain ⟨a0, c0, rfl⟩ := hv.1.1.form
  obtain ⟨a1, c1, rfl⟩ := hv.1.2.form
  have HRr := hide hr
  clear hv hs hb hbg hr
  obtain ⟨W, hW⟩ : ∃ W, (w.alloc (.cells #[.slice a0 s.na c0, .slice a1 s.nm c1, .int .i64 s.dn, .bool s.un] 27)).alloc (.cells #[.slice none 0 0, .slice none 0 0, .int .i64 0, .bool false] 27) = W := ⟨_, rfl⟩
  have HE0 := hide (show Blk W (w.heap.size + 1) 4 (p4 (.slice none 0 0) (.slice none 0 0) (.int .i64 0) (.bool false)) 27 from by subst hW; have := new4 (w.alloc (.cells #[.slice a0 s.na c0, .slice a1 s.nm c1, .int .i64 s.dn, .bool s.un] 27)) (.slice none 0 0) (.slice none 0 0) (.int .i64 0) (.bool false) 27; rw [World.size_alloc] at this; exact this)
  have hb0 : Below w.heap.size w W := by subst hW; exact ((Below.refl _ w).alloc (Nat.le_refl _) _).alloc (by simp) _
  have hsW : w.heap.size + 2 ≤ W.heap.size := by rw [← hW]; simp
  have HWW := hide hW
  clear hW
  go_enter Try.func28, Try.ntmps28
  go_wp2_with fail
  rw [HWW.out]
  clear HWW
  refine (good_copy _ _ s bg _ (HV.out.below hb0) HS.out HBG.out).mono ?_
  rintro e w1 ⟨⟨u0, u1, rfl, hA⟩, hb⟩
  have hb1 := hb0.trans (hb.mono hb0.size)
  have hE1 := HE0.out.down hb
  have hs1 := hb.size
  clear hb hb0 HE0 HV HS
  obtain ⟨a3, c3, rfl⟩ := hA.q.1.form
  obtain ⟨a4, c4, rfl⟩ := hA.q.2.form
  cases bg with
  | false =>
    have HF := hide (show b = false by rw [Bool.eq_false_iff]; intro h; have := HBG.out.2 (HB.out.1 h).1; cases this)
    simp only [Bool.false_eq_true, if_false, zeroS] at hA ⊢
    have hdn := (Below.refl w1.heap.size w1).alloc (Nat.le_refl _) (.cells #[.slice a3 0 c3, .slice a4 0 c4, .int .i64 0, .bool false] 27)
    have hE2 := hE1.down hdn
    have hb2 := hb1.trans (hdn.mono hb1.size)
    obtain ⟨⟨e0, e1, e2, e3⟩, h0, h1, h2, h3⟩ := hE1.quad
    have n1 : w.heap.size + 1 < w1.heap.size := hE1.lt
    have n2 : w.heap.size + 1 ≠ w1.heap.size := by omega
    have HZ := hide (show ∀ WZ, ((((w1.setCell ⟨w.heap.size + 1, 0, none⟩ (.slice none 0 0)).setCell ⟨w.heap.size + 1, 1, none⟩ (.slice none 0 0)).setCell ⟨w.heap.size + 1, 2, none⟩ (.int .i64 0)).setCell ⟨w.heap.size + 1, 3, none⟩ (.bool false)).alloc (.cells #[.slice a3 0 c3, .slice a4 0 c4, .int .i64 0, .bool false] 27) = WZ → Blk WZ (w.heap.size + 1) 4 (p4 (.slice none 0 0) (.slice none 0 0) (.int .i64 0) (.bool false)) 27 ∧ Below w.heap.size w WZ from fun WZ hWZ => by
      rw [← hWZ]
      have := put4 hE1 hb1 (by omega) (.slice none 0 0) (.slice none 0 0) (.int .i64 0) (.bool false) _ rfl
      exact ⟨this.1.alloc _, this.2.1.alloc this.2.1.size _⟩)
    obtain ⟨WZ, hWZ⟩ : ∃ WZ, ((((w1.setCell ⟨w.heap.size + 1, 0, none⟩ (.slice none 0 0)).setCell ⟨w.heap.size + 1, 1, none⟩ (.slice none 0 0)).setCell ⟨w.heap.size + 1, 2, none⟩ (.int .i64 0)).setCell ⟨w.heap.size + 1, 3, none⟩ (.bool false)).alloc (.cells #[.slice a3 0 c3, .slice a4 0 c4, .int .i64 0, .bool false] 27) = WZ := ⟨_, rfl⟩
    have HWZ := hide hWZ
    clear hA hE1 hE2 hdn hb1 hb2 HB HBG hWZ
    go_wp2
    rw [HWZ.out]
    have hz := HZ.out _ HWZ.out
    clear e0 e1 e2 e3 h0 h1 h2 h3
    obtain ⟨⟨e0, e1, e2, e3⟩, -⟩ := hz.1.quad
    exact bodyPost_ret (v := .tuple #[.agg #[.slice none 0 0, .slice none 0 0, .int .i64 0, .bool false], .bool false]) (by simp [results, Try.results28, go_sem, e0, e1, e2, e3]) rfl (by have e1 := HRr.out; rw [HF.out] at e1 ⊢; rw [← e1]; exact ⟨⟨_, _, rfl, ans_zero _ _⟩, hz.2⟩)
  | true =>
    have hg := HBG.out.1 rfl
    simp only [if_true] at hA ⊢
    obtain ⟨gl, c, cq, eq, q1, q2, hSA⟩ := sa_new hA hg.na1
    cases eq
    obtain ⟨bd, hbd⟩ : ∃ x, decide (canS s) = x := ⟨_, rfl⟩
    have HBe := hide (show b = bd by rw [Bool.eq_iff_iff, HB.out, ← hbd, decide_eq_true_eq]; exact ⟨fun h => h.2, fun h => ⟨hg, h⟩⟩)
    have HCs := hide (show bd = true → canS s from fun h => by rw [← hbd, decide_eq_true_eq] at h; exact h)
    have HC := hide (can_step w1.heap.size 4 _ 27 _ a4 c4 s bd _ hSA.sb hbd)
    obtain ⟨W2, hW2⟩ : ∃ W2, w1.alloc (.cells #[.slice (some ⟨gl, 0, none⟩) s.na c3, .slice a4 s.nm c4, .int .i64 s.dn, .bool s.un] 27) = W2 := ⟨_, rfl⟩
    have hdn := (Below.refl w1.heap.size w1).alloc (Nat.le_refl _) (.cells #[.slice (some ⟨gl, 0, none⟩) s.na c3, .slice a4 s.nm c4, .int .i64 s.dn, .bool s.un] 27)
    rw [hW2] at hSA HC hdn
    have hE2 := hE1.down hdn
    have hb2 := hb1.trans (hdn.mono hb1.size)
    have n1 : w.heap.size + 1 < w1.heap.size := hE1.lt
    have n2 : w.heap.size + 1 ≠ w1.heap.size := by omega
    have HWW := hide hW2
    have HSA := hide hSA
    have HE2 := hide hE2
    have hsz2 := hdn.size
    clear hW2 hA hE1 hE2 hdn hb1 HB HBG hbd hSA
    go_wp2_with fail
    rw [HWW.out]
    refine HC.out.mono ?_
    rintro e w3 ⟨rfl, hb⟩
    have hS3 := HSA.out.down hb
    have hE3 := HE2.out.down hb
    have hb3 := hb2.trans (hb.mono hb2.size)
    have hsz3 := hb.size
    clear hb hb2 HSA HE2 HC HWW
    obtain ⟨⟨d0, d1, d2, d3⟩, g0, g1, g2, g3⟩ := hS3.sb.cells
    obtain ⟨⟨e0, e1, e2, e3⟩, h0, h1, h2, h3⟩ := hE3.quad
    cases bd with
    | false =>
      obtain ⟨WZ, hWZ⟩ : ∃ WZ, (((w3.setCell ⟨w.heap.size + 1, 0, none⟩ (.slice none 0 0)).setCell ⟨w.heap.size + 1, 1, none⟩ (.slice none 0 0)).setCell ⟨w.heap.size + 1, 2, none⟩ (.int .i64 0)).setCell ⟨w.heap.size + 1, 3, none⟩ (.bool false) = WZ := ⟨_, rfl⟩
      have HZ := hide (put4 hE3 hb3 (by omega) _ _ _ _ WZ hWZ)
      have HWZ := hide hWZ
      clear hWZ hS3 hE3 hb3
      go_wp2
      rw [HWZ.out]
      clear e0 e1 e2 e3 h0 h1 h2 h3 d0 d1 d2 d3 g0 g1 g2 g3
      obtain ⟨⟨e0, e1, e2, e3⟩, -⟩ := HZ.out.1.quad
      exact bodyPost_ret (v := .tuple #[.agg #[.slice none 0 0, .slice none 0 0, .int .i64 0, .bool false], .bool false]) (by simp [results, Try.results28, go_sem, e0, e1, e2, e3]) rfl (by have e1 := HRr.out; rw [HBe.out] at e1 ⊢; rw [← e1]; exact ⟨⟨_, _, rfl, ans_zero _ _⟩, HZ.out.2.1⟩)
    | true =>
      have hcs : canS s := HCs.out rfl
      have HFin := hide (show ∀ (X : World) (h : Nat → Value) (s' : Sg), SA X w1.heap.size 4 h 27 gl c c3 W.heap.size w1.heap.size (.slice a4 s.nm c4) s' → s'.na = s.na → s'.nm = s.nm → s' = stepS s → Tw w1.heap.size gl w3 X → ∀ WZ, ((((X.setCell ⟨w.heap.size + 1, 0, none⟩ (.slice (some ⟨gl, 0, none⟩) s.na c3)).setCell ⟨w.heap.size + 1, 1, none⟩ (.slice a4 s.nm c4)).setCell ⟨w.heap.size + 1, 2, none⟩ (.int .i64 s'.dn)).setCell ⟨w.heap.size + 1, 3, none⟩ (.bool s'.un)) = WZ → Blk WZ (w.heap.size + 1) 4 (p4 (.slice (some ⟨gl, 0, none⟩) s.na c3) (.slice a4 s.nm c4) (.int .i64 s'.dn) (.bool s'.un)) 27 ∧ Out w.heap.size r b (.returned (.tuple #[.agg #[.slice (some ⟨gl, 0, none⟩) s.na c3, .slice a4 s.nm c4, .int .i64 s'.dn, .bool s'.un], .bool true])) WZ ∧ Below w.heap.size w WZ from fun X h s' hS hna hnm hst hK WZ hWZ => by
        have hEW : Blk X (w.heap.size + 1) 4 (p4 (.slice none 0 0) (.slice none 0 0) (.int .i64 0) (.bool false)) 27 := hE3.kept hK (by omega)
        have hbW : Below w.heap.size w X := hK.below hb3 hb3.size (fun k hk => by omega)
        have hz := put4 hEW hbW (by omega) (.slice (some ⟨gl, 0, none⟩) s.na c3) (.slice a4 s.nm c4) (.int .i64 s'.dn) (.bool s'.un) WZ hWZ
        have hA := hS.ans (by omega) (by have := hK.size; omega)
        refine ⟨hz.1, ?_, hz.2.1⟩
        have e1 := HRr.out
        rw [HBe.out] at e1 ⊢
        rw [← e1, if_pos rfl, ← hst]
        refine ⟨_, _, rfl, ?_⟩
        have := (hz.2.2.2.1 hA).mono (show w.heap.size ≤ W.heap.size by omega) (show X.heap.size ≤ WZ.heap.size by rw [hz.2.2.1]; exact Nat.le_refl _)
        rw [← hna]
        exact this)
      have hE3s := hE3.lt
      have hg3 := hS3.sb.blk.lt
      by_cases hun : s.un = true
      · have hd : 0 < s.dn := by
          rcases hcs with h | h
          · rw [h.1] at hun; cases hun
          · exact h.2
        have hst : stepS s = undS s := by unfold stepS; rw [if_pos hun]
        obtain ⟨d, hdd⟩ : ∃ d : Nat, s.dn = ((d + 1 : Nat) : Int) := ⟨s.dn.toNat - 1, by omega⟩
        have hdn : d < s.nm := by have := hg.dn1; omega
        have hm := hg.mv d hdn
        obtain ⟨_, _, ee, hr⟩ := hS3.mov.moves.row
        cases ee
        obtain ⟨bb, off, rfl, hbb, hrow⟩ := hr (by omega)
        obtain ⟨r0, r1, r2⟩ := hrow d hdn
        have HU := hide (saga_undo w1.heap.size 4 _ 27 gl c c3 _ _ _ s (s.fm d) w3 hS3 hm hg.acc ⟨hd, by have := hg.dn1; have := hg.nm; omega⟩)
        have HSt := hide (show ({ s with fa := shf s.fa (bk (s.fm d)), dn := s.dn - 1 } : Sg) = stepS s by rw [hst]; unfold undS; rw [show s.dn.toNat - 1 = d by omega])
        have hi0 : (0 : Int) ≤ (d : Int) := by omega
        have hi1 : (d : Int) < (s.nm : Int) := by omega
        have hd20 : d ≤ 20 := by have := hg.nm; omega
        have HE3 := hide hE3
        have HDD := hide (show ((d + 1 : Nat) : Int) - 1 = s.dn - 1 by omega)
        rw [hun] at d3
        rw [hdd] at d2
        generalize (s.fm d) = m at *
        clear hr hrow hm hst hg hcs hd hb3 hS3 hE3 HBe HCs hdd
        go_wp2_with fail
        refine HU.out.mono ?_
        rintro e w4 ⟨rfl, hS4, hK4⟩
        have hE4 := HE3.out.kept hK4 (by omega)
        clear d0 d1 d2 d3 g0 g1 g2 g3 e0 e1 e2 e3 h0 h1 h2 h3 r0 r1 r2
        obtain ⟨⟨d0, d1, d2, d3⟩, g0, g1, g2, g3⟩ := hS4.sb.cells
        obtain ⟨⟨e0, e1, e2, e3⟩, h0, h1, h2, h3⟩ := hE4.quad
        simp only at d0 d2 d3
        rw [hun] at d3
        obtain ⟨WZ, hWZ⟩ : ∃ WZ, ((((w4.setCell ⟨w.heap.size + 1, 0, none⟩ (.slice (some ⟨gl, 0, none⟩) s.na c3)).setCell ⟨w.heap.size + 1, 1, none⟩ (.slice (some ⟨bb, off, none⟩) s.nm c4)).setCell ⟨w.heap.size + 1, 2, none⟩ (.int .i64 (s.dn - 1))).setCell ⟨w.heap.size + 1, 3, none⟩ (.bool true)) = WZ := ⟨_, rfl⟩
        have hz := HFin.out w4 _ _ hS4 rfl rfl HSt.out hK4 WZ (by simp only; rw [hun]; exact hWZ)
        simp only [hun] at hz
        have HZ := hide hz
        have HWZ := hide hWZ
        clear hz hWZ hS4 hE4 hK4 HFin HU HE3
        go_wp2
        rw [HWZ.out]
        clear d0 d1 d2 d3 g0 g1 g2 g3 e0 e1 e2 e3 h0 h1 h2 h3
        obtain ⟨⟨e0, e1, e2, e3⟩, -⟩ := HZ.out.1.quad
        exact bodyPost_ret (v := .tuple #[.agg #[.slice (some ⟨gl, 0, none⟩) s.na c3, .slice (some ⟨bb, off, none⟩) s.nm c4, .int .i64 (s.dn - 1), .bool true], .bool true]) (by simp [results, Try.results28, go_sem, e0, e1, e2, e3]) rfl HZ.out.2
      · have hcd : canD s := by
          rcases hcs with h | h
          · exact h
          · exact absurd h.1 hun
        have hunf : s.un = false := hcd.1
        have HU := hide (catch_do 59 (.pointer (some ⟨w1.heap.size, 0, none⟩)) (fun X => ∃ h s', SA X w1.heap.size 4 h 27 gl c c3 W.heap.size w1.heap.size (.slice a4 s.nm c4) s' ∧ s'.na = s.na ∧ s'.nm = s.nm ∧ s' = stepS s ∧ Tw w1.heap.size gl w3 X) w3 (enters_of Try.func59 (by kernel_rfl) rfl) ((do_next w1.heap.size 4 _ 27 gl c c3 _ _ _ s w3 hS3 hg hcd).mono (by
          rintro e W' ⟨⟨hf, rfl, hS⟩ | ⟨hf, hG, hS⟩, hK⟩
          · exact ⟨.inl rfl, _, _, hS, rfl, rfl, by unfold stepS; rw [if_neg hun, if_pos hf], hK⟩
          · exact ⟨.inr hG, _, _, hS, rfl, rfl, by unfold stepS; rw [if_neg hun, if_neg hf], hK⟩)))
        have HE3 := hide hE3
        rw [hunf] at d3
        have hmf : ∀ (fn : Fn) (first cap : Array Value) (w : World), (Instr.makeFunc fn first cap).run Try.prog w = .ok (.func fn first cap) w := fun _ _ _ _ => rfl
        clear hg hcs hcd hb3 hS3 hE3 HBe HCs hunf
        go_wp2_with fail
        refine HU.out.mono ?_
        rintro e w4 ⟨rfl, hh, s', hS4, hna, hnm, hs', hK4⟩
        have hE4 := HE3.out.kept hK4 (by omega)
        clear d0 d1 d2 d3 g0 g1 g2 g3 e0 e1 e2 e3 h0 h1 h2 h3
        obtain ⟨⟨d0, d1, d2, d3⟩, g0, g1, g2, g3⟩ := hS4.sb.cells
        obtain ⟨⟨e0, e1, e2, e3⟩, h0, h1, h2, h3⟩ := hE4.quad
        rw [hna] at d0
        obtain ⟨WZ, hWZ⟩ : ∃ WZ, ((((w4.setCell ⟨w.heap.size + 1, 0, none⟩ (.slice (some ⟨gl, 0, none⟩) s.na c3)).setCell ⟨w.heap.size + 1, 1, none⟩ (.slice a4 s.nm c4)).setCell ⟨w.heap.size + 1, 2, none⟩ (.int .i64 s'.dn)).setCell ⟨w.heap.size + 1, 3, none⟩ (.bool s'.un)) = WZ := ⟨_, rfl⟩
        have HZ := hide (HFin.out w4 _ _ hS4 hna hnm hs' hK4 WZ hWZ)
        have HWZ := hide hWZ
        clear hWZ hS4 hE4 hK4 HFin HU HE3 hna hnm hs'
        go_wp2
        rw [HWZ.out]
        clear d0 d1 d2 d3 g0 g1 g2 g3 e0 e1 e2 e3 h0 h1 h2 h3
        obtain ⟨⟨e0, e1, e2, e3⟩, -⟩ := HZ.out.1.quad
        exact bodyPost_ret (v := .tuple #[.agg #[.slice (some ⟨gl, 0, none⟩) s.na c3, .slice a4 s.nm c4, .int .i64 s'.dn, .bool s'.un], .bool true]) (by simp [results, Try.results28, go_sem, e0, e1, e2, e3]) rfl HZ.out.2
end Go.Proofs.Ytmpedadjikmnhaa
