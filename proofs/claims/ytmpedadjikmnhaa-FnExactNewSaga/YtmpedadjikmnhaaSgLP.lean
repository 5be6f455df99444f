/-
  The law of StepSaga, walked: it returns true and turns nothing that was there, wherever both texts tell the same.
-/
import Derived.Test.YtmpedadjikmnhaaSgLB
namespace Go.Proofs.Ytmpedadjikmnhaa
open Go.RowKit M
open Clk (upd upd_same upd_other)
set_option maxRecDepth 20000 in
set_option maxHeartbeats 8000000 in
theorem law_StepSaga_run (v0 v1 : Value) (s : Sg) (w : World) (hv : SagQ w v0 v1 s.na s.fa s.nm (fl s.fm)) (hl : LensS s.na s.nm)
    (hC : ShortS s.na s.nm → ∃ (r : Sg) (b : Bool), ShortS r.na r.nm ∧
      (∀ (v0 v1 : Value) (W : World), SagQ W v0 v1 s.na s.fa s.nm (fl s.fm) → Calls Try.prog 27 #[sgv v0 v1 s] W fun e w' => (∃ u0 u1, e = .returned (.tuple #[sgv u0 u1 r, .bool b]) ∧ AnsS w' W.heap.size u0 u1 r) ∧ Below W.heap.size W w') ∧
      (∀ (v0 v1 : Value) (W : World), SagC W v0 v1 s.na s.fa s.nm (fl s.fm) → Calls Try.prog 28 #[sgv v0 v1 s] W fun e w' => (∃ u0 u1, e = .returned (.tuple #[sgv u0 u1 r, .bool b]) ∧ AnsS w' W.heap.size u0 u1 r) ∧ Below W.heap.size W w')) :
    Calls Try.prog 5 #[sgv v0 v1 s] w fun e w' => e = .returned (.bool true) ∧ Below w.heap.size w w' := by
  have HV := hide hv
  have HC := hide hC
  obtain ⟨aA, cA, rfl⟩ := hv.1.form
  obtain ⟨aM, cM, rfl⟩ := hv.2.form
  have HL := hide hl
  have HL0 := hide (show LW w (w.alloc (.cells #[.slice aA s.na cA, .slice aM s.nm cM, .int .i64 s.dn, .bool s.un] 40)) (.slice aA s.na cA) (.slice aM s.nm cM) s from ⟨new4 w _ _ _ _ _, (Below.refl w.heap.size w).alloc (Nat.le_refl _) _⟩)
  clear hv hl hC
  go_enter Try.func5, Try.ntmps5
  go_wp2_with fail
  refine (sz_saga _ _ s.na s.fa s.nm (fl s.fm) s.dn s.un _ (HV.out.below HL0.out.2) HL.out).mono ?_
  rintro e w1 ⟨⟨rz, rfl, hr⟩, hb⟩
  have HL1 := hide (HL0.out.down hb)
  clear hb HL0
  by_cases hrn : rz < 0
  · have hbf := HL1.out.2
    clear hr HL1
    go_wp2
    go_ret
    exact ⟨rfl, hbf⟩
  · have hsm : ShortS s.na s.nm := by
      rcases hr with h | ⟨_, h⟩
      · omega
      · exact h
    have HS := hide hsm
    obtain ⟨r, b, hs', hSp, hIm⟩ := HC.out hsm
    obtain ⟨m, hm⟩ : ∃ m, 1 + r.na + r.nm * 3 = m := ⟨_, rfl⟩
    have hmn : ¬ ((m : Int) < 0) := by omega
    have HM := hide hm
    have HS' := hide hs'
    have hbb : (b != b) = false := by cases b <;> rfl
    have hmm : ((m : Int) != (m : Int)) = false := by simp
    have HSp := hide hSp
    have HIm := hide hIm
    clear hr hsm HC HL hSp hIm hs' hm
    obtain ⟨⟨d0, d1, d2, d3⟩, -⟩ := HL1.out.1.quad
    go_wp2_with fail
    refine (to_saga _ _ s.na s.fa s.nm (fl s.fm) s.dn s.un _ (HV.out.below HL1.out.2) HS.out).mono ?_
    rintro e w2 ⟨⟨u0, u1, rfl, hA2⟩, hb⟩
    have HL2 := hide (HL1.out.down hb)
    have HQ2 := hide (HSp.out u0 u1 w2 hA2.q)
    obtain ⟨a2, c2, rfl⟩ := hA2.q.1.form
    obtain ⟨a2', c2', rfl⟩ := hA2.q.2.form
    clear d0 d1 d2 d3 hb HL1 hA2
    go_wp2_with fail
    refine HQ2.out.mono ?_
    rintro e w3 ⟨⟨r0, r1, rfl, hA3⟩, hb⟩
    obtain ⟨a3, c3, rfl⟩ := hA3.q.1.form
    obtain ⟨a3', c3', rfl⟩ := hA3.q.2.form
    have hdn := (Below.refl w3.heap.size w3).alloc (Nat.le_refl _) (.cells #[.slice a3 r.na c3, .slice a3' r.nm c3', .int .i64 r.dn, .bool r.un] 27)
    obtain ⟨wA, hwA⟩ : ∃ wA, w3.alloc (.cells #[.slice a3 r.na c3, .slice a3' r.nm c3', .int .i64 r.dn, .bool r.un] 27) = wA := ⟨_, rfl⟩
    have HLA := hide (show L5 w wA wA (.slice aA s.na cA) (.slice aM s.nm cM) s w3.heap.size (.slice a3 r.na c3) (.slice a3' r.nm c3') r from by
      have hl := (HL2.out.down hb).down hdn
      rw [hwA] at hl
      refine ⟨hl, hwA ▸ new4 w3 _ _ _ _ _, Below.refl _ _, ?_, hl.1.lt⟩
      rw [← hwA]; simp)
    have HR0 := hide (show SagQ wA (.slice a3 r.na c3) (.slice a3' r.nm c3') r.na r.fa r.nm (fl r.fm) from hwA ▸ hA3.q.below hdn)
    have HwA := hide hwA
    clear hb hdn hA3 HL2 hwA HQ2
    obtain ⟨⟨d0, d1, d2, d3⟩, -⟩ := HLA.out.1.1.quad
    rw [← HwA.out] at d0 d1 d2 d3
    go_wp2_with fail
    rw [HwA.out]
    refine (to_saga _ _ s.na s.fa s.nm (fl s.fm) s.dn s.un _ (HV.out.below HLA.out.1.2) HS.out).mono ?_
    rintro e w6 ⟨⟨x0, x1, rfl, hX6⟩, hb6⟩
    obtain ⟨a6, c6, rfl⟩ := hX6.q.1.form
    obtain ⟨a6', c6', rfl⟩ := hX6.q.2.form
    obtain ⟨w7, hw7⟩ : ∃ w7, w6.alloc (.cells #[.slice a6 s.na c6, .slice a6' s.nm c6', .int .i64 s.dn, .bool s.un] 27) = w7 := ⟨_, rfl⟩
    have HM7 := hide (show L7 w wA w7 (.slice aA s.na cA) (.slice aM s.nm cM) s w3.heap.size (.slice a3 r.na c3) (.slice a3' r.nm c3') r w6.heap.size (.slice a6 s.na c6) (.slice a6' s.nm c6') from by
      have hdn := (Below.refl w6.heap.size w6).alloc (Nat.le_refl _) (.cells #[.slice a6 s.na c6, .slice a6' s.nm c6', .int .i64 s.dn, .bool s.un] 27)
      rw [hw7] at hdn
      exact ⟨(HLA.out.down hb6).down hdn, hw7 ▸ new4 w6 _ _ _ _ _, hX6.down hdn, hb6.size⟩)
    have hs7 : w6.heap.size + 1 ≤ w7.heap.size := by rw [← hw7]; simp
    have HC7 := hide (HIm.out _ _ w7 HM7.out.2.2.1.c)
    have Hw7 := hide hw7
    clear hX6 hb6 hw7 HLA d0 d1 d2 d3 HwA
    obtain ⟨⟨d0, d1, d2, d3⟩, -⟩ := HM7.out.2.1.quad
    rw [← Hw7.out] at d0 d1 d2 d3
    go_wp2_with fail
    rw [Hw7.out]
    refine HC7.out.mono ?_
    rintro e w8 ⟨⟨y0, y1, rfl, hA8⟩, hb⟩
    obtain ⟨a8, c8, rfl⟩ := hA8.q.1.form
    obtain ⟨a8', c8', rfl⟩ := hA8.q.2.form
    obtain ⟨w9, hw9⟩ : ∃ w9, w8.alloc (.cells #[.slice a8 r.na c8, .slice a8' r.nm c8', .int .i64 r.dn, .bool r.un] 27) = w9 := ⟨_, rfl⟩
    have HF9 := hide (show L9 w wA w9 (.slice aA s.na cA) (.slice aM s.nm cM) s w3.heap.size (.slice a3 r.na c3) (.slice a3' r.nm c3') r w6.heap.size (.slice a6 s.na c6) (.slice a6' s.nm c6') w8.heap.size w7.heap.size (.slice a8 r.na c8) (.slice a8' r.nm c8') from by
      have hdn := (Below.refl w8.heap.size w8).alloc (Nat.le_refl _) (.cells #[.slice a8 r.na c8, .slice a8' r.nm c8', .int .i64 r.dn, .bool r.un] 27)
      rw [hw9] at hdn
      exact ⟨(HM7.out.down hb).down hdn, ⟨hw9 ▸ new4 w8 _ _ _ _ _, hA8.down hdn⟩, hs7, hb.size⟩)
    have Hw9 := hide hw9
    clear hb hA8 hw9 HM7 d0 d1 d2 d3 Hw7 HC7 hs7
    obtain ⟨⟨d0, d1, d2, d3⟩, -⟩ := HF9.out.2.1.1.quad
    obtain ⟨⟨e0, e1, e2, e3⟩, -⟩ := HF9.out.1.1.2.1.quad
    rw [← Hw9.out] at d0 d1 d2 d3 e0 e1 e2 e3
    go_wp2_with fail
    rw [Hw9.out]
    refine (eq_saga _ _ _ _ r.na r.fa r.nm (fl r.fm) r.dn r.un _ HF9.out.2.1.2.q (HR0.out.below HF9.out.1.1.2.2.1) HS'.out).mono ?_
    rintro e w10 ⟨rfl, hb⟩
    have hF10 := HF9.out.down hb
    clear hb HF9 d0 d1 d2 d3 e0 e1 e2 e3 Hw9
    go_upto_region 10 with fail
    have hF10d := hF10.down (Below.refl w10.heap.size w10).drew
    have HTW10 := hide (show ∀ W, L9 w wA W (.slice aA s.na cA) (.slice aM s.nm cM) s w3.heap.size (.slice a3 r.na c3) (.slice a3' r.nm c3') r w6.heap.size (.slice a6 s.na c6) (.slice a6' s.nm c6') w8.heap.size w7.heap.size (.slice a8 r.na c8) (.slice a8' r.nm c8') → Calls Try.prog 25 #[.agg #[.slice aA s.na cA, .slice aM s.nm cM, .int .i64 s.dn, .bool s.un]] W fun e w' => (∃ q0 q1, e = .returned (.agg #[q0, q1, .int .i64 s.dn, .bool s.un]) ∧ SagQ w' q0 q1 s.na s.fa s.nm (fl s.fm)) ∧ L9 w wA w' (.slice aA s.na cA) (.slice aM s.nm cM) s w3.heap.size (.slice a3 r.na c3) (.slice a3' r.nm c3') r w6.heap.size (.slice a6 s.na c6) (.slice a6' s.nm c6') w8.heap.size w7.heap.size (.slice a8 r.na c8) (.slice a8' r.nm c8') from fun W hW => (to_saga _ _ s.na s.fa s.nm (fl s.fm) s.dn s.un W (HV.out.below hW.1.1.1.2) HS.out).mono fun e w' ⟨⟨q0, q1, h1, h2⟩, h3⟩ => ⟨⟨q0, q1, h1, h2.q⟩, hW.down h3⟩)
    have HSC := hide (show ∀ W, L9 w wA W (.slice aA s.na cA) (.slice aM s.nm cM) s w3.heap.size (.slice a3 r.na c3) (.slice a3' r.nm c3') r w6.heap.size (.slice a6 s.na c6) (.slice a6' s.nm c6') w8.heap.size w7.heap.size (.slice a8 r.na c8) (.slice a8' r.nm c8') → W.cell? ⟨w6.heap.size, 0, none⟩ = some (.slice a6 s.na c6) ∧ W.cell? ⟨w6.heap.size, 1, none⟩ = some (.slice a6' s.nm c6') ∧ W.cell? ⟨w6.heap.size, 2, none⟩ = some (.int .i64 s.dn) ∧ W.cell? ⟨w6.heap.size, 3, none⟩ = some (.bool s.un) ∧ W.cell? ⟨w.heap.size, 0, none⟩ = some (.slice aA s.na cA) ∧ W.cell? ⟨w.heap.size, 1, none⟩ = some (.slice aM s.nm cM) ∧ W.cell? ⟨w.heap.size, 2, none⟩ = some (.int .i64 s.dn) ∧ W.cell? ⟨w.heap.size, 3, none⟩ = some (.bool s.un) from fun W hW => by
      obtain ⟨⟨p0, p1, p2, p3⟩, -⟩ := hW.1.2.1.quad
      obtain ⟨⟨q0, q1, q2, q3⟩, -⟩ := hW.1.1.1.1.quad
      exact ⟨p0, p1, p2, p3, q0, q1, q2, q3⟩)
    go_cut [45] from 41 (fun bb wx => bb = .bool false ∧ Hid (L9 w wA wx (.slice aA s.na cA) (.slice aM s.nm cM) s w3.heap.size (.slice a3 r.na c3) (.slice a3' r.nm c3') r w6.heap.size (.slice a6 s.na c6) (.slice a6' s.nm c6') w8.heap.size w7.heap.size (.slice a8 r.na c8) (.slice a8' r.nm c8')))
    case first =>
      go_region_held (fun W => W.cell? ⟨w6.heap.size, 0, none⟩ = some (.slice a6 s.na c6) ∧ W.cell? ⟨w6.heap.size, 1, none⟩ = some (.slice a6' s.nm c6') ∧ W.cell? ⟨w6.heap.size, 2, none⟩ = some (.int .i64 s.dn) ∧ W.cell? ⟨w6.heap.size, 3, none⟩ = some (.bool s.un) ∧ W.cell? ⟨w.heap.size, 0, none⟩ = some (.slice aA s.na cA) ∧ W.cell? ⟨w.heap.size, 1, none⟩ = some (.slice aM s.nm cM) ∧ W.cell? ⟨w.heap.size, 2, none⟩ = some (.int .i64 s.dn) ∧ W.cell? ⟨w.heap.size, 3, none⟩ = some (.bool s.un)) (first | exact HSC.out _ hFe | exact HSC.out _ hFj | exact HSC.out _ hF10d) (first
        | (go_at_call 25; refine Calls.mono (HTW10.out _ (by assumption)) ?_; rintro e wj ⟨⟨q0, q1, rfl, hQj⟩, hFj⟩; have HQj := hide hQj; obtain ⟨aj, cj, rfl⟩ := hQj.1.form; obtain ⟨aj', cj', rfl⟩ := hQj.2.form; clear hQj)
        | (go_at_call 16; refine Calls.mono (eq_saga _ _ _ _ s.na s.fa s.nm (fl s.fm) s.dn s.un _ hFj.1.2.2.1.q HQj.out HS.out) ?_; rintro e we ⟨rfl, hbe⟩; have hFe := hFj.down hbe))
      all_goals
        go_wp2_with fail
        go_meet
        exact ⟨rfl, hide hFe⟩
    case rest =>
      rename World => wC
      obtain ⟨rfl, HF11⟩ := hcut
      clear hF10 hF10d HTW10 HSC
      obtain ⟨⟨d0, d1, d2, d3⟩, -⟩ := HF11.out.1.2.1.quad
      go_wp2_with fail
      refine (mark_saga wA.heap.size w6.heap.size _ _ s.na s.fa s.nm (fl s.fm) s.dn s.un _ HF11.out.1.2.2.1 HS.out (Nat.le_of_lt HF11.out.1.2.1.lt)).mono ?_
      rintro e w12 ⟨rfl, -, hk⟩
      have HK9 := hide (HF11.out.mark hk)
      have hknn : ¬ (((1 + s.na + s.nm * 3 : Nat) : Int) < 0) := by omega
      clear hk HF11 d0 d1 d2 d3
      obtain ⟨⟨d0, d1, d2, d3⟩, -⟩ := HK9.out.2.1.1.quad
      obtain ⟨⟨e0, e1, e2, e3⟩, -⟩ := HK9.out.1.2.1.quad
      go_wp2_with fail
      refine (eq_saga _ _ _ _ r.na r.fa r.nm (fl r.fm) r.dn r.un _ HK9.out.2.1.2.q (HR0.out.below HK9.out.1.2.2.1) HS'.out).mono ?_
      rintro e w13 ⟨rfl, hb⟩
      have HK10 := hide (HK9.out.down hb)
      clear hb HK9 d0 d1 d2 d3 e0 e1 e2 e3 hknn
      obtain ⟨⟨d0, d1, d2, d3⟩, -⟩ := HK10.out.2.1.1.quad
      go_wp2_with fail
      refine (mark_saga w7.heap.size w8.heap.size _ _ r.na r.fa r.nm (fl r.fm) r.dn r.un _ HK10.out.2.1.2 HS'.out (Nat.le_of_lt HK10.out.2.2.2)).mono ?_
      rintro e w14 ⟨rfl, hA, hk⟩
      have HK11 := hide (HK10.out.mark hk hA)
      clear hk hA HK10 d0 d1 d2 d3
      rw [HM.out]
      obtain ⟨⟨d0, d1, d2, d3⟩, -⟩ := HK11.out.2.1.1.quad
      go_wp2_with fail
      refine (held_saga _ _ r.na r.nm r.dn r.un _ HK11.out.2.1.2.q HS'.out).mono ?_
      rintro e w15 ⟨rfl, hb⟩
      have HN := hide (HK11.out.down hb)
      clear hb HK11 d0 d1 d2 d3
      rw [HM.out]
      obtain ⟨⟨d0, d1, d2, d3⟩, -⟩ := HN.out.1.1.1.quad
      go_wp2_with fail
      refine (to_saga _ _ s.na s.fa s.nm (fl s.fm) s.dn s.un _ (HV.out.below HN.out.1.1.2) HS.out).mono ?_
      rintro e w16 ⟨⟨q0, q1, rfl, hX16⟩, hb⟩
      have HN16 := hide (HN.out.down hb)
      have HC16 := hide (HIm.out _ _ w16 hX16.c)
      obtain ⟨a16, c16, rfl⟩ := hX16.q.1.form
      obtain ⟨a16', c16', rfl⟩ := hX16.q.2.form
      clear d0 d1 d2 d3 hb HN hX16
      go_wp2_with fail
      refine HC16.out.mono ?_
      rintro e w17 ⟨⟨z0, z1, rfl, hA17⟩, hb⟩
      obtain ⟨a17, c17, rfl⟩ := hA17.q.1.form
      obtain ⟨a17', c17', rfl⟩ := hA17.q.2.form
      have hdn := (Below.refl w17.heap.size w17).alloc (Nat.le_refl _) (.cells #[.slice a17 r.na c17, .slice a17' r.nm c17', .int .i64 r.dn, .bool r.un] 27)
      have HN17 := hide ((HN16.out.down hb).down hdn)
      have HB17 := hide (new4 w17 (.slice a17 r.na c17) (.slice a17' r.nm c17') (.int .i64 r.dn) (.bool r.un) 27)
      have HA17 := hide (hA17.q.below hdn)
      clear hb hdn hA17 HN16 HC16
      obtain ⟨⟨d0, d1, d2, d3⟩, -⟩ := HB17.out.quad
      obtain ⟨⟨e0, e1, e2, e3⟩, -⟩ := HN17.out.1.2.1.quad
      go_wp2_with fail
      refine (eq_saga _ _ _ _ r.na r.fa r.nm (fl r.fm) r.dn r.un _ HA17.out (HR0.out.below HN17.out.1.2.2.1) HS'.out).mono ?_
      rintro e w18 ⟨rfl, hb⟩
      have HK12 := hide (HN17.out.down hb)
      clear hb HN17 HA17 HB17 d0 d1 d2 d3 e0 e1 e2 e3
      obtain ⟨⟨d0, d1, d2, d3⟩, -⟩ := HK12.out.2.1.1.quad
      go_wp2_with fail
      refine (held_saga _ _ r.na r.nm r.dn r.un _ HK12.out.2.1.2.q HS'.out).mono ?_
      rintro e w19 ⟨rfl, hb⟩
      have hbz := (HK12.out.down hb).1.1.2
      rw [HM.out]
      clear HK12 HR0 HV HS HS' HM hb d0 d1 d2 d3
      go_wp2
      go_ret
      exact ⟨rfl, hbz⟩
end Go.Proofs.Ytmpedadjikmnhaa
