/-
  The law of NewSaga.
-/
import Derived.Test.YtmpedadjikmnhaaSgLB
import Derived.Test.YtmpedadjikmnhaaSgW
import Derived.Test.YtmpedadjikmnhaaSgY
namespace Go.Proofs.Ytmpedadjikmnhaa
open Go.RowKit M
open Clk (upd upd_same upd_other)
namespace M
theorem own_pair {W : World} {lo hi b0 b1 na nm : Nat} {fa fq : Nat → Int} (h0 : Blk W b0 na (iv fa) 3) (h1 : Blk W b1 (nm * 3) (iv fq) 55) (l0 : lo ≤ b0) (l1 : lo ≤ b1) (k0 : b0 < hi) (k1 : b1 < hi) : AnsQ W lo hi (.slice (some ⟨b0, 0, none⟩) na na) (.slice (some ⟨b1, 0, none⟩) nm nm) na fa nm fq :=
  ⟨⟨_, _, rfl, fun _ => ⟨_, _, rfl, l0, k0, Nat.le_refl _, _, h0, fun _ _ => rfl⟩⟩, ⟨_, _, rfl, Nat.le_refl _, fun _ => ⟨_, _, rfl, l1, k1, Nat.le_refl _, _, h1, fun _ _ => rfl⟩⟩⟩
def N5 (w A W : World) (gw : Nat) (r0 r1 : Value) (r : Sg) : Prop :=
  Below w.heap.size w W ∧ Blk W gw 4 (p4 r0 r1 (.int .i64 r.dn) (.bool r.un)) 27 ∧ Below A.heap.size A W ∧ gw < A.heap.size ∧ w.heap.size ≤ A.heap.size
theorem N5.down {w A W W' : World} {gw : Nat} {r0 r1 : Value} {r : Sg} (h : N5 w A W gw r0 r1 r) (hb : Below W.heap.size W W') : N5 w A W' gw r0 r1 r := ⟨h.1.trans (hb.mono h.1.size), h.2.1.down hb, h.2.2.1.trans (hb.mono h.2.2.1.size), h.2.2.2⟩
theorem N5.kept {w A W W' : World} {gw : Nat} {r0 r1 : Value} {r : Sg} (h : N5 w A W gw r0 r1 r) {lo hi : Nat} (hk : KeptB lo hi W W') (hl : A.heap.size ≤ lo) : N5 w A W' gw r0 r1 r := by
  obtain ⟨h2, h3, h4, h5, h6⟩ := h
  exact ⟨h2.trans (hk.below (by omega) h2.size), hk.blk h3 (by omega), h4.trans (hk.below hl h4.size), h5, h6⟩
def N7 (w A W : World) (s : Sg) (gw : Nat) (r0 r1 : Value) (r : Sg) (H : Nat) (x0 x1 : Value) : Prop :=
  N5 w A W gw r0 r1 r ∧ AnsQ W A.heap.size H x0 x1 s.na s.fa s.nm (fl s.fm) ∧ A.heap.size ≤ H
theorem N7.down {w A W W' : World} {s : Sg} {gw : Nat} {r0 r1 : Value} {r : Sg} {H : Nat} {x0 x1 : Value} (h : N7 w A W s gw r0 r1 r H x0 x1) (hb : Below W.heap.size W W') : N7 w A W' s gw r0 r1 r H x0 x1 := ⟨h.1.down hb, h.2.1.down hb, h.2.2⟩
def N9 (w A W : World) (s : Sg) (gw : Nat) (r0 r1 : Value) (r : Sg) (H : Nat) (x0 x1 : Value) (gg : Nat) (y0 y1 : Value) : Prop :=
  N7 w A W s gw r0 r1 r H x0 x1 ∧ LG W gg H y0 y1 r.na r.fa r.nm (fl r.fm) r.dn r.un ∧ H ≤ gg
theorem N9.down {w A W W' : World} {s : Sg} {gw : Nat} {r0 r1 : Value} {r : Sg} {H : Nat} {x0 x1 : Value} {gg : Nat} {y0 y1 : Value} (h : N9 w A W s gw r0 r1 r H x0 x1 gg y0 y1) (hb : Below W.heap.size W W') : N9 w A W' s gw r0 r1 r H x0 x1 gg y0 y1 := ⟨h.1.down hb, h.2.1.down hb, h.2.2⟩
def N10 (w A W : World) (gw : Nat) (r0 r1 : Value) (r : Sg) (H : Nat) (gg : Nat) (y0 y1 : Value) (fa fq : Nat → Int) : Prop :=
  N5 w A W gw r0 r1 r ∧ LG W gg H y0 y1 r.na fa r.nm fq r.dn r.un ∧ A.heap.size ≤ H ∧ gg < W.heap.size
theorem N10.down {w A W W' : World} {gw : Nat} {r0 r1 : Value} {r : Sg} {H gg : Nat} {y0 y1 : Value} {fa fq : Nat → Int} (h : N10 w A W gw r0 r1 r H gg y0 y1 fa fq) (hb : Below W.heap.size W W') : N10 w A W' gw r0 r1 r H gg y0 y1 fa fq := ⟨h.1.down hb, h.2.1.down hb, h.2.2.1, Nat.lt_of_lt_of_le h.2.2.2 hb.size⟩
theorem N9.mark {w A W W' : World} {s : Sg} {gw : Nat} {r0 r1 : Value} {r : Sg} {H : Nat} {x0 x1 : Value} {gg : Nat} {y0 y1 : Value} (h : N9 w A W s gw r0 r1 r H x0 x1 gg y0 y1) (hk : KeptB A.heap.size H W W') : N10 w A W' gw r0 r1 r H gg y0 y1 r.fa (fl r.fm) := by
  obtain ⟨⟨h5, h7, h8⟩, ⟨h9, h10⟩, h11⟩ := h
  exact ⟨h5.kept hk (Nat.le_refl _), ⟨hk.blk h9 (.inr h11), h10.kept hk (.inl (Nat.le_refl _))⟩, h8, Nat.lt_of_lt_of_le h9.lt hk.size⟩
theorem N10.mark {w A W W' : World} {gw : Nat} {r0 r1 : Value} {r : Sg} {H gg : Nat} {y0 y1 : Value} {fa fq fa' fq' : Nat → Int} (h : N10 w A W gw r0 r1 r H gg y0 y1 fa fq) (hk : KeptB H gg W W') (ha : AnsQ W' H gg y0 y1 r.na fa' r.nm fq') : N10 w A W' gw r0 r1 r H gg y0 y1 fa' fq' := by
  obtain ⟨h5, ⟨h9, _⟩, h11, h12⟩ := h
  exact ⟨h5.kept hk h11, ⟨hk.blk h9 (.inr (Nat.le_refl _)), ha⟩, h11, Nat.lt_of_lt_of_le h12 hk.size⟩
end M
set_option maxRecDepth 20000 in
set_option maxHeartbeats 8000000 in
theorem law_NewSaga_run (v0 v1 : Value) (s : Sg) (w : World) (hv : SagQ w v0 v1 s.na s.fa s.nm (fl s.fm)) (hl : LensS s.na s.nm)
    (hC : ShortS s.na s.nm → ∃ (r : Sg) (b : Bool), ShortS r.na r.nm ∧
      (∀ (v0 v1 : Value) (W : World), SagQ W v0 v1 s.na s.fa s.nm (fl s.fm) → Calls Try.prog 12 #[v0, v1] W fun e w' => (∃ u0 u1, e = .returned (.tuple #[sgv u0 u1 r, .bool b]) ∧ AnsS w' W.heap.size u0 u1 r) ∧ Below W.heap.size W w') ∧
      (∀ (v0 v1 : Value) (W : World), SagC W v0 v1 s.na s.fa s.nm (fl s.fm) → Calls Try.prog 15 #[v0, v1] W fun e w' => (∃ u0 u1, e = .returned (.tuple #[sgv u0 u1 r, .bool b]) ∧ AnsS w' W.heap.size u0 u1 r) ∧ Below W.heap.size W w')) :
    Calls Try.prog 3 #[v0, v1] w fun e w' => e = .returned (.bool true) ∧ Below w.heap.size w w' := by
  have HV := hide hv
  have HC := hide hC
  obtain ⟨aA, cA, rfl⟩ := hv.1.form
  obtain ⟨aM, cM, rfl⟩ := hv.2.form
  have HL := hide hl
  clear hv hl hC
  have hrefl := Below.refl w.heap.size w
  go_enter Try.func3, Try.ntmps3
  by_cases hna : 1048576 < (s.na : Int)
  · go_wp2
    go_ret
    exact ⟨rfl, hrefl⟩
  · go_wp2_with fail
    refine (sz_moves _ s.nm _ 1048576 _ HL.out.2 (by omega) (by omega)).mono ?_
    rintro e w1 ⟨⟨rz, rfl, hr⟩, hw⟩
    subst w1
    by_cases hrn : rz < 0
    · clear hr
      go_wp2
      go_ret
      exact ⟨rfl, hrefl⟩
    · have hsm : ShortS s.na s.nm := by
        refine ⟨by omega, ?_⟩
        rcases hr with h | ⟨h, h'⟩
        · omega
        · omega
      have HS := hide hsm
      obtain ⟨r, b, hs', hSp, hIm⟩ := HC.out hsm
      obtain ⟨m, hm⟩ : ∃ m, 1 + r.na + r.nm * 3 = m := ⟨_, rfl⟩
      have hmn : ¬ ((m : Int) < 0) := by omega
      have HM := hide hm
      have HS' := hide hs'
      have hbb : (b != b) = false := by cases b <;> rfl
      have hmm : ((m : Int) != (m : Int)) = false := by simp
      have HSp := hide hSp
      have HIm := hide hIm
      clear hr hsm HC HL hSp hIm hs' hm hrefl
      go_wp2_with fail
      refine (to_ints _ _ _ _ HV.out.1 HS.out.1).mono ?_
      rintro e w2 ⟨⟨rfl, hI⟩, hb⟩
      have HI := hide hI
      have HB := hide hb
      clear hI hb
      go_wp2_with fail
      refine (to_moves _ _ _ _ (HV.out.2.below HB.out) HS.out.2).mono ?_
      rintro e w3 ⟨⟨rfl, hJ⟩, hb⟩
      have hb3 := HB.out.trans (hb.mono HB.out.size)
      have HQ2 := hide (HSp.out _ _ w3 (own_pair (lo := 0) (HI.out.down hb) hJ (Nat.zero_le _) (Nat.zero_le _) (HI.out.down hb).lt hJ.lt).q)
      clear hb hJ HI HB
      go_wp2_with fail
      refine HQ2.out.mono ?_
      rintro e w4 ⟨⟨r0, r1, rfl, hA4⟩, hb⟩
      have hb4 := hb3.trans (hb.mono hb3.size)
      obtain ⟨a3, c3, rfl⟩ := hA4.q.1.form
      obtain ⟨a3', c3', rfl⟩ := hA4.q.2.form
      have hdn := (Below.refl w4.heap.size w4).alloc (Nat.le_refl _) (.cells #[.slice a3 r.na c3, .slice a3' r.nm c3', .int .i64 r.dn, .bool r.un] 27)
      obtain ⟨wA, hwA⟩ : ∃ wA, w4.alloc (.cells #[.slice a3 r.na c3, .slice a3' r.nm c3', .int .i64 r.dn, .bool r.un] 27) = wA := ⟨_, rfl⟩
      rw [hwA] at hdn
      have hbA := hb4.trans (hdn.mono hb4.size)
      have HLA := hide (show N5 w wA wA w4.heap.size (.slice a3 r.na c3) (.slice a3' r.nm c3') r from by
        refine ⟨hbA, hwA ▸ new4 w4 _ _ _ _ _, Below.refl _ _, ?_, hbA.size⟩
        rw [← hwA]; simp)
      have HR0 := hide (show SagQ wA (.slice a3 r.na c3) (.slice a3' r.nm c3') r.na r.fa r.nm (fl r.fm) from hA4.q.below hdn)
      have HwA := hide hwA
      clear hb hb3 hb4 hbA hdn hA4 hwA HQ2
      go_wp2_with fail
      rw [HwA.out]
      refine (to_ints _ _ _ _ (HV.out.1.below HLA.out.1) HS.out.1).mono ?_
      rintro e w5 ⟨⟨rfl, hI⟩, hb⟩
      have HI := hide hI
      have HB := hide hb
      clear hI hb
      go_wp2_with fail
      refine (to_moves _ _ _ _ (HV.out.2.below (HLA.out.down HB.out).1) HS.out.2).mono ?_
      rintro e w7 ⟨⟨rfl, hJ⟩, hb⟩
      have HM7 := hide (show N7 w wA w7 s w4.heap.size (.slice a3 r.na c3) (.slice a3' r.nm c3') r w7.heap.size (.slice (some ⟨wA.heap.size, 0, none⟩) s.na s.na) (.slice (some ⟨w5.heap.size, 0, none⟩) s.nm s.nm) from
        ⟨(HLA.out.down HB.out).down hb, own_pair (HI.out.down hb) hJ (Nat.le_refl _) HB.out.size (HI.out.down hb).lt hJ.lt, Nat.le_trans HB.out.size hb.size⟩)
      have HC7 := hide (HIm.out _ _ w7 HM7.out.2.1.c)
      clear hb hJ HI HB HLA HwA
      go_wp2_with fail
      refine HC7.out.mono ?_
      rintro e w8 ⟨⟨y0, y1, rfl, hA8⟩, hb⟩
      obtain ⟨a8, c8, rfl⟩ := hA8.q.1.form
      obtain ⟨a8', c8', rfl⟩ := hA8.q.2.form
      obtain ⟨w9, hw9⟩ : ∃ w9, w8.alloc (.cells #[.slice a8 r.na c8, .slice a8' r.nm c8', .int .i64 r.dn, .bool r.un] 27) = w9 := ⟨_, rfl⟩
      have HF9 := hide (show N9 w wA w9 s w4.heap.size (.slice a3 r.na c3) (.slice a3' r.nm c3') r w7.heap.size (.slice (some ⟨wA.heap.size, 0, none⟩) s.na s.na) (.slice (some ⟨w5.heap.size, 0, none⟩) s.nm s.nm) w8.heap.size (.slice a8 r.na c8) (.slice a8' r.nm c8') from by
        have hdn := (Below.refl w8.heap.size w8).alloc (Nat.le_refl _) (.cells #[.slice a8 r.na c8, .slice a8' r.nm c8', .int .i64 r.dn, .bool r.un] 27)
        rw [hw9] at hdn
        exact ⟨(HM7.out.down hb).down hdn, ⟨hw9 ▸ new4 w8 _ _ _ _ _, hA8.down hdn⟩, hb.size⟩)
      have Hw9 := hide hw9
      clear hb hA8 hw9 HM7 HC7
      obtain ⟨⟨d0, d1, d2, d3⟩, -⟩ := HF9.out.2.1.1.quad
      obtain ⟨⟨e0, e1, e2, e3⟩, -⟩ := HF9.out.1.1.2.1.quad
      rw [← Hw9.out] at d0 d1 d2 d3 e0 e1 e2 e3
      go_wp2_with fail
      rw [Hw9.out]
      refine (eq_saga _ _ _ _ r.na r.fa r.nm (fl r.fm) r.dn r.un _ HF9.out.2.1.2.q (HR0.out.below HF9.out.1.1.2.2.1) HS'.out).mono ?_
      rintro e w10 ⟨rfl, hb⟩
      have HF10 := hide (HF9.out.down hb)
      clear hb HF9 d0 d1 d2 d3 e0 e1 e2 e3 Hw9
      go_wp2_with fail
      refine (to_ints _ _ _ _ (HV.out.1.below HF10.out.1.1.1) HS.out.1).mono ?_
      rintro e w11 ⟨⟨rfl, hI⟩, hb⟩
      have HF11 := hide (HF10.out.down hb)
      have HI := hide (show IntsOf w11 (.slice (some ⟨w10.heap.size, 0, none⟩) s.na s.na) s.na s.fa from OwnI.ints ⟨_, _, rfl, fun _ => ⟨_, _, rfl, Nat.zero_le _, hI.lt, Nat.le_refl _, _, hI, fun _ _ => rfl⟩⟩)
      clear hI hb HF10
      go_wp2_with fail
      refine (eq_ints _ _ s.na s.fa _ HF11.out.1.2.1.q.1 HI.out HS.out.1).mono ?_
      rintro e w12 ⟨rfl, hb⟩
      have HF12 := hide (HF11.out.down hb)
      clear hb HF11 HI
      go_wp2_with fail
      refine (to_moves _ _ _ _ (HV.out.2.below HF12.out.1.1.1) HS.out.2).mono ?_
      rintro e w13 ⟨⟨rfl, hJ⟩, hb⟩
      have HF13 := hide (HF12.out.down hb)
      have HJ := hide (show MovesOf w13 (.slice (some ⟨w12.heap.size, 0, none⟩) s.nm s.nm) s.nm (fl s.fm) from OwnV.moves ⟨_, _, rfl, Nat.le_refl _, fun _ => ⟨_, _, rfl, Nat.zero_le _, hJ.lt, Nat.le_refl _, _, hJ, fun _ _ => rfl⟩⟩)
      clear hJ hb HF12
      go_wp2_with fail
      refine (eq_moves _ _ s.nm (fl s.fm) _ HF13.out.1.2.1.q.2 HJ.out HS.out.2).mono ?_
      rintro e w14 ⟨rfl, hb⟩
      have HF14 := hide (HF13.out.down hb)
      clear hb HF13 HJ
      go_wp2_with fail
      refine (mark_ownI wA.heap.size w7.heap.size s.na 1 _ s.fa _ HF14.out.1.2.1.1 HS.out.1 (by omega)).mono ?_
      rintro e w15 ⟨rfl, -, hk, hm⟩
      have HV1 := hide (hm HF14.out.1.2.1.2)
      have HK1 := hide hk
      clear hk hm
      obtain ⟨m1, hm1⟩ : ∃ m, 1 + s.na = m := ⟨_, rfl⟩
      have hm2 : m1 ≤ 1000000000 := by have := HS.out.1; omega
      rw [hm1]
      clear hm1
      go_wp2_with fail
      refine (mark_ownV wA.heap.size w7.heap.size s.nm m1 _ _ _ HV1.out HS.out.2 hm2).mono ?_
      rintro e w16 ⟨rfl, -, hk, -⟩
      have HK9 := hide (HF14.out.mark (HK1.out.trans hk))
      have hknn : ¬ (((m1 + s.nm * 3 : Nat) : Int) < 0) := by omega
      clear hk HF14 HK1 HV1 hm2
      obtain ⟨⟨d0, d1, d2, d3⟩, -⟩ := HK9.out.2.1.1.quad
      obtain ⟨⟨e0, e1, e2, e3⟩, -⟩ := HK9.out.1.2.1.quad
      go_wp2_with fail
      refine (eq_saga _ _ _ _ r.na r.fa r.nm (fl r.fm) r.dn r.un _ HK9.out.2.1.2.q (HR0.out.below HK9.out.1.2.2.1) HS'.out).mono ?_
      rintro e w17 ⟨rfl, hb⟩
      have HK10 := hide (HK9.out.down hb)
      clear hb HK9 d0 d1 d2 d3 e0 e1 e2 e3 hknn
      obtain ⟨⟨d0, d1, d2, d3⟩, -⟩ := HK10.out.2.1.1.quad
      go_wp2_with fail
      refine (mark_saga w7.heap.size w8.heap.size _ _ r.na r.fa r.nm (fl r.fm) r.dn r.un _ HK10.out.2.1.2 HS'.out (Nat.le_of_lt HK10.out.2.2.2)).mono ?_
      rintro e w18 ⟨rfl, hA, hk⟩
      have HK11 := hide (HK10.out.mark hk hA)
      clear hk hA HK10 d0 d1 d2 d3
      rw [HM.out]
      obtain ⟨⟨d0, d1, d2, d3⟩, -⟩ := HK11.out.2.1.1.quad
      go_wp2_with fail
      refine (held_saga _ _ r.na r.nm r.dn r.un _ HK11.out.2.1.2.q HS'.out).mono ?_
      rintro e w19 ⟨rfl, hb⟩
      have HN := hide (HK11.out.down hb)
      clear hb HK11 d0 d1 d2 d3
      rw [HM.out]
      go_wp2_with fail
      refine (to_ints _ _ _ _ (HV.out.1.below HN.out.1.1) HS.out.1).mono ?_
      rintro e w20 ⟨⟨rfl, hI⟩, hb⟩
      have HN20 := hide (HN.out.down hb)
      have HI := hide hI
      clear hI hb HN
      go_wp2_with fail
      refine (to_moves _ _ _ _ (HV.out.2.below HN20.out.1.1) HS.out.2).mono ?_
      rintro e w21 ⟨⟨rfl, hJ⟩, hb⟩
      have HN21 := hide (HN20.out.down hb)
      have HC16 := hide (HIm.out _ _ w21 (own_pair (lo := 0) (HI.out.down hb) hJ (Nat.zero_le _) (Nat.zero_le _) (HI.out.down hb).lt hJ.lt).c)
      clear hb hJ HI HN20
      go_wp2_with fail
      refine HC16.out.mono ?_
      rintro e w22 ⟨⟨z0, z1, rfl, hA17⟩, hb⟩
      obtain ⟨a17, c17, rfl⟩ := hA17.q.1.form
      obtain ⟨a17', c17', rfl⟩ := hA17.q.2.form
      have hdn := (Below.refl w22.heap.size w22).alloc (Nat.le_refl _) (.cells #[.slice a17 r.na c17, .slice a17' r.nm c17', .int .i64 r.dn, .bool r.un] 27)
      have HN17 := hide ((HN21.out.down hb).down hdn)
      have HB17 := hide (new4 w22 (.slice a17 r.na c17) (.slice a17' r.nm c17') (.int .i64 r.dn) (.bool r.un) 27)
      have HA17 := hide (hA17.q.below hdn)
      clear hb hdn hA17 HN21 HC16
      obtain ⟨⟨d0, d1, d2, d3⟩, -⟩ := HB17.out.quad
      obtain ⟨⟨e0, e1, e2, e3⟩, -⟩ := HN17.out.1.2.1.quad
      go_wp2_with fail
      refine (eq_saga _ _ _ _ r.na r.fa r.nm (fl r.fm) r.dn r.un _ HA17.out (HR0.out.below HN17.out.1.2.2.1) HS'.out).mono ?_
      rintro e w23 ⟨rfl, hb⟩
      have HK12 := hide (HN17.out.down hb)
      clear hb HN17 HA17 HB17 d0 d1 d2 d3 e0 e1 e2 e3
      obtain ⟨⟨d0, d1, d2, d3⟩, -⟩ := HK12.out.2.1.1.quad
      go_wp2_with fail
      refine (held_saga _ _ r.na r.nm r.dn r.un _ HK12.out.2.1.2.q HS'.out).mono ?_
      rintro e w24 ⟨rfl, hb⟩
      have hbz := (HK12.out.down hb).1.1
      rw [HM.out]
      clear HK12 HR0 HV HS HS' HM hb d0 d1 d2 d3
      go_wp2
      go_ret
      exact ⟨rfl, hbz⟩
end Go.Proofs.Ytmpedadjikmnhaa
