/-
  The law of AdvanceWheel, walked: it returns true and turns nothing that was there, wherever both texts tell the same.
-/
import Derived.Test.YtcodllammndciaaWhLW
namespace Go.Proofs.Ytcodllammndciaa
open Go.RowKit M
open Clk (upd upd_same upd_other)
set_option maxRecDepth 20000 in
set_option maxHeartbeats 8000000 in
theorem law_adv_run (x : Int) (v : Value) (k : Nat) (rs : Nat → Rw) (to : Int) (w : World) (hv : RowsOf w v k rs) (hl : Lens k rs)
    (hC : Small k rs → ∃ (x' : Int) (k' : Nat) (rs' : Nat → Rw) (q : Nat) (f : Nat → Int) (z : Int) (b : Bool), Small k' rs' ∧ q ≤ 1048576 ∧
      (∀ (v : Value) (W : World), RowsOf W v k rs → Calls Try.prog 30 #[.agg #[.int .i64 x, v], .int .i64 to] W fun e w' => (∃ u r, e = .returned (.tuple #[.agg #[.int .i64 x', u], r, .int .i64 z, .bool b]) ∧ RowsK W.heap.size w' u k' rs' ∧ IntsOf w' r q f) ∧ Below W.heap.size W w') ∧
      (∀ (v : Value) (W : World), RowsOf W v k rs → Calls Try.prog 31 #[.agg #[.int .i64 x, v], .int .i64 to] W fun e w' => (∃ u r, e = .returned (.tuple #[.agg #[.int .i64 x', u], r, .int .i64 z, .bool b]) ∧ AnsW w' W.heap.size u k' rs' ∧ AnsC w' W.heap.size r q f) ∧ Below W.heap.size W w')) :
    Calls Try.prog 8 #[.agg #[.int .i64 x, v], .int .i64 to] w fun e w' => e = .returned (.bool true) ∧ Below w.heap.size w w' := by
  have HV := hide hv
  have HC := hide hC
  obtain ⟨a, cap, rfl⟩ := hv.form
  have HL := hide hl
  have HL0 := hide (show LC w (w.alloc (.cells #[.int .i64 x, .slice a k cap] 31)) x (.slice a k cap) from ⟨Blk.fresh w #[.int .i64 x, .slice a k cap] 2 (p2 (.int .i64 x) (.slice a k cap)) 31 rfl, (Below.refl w.heap.size w).alloc (Nat.le_refl _) _, by simp⟩)
  clear hv hl hC
  go_enter Try.func8, Try.ntmps8
  go_wp2_with fail
  refine (sz_wheel x _ k rs _ (HV.out.below HL0.out.2.1) HL.out).mono ?_
  rintro e w1 ⟨⟨r, rfl, hr⟩, hb⟩
  have HL1 := hide (HL0.out.down hb)
  clear hb HL0
  by_cases hrn : r < 0
  · have hbf := HL1.out.2.1
    clear hr HL1
    go_wp2
    go_ret
    exact ⟨rfl, hbf⟩
  · have hsm : Small k rs := by
      rcases hr with h | ⟨_, h⟩
      · omega
      · exact h
    have HSm := hide hsm
    have HS := hide hsm.short
    obtain ⟨x', k', rs', q, f, z, b, hs', hq, hSp, hIm⟩ := HC.out hsm
    obtain ⟨m, hm⟩ : ∃ m, 1 + tot rs' k' * 2 = m := ⟨_, rfl⟩
    have hm1 : m ≤ 100000000 := by unfold Small at hs'; omega
    have hmn : ¬ ((m : Int) < 0) := by omega
    obtain ⟨m2, hm2⟩ : ∃ m2, m + q = m2 := ⟨_, rfl⟩
    have hmn2 : ¬ ((m2 : Int) < 0) := by omega
    have HM := hide hm
    have HM2 := hide hm2
    clear hm hm2
    have HS' := hide hs'
    have hbb : (b != b) = false := by cases b <;> rfl
    have hmm : ((m2 : Int) != (m2 : Int)) = false := by simp
    have hzz : (z != z) = false := by simp
    have HSp := hide hSp
    have HIm := hide hIm
    clear hr hsm HC HL hSp hIm hs'
    obtain ⟨d0, d1, -, -⟩ := HL1.out.1.pair
    go_wp2_with fail
    refine (to_wheel x _ k rs _ (HV.out.below HL1.out.2.1) HS.out).mono ?_
    rintro e w2 ⟨⟨_, rfl, g2, β2, X2, rfl, hg2, hX2⟩, hb⟩
    have HL2 := hide (HL1.out.down hb)
    clear d0 d1 hb HL1
    go_wp2_with fail
    refine (HSp.out _ _ (hX2.rows (cap' := k))).mono ?_
    rintro e w3 ⟨⟨u3, r3, rfl, hR3, hI3⟩, hb⟩
    obtain ⟨aS, cS, rfl⟩ := hR3.rows.form
    obtain ⟨aI, cI, rfl⟩ := hI3.form
    have hdn := (Below.refl w3.heap.size w3).alloc (Nat.le_refl _) (.cells #[.int .i64 x', .slice aS k' cS] 24)
    obtain ⟨wA, hwA⟩ : ∃ wA, w3.alloc (.cells #[.int .i64 x', .slice aS k' cS] 24) = wA := ⟨_, rfl⟩
    have HLA := hide (show LC w wA x (.slice a k cap) from hwA ▸ (HL2.out.down hb).down hdn)
    have HR0 := hide (show RowsOf wA (.slice aS k' cS) k' rs' from hwA ▸ (hR3.down hdn).rows)
    have HW0 := hide (show Blk wA w3.heap.size 2 (p2 (.int .i64 x') (.slice aS k' cS)) 24 from hwA ▸ Blk.fresh w3 #[.int .i64 x', .slice aS k' cS] 2 (p2 (.int .i64 x') (.slice aS k' cS)) 24 rfl)
    have HI0 := hide (show IntsOf wA (.slice aI q cI) q f from hwA ▸ hI3.below hdn)
    have HwA := hide hwA
    clear hb hdn hR3 hI3 HL2 hX2 hwA
    obtain ⟨d0, d1, -, -⟩ := HLA.out.1.pair
    rw [← HwA.out] at d0 d1
    go_wp2_with fail
    rw [HwA.out]
    refine (to_wheel x _ k rs _ (HV.out.below HLA.out.2.1) HS.out).mono ?_
    rintro e w6 ⟨⟨_, rfl, gx, βx, Xx, rfl, hgx, hXx⟩, hb6⟩
    obtain ⟨w7, hw7⟩ : ∃ w7, w6.alloc (.cells #[.int .i64 x, sl gx k] 24) = w7 := ⟨_, rfl⟩
    have HM7 := hide (show D7 w wA w7 x (.slice a k cap) w3.heap.size x' (.slice aS k' cS) w6.heap.size (sl gx k) k rs from by
      subst hw7
      have hdn := (Below.refl w6.heap.size w6).alloc (Nat.le_refl _) (.cells #[.int .i64 x, sl gx k] 24)
      have hAn : AnsW w6 wA.heap.size (sl gx k) k rs := .inr ⟨gx, k, k, βx, Xx, rfl, hXx⟩
      exact ⟨(HLA.out.down hb6).down hdn, (HW0.out.down hb6).down hdn, Blk.fresh w6 #[.int .i64 x, sl gx k] 2 (p2 (.int .i64 x) (sl gx k)) 24 rfl, hAn.x.down hdn, hb6.trans (hdn.mono hb6.size), by simp, HW0.out.lt, HLA.out.2.2, hb6.size⟩)
    have Hw7 := hide hw7
    clear hXx hb6 hw7 HLA HW0 d0 d1 HwA
    obtain ⟨d0, d1, -, -⟩ := HM7.out.2.2.1.pair
    rw [← Hw7.out] at d0 d1
    go_wp2_with fail
    rw [Hw7.out]
    refine (HIm.out _ _ HM7.out.2.2.2.1.rows).mono ?_
    rintro e w8 ⟨⟨u8, r8, rfl, hA8, hC8⟩, hb⟩
    obtain ⟨aG, cG, rfl⟩ := hA8.rows.form
    obtain ⟨aJ, cJ, rfl⟩ := hC8.form
    obtain ⟨w9, hw9⟩ : ∃ w9, w8.alloc (.cells #[.int .i64 x', .slice aG k' cG] 24) = w9 := ⟨_, rfl⟩
    have HF9 := hide (show DG w wA w9 x (.slice a k cap) w3.heap.size x' (.slice aS k' cS) w6.heap.size (sl gx k) k rs w8.heap.size w7.heap.size w8.heap.size (.slice aG k' cG) k' rs' (.slice aJ q cJ) q f from hw9 ▸ DG.al (HM7.out.down hb) hA8 HM7.out.2.2.2.2.2.1 hC8)
    have Hw9 := hide hw9
    clear hb hA8 hC8 hw9 HM7 d0 d1 Hw7
    obtain ⟨d0, d1, -, -⟩ := HF9.out.1.2.1.pair
    obtain ⟨d2, d3, -, -⟩ := HF9.out.1.1.2.1.pair
    rw [← Hw9.out] at d0 d1 d2 d3
    go_wp2_with fail
    rw [Hw9.out]
    refine (eq_wheel x' _ _ k' rs' _ HF9.out.1.2.2.1.rows (HR0.out.below HF9.out.1.1.2.2.2.2.1) HS'.out.short).mono ?_
    rintro e w9i ⟨rfl, hb⟩
    have HF9i := hide (HF9.out.down hb)
    clear hb HF9 d0 d1 d2 d3 Hw9
    go_wp2_with fail
    refine (eq_ints _ _ q f _ HF9i.out.2.ints (HI0.out.below HF9i.out.1.1.2.2.2.2.1) hq).mono ?_
    rintro e w10 ⟨rfl, hb⟩
    have hF10 := HF9i.out.down hb
    clear hb HF9i
    go_upto_region 10 with fail
    have hF10d := hF10.down (Below.refl w10.heap.size w10).drew
    have HTW10 := hide (show ∀ W, DG w wA W x (.slice a k cap) w3.heap.size x' (.slice aS k' cS) w6.heap.size (sl gx k) k rs w8.heap.size w7.heap.size w8.heap.size (.slice aG k' cG) k' rs' (.slice aJ q cJ) q f → Calls Try.prog 18 #[.agg #[.int .i64 x, .slice a k cap]] W fun e w' => (∃ u, e = .returned (.agg #[.int .i64 x, u]) ∧ ∃ g β X, u = sl g k ∧ W.heap.size ≤ g ∧ AW 52 w' W.heap.size g k k rs β X) ∧ DG w wA w' x (.slice a k cap) w3.heap.size x' (.slice aS k' cS) w6.heap.size (sl gx k) k rs w8.heap.size w7.heap.size w8.heap.size (.slice aG k' cG) k' rs' (.slice aJ q cJ) q f ∧ Below W.heap.size W w' from fun W hW => (to_wheel x _ k rs W (HV.out.below hW.1.1.1.2.1) HS.out).mono fun e w' ⟨h1, h2⟩ => ⟨h1, hW.down h2, h2⟩)
    go_cut [70] from 66 (fun bb wx => bb = .bool false ∧ Hid (DG w wA wx x (.slice a k cap) w3.heap.size x' (.slice aS k' cS) w6.heap.size (sl gx k) k rs w8.heap.size w7.heap.size w8.heap.size (.slice aG k' cG) k' rs' (.slice aJ q cJ) q f))
    case first =>
      go_region_held (fun W => W.cell? ⟨w6.heap.size, 0, none⟩ = some (.int .i64 x) ∧ W.cell? ⟨w6.heap.size, 1, none⟩ = some (sl gx k) ∧ W.cell? ⟨w.heap.size, 0, none⟩ = some (.int .i64 x) ∧ W.cell? ⟨w.heap.size, 1, none⟩ = some (.slice a k cap)) (first | exact DF.s hFe.1 | exact DF.s hFj.1 | exact DF.s hF10d.1) (first
        | (go_at_call 18; refine Calls.mono (HTW10.out _ (by assumption)) ?_; rintro e wj ⟨⟨_, rfl, gj, βj, Xj, rfl, hgj, hXj⟩, hFj, hbj⟩)
        | (go_at_call 13; refine Calls.mono (eq_wheel x _ _ k rs _ hFj.1.1.2.2.2.1.rows (hXj.rows (cap' := k)) HS.out) ?_; rintro e we ⟨rfl, hbe⟩; have hFe := hFj.down hbe))
      all_goals
        go_wp2_with fail
        go_meet
        exact ⟨rfl, hide hFe⟩
    case rest =>
      rename World => wC
      obtain ⟨rfl, HF11⟩ := hcut
      clear hF10 hF10d HTW10
      obtain ⟨d0, d1, -, -⟩ := HF11.out.1.1.2.2.1.pair
      go_wp2_with fail
      refine (mark_wheel2 x wA.heap.size w6.heap.size k 1 _ rs _ HF11.out.1.1.2.2.2.1 HSm.out (by omega)).mono ?_
      rintro e w12 ⟨rfl, -, hk, hkb⟩
      have HK9 := hide (HF11.out.k8 hk hkb)
      have hknn : ¬ (((1 + tot rs k * 2 : Nat) : Int) < 0) := by omega
      clear hk hkb HF11 d0 d1
      obtain ⟨d0, d1, -, -⟩ := HK9.out.1.2.2.1.pair
      obtain ⟨d2, d3, -, -⟩ := HK9.out.1.2.1.pair
      go_wp2_with fail
      refine (eq_wheel x' _ _ k' rs' _ HK9.out.1.2.2.2.1.rows (HR0.out.below HK9.out.1.2.2.2.2.1) HS'.out.short).mono ?_
      rintro e w13 ⟨rfl, hb⟩
      have HK9i := hide (HK9.out.down hb)
      clear hb HK9 d0 d1 d2 d3 hknn
      go_wp2_with fail
      refine (eq_ints _ _ q f _ HK9i.out.2.ints (HI0.out.below HK9i.out.1.2.2.2.2.1) hq).mono ?_
      rintro e w13i ⟨rfl, hb⟩
      have HK10 := hide (HK9i.out.down hb)
      clear hb HK9i
      obtain ⟨d0, d1, -, -⟩ := HK10.out.1.2.2.1.pair
      go_wp2_with fail
      refine (mark_wheel2 x' w7.heap.size w8.heap.size k' 1 _ rs' _ HK10.out.1.2.2.2.1 HS'.out (by omega)).mono ?_
      rintro e w14 ⟨rfl, hA, hk, hkb⟩
      have HK11 := hide (HK10.out.marked hk hA hkb)
      clear hk hkb hA HK10 d0 d1
      rw [HM.out]
      go_wp2_with fail
      refine (mark_ansK w7.heap.size q m _ f _ HK11.out.2 hq (by omega)).mono ?_
      rintro e w14i ⟨rfl, hC, hb, -, hX, hW⟩
      have HK12 := hide (HK11.out.listed hb hC hX hW)
      clear hb hC hX hW HK11
      rw [HM2.out]
      obtain ⟨d0, d1, -, -⟩ := HK12.out.1.2.2.1.pair
      go_wp2_with fail
      refine (held_wheel x' k' 1 _ rs' _ HK12.out.1.2.2.2.1.rows HS'.out (by omega)).mono ?_
      rintro e w15 ⟨rfl, hb⟩
      have HN0 := hide (HK12.out.down hb)
      clear hb HK12 d0 d1
      rw [HM.out]
      go_wp2_with fail
      refine (held_ints _ q m _ HN0.out.2.ints hq (by omega)).mono ?_
      rintro e w15i ⟨rfl, rfl⟩
      have HN := hide HN0.out
      clear HN0
      rw [HM2.out]
      obtain ⟨d0, d1, -, -⟩ := HN.out.1.1.1.pair
      go_wp2_with fail
      refine (to_wheel x _ k rs _ (HV.out.below HN.out.1.1.2.1) HS.out).mono ?_
      rintro e w16 ⟨⟨_, rfl, g16, β16, X16, rfl, hg16, hX16⟩, hb⟩
      have HN16 := hide (HN.out.down hb)
      clear d0 d1 hb HN
      go_wp2_with fail
      refine (HIm.out _ _ (hX16.rows (cap' := k))).mono ?_
      rintro e w17 ⟨⟨u17, r17, rfl, hA17, hC17⟩, hb⟩
      obtain ⟨aH, cH, rfl⟩ := hA17.rows.form
      obtain ⟨aK, cK, rfl⟩ := hC17.form
      have hdn := (Below.refl w17.heap.size w17).alloc (Nat.le_refl _) (.cells #[.int .i64 x', .slice aH k' cH] 24)
      have HN17 := hide ((HN16.out.down hb).down hdn)
      have HB17 := hide (Blk.fresh w17 #[.int .i64 x', .slice aH k' cH] 2 (p2 (.int .i64 x') (.slice aH k' cH)) 24 rfl)
      have HA17 := hide ((hA17.x.down hdn).rows)
      have HC17 := hide ((hC17.below hdn).ints)
      clear hb hdn hA17 hC17 hX16 HN16
      obtain ⟨d0, d1, -, -⟩ := HB17.out.pair
      obtain ⟨d2, d3, -, -⟩ := HN17.out.1.2.1.pair
      go_wp2_with fail
      refine (eq_wheel x' _ _ k' rs' _ HA17.out (HR0.out.below HN17.out.1.2.2.2.2.1) HS'.out.short).mono ?_
      rintro e w18 ⟨rfl, hb⟩
      have HK13 := hide (HN17.out.down hb)
      have HC18 := hide (HC17.out.below hb)
      clear hb HN17 HA17 HB17 HC17 d0 d1 d2 d3
      go_wp2_with fail
      refine (eq_ints _ _ q f _ HC18.out (HI0.out.below HK13.out.1.2.2.2.2.1) hq).mono ?_
      rintro e w18i ⟨rfl, hb⟩
      have HK12 := hide (HK13.out.down hb)
      clear hb HK13 HC18
      obtain ⟨d0, d1, -, -⟩ := HK12.out.1.2.2.1.pair
      go_wp2_with fail
      refine (held_wheel x' k' 1 _ rs' _ HK12.out.1.2.2.2.1.rows HS'.out (by omega)).mono ?_
      rintro e w19 ⟨rfl, hb⟩
      have HK14 := hide (HK12.out.down hb)
      clear hb HK12 d0 d1
      rw [HM.out]
      go_wp2_with fail
      refine (held_ints _ q m _ HK14.out.2.ints hq (by omega)).mono ?_
      rintro e w20 ⟨rfl, rfl⟩
      have hbz := HK14.out.1.1.2.1
      rw [HM2.out]
      clear HK14 HR0 HI0 HV HS HSm HS' HM HM2
      go_wp2
      go_ret
      exact ⟨rfl, hbz⟩
end Go.Proofs.Ytcodllammndciaa
