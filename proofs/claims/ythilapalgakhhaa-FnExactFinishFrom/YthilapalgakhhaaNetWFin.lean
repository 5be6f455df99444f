/-
  The law of FinishFrom, walked: it returns true and turns nothing that was there, at every net and list.
-/
import Derived.Test.YthilapalgakhhaaNetAid3
import Derived.Test.YthilapalgakhhaaNetFinS
import Derived.RegionTactic
namespace Go.Proofs.Ythilapalgakhhaa
open Go.RowKit M
set_option maxHeartbeats 2000000 in
theorem law_fin_run (p : Int) (v : Value) (k : Nat) (st : Nat → Sp) (u : Value) (m : Nat) (g : Nat → Int) (w : World) (hv : StepsOf w v k st) (hl : Lens k st) (hu : IntsOf w u m g) (hm : m ≤ 1048576)
    (hC : Short k st → ∃ (q : Nat) (h : Nat → Int) (ok : Bool), q ≤ 1048576 ∧ (∀ (v u : Value) (w : World), StepsOf w v k st → IntsOf w u m g → Calls Try.prog 42 #[netV p v, u] w fun e w' => (∃ R, e = .returned (.tuple #[R, .bool ok]) ∧ IntsOf w' R q h) ∧ Below w.heap.size w w') ∧
      (∀ (v u : Value) (w : World), StepsOf w v k st → IntsOf w u m g → Calls Try.prog 43 #[netV p v, u] w fun e w' => (∃ R, e = .returned (.tuple #[R, .bool ok]) ∧ AnsC w' w.heap.size R q h) ∧ Below w.heap.size w w')) :
    Calls Try.prog 12 #[netV p v, u] w fun e w' => e = .returned (.bool true) ∧ Below w.heap.size w w' := by
  have HV := hide hv
  have HU := hide hu
  obtain ⟨a, cap, rfl⟩ := hv.form
  obtain ⟨a2, cap2, rfl⟩ := hu.form
  have HL := hide hl
  have HC := hide hC
  have hgm : ¬ ((m : Int) > 1048576) := by omega
  clear hv hl hu hC
  go_enter Try.func12, Try.ntmps12
  go_wp2_with fail
  have hb0 := (Below.refl w.heap.size w).alloc (Nat.le_refl _) (.cells #[.int .i64 p, .slice a k cap] 24)
  have hN0 := Blk.fresh w _ 2 (p2 (.int .i64 p) (.slice a k cap)) 24 rfl
  refine (sz_net p _ k st _ (HV.out.below hb0) HL.out).mono ?_
  rintro e w1 ⟨⟨r, rfl, hr⟩, hb⟩
  have hb1 := hb0.trans (hb.mono hb0.size)
  have HN1 := hide (hN0.down hb)
  clear hb hb0 hN0
  by_cases hrn : r < 0
  · clear HN1 hr
    go_wp2
    go_ret
    exact ⟨rfl, hb1⟩
  · have hsm : Small k st := by
      rcases hr with h | ⟨_, h⟩
      · omega
      · exact h
    have HSm := hide hsm
    have HS := hide hsm.short
    obtain ⟨q, h, ok, hq, hS, hI⟩ := HC.out hsm.short
    have CS := hide hS
    have CI := hide hI
    have hoo : (ok != ok) = false := by simp
    have htot : tot st k ≤ 1048576 := by unfold Small at hsm; omega
    clear hr hsm HC hS hI HL
    obtain ⟨d0, d1, -, -⟩ := HN1.out.pair
    go_wp2_with fail
    refine (to_net p _ k st _ (HV.out.below hb1) HS.out).mono ?_
    rintro e w2 ⟨⟨g2, X2, rfl, hg2, hX2⟩, hb⟩
    have hb2 := hb1.trans (hb.mono hb1.size)
    have HN2 := hide (HN1.out.down hb)
    clear d0 d1 hb hb1 HN1
    go_wp2_with fail
    refine (to_ints _ m g _ (HU.out.below hb2) hm).mono ?_
    rintro e w3 ⟨⟨rfl, hB3⟩, hb⟩
    have hb3 := hb2.trans (hb.mono hb2.size)
    have HN3 := hide (HN2.out.down hb)
    have hX3 := hX2.below hb
    clear hb hb2 HN2 hX2
    go_wp2_with fail
    refine (CS.out _ _ _ (hX3.steps (cap := k)) (hB3.ints (cap := m))).mono ?_
    rintro e w4 ⟨⟨R0, rfl, hR0⟩, hb⟩
    have hb4 := hb3.trans (hb.mono hb3.size)
    have HN4 := hide (HN3.out.down hb)
    obtain ⟨ar0, cr0, rfl⟩ := hR0.form
    have HR0 := hide hR0
    clear hX3 hB3 hb hb3 HN3 hR0
    obtain ⟨d0, d1, -, -⟩ := HN4.out.pair
    go_wp2_with fail
    refine (to_net p _ k st _ (HV.out.below hb4) HS.out).mono ?_
    rintro e w5 ⟨⟨g5, X5, rfl, hg5, hX5⟩, hb⟩
    have hb5 := hb4.trans (hb.mono hb4.size)
    have s5 := hb
    have hbA := (Below.refl w5.heap.size w5).alloc (Nat.le_refl _) (.cells #[.int .i64 p, sl g5 k] 29)
    have hc5 := Blk.fresh w5 _ 2 (p2 (.int .i64 p) (sl g5 k)) 29 rfl
    have HN5 := hide ((HN4.out.down hb).down hbA)
    have hb6 := hb5.trans (hbA.mono hb5.size)
    have s6 := s5.trans (hbA.mono s5.size)
    have hX6 := hX5.below hbA
    have hM6 := (hX5.mb (by omega)).below hbA
    have hg5l := hX5.1.lt
    clear d0 d1 hb HN4 hX5 hbA s5 hb5
    go_wp2_with fail
    refine (to_ints _ m g _ (HU.out.below hb6) hm).mono ?_
    rintro e w7 ⟨⟨rfl, hB7⟩, hb⟩
    rw [World.size_alloc] at hB7
    have hb7 := hb6.trans (hb.mono hb6.size)
    have s7 := s6.trans (hb.mono s6.size)
    have HN7 := hide (HN5.out.down hb)
    have hX7 := hX6.below hb
    have hM7 := hM6.below hb
    have hc7 := hc5.down hb
    have hl7 := hB7.lt
    clear hb hb6 HN5 hX6 hc5 hM6 s6
    obtain ⟨e0, e1, -, -⟩ := hc7.pair
    go_wp2_with fail
    refine (CI.out _ _ _ (hX7.steps (cap := k)) (hB7.ints (cap := m))).mono ?_
    rintro e w8 ⟨⟨R1, rfl, hR1⟩, hb⟩
    have hb8 := hb7.trans (hb.mono hb7.size)
    have s8 := s7.trans (hb.mono s7.size)
    have HN8 := hide (HN7.out.down hb)
    have HX8 := hide (hX7.below hb)
    have HM8 := hide (hM7.below hb)
    have HB8 := hide (hB7.down hb)
    have hc8 := hc7.down hb
    obtain ⟨ar1, cr1, rfl⟩ := hR1.form
    have HR1 := hide hR1
    clear hb hb7 HN7 hX7 hB7 hc7 e0 e1 hM7 s7 hR1
    go_wp2_with fail
    refine (eq_ints _ _ q h _ HR1.out.ints (HR0.out.below s8) hq).mono ?_
    rintro e w9 ⟨rfl, hb⟩
    have hb9 := hb8.trans (hb.mono hb8.size)
    have s9 := s8.trans (hb.mono s8.size)
    have HN9 := hide (HN8.out.down hb)
    have HX9 := hide (HX8.out.below hb)
    have HM9 := hide (HM8.out.below hb)
    have HB9 := hide (HB8.out.down hb)
    have hc9 := hc8.down hb
    have HR1_9 := hide (HR1.out.below hb)
    clear hb hb8 s8 HN8 HX8 HM8 HB8 hc8 HR1
    obtain ⟨d0, d1, -, -⟩ := HN9.out.pair
    obtain ⟨e0, e1, -, -⟩ := hc9.pair
    have HCc := hide (show ∀ wx wy : World, wx.heap = w9.heap → Below wx.heap.size wx wy → wy.cell? ⟨w5.heap.size, 0, none⟩ = some (.int .i64 p) ∧ wy.cell? ⟨w5.heap.size, 1, none⟩ = some (sl g5 k) from fun wx wy hh hb => by
      have h : Blk wx w5.heap.size 2 (p2 (.int .i64 p) (sl g5 k)) 29 := by unfold Blk; rw [hh]; exact hc9
      exact ⟨(h.down hb).pair.1, (h.down hb).pair.2.1⟩)
    have Hc9 := hide hc9
    clear hc9
    go_wp2_with fail
    go_region_with (first | (go_at_call 15; refine (to_net p _ k st _ (HV.out.below (hb9.drew)) HS.out).mono ?_; rintro e wy ⟨⟨gy, Xy, rfl, hgy, hXy⟩, hby⟩; obtain ⟨m0, m1⟩ := HCc.out w9.drew wy rfl hby) | (go_at_call 17; refine (eq_net p _ _ k st _ ((HX9.out.below ((Below.refl _ _).drew.trans hby)).steps (cap := k)) (hXy.steps (cap := k)) HS.out).mono ?_; rintro e wz ⟨rfl, hbz⟩))
    all_goals
      have hbq : Below w9.heap.size w9 wz := ((Below.refl _ _).drew.trans hby).trans (hbz.mono hby.size)
      have hb10 := hb9.trans (hbq.mono hb9.size)
      have s10 := s9.trans (hbq.mono s9.size)
      have HN10 := hide (HN9.out.down hbq)
      have HM10 := hide (HM9.out.below hbq)
      have HB10 := hide (HB9.out.down hbq)
      have Hc10 := hide (Hc9.out.down hbq)
      have HR1_10 := hide (HR1_9.out.below hbq)
      clear hby hbz hXy m0 m1 d0 d1 e0 e1 HCc HX9 HN9 HM9 HB9 Hc9 HR1_9 hbq hb9 s9
      go_wp2_with fail
      refine (to_ints _ m g _ (HU.out.below hb10) hm).mono ?_
      rintro e w11 ⟨⟨rfl, hB11⟩, hb⟩
      have hb11 := hb10.trans (hb.mono hb10.size)
      have s11 := s10.trans (hb.mono s10.size)
      have HN11 := hide (HN10.out.down hb)
      have HM11 := hide (HM10.out.below hb)
      have HB11 := hide (HB10.out.down hb)
      have Hc11 := hide (Hc10.out.down hb)
      have HR1_11 := hide (HR1_10.out.below hb)
      have HZ := hide hB11
      clear hb hb10 s10 HN10 HM10 HB10 Hc10 HR1_10 hB11
      go_wp2_with fail
      refine (eq_ints _ _ m g _ (HB11.out.ints (cap := m)) (HZ.out.ints (cap := m)) hm).mono ?_
      rintro e w12 ⟨rfl, hb⟩
      have hb12 := hb11.trans (hb.mono hb11.size)
      have s12 := s11.trans (hb.mono s11.size)
      have HN12 := hide (HN11.out.down hb)
      have HM12 := hide (HM11.out.below hb)
      have HB12 := hide (HB11.out.down hb)
      have HR1_12 := hide (HR1_11.out.below hb)
      obtain ⟨e0, e1, -, -⟩ := (Hc11.out.down hb).pair
      clear hb hb11 s11 HN11 HM11 HB11 Hc11 HR1_11 HZ
      go_wp2_with fail
      refine (mark_net p g5 k k (g5 + 1) w5.heap.size 1 st X5 _ HM12.out HSm.out (by omega)).mono ?_
      rintro e w13 ⟨rfl, hrg⟩
      have hbA := (Below.refl w12.heap.size w12).alloc (Nat.le_refl _) (.cells #[.int .i64 p, sl g5 k] 29)
      have hs4 := hb4.size
      have hs12 := hb12.size
      have ss12 := s12.size
      have hb13 := (hb12.trans (hbA.mono hs12)).trans (hrg.below (by omega))
      have s13 := (s12.trans (hbA.mono ss12)).trans (hrg.below (by omega))
      have HN13 := hide (hrg.blk (HN12.out.down hbA) (.inl (by omega)))
      have HB13 := hide (hrg.blk (HB12.out.down hbA) (.inr (by omega)))
      have HR1_13 := hide ((HR1_12.out.below hbA).rng hrg (by omega))
      clear hrg hbA hb12 s12 HN12 HM12 HB12 HR1_12 e0 e1 hs12 ss12
      go_wp2_with fail
      refine (mark_ints (w5.heap.size + 1) m m (1 + tot st k) g _ HB13.out hm (by omega)).mono ?_
      rintro e w14 ⟨rfl, _, ho⟩
      have hb14 := hb13.trans (ho.below (by omega))
      have s14 := s13.trans (ho.below (by omega))
      have HN14 := hide (ho.blk HN13.out (by omega))
      have HR1_14 := hide (HR1_13.out.only ho (by omega))
      have hknn : ¬ (((1 + tot st k + m : Nat) : Int) < 0) := by omega
      clear ho hb13 s13 HN13 HB13 HR1_13
      go_wp2_with fail
      refine (eq_ints _ _ q h _ HR1_14.out.ints (HR0.out.below s14) hq).mono ?_
      rintro e w15 ⟨rfl, hb⟩
      have hb15 := hb14.trans (hb.mono hb14.size)
      have s15 := s14.trans (hb.mono s14.size)
      have HN15 := hide (HN14.out.down hb)
      have HR1_15 := hide (HR1_14.out.below hb)
      clear hb hb14 s14 HN14 HR1_14
      go_wp2_with fail
      refine (mark_ansC w7.heap.size q 1 _ h _ HR1_15.out hq (by omega)).mono ?_
      rintro e w16 ⟨rfl, hr16, hb, hsz⟩
      have hb16 := hb15.trans (hb.mono (by omega))
      have s16 := s15.trans (hb.mono (by omega))
      have HN16 := hide (HN15.out.below hb (by omega))
      have HR16 := hide hr16
      clear hb hb15 s15 HN15 HR1_15 hr16 hsz
      go_wp2_with fail
      refine (held_ints _ q 1 _ HR16.out.ints hq (by omega)).mono ?_
      rintro e w17 ⟨rfl, rfl⟩
      have hq1 : ¬ (((1 + q : Nat) : Int) < 0) := by omega
      have hq2 : (((1 + q : Nat) : Int) != ((1 + q : Nat) : Int)) = false := by simp
      obtain ⟨d0, d1, -, -⟩ := HN16.out.pair
      go_wp2_with fail
      refine (to_net p _ k st _ (HV.out.below hb16) HS.out).mono ?_
      rintro e w18 ⟨⟨g18, X18, rfl, hg18, hX18⟩, hb⟩
      have hb18 := hb16.trans (hb.mono hb16.size)
      have s18 := s16.trans (hb.mono s16.size)
      have HR18 := hide (HR16.out.below hb)
      clear hb hb16 s16 HR16 HN16 d0 d1
      go_wp2_with fail
      refine (to_ints _ m g _ (HU.out.below hb18) hm).mono ?_
      rintro e w19 ⟨⟨rfl, hB19⟩, hb⟩
      have hb19 := hb18.trans (hb.mono hb18.size)
      have s19 := s18.trans (hb.mono s18.size)
      have HR19 := hide (HR18.out.below hb)
      have hX19 := hX18.below hb
      clear hb hb18 s18 HR18 hX18
      go_wp2_with fail
      refine (CI.out _ _ _ (hX19.steps (cap := k)) (hB19.ints (cap := m))).mono ?_
      rintro e w20 ⟨⟨R2, rfl, hR2⟩, hb⟩
      have hb20 := hb19.trans (hb.mono hb19.size)
      have s20 := s19.trans (hb.mono s19.size)
      have HR20 := hide (HR19.out.below hb)
      obtain ⟨ar2, cr2, rfl⟩ := hR2.form
      have HR2 := hide hR2
      clear hb hb19 s19 HR19 hX19 hB19 hR2
      go_wp2_with fail
      refine (eq_ints _ _ q h _ HR2.out.ints (HR0.out.below s20) hq).mono ?_
      rintro e w21 ⟨rfl, hb⟩
      have hb21 := hb20.trans (hb.mono hb20.size)
      have HR21 := hide (HR20.out.below hb)
      clear hb hb20 s20 HR20 HR2
      go_wp2_with fail
      refine (held_ints _ q 1 _ HR21.out.ints hq (by omega)).mono ?_
      rintro e w22 ⟨rfl, rfl⟩
      clear HR21 HR0 CS CI HV HU HS HSm
      go_wp2
      go_ret
      exact ⟨rfl, hb21⟩
theorem law_fin (p : Int) (v : Value) (k : Nat) (st : Nat → Sp) (u : Value) (m : Nat) (g : Nat → Int) (w : World) (_ : (Lit.int .i64 p).wf = true) (hv : StepsOf w v k st) (hl : Lens k st) (hu : IntsOf w u m g) (mm : m ≤ maxLen) :
    Calls Try.prog 12 #[netV p v, u] w fun e w' => e = .returned (.bool true) ∧ Below w.heap.size w w' := by
  unfold maxLen at mm
  by_cases hm : m ≤ 1048576
  · refine law_fin_run p v k st u m g w hv hl hu hm (fun hs => ?_)
    have hnil : ∀ w' : World, IntsOf w' (.slice none 0 0) 0 (fun _ => 0) := fun _ => ⟨none, 0, rfl, fun h => absurd h (Nat.lt_irrefl _)⟩
    by_cases h : NOk p k st m g
    · obtain rfl : p = (m : Int) := h.2.2.symm
      cases hf : foundB st k (pad m g) with
      | none =>
        refine ⟨0, fun _ => 0, false, by omega, fun v u w h1 h2 => (spec_fin m v k st u g none w h1 h2 hs h hf).mono ?_, fun v u w h1 h2 => (impl_fin_no m v k st u m g w h1 h2 hs hm (.inr ⟨h, hf⟩)).mono fun _ _ ⟨he, hb⟩ => ⟨⟨_, he, .inl ⟨rfl, rfl⟩⟩, hb⟩⟩
        rintro e w' ⟨hF, hb⟩
        rcases hF with ⟨_, rfl⟩ | ⟨s, d, R, hs, _⟩
        · exact ⟨⟨_, rfl, hnil _⟩, hb⟩
        · cases hs
      | some s =>
        have hok := allB_ok h.1.2.2 h.mk hf
        cases hkn : kn s.M (tok (m - 1)) s.c with
        | false =>
          refine ⟨0, fun _ => 0, false, by omega, fun v u w h1 h2 => (spec_fin m v k st u g (some s) w h1 h2 hs h hf).mono ?_, fun v u w h1 h2 => (impl_fin_end m v k st u g s w h1 h2 hs h hf (kn_false.1 hkn)).mono fun _ _ ⟨he, hb⟩ => ⟨⟨_, he, .inl ⟨rfl, rfl⟩⟩, hb⟩⟩
          rintro e w' ⟨hF, hb⟩
          rcases hF with ⟨_, rfl⟩ | ⟨s', d, R, hs', hd, _, hy, _⟩
          · exact ⟨⟨_, rfl, hnil _⟩, hb⟩
          · cases hs'
            exact absurd hy (by rw [kn_false.1 hkn d hd]; simp)
        | true =>
          obtain ⟨d, hd, hno, hy⟩ := kn_true hkn
          have hlen := (pathOf_is hok).len hok d hd
          have hmost := hok.most
          refine ⟨(pathOf s d).length, lv (pathOf s d), true, by omega, fun v u w h1 h2 => (spec_fin m v k st u g (some s) w h1 h2 hs h hf).mono ?_, fun v u w h1 h2 => impl_fin m v k st u g s d (pathOf s) w h1 h2 hs h hf hd hno hy (pathOf_is hok)⟩
          rintro e w' ⟨hF, hb⟩
          rcases hF with ⟨hn, _⟩ | ⟨s', d', R, hs', hd', hno', hy', rfl, hI⟩
          · rcases hn with hn | ⟨s', hs', hno'⟩
            · cases hn
            · cases hs'
              exact absurd hy (by rw [hno' d hd]; simp)
          · cases hs'
            obtain rfl : d' = d := by
              rcases Nat.lt_trichotomy d' d with hlt | he | hlt
              · exact absurd hy' (by rw [hno d' hlt]; simp)
              · exact he
              · exact absurd hy (by rw [hno' d hlt]; simp)
            exact ⟨⟨_, rfl, hI⟩, hb⟩
    · exact ⟨0, fun _ => 0, false, by omega, fun v u w h1 h2 => (spec_fin_no p v k st u m g w h1 h2 hs hm h).mono fun _ _ ⟨he, hb⟩ => ⟨⟨_, he, hnil _⟩, hb⟩,
        fun v u w h1 h2 => (impl_fin_no p v k st u m g w h1 h2 hs hm (.inl h)).mono fun _ _ ⟨he, hb⟩ => ⟨⟨_, he, .inl ⟨rfl, rfl⟩⟩, hb⟩⟩
  · obtain ⟨a, cap, rfl⟩ := hv.form
    obtain ⟨a2, cap2, rfl⟩ := hu.form
    have hgm : ((m : Int) > 1048576) := by omega
    clear hv hu hl
    go_enter Try.func12, Try.ntmps12
    go_wp2
    go_ret
    exact ⟨rfl, (Below.refl _ _).alloc (Nat.le_refl _) _⟩
end Go.Proofs.Ythilapalgakhhaa
