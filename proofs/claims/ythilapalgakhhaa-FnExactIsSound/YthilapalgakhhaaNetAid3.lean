/-
  The law's helpers on nets, third part: two that are told alike, marks.
-/
import Derived.Test.YthilapalgakhhaaNetAid2
namespace Go.Proofs.Ythilapalgakhhaa
open Go.RowKit M
open Clk (upd upd_same upd_other)
open Go.Sort (grow)
set_option maxHeartbeats 1000000 in
theorem eq_step (x y x' y' : Value) (s : Sp) (w : World) (hx : IntsOf w x s.ni s.fi) (hy : IntsOf w y s.no s.fo) (hx' : IntsOf w x' s.ni s.fi) (hy' : IntsOf w y' s.no s.fo) (h1 : s.ni ≤ 1048576) (h2 : s.no ≤ 1048576) :
    Calls Try.prog 77 #[.agg #[x, y], .agg #[x', y']] w fun e w' => e = .returned (.bool true) ∧ Below w.heap.size w w' := by
  have HX := hide hx
  have HY := hide hy
  have HX' := hide hx'
  have HY' := hide hy'
  obtain ⟨a1, c1, rfl⟩ := hx.form
  obtain ⟨a2, c2, rfl⟩ := hy.form
  obtain ⟨a3, c3, rfl⟩ := hx'.form
  obtain ⟨a4, c4, rfl⟩ := hy'.form
  clear hx hy hx' hy'
  go_enter Try.func77, Try.ntmps77
  go_wp2_with fail
  generalize hW : (w.alloc _).alloc _ = W
  obtain ⟨m0, m1, hbW, hsW⟩ := two w _ _ _ _ _ _ W hW.symm
  clear hW
  refine (eq_ints _ _ s.ni s.fi _ (HX.out.below hbW) (HX'.out.below hbW) h1).mono ?_
  rintro e w1 ⟨rfl, hb1⟩
  have hbw1 := hbW.trans (hb1.mono hbW.size)
  obtain ⟨d0, d1, -, -⟩ := (m0.down hb1).pair
  obtain ⟨e0, e1, -, -⟩ := (m1.down hb1).pair
  clear m0 m1 hb1 hbW hsW
  go_wp2_with fail
  refine (eq_ints _ _ s.no s.fo _ (HY.out.below hbw1) (HY'.out.below hbw1) h2).mono ?_
  rintro e w2 ⟨rfl, hb2⟩
  have hbw2 := hbw1.trans (hb2.mono hbw1.size)
  clear HX HY HX' HY' d0 d1 e0 e1 hb2 hbw1
  go_wp2
  go_ret
  exact ⟨rfl, hbw2⟩
set_option maxHeartbeats 2000000 in
theorem eq_steps (v u : Value) (k : Nat) (st : Nat → Sp) (w : World) (hv : StepsOf w v k st) (hu : StepsOf w u k st) (hs : Short k st) :
    Calls Try.prog 50 #[v, u] w fun e w' => e = .returned (.bool true) ∧ Below w.heap.size w w' := by
  obtain ⟨a, cap, rfl, hr⟩ := hv
  obtain ⟨a2, cap2, rfl, hr2⟩ := hu
  have HR := hide hr
  have HR2 := hide hr2
  have HS := hide hs.2
  have hk := hs.1
  clear hr hr2 hs
  go_enter Try.func50, Try.ntmps50
  go_wp2
  go_loopw [5] (fun i wr => ∃ j : Nat, j ≤ k ∧ i = .int .i64 j ∧ Below w.heap.size w wr) (fun i _ => k - (intOf i).toNat)
  case atStart => exact ⟨0, Nat.zero_le _, rfl, Below.refl _ _⟩
  case round =>
    obtain ⟨j, hj, rfl, hbw⟩ := hrel
    by_cases hlt : j < k
    · obtain ⟨b, off, rfl, hb, hrow⟩ := HR.out (by omega)
      obtain ⟨b2, off2, rfl, hb2, hrow2⟩ := HR2.out (by omega)
      obtain ⟨x, y, q1, q2, i1, i2⟩ := hrow j hlt
      obtain ⟨x', y', q3, q4, i3, i4⟩ := hrow2 j hlt
      have k0 := cell_regrown ((hbw.cell (p := ⟨b, off + j * 2, none⟩) hb).trans q1)
      have k1 := cell_regrown ((hbw.cell (p := ⟨b, off + j * 2 + 1, none⟩) hb).trans q2)
      have g0 := cell_regrown ((hbw.cell (p := ⟨b2, off2 + j * 2, none⟩) hb2).trans q3)
      have g1 := cell_regrown ((hbw.cell (p := ⟨b2, off2 + j * 2 + 1, none⟩) hb2).trans q4)
      have hi0 : (0 : Int) ≤ (j : Int) := by omega
      have hi1 : (j : Int) < (k : Int) := by omega
      have hS := HS.out j hlt
      have HE := hide (show ∀ d os, Calls Try.prog 77 #[.agg #[x, y], .agg #[x', y']] (grow (redrawn wr d) os) fun e w'' => e = .returned (.bool true) ∧ ∃ p : Regrown, w'' = grow (redrawn wr p.d) p.os from fun d os =>
        Calls.regrown_of (eq_step x y x' y' (st j) _ ((i1.below hbw).below (below_regrown wr d os)) ((i2.below hbw).below (below_regrown wr d os)) ((i3.below hbw).below (below_regrown wr d os)) ((i4.below hbw).below (below_regrown wr d os)) hS.1 hS.2))
      clear hrow hrow2 HR HR2 q1 q2 q3 q4 i1 i2 i3 i4 hS HS
      go_wp2
      refine wp_region_quiet_below (by kernel_rfl) (by kernel_rfl) ?_
      repeat (quiet_step (exact HE.out _ _))
      refine wpQuiet_nil ?_
      intro _ hw'
      obtain ⟨⟨dq, osq⟩, hw''⟩ := hw'
      subst hw''
      have hbw2 := hbw.trans ((below_regrown wr dq osq).mono hbw.size)
      go_wp2
      go_roundw
      case rel => exact ⟨j + 1, by omega, by go_num, hbw2⟩
      case measure => simp [intOf]; omega
    · clear HR HR2 HS
      go_wp2
      go_ret
      exact ⟨rfl, hbw⟩
set_option maxHeartbeats 1000000 in
theorem eq_net (p : Int) (v u : Value) (k : Nat) (st : Nat → Sp) (w : World) (hv : StepsOf w v k st) (hu : StepsOf w u k st) (hs : Short k st) :
    Calls Try.prog 17 #[netV p v, netV p u] w fun e w' => e = .returned (.bool true) ∧ Below w.heap.size w w' := by
  have HV := hide hv
  have HU := hide hu
  obtain ⟨a, cap, rfl⟩ := hv.form
  obtain ⟨a2, cap2, rfl⟩ := hu.form
  have hp : (p != p) = false := by simp
  clear hv hu
  go_enter Try.func17, Try.ntmps17
  go_wp2_with fail
  generalize hW : (w.alloc _).alloc _ = W
  obtain ⟨m0, m1, hbW, hsW⟩ := two w _ _ _ _ _ _ W hW.symm
  clear hW
  refine (eq_steps _ _ k st _ (HV.out.below hbW) (HU.out.below hbW) hs).mono ?_
  rintro e w1 ⟨rfl, hb1⟩
  have hbw1 := hbW.trans (hb1.mono hbW.size)
  clear m0 m1 hb1 hbW hsW HV HU
  go_wp2
  go_ret
  exact ⟨rfl, hbw1⟩
set_option maxHeartbeats 2000000 in
theorem mark_steps (g k cap lo hi k0 : Nat) (st : Nat → Sp) (X : Nat → Value) (w : World) (hm : MB w g k lo hi st X) (hs : Small k st) (hk0 : k0 ≤ 100000000) :
    Calls Try.prog 57 #[.slice (some ⟨g, 0, none⟩) k cap, .int .i64 (k0 : Nat)] w fun e w' => e = .returned (.int .i64 ((k0 + tot st k : Nat) : Int)) ∧ Rng lo hi w w' := by
  have HM := hide hm
  have HS := hide hs
  have hk : k ≤ 1048576 := hs.short.1
  clear hm hs
  go_enter Try.func57, Try.ntmps57
  go_wp2
  go_loopw [1, 5] (fun x i wr => ∃ j : Nat, j ≤ k ∧ i = .int .i64 j ∧ x = .int .i64 ((k0 + tot st j : Nat) : Int) ∧ Hid (MB wr g k lo hi st X) ∧ Rng lo hi w wr) (fun _ i _ => k - (intOf i).toNat)
  case atStart => exact ⟨0, Nat.zero_le _, rfl, rfl, HM, Rng.refl _ _ _⟩
  case round =>
    obtain ⟨j, hj, rfl, rfl, HA, hbw⟩ := hrel
    by_cases hlt : j < k
    · obtain ⟨b1, b2, f1, f2, h1, h2, h3, h4, h5, h6⟩ := HA.out.2.2 j hlt
      have c0 := HA.out.2.1.cell (show j * 2 < k * 2 by omega)
      rw [h1] at c0
      have HT := hide (show tot st (j + 1) = tot st j + ((st j).ni + (st j).no) from rfl)
      have hS := HS.out.short.2 j hlt
      have ht1 : tot st j ≤ 1048576 := by have := tot_mono st (i := j) k hj; have := HS.out; unfold Small at this; omega
      have HB := hide h5
      clear h5 h6
      go_wp2_with fail
      refine (mark_ints b1 (st j).ni (st j).ni (k0 + tot st j) f1 _ HB.out hS.1 (by omega)).mono ?_
      rintro e w1 ⟨rfl, hB1, ho⟩
      have hA1 := HA.out.only ho h3.1 HB.out hB1
      have hbw1 := hbw.trans (ho.rng h3.1 h3.2)
      have HA1 := hide hA1
      obtain ⟨b1', b2', f1', f2', h1', h2', h3', h4', h5', h6'⟩ := hA1.2.2 j hlt
      obtain rfl : b2 = b2' := by rw [h2] at h2'; simp at h2'; exact h2'
      have c1 := hA1.2.1.cell (show j * 2 + 1 < k * 2 by omega)
      rw [h2] at c1
      have HB2 := hide h6'
      clear hA1 hB1 ho HA hbw HB h1' h2' h3' h4' h5' h6' c0 h1 h2
      go_wp2_with fail
      refine (mark_ints b2 (st j).no (st j).no (k0 + tot st j + (st j).ni) f2' _ HB2.out hS.2 (by omega)).mono ?_
      rintro e w2 ⟨rfl, hB2, ho⟩
      have HA2 := hide (HA1.out.only ho h4.1 HB2.out hB2)
      have hbw2 := hbw1.trans (ho.rng h4.1 h4.2)
      clear ho HA1 hB2 HB2 hbw1 c1
      go_wp2
      exact ⟨⟨j + 1, by omega, by go_num, by rw [HT.out]; exact congrArg _ (by omega), HA2, hbw2⟩, by simp [intOf]; omega⟩
    · obtain rfl : j = k := by omega
      clear HA HM HS
      go_wp2
      go_ret
      exact ⟨rfl, hbw⟩
theorem mark_net (p : Int) (g k cap lo hi k0 : Nat) (st : Nat → Sp) (X : Nat → Value) (w : World) (hm : MB w g k lo hi st X) (hs : Small k st) (hk0 : k0 ≤ 100000000) :
    Calls Try.prog 24 #[netV p (.slice (some ⟨g, 0, none⟩) k cap), .int .i64 (k0 : Nat)] w fun e w' => e = .returned (.int .i64 ((k0 + tot st k : Nat) : Int)) ∧ Rng lo hi (w.alloc (.cells #[.int .i64 p, .slice (some ⟨g, 0, none⟩) k cap] 29)) w' := by
  have HM := hide hm
  clear hm
  go_enter Try.func24, Try.ntmps24
  go_wp2_with fail
  refine (mark_steps g k cap lo hi k0 st X _ (HM.out.below ((Below.refl _ _).alloc (Nat.le_refl _) _)) hs hk0).mono ?_
  rintro e w1 ⟨rfl, hr⟩
  clear HM
  go_wp2
  go_ret
  exact ⟨rfl, hr⟩
end Go.Proofs.Ythilapalgakhhaa
