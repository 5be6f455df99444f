/-
  BranchLess in both texts, and its law. Condition: the table knownKinds reads as the program's text lays it.
-/
import Derived.Test.YtlgdlhhhkipgpaaDoorBrL
namespace Go.Proofs.YtlgdlhhhkipgpaaDoor
open Go.RowKit M
open Go.Sort (grow)
set_option maxHeartbeats 2000000 in
theorem spec_less (v u : Value) (xs ys : Evs) (b1 b2 : Bool) (w : World) (hv : SliceOf w v xs) (hu : SliceOf w u ys) (s1 : SmE xs) (s2 : SmE ys) (h1 : BP b1 (Tl xs)) (h2 : BP b2 (Tl ys)) :
    Calls Tryd.prog 23 #[v, u] w fun e w' => e = .returned (.tuple #[.bool (b1 && b2 && decide (cL xs ys < 0)), .bool (b1 && b2)]) ∧ Below w.heap.size w w' := by
  have HV := hide hv
  have HU := hide hu
  have HS1 := hide s1
  have HS2 := hide s2
  have H1 := hide h1
  have H2 := hide h2
  obtain ⟨a1, c1, rfl⟩ := hv.form
  obtain ⟨a2, c2, rfl⟩ := hu.form
  clear hv hu s1 s2 h1 h2
  cases b1
  · go_enter Tryd.func23, Tryd.ntmps23
    go_wp2_with fail
    refine (spec_tl _ xs false _ HV.out HS1.out.1 HS1.out.2 H1.out).mono ?_
    rintro e w2 ⟨rfl, hb2⟩
    go_wp2
    go_ret2
    exact ⟨rfl, hb2⟩
  · cases b2
    · go_enter Tryd.func23, Tryd.ntmps23
      go_wp2_with fail
      refine (spec_tl _ xs true _ HV.out HS1.out.1 HS1.out.2 H1.out).mono ?_
      rintro e w2 ⟨rfl, hb2⟩
      go_wp2_with fail
      refine (spec_tl _ ys false _ (HU.out.below hb2) HS2.out.1 HS2.out.2 H2.out).mono ?_
      rintro e w3 ⟨rfl, hb3⟩
      have hb4 := hb2.trans (hb3.mono hb2.size)
      go_wp2
      go_ret2
      exact ⟨rfl, hb4⟩
    · obtain ⟨z, hz⟩ : ∃ z, decide (cL xs ys < 0) = z := ⟨_, rfl⟩
      rw [hz]
      go_enter Tryd.func23, Tryd.ntmps23
      go_wp2_with fail
      refine (spec_tl _ xs true _ HV.out HS1.out.1 HS1.out.2 H1.out).mono ?_
      rintro e w2 ⟨rfl, hb2⟩
      go_wp2_with fail
      refine (spec_tl _ ys true _ (HU.out.below hb2) HS2.out.1 HS2.out.2 H2.out).mono ?_
      rintro e w3 ⟨rfl, hb3⟩
      have hb4 := hb2.trans (hb3.mono hb2.size)
      clear hb2 hb3
      go_wp2_with fail
      refine (spec_cmp _ _ xs ys _ (HV.out.below hb4) (HU.out.below hb4) HS1.out.1 HS2.out.1).mono ?_
      rintro e w5 ⟨rfl, hb5⟩
      have hb6 := hb4.trans (hb5.mono hb4.size)
      clear hb5 hb4
      go_wp2
      go_ret2
      exact ⟨rfl, hb6⟩
set_option maxHeartbeats 2000000 in
theorem impl_less (v u : Value) (xs ys : Evs) (b1 b2 : Bool) (w : World) (hv : SliceOf w v xs) (hu : SliceOf w u ys) (s1 : SmE xs) (s2 : SmE ys) (hkk : KK w) (h1 : BP b1 (Tl xs)) (h2 : BP b2 (Tl ys)) :
    Calls Tryd.prog 24 #[v, u] w fun e w' => e = .returned (.tuple #[.bool (b1 && b2 && decide (cL xs ys < 0)), .bool (b1 && b2)]) ∧ Below w.heap.size w w' := by
  have HV := hide hv
  have HU := hide hu
  have HS1 := hide s1
  have HS2 := hide s2
  have H1 := hide h1
  have H2 := hide h2
  have HK := hide hkk
  obtain ⟨a1, c1, rfl⟩ := hv.form
  obtain ⟨a2, c2, rfl⟩ := hu.form
  clear hv hu s1 s2 h1 h2 hkk
  cases b1
  · go_enter Tryd.func24, Tryd.ntmps24
    go_wp2_with fail
    refine (impl_tl _ xs false _ HV.out HS1.out.1 HS1.out.2 HK.out H1.out).mono ?_
    rintro e w2 ⟨rfl, hb2⟩
    go_wp2
    go_ret2
    exact ⟨rfl, hb2⟩
  · cases b2
    · go_enter Tryd.func24, Tryd.ntmps24
      go_wp2_with fail
      refine (impl_tl _ xs true _ HV.out HS1.out.1 HS1.out.2 HK.out H1.out).mono ?_
      rintro e w2 ⟨rfl, hb2⟩
      go_wp2_with fail
      refine (impl_tl _ ys false _ (HU.out.below hb2) HS2.out.1 HS2.out.2 (HK.out.below hb2) H2.out).mono ?_
      rintro e w3 ⟨rfl, hb3⟩
      have hb4 := hb2.trans (hb3.mono hb2.size)
      go_wp2
      go_ret2
      exact ⟨rfl, hb4⟩
    · obtain ⟨z, hz⟩ : ∃ z, decide (cL xs ys < 0) = z := ⟨_, rfl⟩
      rw [hz]
      have HZ := hide hz
      clear hz
      go_enter Tryd.func24, Tryd.ntmps24
      go_wp2_with fail
      refine (impl_tl _ xs true _ HV.out HS1.out.1 HS1.out.2 HK.out H1.out).mono ?_
      rintro e w2 ⟨rfl, hb2⟩
      go_wp2_with fail
      refine (impl_tl _ ys true _ (HU.out.below hb2) HS2.out.1 HS2.out.2 (HK.out.below hb2) H2.out).mono ?_
      rintro e w3 ⟨rfl, hb3⟩
      have hb4 := hb2.trans (hb3.mono hb2.size)
      clear hb2 hb3
      go_wp2_with fail
      refine (ahead_ev _ _ xs ys _ (HV.out.below hb4) (HU.out.below hb4) HS1.out.1 HS2.out.1).mono ?_
      rw [HZ.out]
      rintro e w5 ⟨rfl, hb5⟩
      have hb6 := hb4.trans (hb5.mono hb4.size)
      clear hb5 hb4
      go_wp2
      go_ret2
      exact ⟨rfl, hb6⟩
set_option maxRecDepth 20000 in
set_option maxHeartbeats 4000000 in
theorem law_BranchLess_run (v u : Value) (xs ys : Evs) (w : World) (hv : SliceOf w v xs) (hl : xs.length ≤ maxLen) (hn : ∀ e ∈ xs, e.name.size ≤ maxLen) (hu : SliceOf w u ys) (hlu : ys.length ≤ maxLen) (hnu : ∀ e ∈ ys, e.name.size ≤ maxLen) (hkk : KK w)
    (hC : SmE xs → SmE ys → ∃ (r0 : Bool) (r1 : Bool), (∀ (v u : Value) (w : World), SliceOf w v xs → SliceOf w u ys → Calls Tryd.prog 23 #[v, u] w fun e w' => e = .returned (.tuple #[.bool r0, .bool r1]) ∧ Below w.heap.size w w') ∧
      (∀ (v u : Value) (w : World), SliceOf w v xs → SliceOf w u ys → KK w → Calls Tryd.prog 24 #[v, u] w fun e w' => e = .returned (.tuple #[.bool r0, .bool r1]) ∧ Below w.heap.size w w')) :
    Calls Tryd.prog 6 #[v, u] w fun e w' => e = .returned (.bool true) ∧ Below w.heap.size w w' := by
  obtain ⟨a, c, rfl⟩ := hv.form
  obtain ⟨a2, c2, rfl⟩ := hu.form
  have HV := hide hv
  have HU := hide hu
  have HN := hide hn
  have HM := hide hnu
  have HK := hide hkk
  have HC := hide hC
  clear hv hu hn hnu hkk hC
  by_cases hfit : wt xs ≤ 1048576
  case neg =>
    have hz := szr_no (left := 1048576) (n := wt xs) (by omega)
    have hge : szr 1048576 (wt xs) < 0 := by rw [hz]; omega
    clear hz HC
    go_enter Tryd.func6, Tryd.ntmps6
    go_wp2_with fail
    refine (sz_evs _ xs 1048576 _ HV.out hl HN.out (by decide) (by decide)).mono ?_
    rintro e w1 ⟨rfl, hb1⟩
    go_wp2
    go_ret
    exact ⟨rfl, hb1⟩
  have hz := szr_yes (left := 1048576) (n := wt xs) (by omega)
  have hge : ¬ ((1048576 : Int) - ((wt xs : Nat) : Int) < 0) := by omega
  have HZ := hide hz
  clear hz
  by_cases hfit2 : wt xs + wt ys ≤ 1048576
  case neg =>
    have hz := szr_no (left := (1048576 : Int) - ((wt xs : Nat) : Int)) (n := wt ys) (by omega)
    have hge2 : szr ((1048576 : Int) - ((wt xs : Nat) : Int)) (wt ys) < 0 := by rw [hz]; omega
    clear hz HC
    go_enter Tryd.func6, Tryd.ntmps6
    go_wp2_with fail
    refine (sz_evs _ xs 1048576 _ HV.out hl HN.out (by decide) (by decide)).mono ?_
    rw [HZ.out]
    rintro e w1 ⟨rfl, hb1⟩
    go_wp2_with fail
    refine (sz_evs _ ys _ _ (HU.out.below hb1) hlu HM.out (by omega) (by omega)).mono ?_
    rintro e w2 ⟨rfl, hb2⟩
    have hb2 := hb1.trans (hb2.mono hb1.size)
    go_wp2
    go_ret
    exact ⟨rfl, hb2⟩
  have hz := szr_yes (left := (1048576 : Int) - ((wt xs : Nat) : Int)) (n := wt ys) (by omega)
  have hge2 : ¬ ((1048576 : Int) - ((wt xs : Nat) : Int) - ((wt ys : Nat) : Int) < 0) := by omega
  have HZ2 := hide hz
  clear hz
  have HS1 := hide (sm_e HN.out (by omega))
  have HS2 := hide (sm_e HM.out (show wt ys ≤ 1048576 by omega))
  obtain ⟨r0, r1, hS, hI⟩ := HC.out HS1.out HS2.out
  have CS := hide hS
  have CI := hide hI
  have er0 : (r0 != r0) = false := by simp
  have er1 : (r1 != r1) = false := by simp
  clear HC hS hI
  go_enter Tryd.func6, Tryd.ntmps6
  go_wp2_with fail
  refine (sz_evs _ xs 1048576 _ HV.out hl HN.out (by decide) (by decide)).mono ?_
  rw [HZ.out]
  rintro e w1 ⟨rfl, hb1⟩
  go_wp2_with fail
  refine (sz_evs _ ys _ _ (HU.out.below hb1) hlu HM.out (by omega) (by omega)).mono ?_
  rw [HZ2.out]
  rintro e w2 ⟨rfl, hb⟩
  have hb2 := hb1.trans (hb.mono hb1.size)
  clear hb hb1 HZ HZ2
  go_wp2_with fail
  refine (to_all _ xs _ (HV.out.below hb2) HS1.out.1).mono ?_
  rintro e w3 ⟨⟨xA, rfl, hx⟩, hb⟩
  obtain ⟨qA, kA, rfl⟩ := hx.form
  have HA := hide hx
  have hb3 := hb2.trans (hb.mono hb2.size)
  clear hb hb2 hx
  go_wp2_with fail
  refine (to_all _ ys _ (HU.out.below hb3) HS2.out.1).mono ?_
  rintro e w4 ⟨⟨xB, rfl, hx⟩, hb⟩
  obtain ⟨qB, kB, rfl⟩ := hx.form
  have HB := hide hx
  have hb4 := hb3.trans (hb.mono hb3.size)
  have HA := hide (HA.out.below hb)
  clear hb hb3 hx
  go_wp2_with fail
  refine (CS.out _ _ _ HA.out HB.out).mono ?_
  rintro e w5 ⟨rfl, hb⟩
  have hb5 := hb4.trans (hb.mono hb4.size)
  clear hb hb4 HA HB CS
  go_wp2_with fail
  refine (to_all _ xs _ (HV.out.below hb5) HS1.out.1).mono ?_
  rintro e w6 ⟨⟨xD, rfl, hx⟩, hb⟩
  obtain ⟨qD, kD, rfl⟩ := hx.form
  have HD := hide hx
  have hb6 := hb5.trans (hb.mono hb5.size)
  clear hb hb5 hx
  go_wp2_with fail
  refine (to_all _ ys _ (HU.out.below hb6) HS2.out.1).mono ?_
  rintro e w7 ⟨⟨xE, rfl, hx⟩, hb⟩
  obtain ⟨qE, kE, rfl⟩ := hx.form
  have HE := hide hx
  have hb7 := hb6.trans (hb.mono hb6.size)
  have HD := hide (HD.out.below hb)
  clear hb hb6 hx
  go_wp2_with fail
  refine (CI.out _ _ _ HD.out HE.out (HK.out.below hb7)).mono ?_
  rintro e w8 ⟨rfl, hb⟩
  have hb8 := hb7.trans (hb.mono hb7.size)
  have HD := hide (HD.out.below hb)
  have HE := hide (HE.out.below hb)
  clear hb hb7 CI
  go_wp2_with fail
  refine (to_all _ xs _ (HV.out.below hb8) HS1.out.1).mono ?_
  rintro e w9 ⟨⟨xG, rfl, hx⟩, hb⟩
  obtain ⟨qG, kG, rfl⟩ := hx.form
  have HG := hide hx
  have hb9 := hb8.trans (hb.mono hb8.size)
  have HD := hide (HD.out.below hb)
  have HE := hide (HE.out.below hb)
  clear hb hb8 hx
  go_wp2_with fail
  refine (eq_all _ _ xs _ HD.out HG.out HS1.out.1 eq_ev).mono ?_
  rintro e w10 ⟨rfl, hb⟩
  have hb10 := hb9.trans (hb.mono hb9.size)
  have HE := hide (HE.out.below hb)
  clear hb hb9 HD HG
  go_wp2_with fail
  refine (to_all _ ys _ (HU.out.below hb10) HS2.out.1).mono ?_
  rintro e w11 ⟨⟨xJ, rfl, hx⟩, hb⟩
  obtain ⟨qJ, kJ, rfl⟩ := hx.form
  have HJ := hide hx
  have hb11 := hb10.trans (hb.mono hb10.size)
  have HE := hide (HE.out.below hb)
  clear hb hb10 hx
  go_wp2_with fail
  refine (eq_all _ _ ys _ HE.out HJ.out HS2.out.1 eq_ev).mono ?_
  rintro e w12 ⟨rfl, hb⟩
  have hb12 := hb11.trans (hb.mono hb11.size)
  clear hb hb11 HE HJ
  go_wp2
  go_ret
  exact ⟨rfl, hb12⟩
theorem law_branchLess (v : Value) (xs : Evs) (u : Value) (ys : Evs) (w : World) (hv : SliceOf w v xs) (hl : xs.length ≤ maxLen) (hn : ∀ e ∈ xs, e.name.size ≤ maxLen) (hu : SliceOf w u ys) (hlu : ys.length ≤ maxLen) (hnu : ∀ e ∈ ys, e.name.size ≤ maxLen) (hkk : KK w) :
    Calls Tryd.prog 6 #[v, u] w fun e w' => e = .returned (.bool true) ∧ Below w.heap.size w w' :=
  law_BranchLess_run v u xs ys w hv hl hn hu hlu hnu hkk (fun h1 h2 => by
    obtain ⟨b1, hb1⟩ := bp_ex (Tl xs)
    obtain ⟨b2, hb2⟩ := bp_ex (Tl ys)
    exact ⟨_, _, fun v u w hv hu => spec_less v u xs ys b1 b2 w hv hu h1 h2 hb1 hb2, fun v u w hv hu hk => impl_less v u xs ys b1 b2 w hv hu h1 h2 hk hb1 hb2⟩)
end Go.Proofs.YtlgdlhhhkipgpaaDoor
