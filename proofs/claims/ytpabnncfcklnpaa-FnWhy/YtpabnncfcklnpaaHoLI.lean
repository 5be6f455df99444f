/-
  The law of IsModel, walked: it returns true and turns nothing that was there, wherever both texts tell the same.
-/
import Derived.Test.YtpabnncfcklnpaaRulA
namespace Go.Proofs.Ytpabnncfcklnpaa
open Go.RowKit M
set_option maxRecDepth 20000 in
set_option maxHeartbeats 4000000 in
theorem law_isModel_run (v u : Value) (k n : Nat) (ts : Nat → Tk) (f : Nat → Int) (w : World) (hv : TasksOf w v k ts) (hl : Lens k ts) (hu : IntsOf w u n f) (hnm : n ≤ maxLen)
    (hC : Short k ts → n ≤ 1048576 → ∃ (z ok : Bool), (∀ (v u : Value) (w : World), TasksOf w v k ts → IntsOf w u n f → Calls Try.prog 23 #[v, u] w fun e w' => e = .returned (.tuple #[.bool z, .bool ok]) ∧ Below w.heap.size w w') ∧
      (∀ (v u : Value) (w : World), TasksOf w v k ts → IntsOf w u n f → Calls Try.prog 24 #[v, u] w fun e w' => e = .returned (.tuple #[.bool z, .bool ok]) ∧ Below w.heap.size w w')) :
    Calls Try.prog 5 #[v, u] w fun e w' => e = .returned (.bool true) ∧ Below w.heap.size w w' := by
  have HV := hide hv
  obtain ⟨a, cap, rfl⟩ := hv.form
  have HU := hide hu
  obtain ⟨au, cu, rfl⟩ := hu.form
  have HL := hide hl
  have HC := hide hC
  unfold maxLen at hnm
  clear hv hl hC hu
  by_cases hnn : (n : Int) > 1048576
  · clear HV HU HL HC
    go_enter Try.func5, Try.ntmps5
    go_wp2
    go_ret
    exact ⟨rfl, Below.refl _ _⟩
  have hn : n ≤ 1048576 := by omega
  clear hnm
  go_enter Try.func5, Try.ntmps5
  go_wp2_with fail
  refine (sz_tasks _ k ts _ HV.out HL.out).mono ?_
  rintro e w1 ⟨⟨r, rfl, hr⟩, hb1⟩
  by_cases hrn : r < 0
  · clear hr HC HL HV HU
    go_wp2
    go_ret
    exact ⟨rfl, hb1⟩
  · have hsm : Small k ts := by
      rcases hr with h | ⟨_, h⟩
      · omega
      · exact h
    have HSm := hide hsm
    have HS := hide hsm.short
    obtain ⟨z, ok, hS, hI⟩ := HC.out hsm.short hn
    have CS := hide hS
    have CI := hide hI
    have hoo : (ok != ok) = false := by simp
    have hzz : (z != z) = false := by simp
    have htot : k + tot ts k ≤ 1048576 := hsm
    clear hr hsm HC hS hI HL
    go_wp2_with fail
    refine (to_tasks _ k ts _ (HV.out.below hb1) HS.out).mono ?_
    rintro e w2 ⟨⟨rfl, X2, hX2⟩, hb⟩
    have hb2 := hb1.trans (hb.mono hb1.size)
    have HX2 := hide hX2
    clear hb hb1 hX2
    go_wp2_with fail
    refine (to_ints _ n f _ (HU.out.below hb2) hn).mono ?_
    rintro e w2i ⟨⟨rfl, hY2⟩, hb⟩
    have hb2i := hb2.trans (hb.mono hb2.size)
    have HX2i := hide (HX2.out.below hb)
    have HY2 := hide hY2
    clear hb hb2 hY2 HX2
    go_wp2_with fail
    refine (CS.out _ _ _ (HX2i.out.tasks (cap := k)) (HY2.out.ints (cap := n))).mono ?_
    rintro e w3 ⟨rfl, hb⟩
    have hb3 := hb2i.trans (hb.mono hb2i.size)
    clear hb hb2i HX2i HY2
    go_wp2_with fail
    refine (to_tasks _ k ts _ (HV.out.below hb3) HS.out).mono ?_
    rintro e w4 ⟨⟨rfl, X4, hX4⟩, s4⟩
    have hb4 := hb3.trans (s4.mono hb3.size)
    have hg4 := hX4.1.lt
    have hs3 := hb3.size
    have HM4 := hide hX4.mb
    have HX4 := hide hX4
    clear hX4
    go_wp2_with fail
    refine (to_ints _ n f _ (HU.out.below hb4) hn).mono ?_
    rintro e w4i ⟨⟨rfl, hY4⟩, hb⟩
    have hb4i := hb4.trans (hb.mono hb4.size)
    have s4i := s4.trans (hb.mono s4.size)
    have HX4i := hide (HX4.out.below hb)
    have HM4i := hide (HM4.out.below hb)
    have HY4 := hide hY4
    have hy4 := hY4.lt
    have hs4 := s4.size
    clear hb hb4 s4 HX4 HM4 hY4
    go_wp2_with fail
    refine (CI.out _ _ _ (HX4i.out.tasks (cap := k)) (HY4.out.ints (cap := n))).mono ?_
    rintro e w5 ⟨rfl, hb⟩
    have hb5 := hb4i.trans (hb.mono hb4i.size)
    have s5 := s4i.trans (hb.mono s4i.size)
    have HX5 := hide (HX4i.out.below hb)
    have HM5 := hide (HM4i.out.below hb)
    have HY5 := hide (HY4.out.down hb)
    clear hb hb4i s4i HX4i HM4i HY4
    have hb6 := hb5
    have s6 := s5
    have HX6 := HX5
    have HM6 := HM5
    have HY6 := HY5
    clear hb5 s5 HX5 HM5 HY5
    go_wp2_with fail
    refine (to_tasks _ k ts _ (HV.out.below hb6) HS.out).mono ?_
    rintro e w7 ⟨⟨rfl, X7, hX7⟩, hb⟩
    have hb7 := hb6.trans (hb.mono hb6.size)
    have s7 := s6.trans (hb.mono s6.size)
    have HX7 := hide (HX6.out.below hb)
    have HM7 := hide (HM6.out.below hb)
    have HY7 := hide (HY6.out.down hb)
    clear hb hb6 s6 HX6 HM6 HY6
    go_wp2_with fail
    refine (eq_tasks _ _ k ts _ (HX7.out.tasks (cap := k)) (hX7.tasks (cap := k)) HS.out).mono ?_
    rintro e w8 ⟨rfl, hb⟩
    have hb8 := hb7.trans (hb.mono hb7.size)
    have s8 := s7.trans (hb.mono s7.size)
    have HM8 := hide (HM7.out.below hb)
    have HY8 := hide (HY7.out.down hb)
    clear hb hb7 s7 HX7 HM7 HY7 hX7
    go_wp2_with fail
    refine (to_ints _ n f _ (HU.out.below hb8) hn).mono ?_
    rintro e w8i ⟨⟨rfl, hY8i⟩, hb⟩
    have hb8i := hb8.trans (hb.mono hb8.size)
    have s8i := s8.trans (hb.mono s8.size)
    have HM8i := hide (HM8.out.below hb)
    have HY8i := hide (HY8.out.down hb)
    have HT := hide hY8i
    clear hb hb8 s8 HM8 HY8 hY8i
    go_wp2_with fail
    refine (eq_ints _ _ n f _ (HY8i.out.ints (cap := n)) (HT.out.ints (cap := n)) hn).mono ?_
    rintro e w8j ⟨rfl, hb⟩
    have hb8j := hb8i.trans (hb.mono hb8i.size)
    have s8j := s8i.trans (hb.mono s8i.size)
    have HM8j := hide (HM8i.out.below hb)
    have HY8j := hide (HY8i.out.down hb)
    clear hb hb8i s8i HM8i HY8i HT
    clear HV HU HS HSm CS CI HM8j HY8j
    go_wp2
    go_ret
    exact ⟨rfl, hb8j⟩
end Go.Proofs.Ytpabnncfcklnpaa
