/-
  The law of Closure, walked: it returns true and turns nothing that was there, wherever both texts tell the same.
-/
import Derived.Test.YtpabnncfcklnpaaRulA
namespace Go.Proofs.Ytpabnncfcklnpaa
open Go.RowKit M
set_option maxRecDepth 20000 in
set_option maxHeartbeats 4000000 in
theorem law_closure_run (v u : Value) (k n : Nat) (ts : Nat → Tk) (f : Nat → Int) (w : World) (hv : TasksOf w v k ts) (hl : Lens k ts) (hu : IntsOf w u n f) (hnm : n ≤ maxLen)
    (hC : Short k ts → n ≤ 1048576 → ∃ (q : Nat) (h : Nat → Int) (ok : Bool), q ≤ 1048576 ∧ (∀ (v u : Value) (w : World), TasksOf w v k ts → IntsOf w u n f → Calls Try.prog 31 #[v, u] w fun e w' => (∃ R, e = .returned (.tuple #[R, .bool ok]) ∧ IntsOf w' R q h) ∧ Below w.heap.size w w') ∧
      (∀ (v u : Value) (w : World), TasksOf w v k ts → IntsOf w u n f → Calls Try.prog 32 #[v, u] w fun e w' => (∃ R, e = .returned (.tuple #[R, .bool ok]) ∧ AnsC w' w.heap.size R q h) ∧ Below w.heap.size w w')) :
    Calls Try.prog 9 #[v, u] w fun e w' => e = .returned (.bool true) ∧ Below w.heap.size w w' := by
  have HV := hide hv
  obtain ⟨a, cap, rfl⟩ := hv.form
  have HU := hide hu
  obtain ⟨au, cu, rfl⟩ := hu.form
  have HL := hide hl
  have HC := hide hC
  unfold maxLen at hnm
  clear hv hl hC hu
  by_cases hnn : (n : Int) > 1048576
  · clear HV HU HL HC
    go_enter Try.func9, Try.ntmps9
    go_wp2
    go_ret
    exact ⟨rfl, Below.refl _ _⟩
  have hn : n ≤ 1048576 := by omega
  clear hnm
  go_enter Try.func9, Try.ntmps9
  go_wp2_with fail
  refine (sz_tasks _ k ts _ HV.out HL.out).mono ?_
  rintro e w1 ⟨⟨r, rfl, hr⟩, hb1⟩
  by_cases hrn : r < 0
  · clear hr HC HL HV HU
    go_wp2
    go_ret
    exact ⟨rfl, hb1⟩
  · have hsm : Small k ts := by
      rcases hr with h | ⟨_, h⟩
      · omega
      · exact h
    have HSm := hide hsm
    have HS := hide hsm.short
    obtain ⟨q, h, ok, hq, hS, hI⟩ := HC.out hsm.short hn
    have CS := hide hS
    have CI := hide hI
    have hoo : (ok != ok) = false := by simp
    have htot : k + tot ts k ≤ 1048576 := hsm
    clear hr hsm HC hS hI HL
    go_wp2_with fail
    refine (to_tasks _ k ts _ (HV.out.below hb1) HS.out).mono ?_
    rintro e w2 ⟨⟨rfl, X2, hX2⟩, hb⟩
    have hb2 := hb1.trans (hb.mono hb1.size)
    have HX2 := hide hX2
    clear hb hb1 hX2
    go_wp2_with fail
    refine (to_ints _ n f _ (HU.out.below hb2) hn).mono ?_
    rintro e w2i ⟨⟨rfl, hY2⟩, hb⟩
    have hb2i := hb2.trans (hb.mono hb2.size)
    have HX2i := hide (HX2.out.below hb)
    have HY2 := hide hY2
    clear hb hb2 hY2 HX2
    go_wp2_with fail
    refine (CS.out _ _ _ (HX2i.out.tasks (cap := k)) (HY2.out.ints (cap := n))).mono ?_
    rintro e w3 ⟨⟨R0, rfl, hR0⟩, hb⟩
    have hb3 := hb2i.trans (hb.mono hb2i.size)
    obtain ⟨ar0, cr0, rfl⟩ := hR0.form
    have HR0 := hide hR0
    clear hb hb2i HX2i HY2 hR0
    go_wp2_with fail
    refine (to_tasks _ k ts _ (HV.out.below hb3) HS.out).mono ?_
    rintro e w4 ⟨⟨rfl, X4, hX4⟩, s4⟩
    have hb4 := hb3.trans (s4.mono hb3.size)
    have hg4 := hX4.1.lt
    have hs3 := hb3.size
    have HM4 := hide hX4.mb
    have HX4 := hide hX4
    clear hX4
    go_wp2_with fail
    refine (to_ints _ n f _ (HU.out.below hb4) hn).mono ?_
    rintro e w4i ⟨⟨rfl, hY4⟩, hb⟩
    have hb4i := hb4.trans (hb.mono hb4.size)
    have s4i := s4.trans (hb.mono s4.size)
    have HX4i := hide (HX4.out.below hb)
    have HM4i := hide (HM4.out.below hb)
    have HY4 := hide hY4
    have hy4 := hY4.lt
    have hs4 := s4.size
    clear hb hb4 s4 HX4 HM4 hY4
    go_wp2_with fail
    refine (CI.out _ _ _ (HX4i.out.tasks (cap := k)) (HY4.out.ints (cap := n))).mono ?_
    rintro e w5 ⟨⟨R1, rfl, hR1⟩, hb⟩
    have hb5 := hb4i.trans (hb.mono hb4i.size)
    have s5 := s4i.trans (hb.mono s4i.size)
    have HX5 := hide (HX4i.out.below hb)
    have HM5 := hide (HM4i.out.below hb)
    have HY5 := hide (HY4.out.down hb)
    obtain ⟨ar1, cr1, rfl⟩ := hR1.form
    have HR1 := hide hR1
    clear hb hb4i s4i HX4i HM4i HY4 hR1
    go_wp2_with fail
    refine (eq_ints _ _ q h _ HR1.out.ints (HR0.out.below s5) hq).mono ?_
    rintro e w6 ⟨rfl, hb⟩
    have hb6 := hb5.trans (hb.mono hb5.size)
    have s6 := s5.trans (hb.mono s5.size)
    have HX6 := hide (HX5.out.below hb)
    have HM6 := hide (HM5.out.below hb)
    have HY6 := hide (HY5.out.down hb)
    have HR1_6 := hide (HR1.out.below hb)
    clear hb hb5 s5 HX5 HM5 HR1 HY5
    go_wp2_with fail
    refine (to_tasks _ k ts _ (HV.out.below hb6) HS.out).mono ?_
    rintro e w7 ⟨⟨rfl, X7, hX7⟩, hb⟩
    have hb7 := hb6.trans (hb.mono hb6.size)
    have s7 := s6.trans (hb.mono s6.size)
    have HX7 := hide (HX6.out.below hb)
    have HM7 := hide (HM6.out.below hb)
    have HY7 := hide (HY6.out.down hb)
    have HR1_7 := hide (HR1_6.out.below hb)
    clear hb hb6 s6 HX6 HM6 HY6 HR1_6
    go_wp2_with fail
    refine (eq_tasks _ _ k ts _ (HX7.out.tasks (cap := k)) (hX7.tasks (cap := k)) HS.out).mono ?_
    rintro e w8 ⟨rfl, hb⟩
    have hb8 := hb7.trans (hb.mono hb7.size)
    have s8 := s7.trans (hb.mono s7.size)
    have HM8 := hide (HM7.out.below hb)
    have HY8 := hide (HY7.out.down hb)
    have HR1_8 := hide (HR1_7.out.below hb)
    clear hb hb7 s7 HX7 HM7 HY7 hX7 HR1_7
    go_wp2_with fail
    refine (to_ints _ n f _ (HU.out.below hb8) hn).mono ?_
    rintro e w8i ⟨⟨rfl, hY8i⟩, hb⟩
    have hb8i := hb8.trans (hb.mono hb8.size)
    have s8i := s8.trans (hb.mono s8.size)
    have HM8i := hide (HM8.out.below hb)
    have HY8i := hide (HY8.out.down hb)
    have HT := hide hY8i
    have HR1_8i := hide (HR1_8.out.below hb)
    clear hb hb8 s8 HM8 HY8 hY8i HR1_8
    go_wp2_with fail
    refine (eq_ints _ _ n f _ (HY8i.out.ints (cap := n)) (HT.out.ints (cap := n)) hn).mono ?_
    rintro e w8j ⟨rfl, hb⟩
    have hb8j := hb8i.trans (hb.mono hb8i.size)
    have s8j := s8i.trans (hb.mono s8i.size)
    have HM8j := hide (HM8i.out.below hb)
    have HY8j := hide (HY8i.out.down hb)
    have HR1_8j := hide (HR1_8i.out.below hb)
    clear hb hb8i s8i HM8i HY8i HT HR1_8i
    go_wp2_with fail
    refine (mark_tasks w3.heap.size k k w4.heap.size 1 ts X4 _ HM8j.out HSm.out (by omega)).mono ?_
    rintro e w9 ⟨rfl, hrg⟩
    have hb9 := hb8j.trans (hrg.below (by omega))
    have s9 := s8j.trans (hrg.below (Nat.le_refl _))
    have HR1_9 := hide (HR1_8j.out.rng hrg (by omega))
    have HY9 := hide (hrg.blk HY8j.out (.inr (Nat.le_refl _)))
    have hknn : ¬ (((1 + (k + tot ts k) : Nat) : Int) < 0) := by omega
    clear hrg hb8j s8j HM8j HR1_8j HY8j
    go_wp2_with fail
    refine (mark_ints w4.heap.size n n (1 + (k + tot ts k)) f _ HY9.out hn (by omega)).mono ?_
    rintro e w9i ⟨rfl, hY9i, ho⟩
    have hb9i := hb9.trans (ho.below (by omega))
    have s9i := s9.trans (ho.below (by omega))
    have HR1_9i := hide (HR1_9.out.only ho (by omega))
    have hknn2 : ¬ (((1 + (k + tot ts k) + n : Nat) : Int) < 0) := by omega
    clear ho hb9 s9 HR1_9 HY9 hY9i
    go_wp2_with fail
    refine (eq_ints _ _ q h _ HR1_9i.out.ints (HR0.out.below s9i) hq).mono ?_
    rintro e w10 ⟨rfl, hb⟩
    have hb10 := hb9i.trans (hb.mono hb9i.size)
    have s10 := s9i.trans (hb.mono s9i.size)
    have HR1_10 := hide (HR1_9i.out.below hb)
    clear hb hb9i s9i HR1_9i
    go_wp2_with fail
    refine (mark_ansC w4i.heap.size q 1 _ h _ HR1_10.out hq (by omega)).mono ?_
    rintro e w11 ⟨rfl, hr11, hb, hsz⟩
    have hb11 := hb10.trans (hb.mono (by omega))
    have s11 := s10.trans (hb.mono (by omega))
    have HR11 := hide hr11
    clear hb hb10 s10 HR1_10 hr11 hsz
    go_wp2_with fail
    refine (held_ints _ q 1 _ HR11.out.ints hq (by omega)).mono ?_
    rintro e w12 ⟨rfl, rfl⟩
    have hq1 : ¬ (((1 + q : Nat) : Int) < 0) := by omega
    have hq2 : (((1 + q : Nat) : Int) != ((1 + q : Nat) : Int)) = false := by simp
    go_wp2_with fail
    refine (to_tasks _ k ts _ (HV.out.below hb11) HS.out).mono ?_
    rintro e w13 ⟨⟨rfl, X13, hX13⟩, hb⟩
    have hb13 := hb11.trans (hb.mono hb11.size)
    have s13 := s11.trans (hb.mono s11.size)
    have HR13 := hide (HR11.out.below hb)
    have HX13 := hide hX13
    clear hb hb11 s11 HR11 hX13
    go_wp2_with fail
    refine (to_ints _ n f _ (HU.out.below hb13) hn).mono ?_
    rintro e w13i ⟨⟨rfl, hY13⟩, hb⟩
    have hb13i := hb13.trans (hb.mono hb13.size)
    have s13i := s13.trans (hb.mono s13.size)
    have HR13i := hide (HR13.out.below hb)
    have HX13i := hide (HX13.out.below hb)
    have HY13 := hide hY13
    clear hb hb13 s13 HR13 HX13 hY13
    go_wp2_with fail
    refine (CI.out _ _ _ (HX13i.out.tasks (cap := k)) (HY13.out.ints (cap := n))).mono ?_
    rintro e w14 ⟨⟨R2, rfl, hR2⟩, hb⟩
    have hb14 := hb13i.trans (hb.mono hb13i.size)
    have s14 := s13i.trans (hb.mono s13i.size)
    have HR14 := hide (HR13i.out.below hb)
    obtain ⟨ar2, cr2, rfl⟩ := hR2.form
    have HR2 := hide hR2
    clear hb hb13i s13i HR13i HX13i HY13 hR2
    go_wp2_with fail
    refine (eq_ints _ _ q h _ HR2.out.ints (HR0.out.below s14) hq).mono ?_
    rintro e w15 ⟨rfl, hb⟩
    have hb15 := hb14.trans (hb.mono hb14.size)
    have HR15 := hide (HR14.out.below hb)
    clear hb hb14 s14 HR14 HR2
    go_wp2_with fail
    refine (held_ints _ q 1 _ HR15.out.ints hq (by omega)).mono ?_
    rintro e w16 ⟨rfl, rfl⟩
    clear HR15 HR0 CS CI HV HS HSm HU
    go_wp2
    go_ret
    exact ⟨rfl, hb15⟩
end Go.Proofs.Ytpabnncfcklnpaa
