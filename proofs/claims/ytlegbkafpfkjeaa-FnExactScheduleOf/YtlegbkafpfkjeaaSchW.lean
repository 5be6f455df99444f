/-
  The law of ScheduleOf, walked: it returns true and turns nothing that was there, wherever both texts tell the same.
-/
import Derived.Test.YtlegbkafpfkjeaaTaskA
import Derived.Test.YtlegbkafpfkjeaaSchK
namespace Go.Proofs.Ytlegbkafpfkjeaa
open Go.RowKit M
set_option maxRecDepth 20000 in
set_option maxHeartbeats 2000000 in
theorem law_scheduleOf_run (v : Value) (k : Nat) (ts : Nat → Tk) (x : Int) (w : World) (hv : TasksOf w v k ts) (hl : Lens k ts)
    (hC : Short k ts → ∃ (q : Nat) (h : Nat → Int) (z : Int) (ok : Bool), q ≤ 1048576 ∧ (∀ (v : Value) (w : World), TasksOf w v k ts → Calls Try.prog 31 #[v, .int .i64 x] w fun e w' => (∃ R, e = .returned (.tuple #[R, .int .i64 z, .bool ok]) ∧ SlotsOf w' R q h) ∧ Below w.heap.size w w') ∧
      (∀ (v : Value) (w : World), TasksOf w v k ts → Calls Try.prog 32 #[v, .int .i64 x] w fun e w' => (∃ R, e = .returned (.tuple #[R, .int .i64 z, .bool ok]) ∧ AnsS w' w.heap.size R q h) ∧ Below w.heap.size w w')) :
    Calls Try.prog 9 #[v, .int .i64 x] w fun e w' => e = .returned (.bool true) ∧ Below w.heap.size w w' := by
  have HV := hide hv
  obtain ⟨a, cap, rfl⟩ := hv.form
  have HL := hide hl
  have HC := hide hC
  clear hv hl hC
  go_enter Try.func9, Try.ntmps9
  go_wp2_with fail
  refine (sz_tasks _ k ts _ HV.out HL.out).mono ?_
  rintro e w1 ⟨⟨r, rfl, hr⟩, hb1⟩
  by_cases hrn : r < 0
  · clear hr HC HL HV
    go_wp2
    go_ret
    exact ⟨rfl, hb1⟩
  · have hsm : Small k ts := by
      rcases hr with h | ⟨_, h⟩
      · omega
      · exact h
    have HSm := hide hsm
    have HS := hide hsm.short
    obtain ⟨q, h, z, ok, hq, hS, hI⟩ := HC.out hsm.short
    have CS := hide hS
    have CI := hide hI
    have hoo : (ok != ok) = false := by simp
    have hzz : (z != z) = false := by simp
    have htot : k + tot ts k ≤ 1048576 := hsm
    clear hr hsm HC hS hI HL
    go_wp2_with fail
    refine (to_tasks _ k ts _ (HV.out.below hb1) HS.out).mono ?_
    rintro e w2 ⟨⟨rfl, X2, hX2⟩, hb⟩
    have hb2 := hb1.trans (hb.mono hb1.size)
    clear hb hb1
    go_wp2_with fail
    refine (CS.out _ _ (hX2.tasks (cap := k))).mono ?_
    rintro e w3 ⟨⟨R0, rfl, hR0⟩, hb⟩
    have hb3 := hb2.trans (hb.mono hb2.size)
    obtain ⟨ar0, cr0, rfl⟩ := hR0.form
    have HR0 := hide hR0
    clear hX2 hb hb2 hR0
    go_wp2_with fail
    refine (to_tasks _ k ts _ (HV.out.below hb3) HS.out).mono ?_
    rintro e w4 ⟨⟨rfl, X4, hX4⟩, s4⟩
    have hb4 := hb3.trans (s4.mono hb3.size)
    have hg4 := hX4.1.lt
    have hs3 := hb3.size
    have HM4 := hide hX4.mb
    have HX4 := hide hX4
    clear hX4
    go_wp2_with fail
    refine (CI.out _ _ (HX4.out.tasks (cap := k))).mono ?_
    rintro e w5 ⟨⟨R1, rfl, hR1⟩, hb⟩
    have hb5 := hb4.trans (hb.mono hb4.size)
    have s5 := s4.trans (hb.mono s4.size)
    have HX5 := hide (HX4.out.below hb)
    have HM5 := hide (HM4.out.below hb)
    obtain ⟨ar1, cr1, rfl⟩ := hR1.form
    have HR1 := hide hR1
    clear hb hb4 s4 HX4 HM4 hR1
    go_wp2_with fail
    refine (eq_slots _ _ q h _ HR1.out.slots (HR0.out.below s5) hq).mono ?_
    rintro e w6 ⟨rfl, hb⟩
    have hb6 := hb5.trans (hb.mono hb5.size)
    have s6 := s5.trans (hb.mono s5.size)
    have HX6 := hide (HX5.out.below hb)
    have HM6 := hide (HM5.out.below hb)
    have HR1_6 := hide (HR1.out.below hb)
    clear hb hb5 s5 HX5 HM5 HR1
    go_wp2_with fail
    refine (to_tasks _ k ts _ (HV.out.below hb6) HS.out).mono ?_
    rintro e w7 ⟨⟨rfl, X7, hX7⟩, hb⟩
    have hb7 := hb6.trans (hb.mono hb6.size)
    have s7 := s6.trans (hb.mono s6.size)
    have HX7 := hide (HX6.out.below hb)
    have HM7 := hide (HM6.out.below hb)
    have HR1_7 := hide (HR1_6.out.below hb)
    clear hb hb6 s6 HX6 HM6 HR1_6
    go_wp2_with fail
    refine (eq_tasks _ _ k ts _ (HX7.out.tasks (cap := k)) (hX7.tasks (cap := k)) HS.out).mono ?_
    rintro e w8 ⟨rfl, hb⟩
    have hb8 := hb7.trans (hb.mono hb7.size)
    have s8 := s7.trans (hb.mono s7.size)
    have HM8 := hide (HM7.out.below hb)
    have HR1_8 := hide (HR1_7.out.below hb)
    clear hb hb7 s7 HX7 HM7 HR1_7 hX7
    go_wp2_with fail
    refine (mark_tasks w3.heap.size k k w4.heap.size 1 ts X4 _ HM8.out HSm.out (by omega)).mono ?_
    rintro e w9 ⟨rfl, hrg⟩
    have hb9 := hb8.trans (hrg.below (by omega))
    have s9 := s8.trans (hrg.below (Nat.le_refl _))
    have HR1_9 := hide (HR1_8.out.rng hrg (Nat.le_refl _))
    have hknn : ¬ (((1 + (k + tot ts k) : Nat) : Int) < 0) := by omega
    clear hrg hb8 s8 HM8 HR1_8
    go_wp2_with fail
    refine (eq_slots _ _ q h _ HR1_9.out.slots (HR0.out.below s9) hq).mono ?_
    rintro e w10 ⟨rfl, hb⟩
    have hb10 := hb9.trans (hb.mono hb9.size)
    have s10 := s9.trans (hb.mono s9.size)
    have HR1_10 := hide (HR1_9.out.below hb)
    clear hb hb9 s9 HR1_9
    go_wp2_with fail
    refine (mark_ansS w4.heap.size q 1 _ h _ HR1_10.out hq (by omega)).mono ?_
    rintro e w11 ⟨rfl, hr11, hb, hsz⟩
    have hb11 := hb10.trans (hb.mono (by omega))
    have s11 := s10.trans (hb.mono (by omega))
    have HR11 := hide hr11
    clear hb hb10 s10 HR1_10 hr11 hsz
    go_wp2_with fail
    refine (held_slots _ q 1 _ HR11.out.slots hq (by omega)).mono ?_
    rintro e w12 ⟨rfl, rfl⟩
    have hq1 : ¬ (((1 + q * 3 : Nat) : Int) < 0) := by omega
    have hq2 : (((1 + q * 3 : Nat) : Int) != ((1 + q * 3 : Nat) : Int)) = false := by simp
    go_wp2_with fail
    refine (to_tasks _ k ts _ (HV.out.below hb11) HS.out).mono ?_
    rintro e w13 ⟨⟨rfl, X13, hX13⟩, hb⟩
    have hb13 := hb11.trans (hb.mono hb11.size)
    have s13 := s11.trans (hb.mono s11.size)
    have HR13 := hide (HR11.out.below hb)
    clear hb hb11 s11 HR11
    go_wp2_with fail
    refine (CI.out _ _ (hX13.tasks (cap := k))).mono ?_
    rintro e w14 ⟨⟨R2, rfl, hR2⟩, hb⟩
    have hb14 := hb13.trans (hb.mono hb13.size)
    have s14 := s13.trans (hb.mono s13.size)
    have HR14 := hide (HR13.out.below hb)
    obtain ⟨ar2, cr2, rfl⟩ := hR2.form
    have HR2 := hide hR2
    clear hb hb13 s13 HR13 hX13 hR2
    go_wp2_with fail
    refine (eq_slots _ _ q h _ HR2.out.slots (HR0.out.below s14) hq).mono ?_
    rintro e w15 ⟨rfl, hb⟩
    have hb15 := hb14.trans (hb.mono hb14.size)
    have HR15 := hide (HR14.out.below hb)
    clear hb hb14 s14 HR14 HR2
    go_wp2_with fail
    refine (held_slots _ q 1 _ HR15.out.slots hq (by omega)).mono ?_
    rintro e w16 ⟨rfl, rfl⟩
    clear HR15 HR0 CS CI HV HS HSm
    go_wp2
    go_ret
    exact ⟨rfl, hb15⟩
end Go.Proofs.Ytlegbkafpfkjeaa
