/-
  The law of PlayBreaker, walked, at every argument.
-/
import Derived.Test.YtegbfmdilmbpmaaRtR
import Derived.Test.YtegbfmdilmbpmaaRtT
namespace Go.Proofs.Ytegbfmdilmbpmaa
open Go.RowKit M
open Clk (upd upd_same upd_other)
set_option maxHeartbeats 4000000 in
theorem spec_play_no (l c : Int) (v : Value) (n : Nat) (cs : Nat → Cl) (w : World) (hv : CallsOf w v n cs) (hn : n ≤ 1048576) (hno : ¬ (GBd l c ∧ n ≤ 120)) :
    Calls Try.prog 33 #[.int .i64 l, .int .i64 c, v] w fun e w' => e = .returned (.tuple #[.agg #[.int .i64 0, .int .i64 0, .int .i64 0, .int .i64 0, .int .i64 0], .slice none 0 0, .bool false]) ∧ Below w.heap.size w w' := by
  obtain ⟨a, cap, hform⟩ := hv.form
  subst hform
  have HN := hide hno
  obtain ⟨b, hb⟩ : ∃ b, decide (GBd l c) = b := ⟨_, rfl⟩
  obtain ⟨r, hr⟩ : ∃ r, (if b = true then fresh l c else (⟨0, 0, 0, 0, 0⟩ : Br)) = r := ⟨_, rfl⟩
  have HC := hide (fun W => spec_new l c b r W hb hr)
  have HB := hide hb
  have hb0 := (Below.refl w.heap.size w).alloc (Nat.le_refl _) (.cells #[.int .i64 0, .int .i64 0, .int .i64 0, .int .i64 0, .int .i64 0] 37)
  have HA0 := hide (new5 w (.int .i64 0) (.int .i64 0) (.int .i64 0) (.int .i64 0) (.int .i64 0) 37)
  clear hv hno hb hr
  go_enter Try.func33, Try.ntmps33
  go_wp2_with fail
  refine (HC.out _).mono ?_
  rintro e w1 ⟨rfl, hb⟩
  have hlt1 := (HA0.out.down hb).lt
  have hA1' := HA0.out.down hb
  have hb1' := hb0.trans (hb.mono hb0.size)
  clear hb hb0 HA0 HC
  obtain ⟨⟨e0, e1, e2, e3, e4⟩, f0, f1, f2, f3, f4⟩ := hA1'.five
  obtain ⟨WZ, hWZ⟩ : ∃ WZ, ((((w1.setCell ⟨w.heap.size, 0, none⟩ (.int .i64 0)).setCell ⟨w.heap.size, 1, none⟩ (.int .i64 0)).setCell ⟨w.heap.size, 2, none⟩ (.int .i64 0)).setCell ⟨w.heap.size, 3, none⟩ (.int .i64 0)).setCell ⟨w.heap.size, 4, none⟩ (.int .i64 0) = WZ := ⟨_, rfl⟩
  have HZ := hide (put5 hA1' hb1' (Nat.le_refl _) _ _ _ _ _ WZ hWZ)
  have HWZ := hide hWZ
  clear hWZ hA1' hb1'
  cases b with
  | false =>
    clear HB HN
    go_wp2
    rw [HWZ.out]
    clear e0 e1 e2 e3 e4 f0 f1 f2 f3 f4
    obtain ⟨⟨e0, e1, e2, e3, e4⟩, -⟩ := (HZ.out.1.alloc (.cells #[.int .i64 r.l, .int .i64 r.c, .int .i64 r.s, .int .i64 r.k, .int .i64 r.o] 37)).five
    exact bodyPost_ret (v := .tuple #[.agg #[.int .i64 0, .int .i64 0, .int .i64 0, .int .i64 0, .int .i64 0], .slice none 0 0, .bool false]) (by simp [results, Try.results33, go_sem, e0, e1, e2, e3, e4]) rfl ⟨rfl, HZ.out.2.alloc HZ.out.2.size _⟩
  | true =>
    have h120 : ¬ (n : Int) ≤ 120 := fun h => HN.out ⟨of_decide_eq_true HB.out, by omega⟩
    clear HB HN
    go_wp2
    rw [HWZ.out]
    clear e0 e1 e2 e3 e4 f0 f1 f2 f3 f4
    obtain ⟨⟨e0, e1, e2, e3, e4⟩, -⟩ := (HZ.out.1.alloc (.cells #[.int .i64 r.l, .int .i64 r.c, .int .i64 r.s, .int .i64 r.k, .int .i64 r.o] 37)).five
    exact bodyPost_ret (v := .tuple #[.agg #[.int .i64 0, .int .i64 0, .int .i64 0, .int .i64 0, .int .i64 0], .slice none 0 0, .bool false]) (by simp [results, Try.results33, go_sem, e0, e1, e2, e3, e4]) rfl ⟨rfl, HZ.out.2.alloc HZ.out.2.size _⟩
set_option maxRecDepth 20000 in
set_option maxHeartbeats 8000000 in
theorem law_play_run (l c : Int) (v : Value) (n : Nat) (cs : Nat → Cl) (w : World) (hv : CallsOf w v n cs) (hm : n ≤ maxLen)
    (hC : n ≤ 1048576 → ∃ (r : Br) (q : Nat) (h : Nat → Bool) (ok : Bool), q ≤ 1048576 ∧
      (∀ (v : Value) (W : World), CallsOf W v n cs → Calls Try.prog 33 #[.int .i64 l, .int .i64 c, v] W fun e w' => (∃ R, e = .returned (.tuple #[brv r, R, .bool ok]) ∧ BoolsOf w' R q h) ∧ Below W.heap.size W w') ∧
      (∀ (v : Value) (W : World), CallsOf W v n cs → Calls Try.prog 35 #[.int .i64 l, .int .i64 c, v] W fun e w' => (∃ R, e = .returned (.tuple #[brv r, R, .bool ok]) ∧ AnsB w' W.heap.size R q h) ∧ Below W.heap.size W w')) :
    Calls Try.prog 9 #[.int .i64 l, .int .i64 c, v] w fun e w' => e = .returned (.bool true) ∧ Below w.heap.size w w' := by
  have HV := hide hv
  obtain ⟨a, cap, rfl⟩ := hv.form
  have HC := hide hC
  clear hv hC
  go_enter Try.func9, Try.ntmps9
  go_wp2_with fail
  refine (sz_calls a n cap 1048576 _ hm (by omega) (by omega)).mono ?_
  rintro e w1 ⟨⟨x, rfl, hx⟩, rfl⟩
  by_cases hrn : x < 0
  · clear hx HC HV
    go_wp2
    go_ret
    exact ⟨rfl, Below.refl _ _⟩
  · have hn : n ≤ 1048576 := by omega
    have HN := hide hn
    obtain ⟨r, q, h, ok, hq, hS, hI⟩ := HC.out hn
    have CS := hide hS
    have CI := hide hI
    have HQ := hide hq
    have hoo : (ok != ok) = false := by simp
    clear hx HC hS hI hm hq hn
    go_wp2_with fail
    refine (to_calls _ n cs _ HV.out HN.out).mono ?_
    rintro e w2 ⟨⟨rfl, hX2⟩, hb2⟩
    go_wp2_with fail
    refine (CS.out _ _ (hX2.calls (cap := n))).mono ?_
    rintro e w3' ⟨⟨R0, rfl, hR0⟩, hb⟩
    obtain ⟨ar0, cr0, rfl⟩ := hR0.form
    have hb3' := hb2.trans (hb.mono hb2.size)
    have hal := (Below.refl w3'.heap.size w3').alloc (Nat.le_refl _) (.cells #[.int .i64 r.l, .int .i64 r.c, .int .i64 r.s, .int .i64 r.k, .int .i64 r.o] 37)
    have hb3 := hb3'.trans (hal.mono hb3'.size)
    have hR3 := hR0.below hal
    have hP3 := new5 w3' (.int .i64 r.l) (.int .i64 r.c) (.int .i64 r.s) (.int .i64 r.k) (.int .i64 r.o) 37
    obtain ⟨w3, hw3⟩ : ∃ w3, w3'.alloc (.cells #[.int .i64 r.l, .int .i64 r.c, .int .i64 r.s, .int .i64 r.k, .int .i64 r.o] 37) = w3 := ⟨_, rfl⟩
    obtain ⟨g8, hg8⟩ : ∃ g8, w3'.heap.size = g8 := ⟨_, rfl⟩
    rw [hw3] at hb3 hR3 hP3
    rw [hg8] at hP3
    have HW3 := hide hw3
    have HG8 := hide hg8
    have HR0 := hide hR3
    have HP0 := hide hP3
    clear hX2 hb2 hb hb3' hal hR0 hR3 hP3 hw3 hg8
    go_wp2_with fail
    rw [HW3.out, HG8.out]
    clear HW3 HG8
    refine (to_calls _ n cs _ (HV.out.below hb3) HN.out).mono ?_
    rintro e w4 ⟨⟨rfl, hX4⟩, s4⟩
    have hb4 := hb3.trans (s4.mono hb3.size)
    have hg4 := hX4.lt
    have HX4 := hide hX4
    have hs3 := hb3.size
    clear hX4
    go_wp2_with fail
    refine (CI.out _ _ (HX4.out.calls (cap := n))).mono ?_
    rintro e w5' ⟨⟨R1, rfl, hR1⟩, hb⟩
    obtain ⟨ar1, cr1, rfl⟩ := hR1.form
    have hal := (Below.refl w5'.heap.size w5').alloc (Nat.le_refl _) (.cells #[.int .i64 r.l, .int .i64 r.c, .int .i64 r.s, .int .i64 r.k, .int .i64 r.o] 37)
    have hb45 := hb.trans (hal.mono hb.size)
    have hR5 := hR1.below hal
    have hP5 := new5 w5' (.int .i64 r.l) (.int .i64 r.c) (.int .i64 r.s) (.int .i64 r.k) (.int .i64 r.o) 37
    have hne : w4.heap.size ≤ w5'.heap.size := hb.size
    have hlt8 : g8 < w5'.heap.size := by
      have h1 := HP0.out.lt
      omega
    obtain ⟨w5, hw5⟩ : ∃ w5, w5'.alloc (.cells #[.int .i64 r.l, .int .i64 r.c, .int .i64 r.s, .int .i64 r.k, .int .i64 r.o] 37) = w5 := ⟨_, rfl⟩
    obtain ⟨g12, hg12⟩ : ∃ g12, w5'.heap.size = g12 := ⟨_, rfl⟩
    rw [hw5] at hb45 hR5 hP5
    rw [hg12] at hP5 hne
    have HW5 := hide hw5
    have HG12 := hide hg12
    have hb5 := hb4.trans (hb45.mono hb4.size)
    have s5 := s4.trans (hb45.mono s4.size)
    have HX5 := hide (HX4.out.down hb45)
    have HR1 := hide hR5
    have HP1 := hide hP5
    obtain ⟨⟨d0, d1, d2, d3, d4⟩, -⟩ := (HP0.out.down s5).five
    obtain ⟨⟨k0, k1, k2, k3, k4⟩, -⟩ := hP5.five
    rw [← hw5] at d0 d1 d2 d3 d4
    clear hb hb4 s4 HX4 hR1 hR5 hP5 hb45 hal hw5 hg12 k0 k1 k2 k3 k4
    go_wp2_with fail
    rw [HW5.out, HG12.out]
    refine (eq_breaker r _).mono ?_
    rintro e w6 ⟨rfl, hb⟩
    have hb6 := hb5.trans (hb.mono hb5.size)
    have s6 := s5.trans (hb.mono s5.size)
    have HX6 := hide (HX5.out.down hb)
    have HR1_6 := hide (HR1.out.below hb)
    have HP1_6 := hide (HP1.out.down hb)
    clear hb hb5 s5 HX5 HR1 HP1 d0 d1 d2 d3 d4 HW5 HG12
    go_wp2_with fail
    refine (eq_bools _ _ q h _ HR1_6.out.bools (HR0.out.below s6) HQ.out).mono ?_
    rintro e w7 ⟨rfl, hb⟩
    have hb7 := hb6.trans (hb.mono hb6.size)
    have s7 := s6.trans (hb.mono s6.size)
    have HX7 := hide (HX6.out.down hb)
    have HR1_7 := hide (HR1_6.out.below hb)
    have HP1_7 := hide (HP1_6.out.down hb)
    clear hb hb6 s6 HX6 HR1_6 HP1_6
    go_wp2_with fail
    refine (to_calls _ n cs _ (HV.out.below hb7) HN.out).mono ?_
    rintro e w8 ⟨⟨rfl, hX8⟩, hb⟩
    have hb8 := hb7.trans (hb.mono hb7.size)
    have s8 := s7.trans (hb.mono s7.size)
    have HX8 := hide (HX7.out.down hb)
    have HR1_8 := hide (HR1_7.out.below hb)
    have HP1_8 := hide (HP1_7.out.down hb)
    clear hb hb7 s7 HX7 HR1_7 HP1_7
    go_wp2_with fail
    refine (eq_calls _ _ n cs _ (HX8.out.calls (cap := n)) (hX8.calls (cap := n)) HN.out).mono ?_
    rintro e w9 ⟨rfl, hb⟩
    have hb9 := hb8.trans (hb.mono hb8.size)
    have s9 := s8.trans (hb.mono s8.size)
    have HX9 := hide (HX8.out.down hb)
    have HR1_9 := hide (HR1_8.out.below hb)
    have HP1_9 := hide (HP1_8.out.down hb)
    clear hb hb8 s8 HX8 HR1_8 HP1_8 hX8
    go_wp2_with fail
    refine (mark_calls w3.heap.size n n 1 cs _ HX9.out HN.out (by omega)).mono ?_
    rintro e w10 ⟨rfl, ho⟩
    have hb10 := hb9.trans (ho.below (by omega))
    have s10 := s9.trans (ho.below (Nat.le_refl _))
    have HR1_10 := hide (HR1_9.out.only ho hg4)
    have HP1_10 := hide (ho.blk HP1_9.out (by omega))
    have hknn : ¬ (((1 + n * 2 : Nat) : Int) < 0) := by omega
    obtain ⟨⟨d0, d1, d2, d3, d4⟩, -⟩ := (HP0.out.down s10).five
    obtain ⟨⟨k0, k1, k2, k3, k4⟩, -⟩ := HP1_10.out.five
    clear ho hb9 s9 HX9 HR1_9 HP1_9
    go_wp2_with fail
    refine (eq_breaker r _).mono ?_
    rintro e w11 ⟨rfl, hb⟩
    have hb11 := hb10.trans (hb.mono hb10.size)
    have s11 := s10.trans (hb.mono s10.size)
    have HR1_11 := hide (HR1_10.out.below hb)
    clear hb hb10 s10 HR1_10 HP1_10 d0 d1 d2 d3 d4 k0 k1 k2 k3 k4
    go_wp2_with fail
    refine (eq_bools _ _ q h _ HR1_11.out.bools (HR0.out.below s11) HQ.out).mono ?_
    rintro e w12 ⟨rfl, hb⟩
    have hb12 := hb11.trans (hb.mono hb11.size)
    have s12 := s11.trans (hb.mono s11.size)
    have HR1_12 := hide (HR1_11.out.below hb)
    clear hb hb11 s11 HR1_11
    go_wp2_with fail
    refine (mark_ansB w4.heap.size q 1 _ h _ HR1_12.out HQ.out (by omega)).mono ?_
    rintro e w13 ⟨rfl, hr13, hb, hsz⟩
    have hb13 := hb12.trans (hb.mono (by omega))
    have s13 := s12.trans (hb.mono (by omega))
    have HR13 := hide hr13
    clear hb hb12 s12 HR1_12 hr13 hsz
    go_wp2_with fail
    refine (held_bools _ q 1 _ HR13.out.bools HQ.out (by omega)).mono ?_
    rintro e w14 ⟨rfl, rfl⟩
    have hq1 : ¬ (((1 + q : Nat) : Int) < 0) := by omega
    have hq2 : (((1 + q : Nat) : Int) != ((1 + q : Nat) : Int)) = false := by simp
    go_wp2_with fail
    refine (to_calls _ n cs _ (HV.out.below hb13) HN.out).mono ?_
    rintro e w15 ⟨⟨rfl, hX15⟩, hb⟩
    have hb15 := hb13.trans (hb.mono hb13.size)
    have s15 := s13.trans (hb.mono s13.size)
    have HR15 := hide (HR13.out.below hb)
    clear hb hb13 s13 HR13
    go_wp2_with fail
    refine (CI.out _ _ (hX15.calls (cap := n))).mono ?_
    rintro e w16' ⟨⟨R2, rfl, hR2⟩, hb⟩
    obtain ⟨ar2, cr2, rfl⟩ := hR2.form
    have hal := (Below.refl w16'.heap.size w16').alloc (Nat.le_refl _) (.cells #[.int .i64 r.l, .int .i64 r.c, .int .i64 r.s, .int .i64 r.k, .int .i64 r.o] 37)
    have hdn := hb.trans (hal.mono hb.size)
    have hR16 := hR2.below hal
    have hP16 := new5 w16' (.int .i64 r.l) (.int .i64 r.c) (.int .i64 r.s) (.int .i64 r.k) (.int .i64 r.o) 37
    obtain ⟨w16, hw16⟩ : ∃ w16, w16'.alloc (.cells #[.int .i64 r.l, .int .i64 r.c, .int .i64 r.s, .int .i64 r.k, .int .i64 r.o] 37) = w16 := ⟨_, rfl⟩
    rw [hw16] at hdn hR16 hP16
    have HW16 := hide hw16
    have hb16 := hb15.trans (hdn.mono hb15.size)
    have s16 := s15.trans (hdn.mono s15.size)
    have HR16 := hide (HR15.out.below hdn)
    have HR2 := hide hR16
    obtain ⟨⟨d0, d1, d2, d3, d4⟩, -⟩ := (HP0.out.down s16).five
    rw [← hw16] at d0 d1 d2 d3 d4
    have hlt16 : g8 < w16'.heap.size := by
      have h1 := HP0.out.lt
      have h2 := s15.size
      have h3 := hb.size
      omega
    clear hb hb15 s15 HR15 hX15 hR2 hR16 hP16 hdn hal hw16
    go_wp2_with fail
    rw [HW16.out]
    refine (eq_breaker r _).mono ?_
    rintro e w17 ⟨rfl, hb⟩
    have hb17 := hb16.trans (hb.mono hb16.size)
    have s17 := s16.trans (hb.mono s16.size)
    have HR17 := hide (HR16.out.below hb)
    have HR2_17 := hide (HR2.out.below hb)
    clear hb hb16 s16 HR16 HR2 d0 d1 d2 d3 d4 HW16
    go_wp2_with fail
    refine (eq_bools _ _ q h _ HR2_17.out.bools (HR0.out.below s17) HQ.out).mono ?_
    rintro e w18 ⟨rfl, hb⟩
    have hb18 := hb17.trans (hb.mono hb17.size)
    have HR18 := hide (HR17.out.below hb)
    clear hb hb17 s17 HR17 HR2_17
    go_wp2_with fail
    refine (held_bools _ q 1 _ HR18.out.bools HQ.out (by omega)).mono ?_
    rintro e w19 ⟨rfl, rfl⟩
    clear HR18 HR0 CS CI HV HN HP0
    go_wp2
    go_ret
    exact ⟨rfl, hb18⟩
theorem law_play (l c : Int) (v : Value) (n : Nat) (cs : Nat → Cl) (w : World) (hv : CallsOf w v n cs) (hm : n ≤ maxLen) :
    Calls Try.prog 9 #[.int .i64 l, .int .i64 c, v] w fun e w' => e = .returned (.bool true) ∧ Below w.heap.size w w' := by
  refine law_play_run l c v n cs w hv hm (fun hn => ?_)
  have hnil : ∀ W, BoolsOf W (.slice none 0 0) 0 (fun _ => false) := fun W => ⟨none, 0, rfl, fun h => absurd h (Nat.lt_irrefl _)⟩
  by_cases h1 : GBd l c ∧ n ≤ 120
  · by_cases h2 : GCs n cs
    · refine ⟨ply l c cs n, n, thr l c cs, true, hn, fun v W hW => (spec_play l c v n cs W hW h1.1 h1.2).mono ?_, fun v W hW => impl_play l c v n cs W hW h1.1 h1.2 h2⟩
      rintro e w' ⟨⟨-, R, he, hR⟩ | ⟨hno, -⟩, hb⟩
      · exact ⟨⟨R, he, hR⟩, hb⟩
      · exact absurd h2 hno
    · refine ⟨⟨0, 0, 0, 0, 0⟩, 0, fun _ => false, false, by omega, fun v W hW => (spec_play l c v n cs W hW h1.1 h1.2).mono ?_, fun v W hW => (impl_play_no l c v n cs W hW hn (fun h => h2 h.2.2)).mono ?_⟩
      · rintro e w' ⟨⟨hy, -⟩ | ⟨-, he⟩, hb⟩
        · exact absurd hy h2
        · exact ⟨⟨_, he, hnil _⟩, hb⟩
      · rintro e w' ⟨he, hb⟩
        exact ⟨⟨_, he, .inl ⟨rfl, rfl⟩⟩, hb⟩
  · refine ⟨⟨0, 0, 0, 0, 0⟩, 0, fun _ => false, false, by omega, fun v W hW => (spec_play_no l c v n cs W hW hn h1).mono ?_, fun v W hW => (impl_play_no l c v n cs W hW hn (fun h => h1 ⟨h.1, h.2.1⟩)).mono ?_⟩
    · rintro e w' ⟨he, hb⟩
      exact ⟨⟨_, he, hnil _⟩, hb⟩
    · rintro e w' ⟨he, hb⟩
      exact ⟨⟨_, he, .inl ⟨rfl, rfl⟩⟩, hb⟩
end Go.Proofs.Ytegbfmdilmbpmaa
