/-
  The law FnWaits, walked: whatever the bytes, it returns true.
-/
import Derived.Test.YthokecjhnpledaaRtK
namespace Go.Proofs.Ythokecjhnpledaa
open Go.RowKit M
open Clk (upd upd_same upd_other)
open Go.Sort (grow)
namespace M
theorem wt_first {p : Po} (h : GPo p) (k : Nat) : p.f ≤ wt p k := by
  induction k with
  | zero => exact Int.le_refl _
  | succ k ih =>
    have h0 := wt_in h k
    obtain ⟨h1, h2, h3, h4⟩ := h
    have := mul_le (wt p k) p.t p.m 10 h0.1 h0.2 h2.1 h2.2
    show p.f ≤ min (wt p k * p.t) p.m
    omega
theorem wt_next {p : Po} (h : GPo p) (k : Nat) : wt p k ≤ wt p (k + 1) ∧ wt p (k + 1) ≤ wt p k * p.t := by
  have h0 := wt_in h k
  obtain ⟨h1, h2, h3, h4⟩ := h
  have := mul_le (wt p k) p.t p.m 10 h0.1 h0.2 h2.1 h2.2
  show wt p k ≤ min (wt p k * p.t) p.m ∧ min (wt p k * p.t) p.m ≤ wt p k * p.t
  omega
end M
set_option maxHeartbeats 2000000 in
theorem draw_policy (v : Value) (n : Nat) (f : Nat → Nat) (w : World) (hv : OctetsOf w v n f) (hn : n ≤ 1048576) :
    Calls Try.prog 60 #[v] w fun e w' => (∃ p : Po, e = .returned (.agg #[.int .i64 p.f, .int .i64 p.t, .int .i64 p.m, .int .i64 p.n])) ∧ Below w.heap.size w w' := by
  obtain ⟨a, cap, rfl⟩ := hv.form
  have hal := (Below.refl w.heap.size w).alloc (Nat.le_refl _) (.cells #[.int .i64 0, .int .i64 0, .int .i64 0, .int .i64 0] 25)
  have hal2 := hal.alloc hal.size (.cells #[.slice a n cap, .int .i64 0, .int .u64 0] 91)
  have hC : CurAt ((w.alloc (.cells #[.int .i64 0, .int .i64 0, .int .i64 0, .int .i64 0] 25)).alloc (.cells #[.slice a n cap, .int .i64 0, .int .u64 0] 91)) w.heap.size (w.heap.size + 1) 0 := by
    have hb := Blk.fresh (w.alloc (.cells #[.int .i64 0, .int .i64 0, .int .i64 0, .int .i64 0] 25)) #[.slice a n cap, .int .i64 0, .int .u64 0] 3 (cu (.slice a n cap) (0 : Nat) 0) 91 rfl
    rw [World.size_alloc] at hb
    exact ⟨_, n, f, 0, 0, Nat.le_refl _, hn, by omega, hb, w, rfl, hv, hal2⟩
  have hR := (new4 w (.int .i64 0) (.int .i64 0) (.int .i64 0) (.int .i64 0) 25).alloc (.cells #[.slice a n cap, .int .i64 0, .int .u64 0] 91)
  have HC := hide hC
  have HR := hide hR
  clear hC hR hv hal
  go_enter Try.func60, Try.ntmps60
  go_wp2_with fail
  refine (cur_policy w.heap.size (w.heap.size + 1) 0 _ HC.out (by omega)).mono ?_
  rintro e w3 ⟨⟨p, rfl⟩, hbut⟩
  have hR3 := hbut.blk HR.out (by omega)
  have hb3 := hal2.trans (hbut.below (by omega) (by simp; omega))
  clear hbut HC HR hal2
  obtain ⟨⟨e0, e1, e2, e3⟩, f0, f1, f2, f3⟩ := hR3.quad
  obtain ⟨WZ, hWZ⟩ : ∃ WZ, (((w3.setCell ⟨w.heap.size, 0, none⟩ (.int .i64 p.f)).setCell ⟨w.heap.size, 1, none⟩ (.int .i64 p.t)).setCell ⟨w.heap.size, 2, none⟩ (.int .i64 p.m)).setCell ⟨w.heap.size, 3, none⟩ (.int .i64 p.n) = WZ := ⟨_, rfl⟩
  have HZ := hide (put4 hR3 hb3 (Nat.le_refl _) _ _ _ _ WZ hWZ)
  have HWZ := hide hWZ
  clear hWZ hR3 hb3
  go_wp2
  rw [HWZ.out]
  clear e0 e1 e2 e3 f0 f1 f2 f3
  obtain ⟨⟨e0, e1, e2, e3⟩, -⟩ := HZ.out.1.quad
  exact bodyPost_ret (v := .agg #[.int .i64 p.f, .int .i64 p.t, .int .i64 p.m, .int .i64 p.n]) (by simp [results, Try.results60, go_sem, e0, e1, e2, e3]) rfl ⟨⟨p, rfl⟩, HZ.out.2⟩
set_option maxHeartbeats 2000000 in
theorem draw_waits (v : Value) (n : Nat) (f : Nat → Nat) (w : World) (hv : OctetsOf w v n f) (hn : n ≤ 1048576) :
    Calls Try.prog 43 #[v] w fun e w' => (∃ p : Po, e = .returned (.agg #[.int .i64 p.f, .int .i64 p.t, .int .i64 p.m, .int .i64 p.n])) ∧ Below w.heap.size w w' := by
  obtain ⟨a, cap, rfl⟩ := hv.form
  have hal := (Below.refl w.heap.size w).alloc (Nat.le_refl _) (.cells #[.int .i64 0, .int .i64 0, .int .i64 0, .int .i64 0] 25)
  have HR := hide (new4 w (.int .i64 0) (.int .i64 0) (.int .i64 0) (.int .i64 0) 25)
  have HV := hide hv
  clear hv
  go_enter Try.func43, Try.ntmps43
  go_wp2_with fail
  refine (draw_policy _ n f _ (HV.out.below hal) hn).mono ?_
  rintro e w3 ⟨⟨p, rfl⟩, hb⟩
  have hR3 := HR.out.down hb
  have hb3 := hal.trans (hb.mono hal.size)
  clear hb HR hal HV
  obtain ⟨⟨e0, e1, e2, e3⟩, f0, f1, f2, f3⟩ := hR3.quad
  obtain ⟨WZ, hWZ⟩ : ∃ WZ, (((w3.setCell ⟨w.heap.size, 0, none⟩ (.int .i64 p.f)).setCell ⟨w.heap.size, 1, none⟩ (.int .i64 p.t)).setCell ⟨w.heap.size, 2, none⟩ (.int .i64 p.m)).setCell ⟨w.heap.size, 3, none⟩ (.int .i64 p.n) = WZ := ⟨_, rfl⟩
  have HZ := hide (put4 hR3 hb3 (Nat.le_refl _) _ _ _ _ WZ hWZ)
  have HWZ := hide hWZ
  clear hWZ hR3 hb3
  go_wp2
  rw [HWZ.out]
  clear e0 e1 e2 e3 f0 f1 f2 f3
  obtain ⟨⟨e0, e1, e2, e3⟩, -⟩ := HZ.out.1.quad
  exact bodyPost_ret (v := .agg #[.int .i64 p.f, .int .i64 p.t, .int .i64 p.m, .int .i64 p.n]) (by simp [results, Try.results43, go_sem, e0, e1, e2, e3]) rfl ⟨⟨p, rfl⟩, HZ.out.2⟩
set_option maxRecDepth 20000 in
set_option maxHeartbeats 8000000 in
theorem law_fnWaits (v : Value) (n : Nat) (f : Nat → Nat) (w : World) (hv : OctetsOf w v n f) (hm : n ≤ maxLen) :
    Calls Try.prog 11 #[v] w fun e w' => e = .returned (.bool true) ∧ Below w.heap.size w w' := by
  obtain ⟨a, cap, rfl⟩ := hv.form
  have HV := hide hv
  unfold maxLen at hm
  clear hv
  by_cases hn : 1048576 < n
  · have hn' : (1048576 : Int) < (n : Int) := by omega
    go_enter Try.func11, Try.ntmps11
    go_wp2
    go_ret
    exact ⟨rfl, Below.refl _ _⟩
  · have hn' : ¬ (1048576 : Int) < (n : Int) := by omega
    go_enter Try.func11, Try.ntmps11
    go_wp2_with fail
    refine (draw_waits _ n f _ HV.out (by omega)).mono ?_
    rintro e w1 ⟨⟨p, rfl⟩, hb⟩
    obtain ⟨w2, hw2⟩ : ∃ w2, w1.alloc (.cells #[.int .i64 p.f, .int .i64 p.t, .int .i64 p.m, .int .i64 p.n] 25) = w2 := ⟨_, rfl⟩
    obtain ⟨g, hg⟩ : ∃ g, w1.heap.size = g := ⟨_, rfl⟩
    have hb2 := hb.alloc hb.size (.cells #[.int .i64 p.f, .int .i64 p.t, .int .i64 p.m, .int .i64 p.n] 25)
    have hP2 := new4 w1 (.int .i64 p.f) (.int .i64 p.t) (.int .i64 p.m) (.int .i64 p.n) 25
    rw [hw2] at hb2 hP2
    rw [hg] at hP2
    have HP := hide hP2
    have HW := hide hw2
    have HG := hide hg
    clear hb hP2 hw2 hg HV hn hn' hm
    by_cases hG : GPo p
    · obtain ⟨pf, pt, pm, pn⟩ := p
      obtain ⟨q, hq⟩ : ∃ q : Nat, pn = (q : Int) + 1 := ⟨(pn - 1).toNat, by have := hG.2.2.2.1; simp only at this; omega⟩
      subst hq
      simp only at HP HW ⊢
      have hq40 : q < 40 := by have := hG.2.2.2.2; simp only at this; omega
      have HI := hide (fun W => impl_waits pf pt pm q W hG)
      have HS := hide (fun W => spec_waits pf pt pm q W hG)
      have HGp := hide (fun W => impl_policy ⟨pf, pt, pm, (q : Int) + 1⟩ true W (decide_eq_true hG))
      have HW1 := hide (show ∀ (j : Nat) W, j ≤ q → Calls Try.prog 17 #[.agg #[.int .i64 pf, .int .i64 pt, .int .i64 pm, .int .i64 ((q : Int) + 1)], .int .i64 ((j : Int) + 1)] W fun e w' => e = .returned (.tuple #[.int .i64 (wt ⟨pf, pt, pm, (q : Int) + 1⟩ j), .bool true]) ∧ Below W.heap.size W w' from fun j W hj => by
        refine impl_wait ⟨pf, pt, pm, (q : Int) + 1⟩ ((j : Int) + 1) true _ W (decide_eq_true ⟨hG, by omega, by simp only; omega⟩) ?_
        rw [if_pos rfl, show ((j : Int) + 1).toNat - 1 = j by omega])
      obtain ⟨p, hp⟩ : ∃ p : Po, (⟨pf, pt, pm, (q : Int) + 1⟩ : Po) = p := ⟨_, rfl⟩
      have HF := hide (show ∀ j, pf ≤ wt p j ∧ wt p j ≤ pm ∧ 1 ≤ wt p j ∧ wt p j ≤ 1000000 ∧ wt p j ≤ wt p (j + 1) ∧ wt p (j + 1) ≤ wt p j * pt ∧ wt p j * pt ≤ 10000000 from fun j => by
        rw [← hp]
        have a1 := wt_first hG j
        have a2 := wt_in hG j
        have a3 := wt_few hG j
        have a4 := wt_next hG j
        have a5 := wt_mul hG j
        simp only at a1 a2 a3 a4 a5
        exact ⟨a1, a2.2, a3.1, a3.2, a4.1, a4.2, a5.2⟩)
      have HSm := hide (show ∀ j, j < 40 → 0 ≤ sm p j ∧ sm p j ≤ 40000000 from fun j hj => by rw [← hp]; exact sm_few hG hj)
      rw [hp] at HI HS HW1
      clear hG hp
      obtain ⟨⟨d0, d1, d2, d3⟩, -⟩ := HP.out.quad
      go_wp2_with fail
      rw [HW.out, HG.out]
      refine (HI.out _).mono ?_
      rintro e w3 ⟨⟨R1, rfl, hR1⟩, hb⟩
      obtain ⟨ar1, cr1, rfl⟩ := hR1.form
      have hb3 := hb2.trans (hb.mono hb2.size)
      have HP3 := hide (HP.out.down hb)
      have HR3 := hide hR1.ints
      clear hb hb2 hR1 HP HI d0 d1 d2 d3 HW HG
      obtain ⟨⟨d0, d1, d2, d3⟩, -⟩ := HP3.out.quad
      go_wp2_with fail
      refine (HS.out _).mono ?_
      rintro e w4 ⟨⟨R2, rfl, hR2⟩, hb⟩
      obtain ⟨ar2, cr2, rfl⟩ := hR2.form
      have hb4 := hb3.trans (hb.mono hb3.size)
      have HP4 := hide (HP3.out.down hb)
      have HR4 := hide (HR3.out.below hb)
      have HT4 := hide hR2
      clear hb hb3 HP3 HR3 hR2 HS d0 d1 d2 d3
      have hss : (sm p q != sm p q) = false := by simp
      go_wp2_with fail
      refine (same_ints _ _ q (wt p) _ HR4.out HT4.out (by omega)).mono ?_
      rintro e w5 ⟨rfl, hb⟩
      have hb5 := hb4.trans (hb.mono hb4.size)
      have HP5 := hide (HP4.out.down hb)
      have HR5 := hide (HR4.out.below hb)
      clear hb hb4 HP4 HR4 HT4
      obtain ⟨⟨d0, d1, d2, d3⟩, -⟩ := HP5.out.quad
      go_wp2_with fail
      refine (HGp.out _).mono ?_
      rintro e w6 ⟨rfl, hb⟩
      have hb6 := hb5.trans (hb.mono hb5.size)
      have HP6 := hide (HP5.out.down hb)
      have HR6 := hide (HR5.out.below hb)
      clear hb hb5 HP5 HR5 HGp d0 d1 d2 d3 hss
      go_wp2
      go_loopw [10, 11, 12, 13, 14, 60] (fun s ii nn ww oo i wr => ∃ j : Nat, j ≤ q ∧ i = .int .i64 j ∧ s = .int .i64 (sm p j) ∧
          Hid (Blk wr g 4 (q4 (.int .i64 pf) (.int .i64 pt) (.int .i64 pm) (.int .i64 ((q : Int) + 1))) 25 ∧ IntsOf wr (.slice ar1 q cr1) q (wt p) ∧ Below w.heap.size w wr)) (fun _ _ _ _ _ i _ => q - (intOf i).toNat)
      case atStart => exact ⟨0, Nat.zero_le _, rfl, rfl, hide ⟨HP6.out, HR6.out, hb6⟩⟩
      case round =>
        rename World => wo
        obtain ⟨j, hj, rfl, rfl, HJ⟩ := hrel
        obtain ⟨⟨d0, d1, d2, d3⟩, -⟩ := HJ.out.1.quad
        by_cases hlt : j < q
        · obtain ⟨a', cap', hf, hr⟩ := HJ.out.2.1
          obtain ⟨bb, off, ha, hbb, hrow⟩ := hr (by omega)
          cases hf
          cases ha
          have c0 := hrow j hlt
          have HRow := hide hrow
          go_wp2_with fail
          refine (HW1.out j _ (by omega)).mono ?_
          rintro e w7 ⟨rfl, hb⟩
          have HJ7 := hide (And.intro (HJ.out.1.down hb) (And.intro (HJ.out.2.1.below hb) (HJ.out.2.2.trans (hb.mono HJ.out.2.2.size))))
          have HRw7 := hide (show ∀ i, i < q → w7.cell? ⟨bb, off + i, none⟩ = some (.int .i64 (wt p i)) from fun i hi => (hb.cell (p := ⟨bb, off + i, none⟩) hbb).trans (HRow.out i hi))
          clear hb HJ hrow hr HRow c0 d0 d1 d2 d3
          obtain ⟨a1, a2, a3, a4, -, -, -⟩ := HF.out j
          obtain ⟨s0, s1⟩ := HSm.out j (by omega)
          have HSs := hide (show sm p (j + 1) = sm p j + wt p j from rfl)
          obtain ⟨⟨d0, d1, d2, d3⟩, -⟩ := HJ7.out.1.quad
          have k0 := cell_regrown d0
          have k1 := cell_regrown d1
          have k2 := cell_regrown d2
          have hww : (wt p j != wt p j) = false := by simp
          have h1 : decide (wt p j < pf) = false := decide_eq_false (by omega)
          have h2 : decide (pm < wt p j) = false := decide_eq_false (by omega)
          clear d0 d1 d2 d3 HW1 HSm
          cases j with
          | zero =>
            clear HRw7 HF
            go_wp2
            refine wp_region_quiet_below (by kernel_rfl) (by kernel_rfl) ?_
            repeat (go_big_quiet_step (fail))
            refine wpQuiet_nil ?_
            intro _ hw'
            obtain ⟨⟨dq, osq⟩, hw''⟩ := hw'
            subst hw''
            have hbq := below_regrown w7 dq osq
            have HJ8 := hide (show Blk (grow (redrawn w7 dq) osq) g 4 _ 25 ∧ IntsOf (grow (redrawn w7 dq) osq) (.slice (some ⟨bb, off, none⟩) q cr1) q (wt p) ∧ Below w.heap.size w (grow (redrawn w7 dq) osq) from ⟨HJ7.out.1.down hbq, HJ7.out.2.1.below hbq, HJ7.out.2.2.trans (hbq.mono HJ7.out.2.2.size)⟩)
            clear hbq HJ7
            go_wp2
            go_roundw
            case rel => exact ⟨0 + 1, by omega, by go_num, by rw [HSs.out], HJ8⟩
            case measure => simp [intOf]; omega
          | succ i =>
            obtain ⟨-, -, b3, b4, b5, b6, b7⟩ := HF.out i
            have r0 := cell_regrown (HRw7.out i (by omega))
            have hw : IntKind.i64.wrap (wt p i * pt) = wt p i * pt := by rw [IntKind.wrap_i64]; omega
            have h3 : decide (wt p (i + 1) < wt p i) = false := decide_eq_false (by omega)
            have h4 : decide (wt p i * pt < wt p (i + 1)) = false := decide_eq_false (by omega)
            have hi0 : (0 : Int) ≤ (i : Int) := by omega
            have hi1 : (i : Int) < (q : Int) := by omega
            have hi2 : (0 : Int) < (i : Int) + 1 := by omega
            clear HRw7 HF
            go_wp2
            refine wp_region_quiet_below (by kernel_rfl) (by kernel_rfl) ?_
            repeat (go_big_quiet_step (fail))
            refine wpQuiet_nil ?_
            intro _ hw'
            obtain ⟨⟨dq, osq⟩, hw''⟩ := hw'
            subst hw''
            have hbq := below_regrown w7 dq osq
            have HJ8 := hide (show Blk (grow (redrawn w7 dq) osq) g 4 _ 25 ∧ IntsOf (grow (redrawn w7 dq) osq) (.slice (some ⟨bb, off, none⟩) q cr1) q (wt p) ∧ Below w.heap.size w (grow (redrawn w7 dq) osq) from ⟨HJ7.out.1.down hbq, HJ7.out.2.1.below hbq, HJ7.out.2.2.trans (hbq.mono HJ7.out.2.2.size)⟩)
            clear hbq HJ7
            go_wp2
            go_roundw
            case rel => exact ⟨i + 1 + 1, by omega, by go_num, by rw [HSs.out], HJ8⟩
            case measure => simp [intOf]; omega
        · obtain rfl : j = q := by omega
          obtain ⟨-, a2, -, -, -, -, -⟩ := HF.out j
          have h2 : decide (wt p j ≤ pm) = true := decide_eq_true a2
          have hss : (sm p j == sm p j) = true := by simp
          go_wp2_with fail
          refine (HW1.out j _ (by omega)).mono ?_
          rintro e w7 ⟨rfl, hb⟩
          have hb7 := HJ.out.2.2.trans (hb.mono HJ.out.2.2.size)
          have hP7 := HJ.out.1.down hb
          clear hb HJ d0 d1 d2 d3 HF HSm HW1
          obtain ⟨⟨d0, d1, d2, d3⟩, -⟩ := hP7.quad
          clear hP7
          go_wp2
          go_ret
          exact ⟨ret_bool (by first | rfl | (simp; done) | (simp; omega)), hb7⟩
    · have HI := hide (fun W => impl_waits_no p W (decide_eq_false hG))
      have HS := hide (fun W => spec_waits_no p W (decide_eq_false hG))
      have HGp := hide (fun W => impl_policy p false W (decide_eq_false hG))
      have hnil : ∀ W, IntsOf W (.slice none 0 0) 0 (fun _ => 0) := fun W => ⟨none, 0, rfl, fun h => absurd h (Nat.lt_irrefl _)⟩
      have HNil := hide hnil
      clear hG hnil
      obtain ⟨⟨d0, d1, d2, d3⟩, -⟩ := HP.out.quad
      go_wp2_with fail
      rw [HW.out, HG.out]
      refine (HI.out _).mono ?_
      rintro e w3 ⟨rfl, hb⟩
      have hb3 := hb2.trans (hb.mono hb2.size)
      have HP3 := hide (HP.out.down hb)
      clear hb hb2 HP HI d0 d1 d2 d3 HW HG
      obtain ⟨⟨d0, d1, d2, d3⟩, -⟩ := HP3.out.quad
      go_wp2_with fail
      refine (HS.out _).mono ?_
      rintro e w4 ⟨rfl, hb⟩
      have hb4 := hb3.trans (hb.mono hb3.size)
      have HP4 := hide (HP3.out.down hb)
      clear hb hb3 HP3 HS d0 d1 d2 d3
      go_wp2_with fail
      refine (same_ints _ _ 0 (fun _ => 0) _ (HNil.out _) (HNil.out _) (by omega)).mono ?_
      rintro e w5 ⟨rfl, hb⟩
      have hb5 := hb4.trans (hb.mono hb4.size)
      have HP5 := hide (HP4.out.down hb)
      clear hb hb4 HP4
      obtain ⟨⟨d0, d1, d2, d3⟩, -⟩ := HP5.out.quad
      go_wp2_with fail
      refine (HGp.out _).mono ?_
      rintro e w6 ⟨rfl, hb⟩
      have hb6 := hb5.trans (hb.mono hb5.size)
      clear hb hb5 HP5 HGp d0 d1 d2 d3
      go_wp2
      go_ret
      exact ⟨rfl, hb6⟩
end Go.Proofs.Ythokecjhnpledaa
