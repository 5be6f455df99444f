/-
  IsOver and SumIn, in both texts.
-/
import Derived.Test.YtmpedadjikmnhaaSgZs
namespace Go.Proofs.Ytmpedadjikmnhaa
open Go.RowKit M
open Clk (upd upd_same upd_other)
open Go.Sort (grow)
namespace M
def ov1 (s : Sg) : Bool := !s.un && (s.dn == (s.nm : Int))
def smA (f : Nat → Int) : Nat → Int
  | 0 => 0
  | k + 1 => smA f k + f k
theorem smA_in {na : Nat} {f : Nat → Int} (h : Acc na f) : ∀ k, k ≤ na → 0 ≤ smA f k ∧ smA f k ≤ 1000000 * (k : Int)
  | 0, _ => by simp [smA]
  | k + 1, hk => by
    have h1 := smA_in h k (by omega)
    have h2 := h k (by omega)
    simp only [smA]
    omega
end M
set_option maxRecDepth 20000 in
set_option maxHeartbeats 2000000 in
theorem impl_over (v0 v1 : Value) (s : Sg) (b b0 b1 : Bool) (w : World) (hv : SagC w v0 v1 s.na s.fa s.nm (fl s.fm)) (hs : ShortS s.na s.nm) (hb : b = true ↔ GoodS s) (h0 : (b && !decide (canS s)) = b0) (h1 : (b && ov1 s) = b1) :
    Calls Try.prog 34 #[sgv v0 v1 s] w fun e w' => e = .returned (.tuple #[.bool b0, .bool b1, .bool b]) ∧ Below w.heap.size w w' := by
  have HV := hide hv
  have HS := hide hs
  have HB := hide hb
  have H0 := hide h0
  have H1 := hide h1
  obtain ⟨⟨hI, hM⟩, a1, c1, rfl, hcap⟩ := hv
  obtain ⟨a0, c0, rfl⟩ := hI.form
  have hbA := (Below.refl w.heap.size w).alloc (Nat.le_refl _) (.cells #[.slice a0 s.na c0, .slice a1 s.nm c1, .int .i64 s.dn, .bool s.un] 27)
  have HN := hide (new4 w (.slice a0 s.na c0) (.slice a1 s.nm c1) (.int .i64 s.dn) (.bool s.un) 27)
  clear hI hM hs hb h0 h1 hcap
  go_enter Try.func34, Try.ntmps34
  go_wp2_with fail
  refine (impl_good _ _ s b _ (HV.out.below hbA) HS.out HB.out).mono ?_
  rintro e w1 ⟨rfl, hb⟩
  have hb1 := hbA.trans (hb.mono hbA.size)
  have hN1 := HN.out.down hb
  clear hb hbA HN HV HS HB
  cases b with
  | false =>
    have e0 : b0 = false := by rw [← H0.out]; rfl
    have e1 : b1 = false := by rw [← H1.out]; rfl
    subst e0; subst e1
    clear H0 H1
    obtain ⟨⟨d0, d1, d2, d3⟩, -⟩ := hN1.quad
    go_wp2
    exact bodyPost_ret (results_tmp3 rfl _ _ _) rfl ⟨rfl, hb1⟩
  | true =>
    obtain ⟨bs, hbs⟩ : ∃ x, decide (canS s) = x := ⟨_, rfl⟩
    have HE := hide (show ∀ dd os, Calls Try.prog 56 #[.pointer (some ⟨w.heap.size, 0, none⟩)] (grow (redrawn w1 dd) os) fun e w'' => e = .returned (.bool bs) ∧ ∃ p : Regrown, w'' = grow (redrawn w1 p.d) p.os from fun dd os => Calls.regrown_of (can_step w.heap.size 4 _ 27 _ a1 c1 s bs _ (SB.down ⟨hN1, Nat.le_refl _, rfl, rfl, rfl, rfl⟩ (below_regrown w1 dd os)) hbs))
    obtain ⟨⟨d0, d1, d2, d3⟩, -⟩ := hN1.quad
    have y1 := cell_regrown d1
    have y2 := cell_regrown d2
    have y3 := cell_regrown d3
    have e0 : b0 = !bs := by rw [← H0.out, ← hbs]; rfl
    have HE1 := hide (show b1 = ov1 s by rw [← H1.out]; rfl)
    subst e0
    clear H0 H1 hN1 hbs d0 d1 d2 d3
    obtain ⟨na, fa, nm, fm, dn, un⟩ := s
    simp only at *
    cases un with
    | true =>
      have e1 : b1 = false := HE1.out
      subst e1
      clear HE1
      go_wp2
      refine wp_region_quiet_below (by kernel_rfl) (by kernel_rfl) ?_
      repeat (go_big_quiet_step (exact HE.out _ _))
      refine wpQuiet_nil ?_
      rintro _ ⟨⟨dq, osq⟩, rfl⟩
      have hbz := hb1.trans ((below_regrown w1 dq osq).mono hb1.size)
      go_wp2
      exact bodyPost_ret (results_tmp3 rfl _ _ _) rfl ⟨rfl, hbz⟩
    | false =>
      have e1 : b1 = (dn == (nm : Int)) := HE1.out
      subst e1
      clear HE1
      go_wp2
      refine wp_region_quiet_below (by kernel_rfl) (by kernel_rfl) ?_
      repeat (go_big_quiet_step (exact HE.out _ _))
      refine wpQuiet_nil ?_
      rintro _ ⟨⟨dq, osq⟩, rfl⟩
      have hbz := hb1.trans ((below_regrown w1 dq osq).mono hb1.size)
      go_wp2
      exact bodyPost_ret (results_tmp3 rfl _ _ _) rfl ⟨rfl, hbz⟩
set_option maxRecDepth 20000 in
set_option maxHeartbeats 2000000 in
theorem spec_over (v0 v1 : Value) (s : Sg) (b b0 b1 : Bool) (w : World) (hv : SagQ w v0 v1 s.na s.fa s.nm (fl s.fm)) (hs : ShortS s.na s.nm) (hb : b = true ↔ GoodS s) (h0 : (b && !decide (canS s)) = b0) (h1 : (b && ov1 s) = b1) :
    Calls Try.prog 33 #[sgv v0 v1 s] w fun e w' => e = .returned (.tuple #[.bool b0, .bool b1, .bool b]) ∧ Below w.heap.size w w' := by
  have HV := hide hv
  have HS := hide hs
  have HB := hide hb
  have H0 := hide h0
  have H1 := hide h1
  obtain ⟨a0, c0, rfl⟩ := hv.1.form
  obtain ⟨a1, c1, rfl⟩ := hv.2.form
  have hbA := (Below.refl w.heap.size w).alloc (Nat.le_refl _) (.cells #[.slice a0 s.na c0, .slice a1 s.nm c1, .int .i64 s.dn, .bool s.un] 27)
  have HN := hide (new4 w (.slice a0 s.na c0) (.slice a1 s.nm c1) (.int .i64 s.dn) (.bool s.un) 27)
  clear hv hs hb h0 h1
  go_enter Try.func33, Try.ntmps33
  go_wp2_with fail
  refine (spec_good _ _ s b _ (HV.out.below hbA) HS.out HB.out).mono ?_
  rintro e w1 ⟨rfl, hb⟩
  have hb1 := hbA.trans (hb.mono hbA.size)
  have hN1 := HN.out.down hb
  clear hb hbA HN
  obtain ⟨⟨d0, d1, d2, d3⟩, -⟩ := hN1.quad
  cases b with
  | false =>
    have e0 : b0 = false := by rw [← H0.out]; rfl
    have e1 : b1 = false := by rw [← H1.out]; rfl
    subst e0; subst e1
    clear H0 H1 HV HS HB hN1
    go_wp2
    exact bodyPost_ret (results_tmp3 rfl _ _ _) rfl ⟨rfl, hb1⟩
  | true =>
    have hg := HB.out.1 (by trivial)
    obtain ⟨bs, hbs⟩ : ∃ x, decide (canS s) = x := ⟨_, rfl⟩
    obtain ⟨r, hr⟩ : ∃ r, (if bs = true then stepS s else zeroS) = r := ⟨_, rfl⟩
    have HSt := hide (spec_step _ _ s bs w1 (HV.out.below hb1) HS.out (by rw [← hbs, decide_eq_true_eq]; exact ⟨fun h => ⟨hg, h⟩, fun h => h.2⟩) r hr)
    have e0 : b0 = !bs := by rw [← H0.out, ← hbs]; rfl
    have HE1 := hide (show b1 = ov1 s by rw [← H1.out]; rfl)
    subst e0
    have HN1 := hide hN1
    clear H0 H1 HV HS HB hN1 hbs hr hg
    go_wp2_with fail
    refine HSt.out.mono ?_
    rintro e w2 ⟨⟨u0, u1, rfl, hA⟩, hb⟩
    obtain ⟨a3, c3, rfl⟩ := hA.q.1.form
    obtain ⟨a4, c4, rfl⟩ := hA.q.2.form
    have hdn := (Below.refl w2.heap.size w2).alloc (Nat.le_refl _) (.cells #[.slice a3 r.na c3, .slice a4 r.nm c4, .int .i64 r.dn, .bool r.un] 27)
    have hb2 := hb1.trans (hb.mono hb1.size)
    have hb3 := hb2.trans (hdn.mono hb2.size)
    have hN3 := (HN1.out.down hb).down hdn
    obtain ⟨W3, hW3⟩ : ∃ W3, w2.alloc (.cells #[.slice a3 r.na c3, .slice a4 r.nm c4, .int .i64 r.dn, .bool r.un] 27) = W3 := ⟨_, rfl⟩
    rw [hW3] at hN3 hb3
    have HW3 := hide hW3
    clear hb hb1 hb2 hdn HN1 HSt hA hW3 d0 d1 d2 d3
    obtain ⟨⟨d0, d1, d2, d3⟩, -⟩ := hN3.quad
    clear hN3
    obtain ⟨na, fa, nm, fm, dn, un⟩ := s
    simp only at *
    cases un with
    | true =>
      have e1 : b1 = false := HE1.out
      subst e1
      clear HE1
      go_upto_region 4 with fail
      rw [HW3.out]
      go_big_quiet (fail)
      go_wp2
      exact bodyPost_ret (results_tmp3 rfl _ _ _) rfl ⟨rfl, below_drewN hb3 _⟩
    | false =>
      have e1 : b1 = (dn == (nm : Int)) := HE1.out
      subst e1
      clear HE1
      go_upto_region 4 with fail
      rw [HW3.out]
      go_big_quiet (fail)
      go_wp2
      exact bodyPost_ret (results_tmp3 rfl _ _ _) rfl ⟨rfl, below_drewN hb3 _⟩
set_option maxRecDepth 20000 in
set_option maxHeartbeats 2000000 in
theorem impl_sum (v0 v1 : Value) (s : Sg) (b : Bool) (z : Int) (w : World) (hv : SagC w v0 v1 s.na s.fa s.nm (fl s.fm)) (hs : ShortS s.na s.nm) (hb : b = true ↔ GoodS s) (hz : (if b = true then smA s.fa s.na else 0) = z) :
    Calls Try.prog 36 #[sgv v0 v1 s] w fun e w' => e = .returned (.tuple #[.int .i64 z, .bool b]) ∧ Below w.heap.size w w' := by
  have HV := hide hv
  have HS := hide hs
  have HB := hide hb
  have HZ := hide hz
  obtain ⟨a0, c0, rfl⟩ := hv.1.1.form
  obtain ⟨a1, c1, rfl⟩ := hv.1.2.form
  have hbA := (Below.refl w.heap.size w).alloc (Nat.le_refl _) (.cells #[.slice a0 s.na c0, .slice a1 s.nm c1, .int .i64 s.dn, .bool s.un] 27)
  have HN := hide (new4 w (.slice a0 s.na c0) (.slice a1 s.nm c1) (.int .i64 s.dn) (.bool s.un) 27)
  clear hv hs hb hz
  go_enter Try.func36, Try.ntmps36
  go_wp2_with fail
  refine (impl_good _ _ s b _ (HV.out.below hbA) HS.out HB.out).mono ?_
  rintro e w1 ⟨rfl, hb⟩
  have hb1 := hbA.trans (hb.mono hbA.size)
  have hN1 := HN.out.down hb
  clear hb hbA HN
  obtain ⟨⟨d0, d1, d2, d3⟩, -⟩ := hN1.quad
  cases b with
  | false =>
    have e0 : z = 0 := HZ.out.symm
    subst e0
    clear HZ HV HS HB hN1
    go_wp2
    go_ret2
    exact ⟨rfl, hb1⟩
  | true =>
    have hg := HB.out.1 (by trivial)
    have HA := hide hg.acc
    have hna := hg.na8
    have HE := hide (show smA s.fa s.na = z by have := HZ.out; rw [if_pos (by trivial)] at this; exact this)
    have HI := hide (HV.out.1.1.below hb1)
    clear HZ HV HS HB hN1 hg
    obtain ⟨na, fa, nm, fm, dn, un⟩ := s
    simp only at *
    obtain ⟨_, _, e, hr⟩ := HI.out
    cases e
    have HR := hide hr
    clear hr HI
    go_wp2_with fail
    go_loop [4, 6, 13] (fun x _ i => ∃ (k : Nat) (t : Int), k ≤ na ∧ i = .int .i64 k ∧ x = .int .i64 t ∧ Hid (t = smA fa k) ∧ 0 ≤ t ∧ t ≤ 8000000) (fun _ _ i => na - (intOf i).toNat)
    case atStart => exact ⟨0, 0, Nat.zero_le _, rfl, rfl, hide rfl, by omega, by omega⟩
    case round =>
      obtain ⟨k, t, hk, rfl, rfl, HT, ht0, ht1⟩ := hrel
      by_cases hlt : k < na
      · obtain ⟨bb, off, rfl, hbb, hrow⟩ := HR.out (by omega)
        have c0 := hrow k hlt
        have hin := smA_in HA.out (k + 1) hlt
        have hq := HA.out k hlt
        have HT2 := hide (show t + fa k = smA fa (k + 1) by rw [HT.out]; rfl)
        have hb2 : 0 ≤ t + fa k ∧ t + fa k ≤ 8000000 := by rw [HT2.out]; omega
        clear HR hrow HT HA hin
        generalize fa k = y at *
        go_wp2
        go_round
        case rel => exact ⟨k + 1, t + y, by omega, by go_num, by go_num, HT2, hb2.1, hb2.2⟩
        case measure => simp [intOf]; omega
      · obtain rfl : k = na := by omega
        have HF := hide (show t = z by rw [HT.out]; exact HE.out)
        clear HR HT HA HE
        go_wp2
        go_ret2
        exact ⟨by rw [HF.out]; rfl, hb1⟩
set_option maxRecDepth 20000 in
set_option maxHeartbeats 2000000 in
theorem spec_sum (v0 v1 : Value) (s : Sg) (b : Bool) (z : Int) (w : World) (hv : SagQ w v0 v1 s.na s.fa s.nm (fl s.fm)) (hs : ShortS s.na s.nm) (hb : b = true ↔ GoodS s) (hz : (if b = true then smA s.fa s.na else 0) = z) :
    Calls Try.prog 35 #[sgv v0 v1 s] w fun e w' => e = .returned (.tuple #[.int .i64 z, .bool b]) ∧ Below w.heap.size w w' := by
  have HV := hide hv
  have HS := hide hs
  have HB := hide hb
  have HZ := hide hz
  obtain ⟨a0, c0, rfl⟩ := hv.1.form
  obtain ⟨a1, c1, rfl⟩ := hv.2.form
  have hbA := (Below.refl w.heap.size w).alloc (Nat.le_refl _) (.cells #[.slice a0 s.na c0, .slice a1 s.nm c1, .int .i64 s.dn, .bool s.un] 27)
  have HN := hide (new4 w (.slice a0 s.na c0) (.slice a1 s.nm c1) (.int .i64 s.dn) (.bool s.un) 27)
  clear hv hs hb hz
  go_enter Try.func35, Try.ntmps35
  go_wp2_with fail
  refine (spec_good _ _ s b _ (HV.out.below hbA) HS.out HB.out).mono ?_
  rintro e w1 ⟨rfl, hb⟩
  have hb1 := hbA.trans (hb.mono hbA.size)
  have hN1 := HN.out.down hb
  clear hb hbA HN
  obtain ⟨⟨d0, d1, d2, d3⟩, -⟩ := hN1.quad
  cases b with
  | false =>
    have e0 : z = 0 := HZ.out.symm
    subst e0
    clear HZ HV HS HB hN1
    go_wp2
    go_ret2
    exact ⟨rfl, hb1⟩
  | true =>
    have hg := HB.out.1 (by trivial)
    have HA := hide hg.acc
    have hna := hg.na8
    have HE := hide (show smA s.fa s.na = z by have := HZ.out; rw [if_pos (by trivial)] at this; exact this)
    have HI := hide (HV.out.1.below hb1)
    clear HZ HV HS HB hN1 hg
    obtain ⟨na, fa, nm, fm, dn, un⟩ := s
    simp only at *
    obtain ⟨_, _, e, hr⟩ := HI.out
    cases e
    have HR := hide hr
    clear hr HI
    go_wp2_with fail
    go_loop [4, 6, 13] (fun x _ i => ∃ (k : Nat) (t : Int), k ≤ na ∧ i = .int .i64 k ∧ x = .int .i64 t ∧ Hid (t = smA fa k) ∧ 0 ≤ t ∧ t ≤ 8000000) (fun _ _ i => na - (intOf i).toNat)
    case atStart => exact ⟨0, 0, Nat.zero_le _, rfl, rfl, hide rfl, by omega, by omega⟩
    case round =>
      obtain ⟨k, t, hk, rfl, rfl, HT, ht0, ht1⟩ := hrel
      by_cases hlt : k < na
      · obtain ⟨bb, off, rfl, hbb, hrow⟩ := HR.out (by omega)
        have c0 := hrow k hlt
        have hin := smA_in HA.out (k + 1) hlt
        have hq := HA.out k hlt
        have HT2 := hide (show t + fa k = smA fa (k + 1) by rw [HT.out]; rfl)
        have hb2 : 0 ≤ t + fa k ∧ t + fa k ≤ 8000000 := by rw [HT2.out]; omega
        clear HR hrow HT HA hin
        generalize fa k = y at *
        go_wp2
        go_round
        case rel => exact ⟨k + 1, t + y, by omega, by go_num, by go_num, HT2, hb2.1, hb2.2⟩
        case measure => simp [intOf]; omega
      · obtain rfl : k = na := by omega
        have HF := hide (show t = z by rw [HT.out]; exact HE.out)
        clear HR HT HA HE
        go_wp2
        go_ret2
        exact ⟨by rw [HF.out]; rfl, hb1⟩
end Go.Proofs.Ytmpedadjikmnhaa
