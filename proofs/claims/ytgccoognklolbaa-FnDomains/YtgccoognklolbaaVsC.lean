/-
  Versions that are drawn, and the law FnVersions, walked: whatever the bytes, it returns true.
-/
import Derived.Test.YtgccoognklolbaaVs
import Derived.Test.YtgccoognklolbaaCu
namespace Go.Proofs.Ytgccoognklolbaa
open Go.RowKit M
open Go.Sort (grow)
namespace M
theorem nx_left {v r : Int} (hr : 0 ≤ r) (hr2 : r ≤ 9) : nx v r % 10 = r := by
  unfold nx; split <;> omega
theorem nx_none {v r k : Int} (hr : 0 ≤ r) (hr2 : r ≤ 9) (h1 : v < k) (h2 : k < nx v r) : k % 10 ≠ r := by
  unfold nx at h2; split at h2 <;> omega
theorem gra_nx {v r : Int} (h : nxb v r = true) : gra v (nx v r) = (r != v % 10) ∧ grb v (nx v r) = true := by
  obtain ⟨h1, h2, h3⟩ := nxb_iff.1 h
  have hg := nx_gt (v := v) h2.1 h2.2
  have hb : grb v (nx v r) = true := by
    unfold grb
    rw [Bool.and_eq_true, inB_iff, inB_iff]
    exact ⟨h1, by omega, h3⟩
  refine ⟨?_, hb⟩
  unfold gra
  rw [hb, nx_left h2.1 h2.2]
  simp
theorem gra_gt {a b : Int} (h : gra a b = true) : a < b := by
  unfold gra at h
  simp only [Bool.and_eq_true, beq_iff_eq] at h
  have := nx_gt (v := a) (r := b % 10) (by omega) (by omega)
  omega
def five (i : Nat) : Int := if i = 0 then -1 else if i = 1 then 999990 else if i = 2 then 999999 else if i = 3 then 1000000 else 1000001
theorem five_in (i : Nat) : -1 ≤ five i ∧ five i ≤ 1000001 := by unfold five; split <;> (try split) <;> (try split) <;> (try split) <;> omega
end M
set_option maxHeartbeats 1000000 in
theorem cur_version (B cb N : Nat) (w : World) (h : CurAt w B cb N) (hN : N ≤ 900000) :
    Calls Try.prog 54 #[.pointer (some ⟨cb, 0, none⟩)] w fun e w' => (∃ x : Int, e = .returned (.int .i64 x) ∧ -1 ≤ x ∧ x ≤ 1000001) ∧ CurAt w' B cb (N + 2) ∧ But cb w w' := by
  have HC := hide h
  clear h
  go_enter Try.func54, Try.ntmps54
  go_wp2_with fail
  refine (cur_one B cb N 12 _ HC.out (by omega) (by omega)).mono ?_
  rintro e w1 ⟨⟨b, rfl⟩, hc1, ho1⟩
  have H1 := hide (And.intro hc1 ho1)
  clear hc1 ho1 HC
  cases b
  · go_wp2_with fail
    refine (cur_pick B cb (N + 1) 60 _ H1.out.1 (by omega) (by omega)).mono ?_
    rintro e w2 ⟨⟨x, hx, rfl⟩, hc2, ho2⟩
    have H2 := hide (And.intro hc2 (H1.out.2.trans ho2))
    clear hc2 ho2 H1
    go_wp2
    go_ret
    exact ⟨⟨_, rfl, by omega, by omega⟩, H2.out.1, H2.out.2⟩
  · have hal := (Below.refl w1.heap.size w1).alloc (Nat.le_refl _) (.cells #[.int .i64 (-1), .int .i64 999990, .int .i64 999999, .int .i64 1000000, .int .i64 1000001] 3)
    have HB := hide (Blk.fresh w1 #[.int .i64 (-1), .int .i64 999990, .int .i64 999999, .int .i64 1000000, .int .i64 1000001] 5 (iv five) 3 rfl)
    have HCA := hide (H1.out.1.below hal)
    have HBA := hide (H1.out.2.trans (But.of_below (cb := cb) hal))
    have hne : w1.heap.size ≠ cb := by have := H1.out.1.lt; omega
    clear hal H1
    go_wp2_with fail
    refine (cur_amongn B cb (N + 1) w1.heap.size 5 five _ HCA.out (by omega) HB.out hne (by omega) (by omega)).mono ?_
    rintro e w2 ⟨⟨x, hx, rfl⟩, hc2, ho2⟩
    have H2 := hide (And.intro hc2 (HBA.out.trans ho2))
    have h5 := five_in x
    clear hc2 ho2 HBA HCA HB
    generalize five x = y at *
    go_wp2
    go_ret
    exact ⟨⟨_, rfl, h5.1, h5.2⟩, H2.out.1, H2.out.2⟩
namespace M
theorem cur_new {w : World} {a : Option Addr} {n cap : Nat} {f : Nat → Nat} (hv : OctetsOf w (.slice a n cap) n f) (hn : n ≤ 1048576) : CurAt (w.alloc (.cells #[.slice a n cap, .int .i64 0, .int .u64 0] 70)) w.heap.size w.heap.size 0 := by
  have hb := Blk.fresh w #[.slice a n cap, .int .i64 0, .int .u64 0] 3 (cu (.slice a n cap) (0 : Nat) 0) 70 rfl
  exact ⟨_, n, f, 0, 0, Nat.le_refl _, hn, Nat.le_refl _, hb, w, rfl, hv, (Below.refl _ w).alloc (Nat.le_refl _) _⟩
end M
set_option maxHeartbeats 1000000 in
theorem draw_next (v : Value) (n : Nat) (f : Nat → Nat) (w : World) (hv : OctetsOf w v n f) (hn : n ≤ 1048576) :
    Calls Try.prog 34 #[v] w fun e w' => (∃ x r : Int, e = .returned (.tuple #[.int .i64 x, .int .i64 r]) ∧ -1 ≤ x ∧ x ≤ 1000001 ∧ -1 ≤ r ∧ r ≤ 12) ∧ Below w.heap.size w w' := by
  obtain ⟨a, cap, rfl⟩ := hv.form
  have hal := (Below.refl w.heap.size w).alloc (Nat.le_refl _) (.cells #[.slice a n cap, .int .i64 0, .int .u64 0] 70)
  have HC := hide (cur_new hv hn)
  have HB := hide hal
  clear hv hal
  go_enter Try.func34, Try.ntmps34
  go_wp2_with fail
  refine (cur_version w.heap.size w.heap.size 0 _ HC.out (by omega)).mono ?_
  rintro e w1 ⟨⟨x, rfl, hx0, hx1⟩, hc1, ho1⟩
  have HC1 := hide hc1
  have hb1 := HB.out.trans (ho1.below (Nat.le_refl _) HB.out.size)
  clear hc1 ho1 HC HB
  go_wp2_with fail
  refine (cur_pick w.heap.size w.heap.size 2 12 _ HC1.out (by omega) (by omega)).mono ?_
  rintro e w2 ⟨⟨r, hr, rfl⟩, hc2, ho2⟩
  have hb2 := hb1.trans (ho2.below (Nat.le_refl _) hb1.size)
  clear hc2 ho2 HC1 hb1
  go_wp2
  go_ret2
  exact ⟨⟨x, (r : Int) - 1, rfl, hx0, hx1, by omega, by omega⟩, hb2⟩
set_option maxHeartbeats 2000000 in
theorem draw_grace (v : Value) (n : Nat) (f : Nat → Nat) (w : World) (hv : OctetsOf w v n f) (hn : n ≤ 1048576) :
    Calls Try.prog 35 #[v] w fun e w' => (∃ x r : Int, e = .returned (.tuple #[.int .i64 x, .int .i64 r])) ∧ Below w.heap.size w w' := by
  obtain ⟨a, cap, rfl⟩ := hv.form
  have hal := (Below.refl w.heap.size w).alloc (Nat.le_refl _) (.cells #[.slice a n cap, .int .i64 0, .int .u64 0] 70)
  have HC := hide (cur_new hv hn)
  have HB := hide hal
  clear hv hal
  go_enter Try.func35, Try.ntmps35
  go_wp2_with fail
  refine (cur_version w.heap.size w.heap.size 0 _ HC.out (by omega)).mono ?_
  rintro e w1 ⟨⟨x, rfl, hx0, hx1⟩, hc1, ho1⟩
  have HC1 := hide hc1
  have hb1 := HB.out.trans (ho1.below (Nat.le_refl _) HB.out.size)
  clear hc1 ho1 HC HB
  go_wp2_with fail
  refine (cur_pick w.heap.size w.heap.size 2 10 _ HC1.out (by omega) (by omega)).mono ?_
  rintro e w2 ⟨⟨r, hr, rfl⟩, hc2, ho2⟩
  have hb2 := hb1.trans (ho2.below (Nat.le_refl _) hb1.size)
  have HC2 := hide hc2
  clear hc2 ho2 HC1 hb1 hr
  have HNX := hide (fun W => spec_next x (r : Int) W)
  generalize nxa x (r : Int) = z at *
  generalize nxb x (r : Int) = ok at *
  go_wp2_with fail
  refine (HNX.out _).mono ?_
  rintro e w3 ⟨rfl, hw3⟩
  rw [hw3]
  clear hw3 HNX
  cases ok
  · go_wp2_with fail
    refine (cur_version w.heap.size w.heap.size 3 _ HC2.out (by omega)).mono ?_
    rintro e w4 ⟨⟨y, rfl, hy0, hy1⟩, hc4, ho4⟩
    have hb4 := hb2.trans (ho4.below (Nat.le_refl _) hb2.size)
    clear hc4 ho4 HC2 hb2
    go_wp2
    go_ret2
    exact ⟨⟨x, y, rfl⟩, hb4⟩
  · go_wp2_with fail
    refine (cur_one w.heap.size w.heap.size 3 2 _ HC2.out (by omega) (by omega)).mono ?_
    rintro e w4 ⟨⟨b, rfl⟩, hc4, ho4⟩
    have hb4 := hb2.trans (ho4.below (Nat.le_refl _) hb2.size)
    have HC4 := hide hc4
    clear hc4 ho4 HC2 hb2
    cases b
    · go_wp2_with fail
      refine (cur_version w.heap.size w.heap.size 4 _ HC4.out (by omega)).mono ?_
      rintro e w5 ⟨⟨y, rfl, hy0, hy1⟩, hc5, ho5⟩
      have hb5 := hb4.trans (ho5.below (Nat.le_refl _) hb4.size)
      clear hc5 ho5 HC4 hb4
      go_wp2
      go_ret2
      exact ⟨⟨x, y, rfl⟩, hb5⟩
    · clear HC4
      go_wp2
      go_ret2
      exact ⟨⟨x, z, rfl⟩, hb4⟩
set_option maxRecDepth 20000 in
set_option maxHeartbeats 4000000 in
theorem law_fnVersions (v0 : Value) (n0 : Nat) (f0 : Nat → Nat) (v1 : Value) (n1 : Nat) (f1 : Nat → Nat) (w : World) (hv0 : OctetsOf w v0 n0 f0) (hz0 : n0 < 2 ^ 47) (hv1 : OctetsOf w v1 n1 f1) (hz1 : n1 < 2 ^ 47) :
    Calls Try.prog 11 #[v0, v1] w fun e w' => e = .returned (.bool true) ∧ Below w.heap.size w w' := by
  obtain ⟨a0, cap0, rfl⟩ := hv0.form
  obtain ⟨a1, cap1, rfl⟩ := hv1.form
  have HV0 := hide hv0
  have HV1 := hide hv1
  clear hv0 hv1
  by_cases hn : 1048576 < n0 + n1
  · have hn' : (1048576 : Int) < (n0 : Int) + (n1 : Int) := by omega
    go_enter Try.func11, Try.ntmps11
    go_wp2
    go_ret
    exact ⟨rfl, Below.refl _ _⟩
  have hn' : ¬ (1048576 : Int) < (n0 : Int) + (n1 : Int) := by omega
  go_enter Try.func11, Try.ntmps11
  go_wp2_with fail
  refine (draw_next _ n0 f0 _ HV0.out (by omega)).mono ?_
  rintro e w1 ⟨⟨v, r, rfl, hv0, hv1, hr0, hr1⟩, hb1⟩
  have HN := hide (fun W => impl_next v r W)
  have HM := hide (fun W => spec_next v r W)
  have HTAIL := hide (show ∀ a b : Int, (gra a b = true → a < b) from fun a b h => gra_gt h)
  clear HV0
  cases hnb : nxb v r
  · have hna := nxa_no hnb
    rw [hnb, hna] at HN HM
    clear hna hnb
    go_wp2_with fail
    refine (HN.out _).mono ?_
    rintro e w2 ⟨rfl, hw2⟩
    rw [hw2]
    clear hw2
    go_wp2_with fail
    refine (HM.out _).mono ?_
    rintro e w2 ⟨rfl, hw2⟩
    rw [hw2]
    clear hw2 HN HM
    go_wp2_with fail
    refine (draw_grace _ n1 f1 _ (HV1.out.below hb1) (by omega)).mono ?_
    rintro e w3 ⟨⟨a, b, rfl⟩, hb3⟩
    have hb4 := hb1.trans (hb3.mono hb1.size)
    have HGI := hide (fun W => impl_grace a b W)
    have HGS := hide (fun W => spec_grace a b W)
    have HG := hide (HTAIL.out a b)
    clear hb3 HTAIL HV1 hb1
    generalize gra a b = x at *
    generalize grb a b = y at *
    go_wp2_with fail
    refine (HGI.out _).mono ?_
    rintro e w5 ⟨rfl, hw5⟩
    rw [hw5]
    clear hw5
    go_wp2_with fail
    refine (HGS.out _).mono ?_
    rintro e w5 ⟨rfl, hw5⟩
    rw [hw5]
    clear hw5 HGI HGS
    cases x
    · go_wp2
      go_ret
      exact ⟨ret_bool (by simp), hb4⟩
    · have hab := HG.out rfl
      have hab2 : decide (a < b) = true := decide_eq_true hab
      go_wp2
      go_ret
      exact ⟨ret_bool (by simp), hb4⟩
  · have hna := nxa_yes hnb
    obtain ⟨⟨g0, g1⟩, ⟨g2, g3⟩, g4⟩ := nxb_iff.1 hnb
    obtain ⟨g5, g6⟩ := nx_gt (v := v) g2 g3
    obtain ⟨q1, q2⟩ := gra_nx hnb
    have HNO := hide (fun k (h1 : v < k) (h2 : k < nx v r) => nx_none (v := v) g2 g3 h1 h2)
    have hiv : inB v 0 1000000 = true := inB_iff.2 ⟨g0, g1⟩
    have hin : inB (nx v r) 0 1000000 = true := inB_iff.2 ⟨by omega, g4⟩
    have hrv := rgv_yes hiv
    have hrn : rgv (nx v r) = r := by rw [rgv_yes hin]; exact nx_left g2 g3
    have HRV := hide (fun W => impl_region v W)
    have HRN := hide (fun W => impl_region (nx v r) W)
    have HGR := hide (fun W => impl_grace v (nx v r) W)
    have HRK := hide (show ∀ (k : Int) W, 0 ≤ k → k ≤ 1000000 → Calls Try.prog 14 #[.int .i64 k] W fun e w' => e = .returned (.tuple #[.int .i64 (k % 10), .bool true]) ∧ w' = W from fun k W h0 h1 => by
      have h := impl_region k W
      rw [inB_iff.2 ⟨h0, h1⟩, rgv_yes (inB_iff.2 ⟨h0, h1⟩)] at h
      exact h)
    rw [hnb, hna] at HN HM
    rw [hiv, hrv] at HRV
    rw [hin, hrn] at HRN
    rw [q1, q2] at HGR
    clear hna hnb q1 q2 hiv hin hrv hrn
    generalize nx v r = z at *
    go_wp2_with fail
    refine (HN.out _).mono ?_
    rintro e w2 ⟨rfl, hw2⟩
    rw [hw2]
    clear hw2
    go_wp2_with fail
    refine (HM.out _).mono ?_
    rintro e w2 ⟨rfl, hw2⟩
    rw [hw2]
    clear hw2 HN HM
    go_wp2_with fail
    refine (HRN.out _).mono ?_
    rintro e w2 ⟨rfl, hw2⟩
    rw [hw2]
    clear hw2 HRN
    go_wp2_with fail
    refine (HRV.out _).mono ?_
    rintro e w2 ⟨rfl, hw2⟩
    rw [hw2]
    clear hw2 HRV
    go_wp2_with fail
    refine (HGR.out _).mono ?_
    rintro e w2 ⟨rfl, hw2⟩
    rw [hw2]
    clear hw2 HGR
    have c1 : ¬ z ≤ v := by omega
    have c2 : ¬ v + 10 < z := by omega
    go_wp2
    go_loopw [17] (fun i wr => ∃ k : Int, i = .int .i64 k ∧ v < k ∧ k ≤ z ∧ Below w.heap.size w wr) (fun i _ => (z - intOf i).toNat)
    case atStart => exact ⟨v + 1, rfl, by omega, by omega, hb1⟩
    case round =>
      obtain ⟨k, rfl, hk0, hk1, hbw⟩ := hrel
      clear hb1
      by_cases hlt : k < z
      · have hne : (k % 10 == r) = false := by rw [beq_eq_false_iff_ne]; exact HNO.out k hk0 hlt
        go_wp2_with fail
        refine (HRK.out k _ (by omega) (by omega)).mono ?_
        rintro e w2 ⟨rfl, hw2⟩
        rw [hw2]
        clear hw2 HRK
        go_wp2
        go_roundw
        case rel => exact ⟨k + 1, by go_num, by omega, by omega, hbw⟩
        case measure => simp [intOf]; omega
      · clear HRK HNO
        go_wp2_with fail
        refine (draw_grace _ n1 f1 _ (HV1.out.below hbw) (by omega)).mono ?_
        rintro e w3 ⟨⟨a, b, rfl⟩, hb3⟩
        have hb4 := hbw.trans (hb3.mono hbw.size)
        have HGI := hide (fun W => impl_grace a b W)
        have HGS := hide (fun W => spec_grace a b W)
        have HG := hide (HTAIL.out a b)
        clear hb3 HTAIL HV1 hbw
        generalize gra a b = x at *
        generalize grb a b = y at *
        go_wp2_with fail
        refine (HGI.out _).mono ?_
        rintro e w5 ⟨rfl, hw5⟩
        rw [hw5]
        clear hw5
        go_wp2_with fail
        refine (HGS.out _).mono ?_
        rintro e w5 ⟨rfl, hw5⟩
        rw [hw5]
        clear hw5 HGI HGS
        cases x
        · go_wp2
          go_ret
          exact ⟨ret_bool (by simp), hb4⟩
        · have hab := HG.out rfl
          have hab2 : decide (a < b) = true := decide_eq_true hab
          go_wp2
          go_ret
          exact ⟨ret_bool (by simp), hb4⟩
end Go.Proofs.Ytgccoognklolbaa
