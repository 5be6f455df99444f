/-
  Both texts of GoodCron: small tests, a list that rises within its bounds, three of them.
-/
import Derived.Test.YtgpjggbcomeolaaDoorCrM
namespace Go.Proofs.YtgpjggbcomeolaaDoor
open Go.RowKit M
open Clk (upd upd_same upd_other)
theorem within_is (n lo hi : Int) (w : World) :
    Calls Tryd.prog 45 #[.int .i64 n, .int .i64 lo, .int .i64 hi] w fun e w' => e = .returned (.bool (decide (lo ≤ n ∧ n ≤ hi))) ∧ w' = w := by
  by_cases h1 : lo ≤ n
  · by_cases h2 : n ≤ hi
    · go_enter Tryd.func45, Tryd.ntmps45
      go_wp2
      go_ret
      exact ⟨ret_bool (by rw [Bool.eq_iff_iff]; first | (simp; done) | (simp; omega)), rfl⟩
    · go_enter Tryd.func45, Tryd.ntmps45
      go_wp2
      go_ret
      exact ⟨ret_bool (by rw [Bool.eq_iff_iff]; first | (simp; done) | (simp; omega)), rfl⟩
  · go_enter Tryd.func45, Tryd.ntmps45
    go_wp2
    go_ret
    exact ⟨ret_bool (by rw [Bool.eq_iff_iff]; first | (simp; done) | (simp; omega)), rfl⟩
theorem within_to (n lo hi : Int) (b : Bool) (w : World) (h : decide (lo ≤ n ∧ n ≤ hi) = b) :
    Calls Tryd.prog 45 #[.int .i64 n, .int .i64 lo, .int .i64 hi] w fun e w' => e = .returned (.bool b) ∧ w' = w := by
  subst h; exact within_is n lo hi w
theorem l1in_is (n lo hi : Int) (w : World) :
    Calls Tryd.prog 39 #[.int .i64 n, .int .i64 lo, .int .i64 hi] w fun e w' => e = .returned (.bool (decide (lo ≤ n ∧ n ≤ hi))) ∧ w' = w := by
  by_cases h1 : lo ≤ n
  · by_cases h2 : n ≤ hi
    · go_enter Tryd.func39, Tryd.ntmps39
      go_wp2
      go_ret
      exact ⟨ret_bool (by rw [Bool.eq_iff_iff]; first | (simp; done) | (simp; omega)), rfl⟩
    · go_enter Tryd.func39, Tryd.ntmps39
      go_wp2
      go_ret
      exact ⟨ret_bool (by rw [Bool.eq_iff_iff]; first | (simp; done) | (simp; omega)), rfl⟩
  · go_enter Tryd.func39, Tryd.ntmps39
    go_wp2
    go_ret
    exact ⟨ret_bool (by rw [Bool.eq_iff_iff]; first | (simp; done) | (simp; omega)), rfl⟩
theorem l1in_to (n lo hi : Int) (b : Bool) (w : World) (h : decide (lo ≤ n ∧ n ≤ hi) = b) :
    Calls Tryd.prog 39 #[.int .i64 n, .int .i64 lo, .int .i64 hi] w fun e w' => e = .returned (.bool b) ∧ w' = w := by
  subst h; exact l1in_is n lo hi w
set_option maxHeartbeats 1000000 in
theorem rising_to (v : Value) (n : Nat) (f : Nat → Int) (p : Int) (b : Bool) (w : World) (hv : IntsOf w v n f) (hn : n ≤ 1048576) (hp1 : 1 ≤ p) (hp2 : p ≤ 60) (hb : decide (Ris n f p) = b) :
    Calls Tryd.prog 47 #[v, .int .i64 p] w fun e w' => e = .returned (.bool b) ∧ w' = w := by
  obtain ⟨a, cap, rfl, hr⟩ := hv
  have HR := hide hr
  have HB := hide hb
  clear hr hb
  go_enter Tryd.func47, Tryd.ntmps47
  go_wp2
  go_loop [5, 10] (fun x i => ∃ k : Nat, k ≤ n ∧ i = .int .i64 k ∧ x = .int .i64 (least f k) ∧ Hid (∀ j, j < k → RisAt f p j)) (fun _ i => n - (intOf i).toNat)
  case atStart => exact ⟨0, Nat.zero_le _, rfl, rfl, hide (fun j h => absurd h (by omega))⟩
  case round =>
    obtain ⟨k, hk, rfl, rfl, HP⟩ := hrel
    by_cases hlt : k < n
    · obtain ⟨bb, off, rfl, hbb, hrow⟩ := HR.out (by omega)
      have c0 := hrow k hlt
      have HS := hide (least_succ f k)
      by_cases hg : RisAt f p k
      · have HW := hide (show decide (least f k ≤ f k ∧ f k ≤ p - 1) = true by rw [decide_eq_true_eq]; exact (ris_least HP.out).2 hg)
        have hf0 : 0 ≤ f k := hg.1.1
        have hf1 : f k ≤ 59 := by have := hg.1.2; omega
        have HP2 := hide (show ∀ j, j < k + 1 → RisAt f p j from fun j hj => by
          rcases (show j < k ∨ j = k by omega) with h | h
          · exact HP.out j h
          · subst h; exact hg)
        clear HR hrow HP hg
        go_wp2_with (go_at_call 45; refine (within_to _ _ _ _ _ HW.out).mono ?_; rintro e w' ⟨rfl, rfl⟩)
        go_round
        case rel => exact ⟨k + 1, by omega, by go_num, by rw [HS.out], HP2⟩
        case measure => simp [intOf]; omega
      · have HW := hide (show decide (least f k ≤ f k ∧ f k ≤ p - 1) = false by rw [decide_eq_false_iff_not, ris_least HP.out]; exact hg)
        have eb : b = false := by rw [← HB.out, decide_eq_false_iff_not]; exact ris_split k hlt hg
        subst eb
        clear HR hrow HP hg HB HS
        go_wp2_with (go_at_call 45; refine (within_to _ _ _ _ _ HW.out).mono ?_; rintro e w' ⟨rfl, rfl⟩)
        go_ret
        exact ⟨rfl, rfl⟩
    · obtain rfl : k = n := by omega
      have eb : b = true := by rw [← HB.out, decide_eq_true_eq]; exact HP.out
      subst eb
      clear HR HP HB
      go_wp2
      go_ret
      exact ⟨rfl, rfl⟩
set_option maxHeartbeats 600000 in
theorem l6list_to (v : Value) (n : Nat) (f : Nat → Int) (m : Int) (b : Bool) (w : World) (hv : IntsOf w v n f) (hn : n ≤ 1048576) (_ : 0 ≤ m) (_ : m ≤ 59) (hb : decide (GoodL n f (m + 1)) = b) :
    Calls Tryd.prog 33 #[v, .int .i64 m] w fun e w' => e = .returned (.bool b) ∧ w' = w := by
  obtain ⟨a, cap, rfl, hr⟩ := hv
  have HR := hide hr
  have HB := hide hb
  clear hr hb
  go_enter Tryd.func33, Tryd.ntmps33
  go_wp2
  go_loop [9] (fun i => ∃ k : Nat, k ≤ n ∧ i = .int .i64 k ∧ Hid (∀ j, j < k → RisAt f (m + 1) j)) (fun i => n - (intOf i).toNat)
  case atStart => exact ⟨0, Nat.zero_le _, rfl, hide (fun j h => absurd h (by omega))⟩
  case round =>
    obtain ⟨k, hk, rfl, HP⟩ := hrel
    by_cases hlt : k < n
    · obtain ⟨bb, off, rfl, hbb, hrow⟩ := HR.out (by omega)
      have c0 := hrow k hlt
      have HP2 := hide (show RisAt f (m + 1) k → ∀ j, j < k + 1 → RisAt f (m + 1) j from fun hg j hj => by
          rcases (show j < k ∨ j = k by omega) with h | h
          · exact HP.out j h
          · subst h; exact hg)
      have HN := hide (show ¬ RisAt f (m + 1) k → b = false from fun hg => by rw [← HB.out, decide_eq_false_iff_not]; exact fun H => ris_split k hlt hg H.1)
      by_cases hg : 0 ≤ f k ∧ f k ≤ m
      · have HW := hide (show decide (0 ≤ f k ∧ f k ≤ m) = true by rw [decide_eq_true_eq]; exact hg)
        by_cases hk0 : k = 0
        · subst hk0
          rw [Nat.add_zero] at c0
          have HP3 := hide (HP2.out (⟨⟨hg.1, by have := hg.2; omega⟩, fun h => absurd h (by omega)⟩))
          clear HR hrow HP hg HP2 HN HB
          go_wp2_with fail
          refine (l1in_to _ _ _ _ _ HW.out).mono ?_
          rintro e w' ⟨rfl, rfl⟩
          go_wp2
          go_round
          case rel => exact ⟨0 + 1, by omega, by go_num, HP3⟩
          case measure => simp [intOf]; omega
        · obtain ⟨k', rfl⟩ : ∃ k', k = k' + 1 := ⟨k - 1, by omega⟩
          have c1 := hrow k' (by omega)
          have hpos : ((k' + 1 : Nat) : Int) > 0 := by omega
          have hi0 : (0 : Int) ≤ (k' : Int) := by omega
          have hi1 : (k' : Int) < (n : Int) := by omega
          by_cases hge : f k' ≥ f (k' + 1)
          · have eb := HN.out (fun H => by have := H.2 (by omega); simp only [Nat.add_sub_cancel] at this; omega)
            subst eb
            clear HR hrow HP hg HP2 HN HB
            go_wp2_with fail
            refine (l1in_to _ _ _ _ _ HW.out).mono ?_
            rintro e w' ⟨rfl, rfl⟩
            go_wp2
            go_ret
            exact ⟨rfl, rfl⟩
          · have HP3 := hide (HP2.out ⟨⟨hg.1, by have := hg.2; omega⟩, fun _ => by simp only [Nat.add_sub_cancel]; omega⟩)
            clear HR hrow HP hg HP2 HN HB
            go_wp2_with fail
            refine (l1in_to _ _ _ _ _ HW.out).mono ?_
            rintro e w' ⟨rfl, rfl⟩
            go_wp2
            go_round
            case rel => exact ⟨k' + 1 + 1, by omega, by go_num, HP3⟩
            case measure => simp [intOf]; omega
      · have HW := hide (show decide (0 ≤ f k ∧ f k ≤ m) = false by rw [decide_eq_false_iff_not]; exact hg)
        have eb := HN.out (fun H => hg ⟨H.1.1, by have := H.1.2; omega⟩)
        subst eb
        clear HR hrow HP hg HB HP2 HN
        go_wp2_with fail
        refine (l1in_to _ _ _ _ _ HW.out).mono ?_
        rintro e w' ⟨rfl, rfl⟩
        go_wp2
        go_ret
        exact ⟨rfl, rfl⟩
    · obtain rfl : k = n := by omega
      have HE := hide (show b = decide (0 < k) from by rw [← HB.out, Bool.eq_iff_iff, decide_eq_true_eq, decide_eq_true_eq]; exact ⟨fun H => H.2, fun H => ⟨HP.out, H⟩⟩)
      clear HR HP HB
      go_wp2
      go_ret
      exact ⟨by rw [HE.out]; rfl, rfl⟩
theorem good_field (v : Value) (n : Nat) (f : Nat → Int) (p : Int) (b : Bool) (w : World) (hv : IntsOf w v n f) (hn : n ≤ 1048576) (hp1 : 1 ≤ p) (hp2 : p ≤ 60) (hb : decide (GoodL n f p) = b) :
    Calls Tryd.prog 35 #[v, .int .i64 p] w fun e w' => e = .returned (.bool b) ∧ w' = w := by
  have HV := hide hv
  obtain ⟨a, cap, rfl⟩ := hv.form
  by_cases h0 : 0 < n
  · have h0' : (n : Int) > 0 := by omega
    obtain ⟨b', hb'⟩ : ∃ b', decide (Ris n f p) = b' := ⟨_, rfl⟩
    have HB' := hide hb'
    have eb : b = b' := by rw [← hb, ← hb']; unfold GoodL; simp [h0]
    subst eb
    clear hv hb hb'
    go_enter Tryd.func35, Tryd.ntmps35
    go_wp2_with fail
    refine (rising_to _ n f p _ _ HV.out hn hp1 hp2 HB'.out).mono ?_
    rintro e w' ⟨rfl, rfl⟩
    go_wp2
    go_ret
    exact ⟨rfl, rfl⟩
  · have h0' : ¬ (n : Int) > 0 := by omega
    have eb : b = false := by rw [← hb]; unfold GoodL; simp [h0]
    subst eb
    clear hv hb HV
    go_enter Tryd.func35, Tryd.ntmps35
    go_wp2
    go_ret
    exact ⟨rfl, rfl⟩
set_option maxHeartbeats 1000000 in
theorem impl_good (v0 v1 v2 : Value) (c : Crn) (b : Bool) (w : World) (hv : CronOf w v0 v1 v2 c) (hs : ShortC c) (hb : decide (GoodC c) = b) :
    Calls Tryd.prog 25 #[.agg #[v0, v1, v2]] w fun e w' => e = .returned (.bool b) ∧ Below w.heap.size w w' := by
  have hbw := (Below.refl w.heap.size w).alloc (Nat.le_refl _) (.cells #[v0, v1, v2] 24)
  obtain ⟨a0, c0, rfl⟩ := hv.1.form
  obtain ⟨a1, c1, rfl⟩ := hv.2.1.form
  obtain ⟨a2, c2, rfl⟩ := hv.2.2.form
  have HV := hide (hv.below hbw)
  have HS := hide hs
  obtain ⟨b0, hb0⟩ : ∃ x, decide (GoodL c.nm c.fm 60) = x := ⟨_, rfl⟩
  obtain ⟨b1, hb1⟩ : ∃ x, decide (GoodL c.nh c.fh 24) = x := ⟨_, rfl⟩
  obtain ⟨b2, hb2⟩ : ∃ x, decide (GoodL c.nd c.fd 7) = x := ⟨_, rfl⟩
  have eb : b = (b0 && (b1 && b2)) := by rw [← hb, ← hb0, ← hb1, ← hb2, Bool.eq_iff_iff]; simp only [Bool.and_eq_true, decide_eq_true_eq]; exact Iff.rfl
  have B0 := hide hb0
  have B1 := hide hb1
  have B2 := hide hb2
  subst eb
  clear hv hs hb hb0 hb1 hb2
  go_enter Tryd.func25, Tryd.ntmps25
  go_wp2_with fail
  refine (good_field _ _ _ 60 b0 _ HV.out.1 HS.out.1 (by decide) (by decide) B0.out).mono ?_
  rintro e w1 ⟨rfl, rfl⟩
  cases b0 with
  | false =>
    clear HV HS B0 B1 B2
    go_wp2
    go_ret
    exact ⟨rfl, hbw⟩
  | true =>
    go_wp2_with fail
    refine (good_field _ _ _ 24 b1 _ HV.out.2.1 HS.out.2.1 (by decide) (by decide) B1.out).mono ?_
    rintro e w2 ⟨rfl, rfl⟩
    cases b1 with
    | false =>
      clear HV HS B0 B1 B2
      go_wp2
      go_ret
      exact ⟨rfl, hbw⟩
    | true =>
      go_wp2_with fail
      refine (good_field _ _ _ 7 b2 _ HV.out.2.2 HS.out.2.2 (by decide) (by decide) B2.out).mono ?_
      rintro e w3 ⟨rfl, rfl⟩
      clear HV HS B0 B1 B2
      go_wp2
      go_ret
      exact ⟨rfl, hbw⟩
set_option maxHeartbeats 1000000 in
theorem spec_good (v0 v1 v2 : Value) (c : Crn) (b : Bool) (w : World) (hv : CronOf w v0 v1 v2 c) (hs : ShortC c) (hb : decide (GoodC c) = b) :
    Calls Tryd.prog 22 #[.agg #[v0, v1, v2]] w fun e w' => e = .returned (.bool b) ∧ Below w.heap.size w w' := by
  have hbw := (Below.refl w.heap.size w).alloc (Nat.le_refl _) (.cells #[v0, v1, v2] 24)
  obtain ⟨a0, c0, rfl⟩ := hv.1.form
  obtain ⟨a1, c1, rfl⟩ := hv.2.1.form
  obtain ⟨a2, c2, rfl⟩ := hv.2.2.form
  have HV := hide (hv.below hbw)
  have HS := hide hs
  obtain ⟨b0, hb0⟩ : ∃ x, decide (GoodL c.nm c.fm 60) = x := ⟨_, rfl⟩
  obtain ⟨b1, hb1⟩ : ∃ x, decide (GoodL c.nh c.fh 24) = x := ⟨_, rfl⟩
  obtain ⟨b2, hb2⟩ : ∃ x, decide (GoodL c.nd c.fd 7) = x := ⟨_, rfl⟩
  have eb : b = (b0 && (b1 && b2)) := by rw [← hb, ← hb0, ← hb1, ← hb2, Bool.eq_iff_iff]; simp only [Bool.and_eq_true, decide_eq_true_eq]; exact Iff.rfl
  have B0 := hide hb0
  have B1 := hide hb1
  have B2 := hide hb2
  subst eb
  clear hv hs hb hb0 hb1 hb2
  go_enter Tryd.func22, Tryd.ntmps22
  go_wp2_with fail
  refine (l6list_to _ _ _ 59 b0 _ HV.out.1 HS.out.1 (by decide) (by decide) B0.out).mono ?_
  rintro e w1 ⟨rfl, rfl⟩
  cases b0 with
  | false =>
    clear HV HS B0 B1 B2
    go_wp2
    go_ret
    exact ⟨rfl, hbw⟩
  | true =>
    go_wp2_with fail
    refine (l6list_to _ _ _ 23 b1 _ HV.out.2.1 HS.out.2.1 (by decide) (by decide) B1.out).mono ?_
    rintro e w2 ⟨rfl, rfl⟩
    cases b1 with
    | false =>
      clear HV HS B0 B1 B2
      go_wp2
      go_ret
      exact ⟨rfl, hbw⟩
    | true =>
      go_wp2_with fail
      refine (l6list_to _ _ _ 6 b2 _ HV.out.2.2 HS.out.2.2 (by decide) (by decide) B2.out).mono ?_
      rintro e w3 ⟨rfl, rfl⟩
      clear HV HS B0 B1 B2
      go_wp2
      go_ret
      exact ⟨rfl, hbw⟩
end Go.Proofs.YtgpjggbcomeolaaDoor
