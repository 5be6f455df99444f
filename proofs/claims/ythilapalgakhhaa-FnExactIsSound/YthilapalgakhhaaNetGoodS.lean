/-
  The specification's GoodNet, at every net.
-/
import Derived.Test.YthilapalgakhhaaNetGood
namespace Go.Proofs.Ythilapalgakhhaa
open Go.RowKit M
namespace M
theorem ris_at0 {f : Nat → Int} {p : Int} (h : 0 ≤ f 0 ∧ f 0 ≤ p - 1) : RisAt f p 0 := ⟨h, fun h => absurd h (by omega)⟩
def IsB (e : Ending) : Prop := ∃ b : Bool, e = .returned (.bool b)
end M
set_option maxHeartbeats 600000 in
theorem l3list_to (v : Value) (n : Nat) (f : Nat → Int) (p : Int) (b : Bool) (w : World) (hv : IntsOf w v n f) (hn : n ≤ 1048576) (hp1 : 1 ≤ p) (hp2 : p ≤ 8) (hb : decide (Ris n f p) = b) :
    Calls Try.prog 45 #[v, .int .i64 p] w fun e w' => e = .returned (.bool b) ∧ w' = w := by
  obtain ⟨a, cap, rfl, hr⟩ := hv
  have HR := hide hr
  have HB := hide hb
  clear hr hb
  go_enter Try.func45, Try.ntmps45
  go_wp2
  go_loop [9] (fun i => ∃ k : Nat, k ≤ n ∧ i = .int .i64 k ∧ Hid (∀ j, j < k → RisAt f p j)) (fun i => n - (intOf i).toNat)
  case atStart => exact ⟨0, Nat.zero_le _, rfl, hide (fun j h => absurd h (by omega))⟩
  case round =>
    obtain ⟨k, hk, rfl, HP⟩ := hrel
    by_cases hlt : k < n
    · obtain ⟨bb, off, rfl, hbb, hrow⟩ := HR.out (by omega)
      have c0 := hrow k hlt
      have HP2 := hide (show RisAt f p k → ∀ j, j < k + 1 → RisAt f p j from fun hg j hj => by
          rcases (show j < k ∨ j = k by omega) with h | h
          · exact HP.out j h
          · subst h; exact hg)
      have HN := hide (show ¬ RisAt f p k → b = false from fun hg => by rw [← HB.out, decide_eq_false_iff_not]; exact ris_split k hlt hg)
      by_cases hg : 0 ≤ f k ∧ f k ≤ p - 1
      · have HW := hide (show decide (0 ≤ f k ∧ f k ≤ p - 1) = true by rw [decide_eq_true_eq]; exact hg)
        by_cases hk0 : k = 0
        · subst hk0
          rw [Nat.add_zero] at c0
          have HP3 := hide (HP2.out (ris_at0 hg))
          clear HR hrow HP hg HP2 HN HB
          go_wp2_with fail
          refine (l1in_to _ _ _ _ _ HW.out).mono ?_
          rintro e w' ⟨rfl, rfl⟩
          go_wp2
          go_round
          case rel => exact ⟨0 + 1, by omega, by go_num, HP3⟩
          case measure => simp [intOf]; omega
        · obtain ⟨k', rfl⟩ : ∃ k', k = k' + 1 := ⟨k - 1, by omega⟩
          have c1 := hrow k' (by omega)
          have hpos : ((k' + 1 : Nat) : Int) > 0 := by omega
          have hi0 : (0 : Int) ≤ (k' : Int) := by omega
          have hi1 : (k' : Int) < (n : Int) := by omega
          by_cases hge : f k' ≥ f (k' + 1)
          · have eb := HN.out (fun H => by have := H.2 (by omega); simp only [Nat.add_sub_cancel] at this; omega)
            subst eb
            clear HR hrow HP hg HP2 HN HB
            go_wp2_with fail
            refine (l1in_to _ _ _ _ _ HW.out).mono ?_
            rintro e w' ⟨rfl, rfl⟩
            go_wp2
            go_ret
            exact ⟨rfl, rfl⟩
          · have HP3 := hide (HP2.out ⟨hg, fun _ => by simp only [Nat.add_sub_cancel]; omega⟩)
            clear HR hrow HP hg HP2 HN HB
            go_wp2_with fail
            refine (l1in_to _ _ _ _ _ HW.out).mono ?_
            rintro e w' ⟨rfl, rfl⟩
            go_wp2
            go_round
            case rel => exact ⟨k' + 1 + 1, by omega, by go_num, HP3⟩
            case measure => simp [intOf]; omega
      · have HW := hide (show decide (0 ≤ f k ∧ f k ≤ p - 1) = false by rw [decide_eq_false_iff_not]; exact hg)
        have eb := HN.out (fun H => hg H.1)
        subst eb
        clear HR hrow HP hg HB HP2 HN
        go_wp2_with fail
        refine (l1in_to _ _ _ _ _ HW.out).mono ?_
        rintro e w' ⟨rfl, rfl⟩
        go_wp2
        go_ret
        exact ⟨rfl, rfl⟩
    · obtain rfl : k = n := by omega
      have eb : b = true := by rw [← HB.out, decide_eq_true_eq]; exact HP.out
      subst eb
      clear HR HP HB
      go_wp2
      go_ret
      exact ⟨rfl, rfl⟩
theorem l1in_any (n lo hi : Int) (w : World) : Calls Try.prog 46 #[.int .i64 n, .int .i64 lo, .int .i64 hi] w fun e w' => IsB e ∧ w' = w :=
  (l1in_is n lo hi w).mono fun _ _ ⟨he, hw⟩ => ⟨⟨_, he⟩, hw⟩
set_option maxHeartbeats 600000 in
theorem l3list_any (v : Value) (n : Nat) (f : Nat → Int) (p : Int) (w : World) (hv : IntsOf w v n f) (hn : n ≤ 1048576) :
    Calls Try.prog 45 #[v, .int .i64 p] w fun e w' => IsB e ∧ w' = w := by
  obtain ⟨a, cap, rfl, hr⟩ := hv
  have HR := hide hr
  clear hr
  go_enter Try.func45, Try.ntmps45
  go_wp2
  go_loop [9] (fun i => ∃ k : Nat, k ≤ n ∧ i = .int .i64 k) (fun i => n - (intOf i).toNat)
  case atStart => exact ⟨0, Nat.zero_le _, rfl⟩
  case round =>
    obtain ⟨k, hk, rfl⟩ := hrel
    by_cases hlt : k < n
    · obtain ⟨bb, off, rfl, hbb, hrow⟩ := HR.out (by omega)
      have c0 := hrow k hlt
      by_cases hk0 : k = 0
      · subst hk0
        rw [Nat.add_zero] at c0
        clear HR hrow
        go_wp2_with fail
        refine (l1in_any _ _ _ _).mono ?_
        rintro e w' ⟨⟨d, rfl⟩, rfl⟩
        cases d
        · go_wp2
          go_ret
          exact ⟨⟨_, rfl⟩, rfl⟩
        · go_wp2
          go_round
          case rel => exact ⟨0 + 1, by omega, by go_num⟩
          case measure => simp [intOf]; omega
      · obtain ⟨k', rfl⟩ : ∃ k', k = k' + 1 := ⟨k - 1, by omega⟩
        have c1 := hrow k' (by omega)
        have hpos : ((k' + 1 : Nat) : Int) > 0 := by omega
        have hi0 : (0 : Int) ≤ (k' : Int) := by omega
        have hi1 : (k' : Int) < (n : Int) := by omega
        clear HR hrow
        go_wp2_with fail
        refine (l1in_any _ _ _ _).mono ?_
        rintro e w' ⟨⟨d, rfl⟩, rfl⟩
        cases d
        · go_wp2
          go_ret
          exact ⟨⟨_, rfl⟩, rfl⟩
        · by_cases hge : f k' ≥ f (k' + 1)
          · go_wp2
            go_ret
            exact ⟨⟨_, rfl⟩, rfl⟩
          · go_wp2
            go_round
            case rel => exact ⟨k' + 1 + 1, by omega, by go_num⟩
            case measure => simp [intOf]; omega
    · clear HR
      go_wp2
      go_ret
      exact ⟨⟨_, rfl⟩, rfl⟩
set_option maxHeartbeats 600000 in
theorem spec_good (p : Int) (v : Value) (k : Nat) (st : Nat → Sp) (b : Bool) (w : World) (hv : StepsOf w v k st) (hs : Short k st) (hb : decide (GoodN p k st) = b) :
    Calls Try.prog 14 #[netV p v] w fun e w' => e = .returned (.bool b) ∧ Below w.heap.size w w' := by
  obtain ⟨a, cap, rfl, hr⟩ := hv
  have HR := hide hr
  have HS := hide hs.2
  have hk := hs.1
  have HB := hide hb
  clear hr hs hb
  go_enter Try.func14, Try.ntmps14
  go_wp2
  go_loopw [8] (fun i wr => ∃ j : Nat, j ≤ k ∧ i = .int .i64 j ∧ Hid ((1 ≤ p ∧ p ≤ 8) → ∀ q, q < j → GoodS p (st q)) ∧ Below (w.heap.size + 1) (w.alloc (.cells #[.int .i64 p, .slice a k cap] 29)) wr) (fun i _ => k - (intOf i).toNat)
  case atStart => exact ⟨0, Nat.zero_le _, rfl, hide (fun _ q h => absurd h (by omega)), Below.refl _ _⟩
  case round =>
    obtain ⟨j, hj, rfl, HG, hbw⟩ := hrel
    have hbx : Below w.heap.size w wr := ((Below.refl _ _).alloc (Nat.le_refl _) _).trans (hbw.mono (by omega))
    have hn : Blk wr w.heap.size 2 (fun i => if i = 0 then .int .i64 p else .slice a k cap) 29 := (cell_new2 w _ _ _).below hbw (by omega)
    have hsz := hn.lt
    have n0 : wr.cell? ⟨w.heap.size, 0, none⟩ = some (.int .i64 p) := hn.cell (by omega)
    have n1 : wr.cell? ⟨w.heap.size, 1, none⟩ = some (.slice a k cap) := hn.cell (by omega)
    by_cases hlt : j < k
    · obtain ⟨bb, off, rfl, hbb, hrow⟩ := HR.out (by omega)
      obtain ⟨x, y, q1, q2, i1, i2⟩ := hrow j hlt
      obtain ⟨ax, cx, rfl⟩ := i1.form
      obtain ⟨ay, cy, rfl⟩ := i2.form
      have c0 := (hbx.cell (p := ⟨bb, off + j * 2, none⟩) hbb).trans q1
      have c1 := (hbx.cell (p := ⟨bb, off + j * 2 + 1, none⟩) hbb).trans q2
      have hS := HS.out j hlt
      have hbw2 := hbw.alloc (by omega) (.cells #[.slice ax (st j).ni cx, .slice ay (st j).no cy] 60)
      have hbx2 := (Below.refl wr.heap.size wr).alloc (Nat.le_refl _) (.cells #[.slice ax (st j).ni cx, .slice ay (st j).no cy] 60)
      have I1 := hide ((i1.below hbx).below hbx2)
      have I2 := hide ((i2.below hbx).below hbx2)
      by_cases hp : 1 ≤ p ∧ p ≤ 8
      · obtain ⟨hp1, hp2⟩ := hp
        by_cases hg1 : Ris (st j).ni (st j).fi p
        · have HG1 := hide (show decide (Ris (st j).ni (st j).fi p) = true by rw [decide_eq_true_eq]; exact hg1)
          by_cases hg2 : Ris (st j).no (st j).fo p
          · have HG2 := hide (show decide (Ris (st j).no (st j).fo p) = true by rw [decide_eq_true_eq]; exact hg2)
            have HG' := hide (show (1 ≤ p ∧ p ≤ 8) → ∀ q, q < j + 1 → GoodS p (st q) from fun hp q hq => by
              rcases (show q < j ∨ q = j by omega) with h | h
              · exact HG.out hp q h
              · subst h; exact ⟨hg1, hg2⟩)
            clear HR HS hrow HG q1 q2 i1 i2 hg1 hg2 hn HB
            go_wp2_with fail
            refine (l3list_to _ _ _ _ _ _ I1.out hS.1 hp1 hp2 HG1.out).mono ?_
            rintro e w' ⟨rfl, rfl⟩
            go_wp2_with fail
            refine (l3list_to _ _ _ _ _ _ I2.out hS.2 hp1 hp2 HG2.out).mono ?_
            rintro e w' ⟨rfl, rfl⟩
            go_wp2
            exact ⟨⟨j + 1, by omega, by go_num, HG', hbw2⟩, by simp [intOf]; omega⟩
          · have HG2 := hide (show decide (Ris (st j).no (st j).fo p) = false by rw [decide_eq_false_iff_not]; exact hg2)
            have eb : b = false := by rw [← HB.out, decide_eq_false_iff_not]; exact fun H => hg2 (H.2.2 j hlt).2
            subst eb
            clear HR HS hrow HG q1 q2 i1 i2 hg1 hg2 hn HB
            go_wp2_with fail
            refine (l3list_to _ _ _ _ _ _ I1.out hS.1 hp1 hp2 HG1.out).mono ?_
            rintro e w' ⟨rfl, rfl⟩
            go_wp2_with fail
            refine (l3list_to _ _ _ _ _ _ I2.out hS.2 hp1 hp2 HG2.out).mono ?_
            rintro e w' ⟨rfl, rfl⟩
            go_wp2
            go_ret
            exact ⟨rfl, hbx.alloc hbx.size _⟩
        · have HG1 := hide (show decide (Ris (st j).ni (st j).fi p) = false by rw [decide_eq_false_iff_not]; exact hg1)
          have eb : b = false := by rw [← HB.out, decide_eq_false_iff_not]; exact fun H => hg1 (H.2.2 j hlt).1
          subst eb
          clear HR HS hrow HG q1 q2 i1 i2 hg1 hn HB
          go_wp2_with fail
          refine (l3list_to _ _ _ _ _ _ I1.out hS.1 hp1 hp2 HG1.out).mono ?_
          rintro e w' ⟨rfl, rfl⟩
          go_wp2
          go_ret
          exact ⟨rfl, hbx.alloc hbx.size _⟩
      · have eb : b = false := by rw [← HB.out, decide_eq_false_iff_not]; exact fun H => hp H.1
        have HG' := hide (show (1 ≤ p ∧ p ≤ 8) → ∀ q, q < j + 1 → GoodS p (st q) from fun h => absurd h hp)
        subst eb
        clear HR HS hrow HG q1 q2 i1 i2 hn HB hp
        go_wp2_with fail
        refine (l3list_any _ _ _ _ _ I1.out hS.1).mono ?_
        rintro e w' ⟨⟨d, rfl⟩, rfl⟩
        cases d
        · go_wp2
          go_ret
          exact ⟨rfl, hbx.alloc hbx.size _⟩
        · go_wp2_with fail
          refine (l3list_any _ _ _ _ _ I2.out hS.2).mono ?_
          rintro e w' ⟨⟨d, rfl⟩, rfl⟩
          cases d
          · go_wp2
            go_ret
            exact ⟨rfl, hbx.alloc hbx.size _⟩
          · go_wp2
            exact ⟨⟨j + 1, by omega, by go_num, HG', hbw2⟩, by simp [intOf]; omega⟩
    · obtain rfl : j = k := by omega
      by_cases hp : 1 ≤ p ∧ p ≤ 8
      · have HP := hide (show decide (1 ≤ p ∧ p ≤ 8) = true by rw [decide_eq_true_eq]; exact hp)
        by_cases hk12 : (j : Int) ≤ 12
        · have eb : b = true := by rw [← HB.out, decide_eq_true_eq]; exact ⟨hp, by omega, HG.out hp⟩
          subst eb
          clear HR HS HG HB hn hp
          go_wp2_with fail
          refine (l1in_to _ _ _ _ _ HP.out).mono ?_
          rintro e w' ⟨rfl, rfl⟩
          go_wp2
          go_ret
          exact ⟨rfl, hbx⟩
        · have eb : b = false := by rw [← HB.out, decide_eq_false_iff_not]; intro H; have := H.2.1; omega
          subst eb
          clear HR HS HG HB hn hp
          go_wp2_with fail
          refine (l1in_to _ _ _ _ _ HP.out).mono ?_
          rintro e w' ⟨rfl, rfl⟩
          go_wp2
          go_ret
          exact ⟨ret_bool (by rw [decide_eq_false_iff_not]; omega), hbx⟩
      · have HP := hide (show decide (1 ≤ p ∧ p ≤ 8) = false by rw [decide_eq_false_iff_not]; exact hp)
        have eb : b = false := by rw [← HB.out, decide_eq_false_iff_not]; exact fun H => hp H.1
        subst eb
        clear HR HS HG HB hn hp
        go_wp2_with fail
        refine (l1in_to _ _ _ _ _ HP.out).mono ?_
        rintro e w' ⟨rfl, rfl⟩
        go_wp2
        go_ret
        exact ⟨rfl, hbx⟩
end Go.Proofs.Ythilapalgakhhaa
