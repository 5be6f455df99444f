/-
  Which slot is for a time: both texts of SlotFor; whether a timer may be set (the specification's test).
-/
import Derived.Test.YtcodllammndciaaWhS
namespace Go.Proofs.Ytcodllammndciaa
open Go.RowKit M
open Clk (upd upd_same upd_other)
open Go.Sort (grow)
namespace M
def GoodI (id : Int) : Prop := 0 ≤ id ∧ id ≤ 1000
instance (id : Int) : Decidable (GoodI id) := by unfold GoodI; infer_instance
def slotN (now tm : Int) : Int := match slotF now tm with | some k => k | none => -1
theorem sN_range (l : Nat) (tm : Int) (hl : l ≤ 2) : 0 ≤ sN l tm ∧ sN l tm < 24 := by unfold sN; omega
theorem slotF_range {now tm k : Int} (h : slotF now tm = some k) : 0 ≤ k ∧ k < 24 := by
  unfold slotF at h
  split at h
  · cases h; exact sN_range 0 tm (by omega)
  · split at h
    · cases h; exact sN_range 1 tm (by omega)
    · split at h
      · cases h; exact sN_range 2 tm (by omega)
      · cases h
theorem slotF_fit {now tm : Int} {l : Nat} (hl : l ≤ 2) (h : Fit l now tm) (hn : ∀ j, j < l → ¬ Fit j now tm) : slotF now tm = some (sN l tm) := by
  unfold slotF
  match l, hl with
  | 0, _ => rw [if_pos h]
  | 1, _ => rw [if_neg (hn 0 (by omega)), if_pos h]
  | 2, _ => rw [if_neg (hn 0 (by omega)), if_neg (hn 1 (by omega)), if_pos h]
theorem slotF_none {now tm : Int} (hn : ∀ j, j < 3 → ¬ Fit j now tm) : slotF now tm = none := by
  unfold slotF
  rw [if_neg (hn 0 (by omega)), if_neg (hn 1 (by omega)), if_neg (hn 2 (by omega))]
end M
set_option maxHeartbeats 1000000 in
theorem l5_timer (tm id now : Int) (b : Bool) (w : World) (hn : 0 ≤ now ∧ now ≤ 100000) (hb : decide (GoodI id ∧ GoodT now tm) = b) :
    Calls Try.prog 44 #[.agg #[.int .i64 tm, .int .i64 id], .int .i64 now] w fun e w' => e = .returned (.bool b) ∧ Below w.heap.size w w' := by
  have hbA := (Below.refl w.heap.size w).alloc (Nat.le_refl _) (.cells #[.int .i64 tm, .int .i64 id] 40)
  have h3 : pw 3 = 512 := rfl
  by_cases h1 : GoodI id
  · have HI := hide (show decide (0 ≤ id ∧ id ≤ 1000) = true from decide_eq_true h1)
    by_cases h2 : now < tm
    · have hd : decide (now < tm) = true := decide_eq_true h2
      have HB := hide (show decide (tm < now + 512) = b by
        rw [← hb, Bool.eq_iff_iff]; simp only [decide_eq_true_eq]; exact ⟨fun h => ⟨h1, h2, h⟩, fun h => h.2.2⟩)
      clear h1 hb
      go_enter Try.func44, Try.ntmps44
      go_wp2_with fail
      go_big_quiet (first | exact Calls.quiet_of_same (l1in_to _ _ _ _ _ HI.out) | exact Calls.quiet_of_same (l5_pow 3 _ (by omega)))
      go_wp2
      go_ret
      exact ⟨by rw [← HB.out]; rfl, below_drewN hbA _⟩
    · have hd : decide (now < tm) = false := decide_eq_false h2
      obtain rfl : b = false := by rw [← hb, decide_eq_false_iff_not]; exact fun h => h2 h.2.1
      clear h1 hb
      go_enter Try.func44, Try.ntmps44
      go_wp2_with fail
      go_big_quiet (first | exact Calls.quiet_of_same (l1in_to _ _ _ _ _ HI.out) | exact Calls.quiet_of_same (l5_pow 3 _ (by omega)))
      go_wp2
      go_ret
      exact ⟨rfl, below_drewN hbA _⟩
  · have HI := hide (show decide (0 ≤ id ∧ id ≤ 1000) = false from decide_eq_false h1)
    obtain rfl : b = false := by rw [← hb, decide_eq_false_iff_not]; exact fun h => h1 h.1
    clear h1 hb
    go_enter Try.func44, Try.ntmps44
    go_wp2_with fail
    go_big_quiet (first | exact Calls.quiet_of_same (l1in_to _ _ _ _ _ HI.out) | exact Calls.quiet_of_same (l5_pow 3 _ (by omega)))
    go_wp2
    go_ret
    exact ⟨rfl, below_drewN hbA _⟩
set_option maxHeartbeats 2000000 in
theorem l5_slot (now tm : Int) (w : World) (h0 : 0 ≤ now ∧ now ≤ 200000) (h1 : 0 ≤ tm ∧ tm ≤ 200000) :
    Calls Try.prog 53 #[.int .i64 now, .int .i64 tm] w fun e w' => e = .returned (.int .i64 (slotN now tm)) ∧ Below w.heap.size w w' := by
  go_enter Try.func53, Try.ntmps53
  go_wp2
  go_loopw [5] (fun i wr => ∃ l : Nat, l ≤ 3 ∧ i = .int .i64 (l : Int) ∧ Hid (∀ j, j < l → ¬ Fit j now tm) ∧ Below w.heap.size w wr) (fun i _ => 3 - (intOf i).toNat)
  case atStart => exact ⟨0, by omega, rfl, hide (fun j hj => by omega), Below.refl _ _⟩
  case round =>
    obtain ⟨l, hl, rfl, HN, hbw⟩ := hrel
    by_cases hlt : l < 3
    · by_cases hf : Fit l now tm
      · have HE := hide (show slotN now tm = (l : Int) * 8 + tm / pw l % 8 by unfold slotN; rw [slotF_fit (by omega) hf HN.out]; rfl)
        obtain ⟨q1, c1, d1⟩ := quo_facts l tm (by omega) h1
        have hu := pw_le l (by omega)
        have q3 : (tm / pw l).tmod 8 = tm / pw l % 8 := Int.tmod_eq_emod_of_nonneg c1
        have q4 : 0 ≤ tm / pw l % 8 ∧ tm / pw l % 8 < 8 := by omega
        have HF := hide (l5_fits l now tm true wr (by omega) h0 h1 (decide_eq_true hf))
        have HP := hide (show ∀ w, Calls Try.prog 47 #[.int .i64 (l : Int)] w fun e w' => e = .returned (.int .i64 (pw l)) ∧ w' = w from fun w => l5_pow l w (by omega))
        generalize tm / pw l % 8 = x2 at *
        generalize tm / pw l = x1 at *
        generalize pw l = u at *
        have hu0 : u ≠ 0 := by omega
        have hu1 : u ≠ -1 := by omega
        clear hf HN
        go_wp2_with fail
        refine HF.out.mono ?_
        rintro e w1 ⟨rfl, m, rfl⟩
        go_wp2_with fail
        refine (HP.out _).mono ?_
        rintro e w1 ⟨rfl, rfl⟩
        go_wp2
        go_ret
        exact ⟨by rw [HE.out]; rfl, below_drewN hbw _⟩
      · have HN2 := hide (show ∀ j, j < l + 1 → ¬ Fit j now tm from fun j hj => by
          rcases (show j < l ∨ j = l by omega) with h | h
          · exact HN.out j h
          · subst h; exact hf)
        have HF := hide (l5_fits l now tm false wr (by omega) h0 h1 (decide_eq_false hf))
        clear hf HN
        go_wp2_with fail
        refine HF.out.mono ?_
        rintro e w1 ⟨rfl, m, rfl⟩
        have hbw2 := below_drewN hbw m
        go_wp2
        exact ⟨⟨l + 1, by omega, by go_num, HN2, hbw2⟩, by simp [intOf]; omega⟩
    · obtain rfl : l = 3 := by omega
      have HE := hide (show slotN now tm = -1 by unfold slotN; rw [slotF_none HN.out])
      clear HN
      go_wp2
      go_ret
      exact ⟨by rw [HE.out]; rfl, hbw⟩
theorem M.slotF_bool (now tm : Int) : slotF now tm = none ∨ ∃ k, slotF now tm = some k := by
  cases h : slotF now tm with
  | none => exact .inl rfl
  | some k => exact .inr ⟨k, rfl⟩
/-- What SlotFor tells. -/
def M.slotA (now tm : Int) : Int × Bool := if GoodN now ∧ GoodT now tm then (match slotF now tm with | some k => (k, true) | none => (0, false)) else (0, false)
set_option maxHeartbeats 2000000 in
theorem spec_slot (now tm : Int) (w : World) :
    Calls Try.prog 37 #[.int .i64 now, .int .i64 tm] w fun e w' => e = .returned (.tuple #[.int .i64 (slotA now tm).1, .bool (slotA now tm).2]) ∧ Below w.heap.size w w' := by
  by_cases hn : GoodN now
  · have HN := hide (show decide (0 ≤ now ∧ now ≤ 100000) = true from decide_eq_true hn)
    have hn0 : 0 ≤ now ∧ now ≤ 100000 := hn
    by_cases ht : GoodT now tm
    · have HT := hide (l5_timer tm 0 now true w hn0 (decide_eq_true ⟨by unfold GoodI; omega, ht⟩))
      have ht0 : now < tm ∧ tm < now + 512 := ht
      rcases slotF_bool now tm with hs | ⟨k, hs⟩
      · have HA := hide (show slotA now tm = (0, false) by unfold slotA; rw [if_pos ⟨hn, ht⟩, hs])
        have hk : slotN now tm = -1 := by unfold slotN; rw [hs]
        clear hs hn ht
        go_enter Try.func37, Try.ntmps37
        go_wp2_with fail
        refine (l1in_to _ _ _ _ _ HN.out).mono ?_
        rintro e w1 ⟨rfl, rfl⟩
        go_wp2_with fail
        refine HT.out.mono ?_
        rintro e w1 ⟨rfl, hb1⟩
        go_wp2_with fail
        refine (l5_slot now tm _ (by omega) (by omega)).mono ?_
        rintro e w2 ⟨rfl, hb2⟩
        have hb3 := hb1.trans (hb2.mono hb1.size)
        go_wp2
        go_ret2
        exact ⟨by rw [HA.out]; rfl, hb3⟩
      · have HA := hide (show slotA now tm = (k, true) by unfold slotA; rw [if_pos ⟨hn, ht⟩, hs])
        have hk : slotN now tm = k := by unfold slotN; rw [hs]
        have hr := slotF_range hs
        clear hs hn ht
        go_enter Try.func37, Try.ntmps37
        go_wp2_with fail
        refine (l1in_to _ _ _ _ _ HN.out).mono ?_
        rintro e w1 ⟨rfl, rfl⟩
        go_wp2_with fail
        refine HT.out.mono ?_
        rintro e w1 ⟨rfl, hb1⟩
        go_wp2_with fail
        refine (l5_slot now tm _ (by omega) (by omega)).mono ?_
        rintro e w2 ⟨rfl, hb2⟩
        have hb3 := hb1.trans (hb2.mono hb1.size)
        go_wp2
        go_ret2
        exact ⟨by rw [HA.out]; rfl, hb3⟩
    · have HT := hide (l5_timer tm 0 now false w hn0 (decide_eq_false (fun h => ht h.2)))
      have HA := hide (show slotA now tm = (0, false) by unfold slotA; rw [if_neg (fun h => ht h.2)])
      clear hn ht
      go_enter Try.func37, Try.ntmps37
      go_wp2_with fail
      refine (l1in_to _ _ _ _ _ HN.out).mono ?_
      rintro e w1 ⟨rfl, rfl⟩
      go_wp2_with fail
      refine HT.out.mono ?_
      rintro e w1 ⟨rfl, hb1⟩
      go_wp2
      go_ret2
      exact ⟨by rw [HA.out]; rfl, hb1⟩
  · have HN := hide (show decide (0 ≤ now ∧ now ≤ 100000) = false from decide_eq_false hn)
    have HA := hide (show slotA now tm = (0, false) by unfold slotA; rw [if_neg (fun h => hn h.1)])
    clear hn
    go_enter Try.func37, Try.ntmps37
    go_wp2_with fail
    refine (l1in_to _ _ _ _ _ HN.out).mono ?_
    rintro e w1 ⟨rfl, rfl⟩
    go_wp2
    go_ret2
    exact ⟨by rw [HA.out]; rfl, Below.refl _ _⟩
set_option maxHeartbeats 2000000 in
theorem impl_slot (now tm : Int) (w : World) :
    Calls Try.prog 38 #[.int .i64 now, .int .i64 tm] w fun e w' => e = .returned (.tuple #[.int .i64 (slotA now tm).1, .bool (slotA now tm).2]) ∧ ∃ m, w' = w.drewN m := by
  by_cases hg : GoodN now ∧ GoodT now tm
  · have HG := hide (good_times now tm true w (decide_eq_true hg))
    have h0 : 0 ≤ now ∧ now ≤ 100000 := hg.1
    have h1 : now < tm ∧ tm < now + 512 := hg.2
    have HA := hide (show slotA now tm = (match slotF now tm with | some k => (k, true) | none => (0, false)) by unfold slotA; rw [if_pos hg])
    clear hg
    go_enter Try.func38, Try.ntmps38
    go_wp2_with fail
    refine HG.out.mono ?_
    rintro e w1 ⟨rfl, rfl⟩
    go_wp2_with fail
    go_loopw [11] (fun i wr => ∃ l : Nat, l ≤ 3 ∧ i = .int .i64 (l : Int) ∧ Hid (∀ j, j < l → ¬ Fit j now tm) ∧ ∃ m, wr = w1.drewN m) (fun i _ => 3 - (intOf i).toNat)
    case atStart => exact ⟨0, by omega, rfl, hide (fun j hj => by omega), 0, rfl⟩
    case round =>
      obtain ⟨l, hl, rfl, HN, m, rfl⟩ := hrel
      by_cases hlt : l < 3
      · by_cases hf : Fit l now tm
        · have HE := hide (show slotA now tm = (sN l tm, true) by rw [HA.out, slotF_fit (by omega) hf HN.out])
          have HF := hide (reaches_to l now tm true (w1.drewN m) (by omega) (by omega) (by omega) (decide_eq_true hf))
          have HP := hide (show ∀ w, Calls Try.prog 71 #[.int .i64 (l : Int), .int .i64 tm] w fun e w' => e = .returned (.int .i64 (sN l tm)) ∧ w' = w from fun w => slot_in l tm w (by omega) (by omega))
          clear hf HN HA HG
          go_wp2_with fail
          refine HF.out.mono ?_
          rintro e w2 ⟨rfl, m2, rfl⟩
          go_wp2_with fail
          refine (HP.out _).mono ?_
          rintro e w3 ⟨rfl, rfl⟩
          go_wp2
          go_ret2
          exact ⟨by rw [HE.out]; rfl, m + m2, by first | rfl | exact (World.drewN_drewN _ _ _) | exact (World.drewN_drewN _ _ _).symm⟩
        · have HN2 := hide (show ∀ j, j < l + 1 → ¬ Fit j now tm from fun j hj => by
            rcases (show j < l ∨ j = l by omega) with h | h
            · exact HN.out j h
            · subst h; exact hf)
          have HF := hide (reaches_to l now tm false (w1.drewN m) (by omega) (by omega) (by omega) (decide_eq_false hf))
          clear hf HN HG
          go_wp2_with fail
          refine HF.out.mono ?_
          rintro e w2 ⟨rfl, m2, rfl⟩
          go_wp2
          exact ⟨⟨l + 1, by omega, by go_num, HN2, m + m2, by first | rfl | exact (World.drewN_drewN _ _ _) | exact (World.drewN_drewN _ _ _).symm⟩, by simp [intOf]; omega⟩
      · obtain rfl : l = 3 := by omega
        have HE := hide (show slotA now tm = (0, false) by rw [HA.out, slotF_none HN.out])
        clear HN HA HG
        go_wp2
        go_ret2
        exact ⟨by rw [HE.out]; rfl, m, rfl⟩
  · have HG := hide (good_times now tm false w (decide_eq_false hg))
    have HA := hide (show slotA now tm = (0, false) by unfold slotA; rw [if_neg hg])
    clear hg
    go_enter Try.func38, Try.ntmps38
    go_wp2_with fail
    refine HG.out.mono ?_
    rintro e w1 ⟨rfl, rfl⟩
    go_wp2
    go_ret2
    exact ⟨by rw [HA.out]; rfl, 0, rfl⟩
end Go.Proofs.Ytcodllammndciaa
