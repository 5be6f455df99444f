/-
  Both texts of GoodActs return whether the acts are good, at every number of processes and every list of acts.
-/
import Derived.Test.YtlbcmlleoncddaaGoodA
namespace Go.Proofs.Ytlbcmlleoncddaa
open Go.RowKit M
set_option maxHeartbeats 1000000 in
theorem impl_good_yes (p : Int) (v : Value) (n : Nat) (l : Nat → Ac) (w : World) (hv : ActsOf w v n l) (hg : GoodL p n l) :
    Calls Try.prog 16 #[.int .i64 p, v] w fun e w' => e = .returned (.bool true) ∧ Below w.heap.size w w' := by
  have HV := hide hv
  obtain ⟨a, cap, rfl, hr⟩ := hv
  obtain ⟨⟨hp1, hp6⟩, hn, hg⟩ := hg
  have HR := hide hr
  have HG := hide hg
  have hn2 : ¬ ((n : Int) > 60) := by omega
  clear hr hg
  go_enter Try.func16, Try.ntmps16
  go_wp2_with fail
  refine (within_to _ _ _ true _ (by simp; omega)).mono ?_
  rintro e w1 ⟨rfl, rfl⟩
  go_wp2
  go_loopw [17] (fun i wr => ∃ k : Nat, k ≤ n ∧ i = .int .i64 k ∧ Below w1.heap.size w1 wr) (fun i _ => n - (intOf i).toNat)
  case atStart => exact ⟨0, Nat.zero_le _, rfl, Below.refl _ _⟩
  case round =>
    obtain ⟨k, hk, rfl, hbw⟩ := hrel
    by_cases hlt : k < n
    · obtain ⟨b, off, rfl, hb, hrow⟩ := HR.out (by omega)
      have c0 := (hbw.cell (p := ⟨b, off + k * 2, none⟩) hb).trans (hrow k hlt).1
      have c1 := (hbw.cell (p := ⟨b, off + k * 2 + 1, none⟩) hb).trans (hrow k hlt).2
      obtain ⟨hP, hF⟩ := HG.out k hlt
      have HF := hide hF
      clear hrow HR HG hF
      go_wp2_with fail
      refine (within_to _ _ _ true _ (by simp; omega)).mono ?_
      rintro e w2 ⟨rfl, rfl⟩
      have hbw2 := hbw.alloc hbw.size (.cells #[.int .i64 (l k).proc, .int .i64 (l k).frm] 54)
      go_wp2_with fail
      refine (from_to _ n k l true _ (HV.out.below hbw2) hlt (by omega) (decide_eq_true HF.out)).mono ?_
      rintro e w3 ⟨rfl, hb3⟩
      have hbw3 := hbw2.trans (hb3.mono hbw2.size)
      clear hb3 c0 c1 HF
      go_wp2
      go_roundw
      case rel => exact ⟨k + 1, by omega, by go_num, hbw3⟩
      case measure => simp [intOf]; omega
    · clear HR HG
      go_wp2
      go_ret
      exact ⟨rfl, hbw⟩
set_option maxHeartbeats 1000000 in
theorem impl_good_no (p : Int) (v : Value) (n : Nat) (l : Nat → Ac) (w : World) (hv : ActsOf w v n l) (hm : n ≤ 1048576) (hg : ¬ GoodL p n l) :
    Calls Try.prog 16 #[.int .i64 p, v] w fun e w' => e = .returned (.bool false) ∧ Below w.heap.size w w' := by
  have HV := hide hv
  obtain ⟨a, cap, rfl, hr⟩ := hv
  have HR := hide hr
  clear hr
  by_cases hp : 1 ≤ p ∧ p ≤ 6
  · by_cases hn : n ≤ 60
    · have hn2 : ¬ ((n : Int) > 60) := by omega
      have HG := hide (show ¬ ∀ i, i < n → GoodAt p l i from fun h => hg ⟨hp, hn, h⟩)
      clear hg
      go_enter Try.func16, Try.ntmps16
      go_wp2_with fail
      refine (within_to _ _ _ true _ (by simp; omega)).mono ?_
      rintro e w1 ⟨rfl, rfl⟩
      go_wp2
      go_loopw [17] (fun i wr => ∃ k : Nat, k ≤ n ∧ i = .int .i64 k ∧ Hid (∀ i, i < k → GoodAt p l i) ∧ Below w1.heap.size w1 wr) (fun i _ => n - (intOf i).toNat)
      case atStart => exact ⟨0, Nat.zero_le _, rfl, hide (fun i h => absurd h (by omega)), Below.refl _ _⟩
      case round =>
        obtain ⟨k, hk, rfl, HK, hbw⟩ := hrel
        by_cases hlt : k < n
        · obtain ⟨b, off, rfl, hb, hrow⟩ := HR.out (by omega)
          have c0 := (hbw.cell (p := ⟨b, off + k * 2, none⟩) hb).trans (hrow k hlt).1
          have c1 := (hbw.cell (p := ⟨b, off + k * 2 + 1, none⟩) hb).trans (hrow k hlt).2
          clear hrow HR
          by_cases hP : 0 ≤ (l k).proc ∧ (l k).proc ≤ p - 1
          · have hbw2 := hbw.alloc hbw.size (.cells #[.int .i64 (l k).proc, .int .i64 (l k).frm] 54)
            cases hd : decide (FromOk l k)
            · have HF := hide hd
              clear hd HG HK
              go_wp2_with fail
              refine (within_to _ _ _ true _ (by simp; omega)).mono ?_
              rintro e w2 ⟨rfl, rfl⟩
              go_wp2_with fail
              refine (from_to _ n k l false _ (HV.out.below hbw2) hlt (by omega) HF.out).mono ?_
              rintro e w3 ⟨rfl, hb3⟩
              have hbw3 := hbw2.trans (hb3.mono hbw2.size)
              clear hb3 c0 c1 HF
              go_wp2
              go_ret
              exact ⟨rfl, hbw3⟩
            · have HF := hide hd
              have HK2 := hide (show ∀ i, i < k + 1 → GoodAt p l i from fun i hi => by
                by_cases he : i = k
                · subst he; exact ⟨hP, of_decide_eq_true HF.out⟩
                · exact HK.out i (by omega))
              clear hd HG HK
              go_wp2_with fail
              refine (within_to _ _ _ true _ (by simp; omega)).mono ?_
              rintro e w2 ⟨rfl, rfl⟩
              go_wp2_with fail
              refine (from_to _ n k l true _ (HV.out.below hbw2) hlt (by omega) HF.out).mono ?_
              rintro e w3 ⟨rfl, hb3⟩
              have hbw3 := hbw2.trans (hb3.mono hbw2.size)
              clear hb3 c0 c1 HF
              go_wp2
              go_roundw
              case rel => exact ⟨k + 1, by omega, by go_num, HK2, hbw3⟩
              case measure => simp [intOf]; omega
          · have HP := hide hP
            clear hP HG HK
            go_wp2_with fail
            refine (within_to _ _ _ false _ (decide_eq_false HP.out)).mono ?_
            rintro e w2 ⟨rfl, rfl⟩
            go_wp2
            go_ret
            exact ⟨rfl, hbw.alloc hbw.size _⟩
        · exact absurd (fun i hi => HK.out i (by omega)) HG.out
    · have hn2 : ((n : Int) > 60) := by omega
      clear HR hg
      go_enter Try.func16, Try.ntmps16
      go_wp2_with fail
      refine (within_to _ _ _ true _ (by simp; omega)).mono ?_
      rintro e w1 ⟨rfl, rfl⟩
      go_wp2
      go_ret
      exact ⟨rfl, Below.refl _ _⟩
  · have HP := hide hp
    clear HR hg hp
    go_enter Try.func16, Try.ntmps16
    go_wp2_with fail
    refine (within_to _ _ _ false _ (decide_eq_false HP.out)).mono ?_
    rintro e w1 ⟨rfl, rfl⟩
    go_wp2
    go_ret
    exact ⟨rfl, Below.refl _ _⟩
set_option maxHeartbeats 1000000 in
theorem spec_good_yes (p : Int) (v : Value) (n : Nat) (l : Nat → Ac) (w : World) (hv : ActsOf w v n l) (hg : GoodL p n l) :
    Calls Try.prog 14 #[.int .i64 p, v] w fun e w' => e = .returned (.bool true) ∧ Below w.heap.size w w' := by
  obtain ⟨a, cap, rfl, hr⟩ := hv
  obtain ⟨⟨hp1, hp6⟩, hn, hg⟩ := hg
  have HR := hide hr
  have HG := hide hg
  have hn2 : (n : Int) ≤ 60 := by omega
  clear hr hg
  go_enter Try.func14, Try.ntmps14
  go_wp2
  go_loopw [9] (fun i wr => ∃ k : Nat, k ≤ n ∧ i = .int .i64 k ∧ Below w.heap.size w wr) (fun i _ => n - (intOf i).toNat)
  case atStart => exact ⟨0, Nat.zero_le _, rfl, Below.refl _ _⟩
  case round =>
    obtain ⟨k, hk, rfl, hbw⟩ := hrel
    by_cases hlt : k < n
    · obtain ⟨b, off, rfl, hb, hrow⟩ := HR.out (by omega)
      have c0 := (hbw.cell (p := ⟨b, off + k * 2, none⟩) hb).trans (hrow k hlt).1
      have c1 := (hbw.cell (p := ⟨b, off + k * 2 + 1, none⟩) hb).trans (hrow k hlt).2
      obtain ⟨hP, hF⟩ := HG.out k hlt
      have HL := hide (show decide ((0 : Int) ≤ (l k).proc ∧ (l k).proc ≤ p - 1) = true from decide_eq_true hP)
      have hbw2 := hbw.alloc hbw.size (.cells #[.int .i64 (l k).proc, .int .i64 (l k).frm] 54)
      rcases hF with hF | ⟨hF, hne⟩
      · have HL2 := hide (show decide ((-1 : Int) ≤ (l k).frm ∧ (l k).frm ≤ (k : Int) - 1) = true by simp; omega)
        have hneg2 : decide ((l k).frm ≥ 0) = false := by simp; omega
        clear hrow HR HG hF hP
        go_wp2
        go_big_quiet (first | exact Calls.quiet_of_same (l1in_to _ _ _ _ _ HL.out) | exact Calls.quiet_of_same (l1in_to _ _ _ _ _ HL2.out))
        go_wp2
        exact ⟨⟨k + 1, by omega, by go_num, below_drewN hbw2 _⟩, by simp [intOf]; omega⟩
      · have d0 := (hbw2.cell (p := ⟨b, off + (l k).frm.toNat * 2, none⟩) hb).trans (hrow (l k).frm.toNat (by omega)).1
        have HL2 := hide (show decide ((-1 : Int) ≤ (l k).frm ∧ (l k).frm ≤ (k : Int) - 1) = true by simp; omega)
        have hpos : decide ((l k).frm ≥ 0) = true := by simp; omega
        have hneq : ((l (l k).frm.toNat).proc == (l k).proc) = false := by simp [hne]
        have hf0 : (0 : Int) ≤ (l k).frm := by omega
        have hf1 : (l k).frm < (n : Int) := by omega
        clear hrow HR HG hF hP hne
        go_wp2
        go_big_quiet (first | exact Calls.quiet_of_same (l1in_to _ _ _ _ _ HL.out) | exact Calls.quiet_of_same (l1in_to _ _ _ _ _ HL2.out))
        go_wp2
        exact ⟨⟨k + 1, by omega, by go_num, below_drewN hbw2 _⟩, by simp [intOf]; omega⟩
    · clear HR HG
      go_wp2_with fail
      refine (l1in_to _ _ _ true _ (by simp; omega)).mono ?_
      rintro e w2 ⟨rfl, rfl⟩
      go_wp2
      go_ret
      exact ⟨rfl, hbw⟩
set_option maxHeartbeats 1000000 in
theorem spec_good_no1 (p : Int) (v : Value) (n : Nat) (l : Nat → Ac) (w : World) (hv : ActsOf w v n l) (hm : n ≤ 1048576) (hg : ¬ GoodL p n l) (h1 : -9223372036854775808 < p) (h2 : p ≤ 9223372036854775807) :
    Calls Try.prog 14 #[.int .i64 p, v] w fun e w' => e = .returned (.bool false) ∧ Below w.heap.size w w' := by
  obtain ⟨a, cap, rfl, hr⟩ := hv
  have HR := hide hr
  have HG := hide hg
  clear hr hg
  go_enter Try.func14, Try.ntmps14
  go_wp2
  go_loopw [9] (fun i wr => ∃ k : Nat, k ≤ n ∧ i = .int .i64 k ∧ Hid (∀ i, i < k → (0 ≤ (l i).proc ∧ (l i).proc ≤ p - 1) ∧ FromOk l i) ∧ Below w.heap.size w wr) (fun i _ => n - (intOf i).toNat)
  case atStart => exact ⟨0, Nat.zero_le _, rfl, hide (fun i h => absurd h (by omega)), Below.refl _ _⟩
  case round =>
    obtain ⟨k, hk, rfl, HK, hbw⟩ := hrel
    by_cases hlt : k < n
    · obtain ⟨b, off, rfl, hb, hrow⟩ := HR.out (by omega)
      have c0 := (hbw.cell (p := ⟨b, off + k * 2, none⟩) hb).trans (hrow k hlt).1
      have c1 := (hbw.cell (p := ⟨b, off + k * 2 + 1, none⟩) hb).trans (hrow k hlt).2
      have hbw2 := hbw.alloc hbw.size (.cells #[.int .i64 (l k).proc, .int .i64 (l k).frm] 54)
      by_cases hP : 0 ≤ (l k).proc ∧ (l k).proc ≤ p - 1
      · have HL := hide (show decide ((0 : Int) ≤ (l k).proc ∧ (l k).proc ≤ p - 1) = true from decide_eq_true hP)
        by_cases h2 : (-1 : Int) ≤ (l k).frm ∧ (l k).frm ≤ (k : Int) - 1
        · have HL2 := hide (show decide ((-1 : Int) ≤ (l k).frm ∧ (l k).frm ≤ (k : Int) - 1) = true from decide_eq_true h2)
          by_cases h3 : (l k).frm ≥ 0
          · have d0 := (hbw2.cell (p := ⟨b, off + (l k).frm.toNat * 2, none⟩) hb).trans (hrow (l k).frm.toNat (by omega)).1
            have hpos : decide ((l k).frm ≥ 0) = true := by simp; omega
            have hf0 : (0 : Int) ≤ (l k).frm := by omega
            have hf1 : (l k).frm < (n : Int) := by omega
            by_cases he : (l (l k).frm.toNat).proc = (l k).proc
            · have heq : ((l (l k).frm.toNat).proc == (l k).proc) = true := by simp [he]
              clear hrow HR HG HK hP h2 h3 he
              go_wp2
              go_big_quiet (first | exact Calls.quiet_of_same (l1in_to _ _ _ _ _ HL.out) | exact Calls.quiet_of_same (l1in_to _ _ _ _ _ HL2.out))
              go_wp2
              go_ret
              exact ⟨rfl, below_drewN hbw2 _⟩
            · have heq : ((l (l k).frm.toNat).proc == (l k).proc) = false := by simp [he]
              have HK2 := hide (show ∀ i, i < k + 1 → (0 ≤ (l i).proc ∧ (l i).proc ≤ p - 1) ∧ FromOk l i from fun i hi => by
                by_cases hik : i = k
                · subst hik; exact ⟨hP, .inr ⟨⟨h3, h2.2⟩, he⟩⟩
                · exact HK.out i (by omega))
              clear hrow HR HG HK hP h2 h3 he
              go_wp2
              go_big_quiet (first | exact Calls.quiet_of_same (l1in_to _ _ _ _ _ HL.out) | exact Calls.quiet_of_same (l1in_to _ _ _ _ _ HL2.out))
              go_wp2
              exact ⟨⟨k + 1, by omega, by go_num, HK2, below_drewN hbw2 _⟩, by simp [intOf]; omega⟩
          · have hneg2 : decide ((l k).frm ≥ 0) = false := by simp; omega
            have HK2 := hide (show ∀ i, i < k + 1 → (0 ≤ (l i).proc ∧ (l i).proc ≤ p - 1) ∧ FromOk l i from fun i hi => by
              by_cases hik : i = k
              · subst hik; exact ⟨hP, .inl (by omega)⟩
              · exact HK.out i (by omega))
            clear hrow HR HG HK hP h2 h3
            go_wp2
            go_big_quiet (first | exact Calls.quiet_of_same (l1in_to _ _ _ _ _ HL.out) | exact Calls.quiet_of_same (l1in_to _ _ _ _ _ HL2.out))
            go_wp2
            exact ⟨⟨k + 1, by omega, by go_num, HK2, below_drewN hbw2 _⟩, by simp [intOf]; omega⟩
        · have HL2 := hide (show decide ((-1 : Int) ≤ (l k).frm ∧ (l k).frm ≤ (k : Int) - 1) = false from decide_eq_false h2)
          clear hrow HR HG HK hP h2
          go_wp2
          go_big_quiet (first | exact Calls.quiet_of_same (l1in_to _ _ _ _ _ HL.out) | exact Calls.quiet_of_same (l1in_to _ _ _ _ _ HL2.out))
          go_wp2
          go_ret
          exact ⟨rfl, below_drewN hbw2 _⟩
      · have HL := hide (show decide ((0 : Int) ≤ (l k).proc ∧ (l k).proc ≤ p - 1) = false from decide_eq_false hP)
        clear hrow HR HG HK hP
        go_wp2
        go_big_quiet (exact Calls.quiet_of_same (l1in_to _ _ _ _ _ HL.out))
        go_wp2
        go_ret
        exact ⟨rfl, below_drewN hbw2 _⟩
    · obtain rfl : k = n := by omega
      clear HR
      by_cases hp : 1 ≤ p ∧ p ≤ 6
      · have hn : ¬ (k ≤ 60) := fun hn => HG.out ⟨hp, hn, HK.out⟩
        have hn2 : decide ((k : Int) ≤ 60) = false := by simp; omega
        clear HG HK
        go_wp2_with fail
        refine (l1in_to _ _ _ true _ (decide_eq_true hp)).mono ?_
        rintro e w2 ⟨rfl, rfl⟩
        go_wp2
        go_ret
        exact ⟨rfl, hbw⟩
      · clear HG HK
        have HP := hide hp
        clear hp
        go_wp2_with fail
        refine (l1in_to _ _ _ false _ (decide_eq_false HP.out)).mono ?_
        rintro e w2 ⟨rfl, rfl⟩
        go_wp2
        go_ret
        exact ⟨rfl, hbw⟩
set_option maxHeartbeats 1000000 in
theorem spec_good_no2 (p : Int) (v : Value) (n : Nat) (l : Nat → Ac) (w : World) (hv : ActsOf w v n l) (hm : n ≤ 1048576) (hg : ¬ GoodL p n l) (hp : p = -9223372036854775808) :
    Calls Try.prog 14 #[.int .i64 p, v] w fun e w' => e = .returned (.bool false) ∧ Below w.heap.size w w' := by
  obtain ⟨a, cap, rfl, hr⟩ := hv
  have HR := hide hr
  have HG := hide hg
  clear hr hg
  subst hp
  go_enter Try.func14, Try.ntmps14
  go_wp2
  go_loopw [9] (fun i wr => ∃ k : Nat, k ≤ n ∧ i = .int .i64 k ∧ Hid (∀ i, i < k → (0 ≤ (l i).proc ∧ (l i).proc ≤ wrap64 (-9223372036854775809)) ∧ FromOk l i) ∧ Below w.heap.size w wr) (fun i _ => n - (intOf i).toNat)
  case atStart => exact ⟨0, Nat.zero_le _, rfl, hide (fun i h => absurd h (by omega)), Below.refl _ _⟩
  case round =>
    obtain ⟨k, hk, rfl, HK, hbw⟩ := hrel
    by_cases hlt : k < n
    · obtain ⟨b, off, rfl, hb, hrow⟩ := HR.out (by omega)
      have c0 := (hbw.cell (p := ⟨b, off + k * 2, none⟩) hb).trans (hrow k hlt).1
      have c1 := (hbw.cell (p := ⟨b, off + k * 2 + 1, none⟩) hb).trans (hrow k hlt).2
      have hbw2 := hbw.alloc hbw.size (.cells #[.int .i64 (l k).proc, .int .i64 (l k).frm] 54)
      by_cases hP : 0 ≤ (l k).proc ∧ (l k).proc ≤ wrap64 (-9223372036854775809)
      · have HL := hide (show decide ((0 : Int) ≤ (l k).proc ∧ (l k).proc ≤ wrap64 (-9223372036854775809)) = true from decide_eq_true hP)
        by_cases h2 : (-1 : Int) ≤ (l k).frm ∧ (l k).frm ≤ (k : Int) - 1
        · have HL2 := hide (show decide ((-1 : Int) ≤ (l k).frm ∧ (l k).frm ≤ (k : Int) - 1) = true from decide_eq_true h2)
          by_cases h3 : (l k).frm ≥ 0
          · have d0 := (hbw2.cell (p := ⟨b, off + (l k).frm.toNat * 2, none⟩) hb).trans (hrow (l k).frm.toNat (by omega)).1
            have hpos : decide ((l k).frm ≥ 0) = true := by simp; omega
            have hf0 : (0 : Int) ≤ (l k).frm := by omega
            have hf1 : (l k).frm < (n : Int) := by omega
            by_cases he : (l (l k).frm.toNat).proc = (l k).proc
            · have heq : ((l (l k).frm.toNat).proc == (l k).proc) = true := by simp [he]
              clear hrow HR HG HK hP h2 h3 he
              go_wp2
              go_big_quiet (first | exact Calls.quiet_of_same (l1in_to _ _ _ _ _ HL.out) | exact Calls.quiet_of_same (l1in_to _ _ _ _ _ HL2.out))
              go_wp2
              go_ret
              exact ⟨rfl, below_drewN hbw2 _⟩
            · have heq : ((l (l k).frm.toNat).proc == (l k).proc) = false := by simp [he]
              have HK2 := hide (show ∀ i, i < k + 1 → (0 ≤ (l i).proc ∧ (l i).proc ≤ wrap64 (-9223372036854775809)) ∧ FromOk l i from fun i hi => by
                by_cases hik : i = k
                · subst hik; exact ⟨hP, .inr ⟨⟨h3, h2.2⟩, he⟩⟩
                · exact HK.out i (by omega))
              clear hrow HR HG HK hP h2 h3 he
              go_wp2
              go_big_quiet (first | exact Calls.quiet_of_same (l1in_to _ _ _ _ _ HL.out) | exact Calls.quiet_of_same (l1in_to _ _ _ _ _ HL2.out))
              go_wp2
              exact ⟨⟨k + 1, by omega, by go_num, HK2, below_drewN hbw2 _⟩, by simp [intOf]; omega⟩
          · have hneg2 : decide ((l k).frm ≥ 0) = false := by simp; omega
            have HK2 := hide (show ∀ i, i < k + 1 → (0 ≤ (l i).proc ∧ (l i).proc ≤ wrap64 (-9223372036854775809)) ∧ FromOk l i from fun i hi => by
              by_cases hik : i = k
              · subst hik; exact ⟨hP, .inl (by omega)⟩
              · exact HK.out i (by omega))
            clear hrow HR HG HK hP h2 h3
            go_wp2
            go_big_quiet (first | exact Calls.quiet_of_same (l1in_to _ _ _ _ _ HL.out) | exact Calls.quiet_of_same (l1in_to _ _ _ _ _ HL2.out))
            go_wp2
            exact ⟨⟨k + 1, by omega, by go_num, HK2, below_drewN hbw2 _⟩, by simp [intOf]; omega⟩
        · have HL2 := hide (show decide ((-1 : Int) ≤ (l k).frm ∧ (l k).frm ≤ (k : Int) - 1) = false from decide_eq_false h2)
          clear hrow HR HG HK hP h2
          go_wp2
          go_big_quiet (first | exact Calls.quiet_of_same (l1in_to _ _ _ _ _ HL.out) | exact Calls.quiet_of_same (l1in_to _ _ _ _ _ HL2.out))
          go_wp2
          go_ret
          exact ⟨rfl, below_drewN hbw2 _⟩
      · have HL := hide (show decide ((0 : Int) ≤ (l k).proc ∧ (l k).proc ≤ wrap64 (-9223372036854775809)) = false from decide_eq_false hP)
        clear hrow HR HG HK hP
        go_wp2
        go_big_quiet (exact Calls.quiet_of_same (l1in_to _ _ _ _ _ HL.out))
        go_wp2
        go_ret
        exact ⟨rfl, below_drewN hbw2 _⟩
    · obtain rfl : k = n := by omega
      clear HR
      clear HG HK
      go_wp2_with fail
      refine (l1in_to _ _ _ false _ (by simp)).mono ?_
      rintro e w2 ⟨rfl, rfl⟩
      go_wp2
      go_ret
      exact ⟨rfl, hbw⟩
theorem spec_good_no (p : Int) (v : Value) (n : Nat) (l : Nat → Ac) (w : World) (hv : ActsOf w v n l) (hm : n ≤ 1048576) (hg : ¬ GoodL p n l) (h1 : -9223372036854775808 ≤ p) (h2 : p ≤ 9223372036854775807) :
    Calls Try.prog 14 #[.int .i64 p, v] w fun e w' => e = .returned (.bool false) ∧ Below w.heap.size w w' := by
  by_cases h : p = -9223372036854775808
  · exact spec_good_no2 p v n l w hv hm hg h
  · exact spec_good_no1 p v n l w hv hm hg (by omega) h2
end Go.Proofs.Ytlbcmlleoncddaa
