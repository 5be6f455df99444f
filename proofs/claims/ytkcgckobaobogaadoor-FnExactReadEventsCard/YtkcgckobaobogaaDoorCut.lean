/-
  The specification's helpers that cut a text at its first point and read a number of at most nine digits.
-/
import Derived.Test.YtkcgckobaobogaaDoorReadMath
namespace Go.Proofs.YtkcgckobaobogaaDoor
open Go.RowKit M
namespace M
theorem cut_at (s : ByteArray) (k : Nat) (h : k < s.size) (ha : (s.data.toList.take k).all nd = true) (h46 : s[k].toNat = 46) :
    (⟨(cutA s.data.toList).toArray⟩ : ByteArray) = s.extract 0 k ∧ (⟨(cutB s.data.toList).toArray⟩ : ByteArray) = s.extract (k + 1) s.size ∧ hasDot s.data.toList = true := by
  have hk : s[k] = 46 := by
    have e : s[k] = UInt8.ofNat s[k].toNat := by simp
    rw [e, h46]; rfl
  have hl : s.data.toList = s.data.toList.take k ++ 46 :: s.data.toList.drop (k + 1) := by
    have hkl : k < s.data.toList.length := by simpa using h
    have e := List.take_append_drop k s.data.toList
    rw [List.drop_eq_getElem_cons hkl] at e
    have e2 : s.data.toList[k] = 46 := by rw [Array.getElem_toList]; exact hk
    rw [e2] at e
    exact e.symm
  obtain ⟨c1, c2, c3⟩ := cut_of (s.data.toList.take k) (s.data.toList.drop (k + 1)) (by simpa [List.all_eq_true] using ha)
  rw [← hl] at c1 c2 c3
  refine ⟨?_, ?_, c3⟩
  · apply ba_eq; rw [ba_mk, c1, Lib.extract_data]; simp
  · apply ba_eq; rw [ba_mk, c2, Lib.extract_data]
    rw [List.take_of_length_le (by simp)]
theorem cut_end (s : ByteArray) (ha : s.data.toList.all nd = true) : (⟨(cutA s.data.toList).toArray⟩ : ByteArray) = s ∧ (⟨(cutB s.data.toList).toArray⟩ : ByteArray) = ByteArray.empty ∧ hasDot s.data.toList = false := by
  rcases index_cut s.data.toList with ⟨_, e2, e3, e4⟩ | ⟨_, _, e3⟩
  · exact ⟨by apply ba_eq; rw [ba_mk, e3], by apply ba_eq; rw [ba_mk, e4]; rfl, e2⟩
  · rw [List.all_eq_true] at ha
    have := ha 46 (by rw [e3]; simp)
    exact absurd this (by decide)
theorem nd_take (s : ByteArray) (k : Nat) (h : k < s.size) (ha : (s.data.toList.take k).all nd = true) (hn : s[k].toNat ≠ 46) : (s.data.toList.take (k + 1)).all nd = true := by
  rw [take_snoc s k h, List.all_append, ha]
  simp only [List.all_cons, List.all_nil, Bool.and_true, Bool.true_and, nd, bne_iff_ne, ne_eq]
  intro e; rw [e] at hn; exact hn rfl
end M

set_option maxHeartbeats 800000 in
theorem spec_cut (s : ByteArray) (w : World) (hs : s.size ≤ maxLen) :
    Calls Tryd.prog 33 #[.string s, .int .u8 46] w fun e w' => e = .returned (.tuple #[.string ⟨(cutA s.data.toList).toArray⟩, .string ⟨(cutB s.data.toList).toArray⟩, .bool (hasDot s.data.toList)]) ∧ Below w.heap.size w w' := by
  unfold maxLen at hs
  go_enter Tryd.func33, Tryd.ntmps33
  go_wp2
  go_loop [7] (fun i => ∃ k : Nat, k ≤ s.size ∧ i = .int .i64 k ∧ Hid ((s.data.toList.take k).all nd = true)) (fun i => s.size - (intOf i).toNat)
  case atStart => exact ⟨0, Nat.zero_le _, rfl, hide rfl⟩
  case round =>
    obtain ⟨k, hk, rfl, HA⟩ := hrel
    by_cases hlt : k < s.size
    · by_cases h46 : s[k].toNat = 46
      · have HC := hide (cut_at s k hlt HA.out h46)
        have hb : (((s[k].toNat : Nat) : Int) == 46) = true := by rw [h46]; rfl
        clear h46
        have q1 : IntKind.i64.wrap ((k : Int) + 1) = (k : Int) + 1 := by rw [IntKind.wrap_i64]; omega
        have ka : ∀ w, (Instr.slice 9 (.string s) none (some (.int .i64 (k : Int))) none).run Tryd.prog w = .ok (.string (s.extract 0 k)) w := fun w => by
          have h := run_slice_string_h (P := Tryd.prog) (w := w) (t := 9) (s := s) Tryd.underlying9 .i64 (k : Int) (by omega) (by omega)
          rw [h]; simp
        have kb : ∀ w, (Instr.slice 9 (.string s) (some (.int .i64 ((k : Int) + 1))) none none).run Tryd.prog w = .ok (.string (s.extract (k + 1) s.size)) w := fun w => by
          have h := run_slice_string_l (P := Tryd.prog) (w := w) (t := 9) (s := s) Tryd.underlying9 .i64 ((k : Int) + 1) (by omega) (by omega)
          rw [h]; congr 3
        go_wp2
        go_quiet (fail)
        go_wp2
        go_ret3
        obtain ⟨c1, c2, c3⟩ := HC.out
        exact ⟨by rw [c1, c2, c3]; rfl, ⟨rfl, rfl, rfl, Nat.le_refl _, fun _ _ => rfl⟩⟩
      · have hb : (((s[k].toNat : Nat) : Int) == 46) = false := by rw [beq_eq_false_iff_ne]; omega
        have HS := hide (nd_take s k hlt HA.out h46)
        clear h46
        go_wp2
        go_round
        case rel => exact ⟨k + 1, by omega, by go_num, HS⟩
        case measure => simp [intOf]; omega
    · go_wp2
      go_ret3
      have hA := HA.out
      rw [List.take_of_length_le (by simp; omega)] at hA
      obtain ⟨c1, c2, c3⟩ := cut_end s hA
      exact ⟨by rw [c1, c2, c3]; rfl, Below.refl _ _⟩

namespace M
theorem dg_take (s : ByteArray) (k : Nat) (h : k < s.size) (ha : (s.data.toList.take k).all dg = true) (h1 : 48 ≤ s[k].toNat) (h2 : s[k].toNat ≤ 57) : (s.data.toList.take (k + 1)).all dg = true := by
  rw [take_snoc s k h, List.all_append, ha]
  simp only [List.all_cons, List.all_nil, Bool.and_true, Bool.true_and, dg, Bool.and_eq_true, decide_eq_true_eq]
  exact ⟨h1, h2⟩
theorem val_take (s : ByteArray) (k : Nat) (h : k < s.size) : val 0 (s.data.toList.take (k + 1)) = 10 * val 0 (s.data.toList.take k) + (s[k].toNat - 48) := by
  rw [take_snoc s k h, val_snoc]
theorem dg_bad (s : ByteArray) (k : Nat) (h : k < s.size) (hn : s[k].toNat < 48 ∨ 57 < s[k].toNat) : intL s.data.toList = -1 := by
  have hf : s.data.toList.all dg = false := by
    rw [List.all_eq_false]
    refine ⟨s[k], ?_, ?_⟩
    · show s.data[k] ∈ s.data.toList
      exact Array.getElem_mem_toList h
    · unfold dg; simp; omega
  unfold intL okInt
  rw [hf]; simp
theorem head_at (s : ByteArray) (h : 0 < s.size) : s.data.toList.head? = some s[0] := by
  have hl : 0 < s.data.toList.length := by simpa using h
  rw [List.head?_eq_getElem?, List.getElem?_eq_getElem hl, Array.getElem_toList]; rfl
theorem int_zero (s : ByteArray) (h : 0 < s.size) (h48 : s[0].toNat = 48) (h1 : 1 < s.size) : intL s.data.toList = -1 := by
  have hk : s[0] = 48 := by
    have e : s[0] = UInt8.ofNat s[0].toNat := by simp
    rw [e, h48]; rfl
  unfold intL okInt
  rw [head_at s h, hk]
  simp
  intro _ _ h3
  omega
theorem int_size (s : ByteArray) (h : s.size = 0 ∨ 9 < s.size) : intL s.data.toList = -1 := by
  unfold intL okInt
  have e : s.data.toList.length = s.size := by simp
  rw [e]
  simp
  intro a b
  omega
theorem int_ok (s : ByteArray) (h : 0 < s.size) (h9 : s.size ≤ 9) (hz : s[0].toNat ≠ 48 ∨ s.size = 1) (ha : s.data.toList.all dg = true) : intL s.data.toList = (val 0 s.data.toList : Nat) := by
  have e : s.data.toList.length = s.size := by simp
  have hok : okInt s.data.toList = true := by
    unfold okInt
    rw [ha, head_at s h, e]
    simp only [Bool.and_eq_true, decide_eq_true_eq, Bool.not_eq_true', Bool.and_eq_false_iff, and_true]
    refine ⟨⟨h, h9⟩, ?_⟩
    rcases hz with hz | hz
    · left
      simp only [beq_eq_false_iff_ne, ne_eq, Option.some.injEq]
      intro e; rw [e] at hz; exact hz rfl
    · right; simp; omega
  unfold intL
  rw [if_pos hok]
end M

set_option maxHeartbeats 1000000 in
theorem spec_int (s : ByteArray) (w : World) (hs : s.size ≤ maxLen) :
    Calls Tryd.prog 34 #[.string s] w fun e w' => e = .returned (.int .i64 (intL s.data.toList)) ∧ w' = w := by
  unfold maxLen at hs
  by_cases h19 : 1 ≤ s.size ∧ s.size ≤ 9
  · obtain ⟨h1, h9⟩ := h19
    have hin : inB (s.size : Int) 1 9 = true := by simp [inB]; omega
    by_cases hz : s[0].toNat = 48 ∧ 1 < s.size
    · obtain ⟨h48, hgt⟩ := hz
      have hi := int_zero s h1 h48 hgt
      have hb : (((s[0].toNat : Nat) : Int) == 48) = true := by rw [h48]; rfl
      have hg : (1 : Int) < (s.size : Int) := by omega
      have h0 : (0 : Int) < (s.size : Int) := by omega
      clear h48
      go_enter Tryd.func34, Tryd.ntmps34
      go_wp2_with (go_at_call 26; refine (spec_in _ _ _ _).mono ?_; rintro e w' ⟨rfl, rfl⟩; rw [hin])
      go_ret
      exact ⟨ret_int hi.symm, rfl⟩
    · have hz' : s[0].toNat ≠ 48 ∨ s.size = 1 := by omega
      have h0 : (0 : Int) < (s.size : Int) := by omega
      have key : ∀ b : Bool, ((((s[0].toNat : Nat) : Int) == 48) = b) → (b = true → ¬ (1 : Int) < (s.size : Int)) →
          Calls Tryd.prog 34 #[.string s] w fun e w' => e = .returned (.int .i64 (intL s.data.toList)) ∧ w' = w := by
        intro b hb hbg
        have HO := hide (int_ok s h1 h9 hz')
        clear hz hz'
        cases b
        all_goals
          try have hg : ¬ (1 : Int) < (s.size : Int) := hbg rfl
          clear hbg
          go_enter Tryd.func34, Tryd.ntmps34
          go_wp2_with (go_at_call 26; refine (spec_in _ _ _ _).mono ?_; rintro e w' ⟨rfl, rfl⟩; rw [hin])
          go_loop [3, 4] (fun x i => ∃ k n : Nat, k ≤ s.size ∧ i = .int .i64 k ∧ x = .int .i64 n ∧ Hid ((s.data.toList.take k).all dg = true ∧ val 0 (s.data.toList.take k) = n)) (fun _ i => s.size - (intOf i).toNat)
          case atStart => exact ⟨0, 0, Nat.zero_le _, rfl, rfl, hide ⟨rfl, rfl⟩⟩
          case round =>
            obtain ⟨k, n, hk, rfl, rfl, HA⟩ := hrel
            by_cases hlt : k < s.size
            · have hn8 : n < 100000000 := by
                obtain ⟨q1, q2⟩ := HA.out
                rw [← q2]
                exact val_lt8 _ (by simpa [List.all_eq_true] using q1) (by rw [List.length_take]; omega)
              have hs1 := s[k].toNat_lt
              have HT := hide (And.intro (dg_take s k hlt HA.out.1) (And.intro (val_take s k hlt) (dg_bad s k hlt)))
              generalize hc : s[k].toNat = c at *
              rcases (show c < 48 ∨ 57 < c ∨ (48 ≤ c ∧ c ≤ 57) by omega) with h | h | h
              · have h3 : (c : Int) < 48 := by omega
                go_wp2
                go_ret
                exact ⟨ret_int (HT.out.2.2 (.inl h)).symm, rfl⟩
              · have h3 : decide ((c : Int) < 48) = false := by simp; omega
                have h4 : (57 : Int) < (c : Int) := by omega
                go_wp2
                go_ret
                exact ⟨ret_int (HT.out.2.2 (.inr h)).symm, rfl⟩
              · obtain ⟨h5, h6⟩ := h
                have h3 : decide ((c : Int) < 48) = false := by simp; omega
                have h4 : ¬ (57 : Int) < (c : Int) := by omega
                have h7 : (48 : Int) ≤ (c : Int) := by omega
                go_wp2
                go_round
                case rel => exact ⟨k + 1, 10 * n + (c - 48), by omega, by go_num, by go_num, hide ⟨HT.out.1 h5 h6, by rw [HT.out.2.1, HA.out.2]⟩⟩
                case measure => simp [intOf]; omega
            · go_wp2
              go_ret
              obtain ⟨q1, q2⟩ := HA.out
              rw [List.take_of_length_le (by simp; omega)] at q1 q2
              exact ⟨ret_int (by rw [HO.out q1, q2]), rfl⟩
      cases hb : (((s[0].toNat : Nat) : Int) == 48) with
      | false => exact key false hb (fun e => by cases e)
      | true =>
        have h48 : s[0].toNat = 48 := by have := beq_iff_eq.1 hb; omega
        exact key true hb (fun _ => by omega)
  · have hin : inB (s.size : Int) 1 9 = false := by unfold inB; rw [Bool.and_eq_false_iff]; simp; omega
    have hi := int_size s (by omega)
    go_enter Tryd.func34, Tryd.ntmps34
    go_wp2_with (go_at_call 26; refine (spec_in _ _ _ _).mono ?_; rintro e w' ⟨rfl, rfl⟩; rw [hin])
    go_ret
    exact ⟨ret_int hi.symm, rfl⟩
end Go.Proofs.YtkcgckobaobogaaDoor
