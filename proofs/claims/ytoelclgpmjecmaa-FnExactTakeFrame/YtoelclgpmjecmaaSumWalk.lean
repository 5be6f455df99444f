/-
  Both texts of SumOf, the program's and the specification's, return Fletcher's sum of the bytes of s and leave the world as it was, for every string.
-/
import Derived.Test.YtoelclgpmjecmaaChecked
import Derived.WalkKit
import Derived.Test.YtoelclgpmjecmaaSum
namespace Go.Proofs.Ytoelclgpmjecmaa
open Go.RowKit M
set_option maxHeartbeats 400000 in
theorem spec_sum (s : ByteArray) (w : World) (hs : s.size ≤ maxLen) :
    Calls Try.prog 7 #[.string s] w fun e w' => e = .returned (.int .i64 (sumOf s.data.toList : Nat)) ∧ w' = w := by
  unfold maxLen at hs
  go_enter Try.func7, Try.ntmps7
  go_wp2
  go_loop [3, 4, 5] (fun x y i => ∃ k a b : Nat, k ≤ s.size ∧ i = .int .i64 k ∧ x = .int .i64 a ∧ y = .int .i64 b ∧ a < 255 ∧ b < 255 ∧ Hid (fl (s.data.toList.take k) = (a, b))) (fun _ _ i => s.size - (intOf i).toNat)
  case atStart => exact ⟨0, 0, 0, Nat.zero_le _, rfl, rfl, rfl, by decide, by decide, hide rfl⟩
  case round =>
    obtain ⟨k, a, b, hk, rfl, rfl, rfl, ha, hb, HE⟩ := hrel
    by_cases hlt : k < s.size
    · have hc : s[k].toNat < 256 := s[k].toNat_lt
      go_wp2
      go_round
      case rel => exact ⟨k + 1, (a + s[k].toNat) % 255, (b + (a + s[k].toNat) % 255) % 255, by omega, by go_num, by go_num, by go_num, by omega, by omega, hide (fl_take_succ s k a b hlt HE.out)⟩
      case measure => simp [intOf]; omega
    · go_wp2
      go_ret
      have hE := HE.out
      rw [List.take_of_length_le (by simp; omega)] at hE
      exact ⟨ret_int (by unfold sumOf; rw [hE]; omega), rfl⟩
set_option maxHeartbeats 400000 in
theorem impl_sum (s : ByteArray) (w : World) (hs : s.size ≤ maxLen) :
    Calls Try.prog 8 #[.string s] w fun e w' => e = .returned (.int .i64 (sumOf s.data.toList : Nat)) ∧ w' = w := by
  unfold maxLen at hs
  go_enter Try.func8, Try.ntmps8
  go_wp2
  go_loop [3, 4, 8] (fun x y i => ∃ k a b : Nat, k ≤ s.size ∧ i = .int .i64 k ∧ x = .int .i64 a ∧ y = .int .i64 b ∧ a < 255 ∧ b < 255 ∧ Hid (fl (s.data.toList.take k) = (a, b))) (fun _ _ i => s.size - (intOf i).toNat)
  case atStart => exact ⟨0, 0, 0, Nat.zero_le _, rfl, rfl, rfl, by decide, by decide, hide rfl⟩
  case round =>
    obtain ⟨k, a, b, hk, rfl, rfl, rfl, ha, hb, HE⟩ := hrel
    by_cases hlt : k < s.size
    · have hc : s[k].toNat < 256 := s[k].toNat_lt
      go_wp2
      go_round
      case rel => exact ⟨k + 1, (a + s[k].toNat) % 255, (b + (a + s[k].toNat) % 255) % 255, by omega, by go_num, by go_num, by go_num, by omega, by omega, hide (fl_take_succ s k a b hlt HE.out)⟩
      case measure => simp [intOf]; omega
    · go_wp2
      go_ret
      have hE := HE.out
      rw [List.take_of_length_le (by simp; omega)] at hE
      exact ⟨ret_int (by unfold sumOf; rw [hE]; omega), rfl⟩
end Go.Proofs.Ytoelclgpmjecmaa
