/-
  Both texts of GoodEvent return whether each field is within its bounds; nothing that was there is turned. Condition: the table knownKinds reads as the program's text lays it.
-/
import Derived.Test.YtjgopjnkkhkcnaaGreatDoorChecked
import Derived.WalkKit
import Derived.WalkLawsBesides
import Derived.Test.YtjgopjnkkhkcnaaGreatDoorSum
namespace Go.Proofs.YtjgopjnkkhkcnaaGreatDoor
open Go.RowKit M
namespace M
def inB (n lo hi : Int) : Bool := decide (lo ≤ n) && decide (n ≤ hi)
def nb (c : Nat) : Bool := (decide (97 ≤ c) && decide (c ≤ 122)) || (decide (48 ≤ c) && decide (c ≤ 57))
def goodName (l : List UInt8) : Bool := decide (l.length ≤ 12) && l.all (fun c => nb c.toNat)
def goodB (id ver kind : Int) (name : ByteArray) : Bool := inB id 1 1000 && (inB ver 0 1000000 && (inB kind 1 6 && goodName name.data.toList))
abbrev ev (id ver kind : Int) (name : ByteArray) : Value := .agg #[.int .i64 id, .int .i64 ver, .int .i64 kind, .string name]
/-- The table knownKinds reads as the program's text lays it. -/
def KK (w : World) : Prop := ∀ k, k ≤ 6 → w.cell? ⟨3, k, none⟩ = some (.bool (decide (1 ≤ k)))

theorem KK.below {w w' : World} (h : KK w) (hb : Below w.heap.size w w') : KK w' := fun k hk => by
  have hc := h k hk
  have hlt : 3 < w.heap.size := World.block_lt_of_cell? w _ hc
  rw [hb.cell (p := ⟨3, k, none⟩) hlt]; exact hc
theorem KK.alloc {w : World} (h : KK w) (o : Obj) : KK (w.alloc o) := h.below ((Below.refl _ w).alloc (Nat.le_refl _) o)
theorem KK.drew {w : World} (h : KK w) : KK w.drew := h.below (Below.refl _ w).drew

theorem ret_bool {a b : Bool} (h : a = b) : Ending.returned (.bool a) = .returned (.bool b) := by rw [h]
theorem all_take_snoc (s : ByteArray) (k : Nat) (h : k < s.size) (ha : (s.data.toList.take k).all (fun c => nb c.toNat) = true) :
    (s.data.toList.take (k + 1)).all (fun c => nb c.toNat) = nb s[k].toNat := by
  rw [take_snoc s k h, List.all_append, ha]; simp
theorem all_false (s : ByteArray) (k : Nat) (h : k < s.size) (hn : nb s[k].toNat = false) : s.data.toList.all (fun c => nb c.toNat) = false := by
  rw [List.all_eq_false]
  refine ⟨s[k], ?_, by simp [hn]⟩
  show s.data[k] ∈ s.data.toList
  exact Array.getElem_mem_toList h
theorem good_of_bad (s : ByteArray) (k : Nat) (h : k < s.size) (hn : nb s[k].toNat = false) : goodName s.data.toList = false := by
  unfold goodName; rw [all_false s k h hn, Bool.and_false]
end M

theorem spec_in (n lo hi : Int) (w : World) :
    Calls Tryz.prog 78 #[.int .i64 n, .int .i64 lo, .int .i64 hi] w fun e w' => e = .returned (.bool (inB n lo hi)) ∧ w' = w := by
  by_cases h1 : lo ≤ n
  · by_cases h2 : n ≤ hi
    · go_enter Tryz.func78, Tryz.ntmps78
      go_wp2
      go_ret
      exact ⟨ret_bool (by simp [inB, h1, h2]), rfl⟩
    · go_enter Tryz.func78, Tryz.ntmps78
      go_wp2
      go_ret
      exact ⟨ret_bool (by simp [inB, h2]), rfl⟩
  · have hd : decide (lo ≤ n) = false := by simpa using h1
    go_enter Tryz.func78, Tryz.ntmps78
    go_wp2
    go_ret
    exact ⟨ret_bool (by simp [inB, hd]), rfl⟩

theorem impl_in (n lo hi : Int) (w : World) :
    Calls Tryz.prog 138 #[.int .i64 n, .int .i64 lo, .int .i64 hi] w fun e w' => e = .returned (.bool (inB n lo hi)) ∧ w' = w := by
  by_cases h1 : lo ≤ n
  · by_cases h2 : n ≤ hi
    · go_enter Tryz.func138, Tryz.ntmps138
      go_wp2
      go_ret
      exact ⟨ret_bool (by simp [inB, h1, h2]), rfl⟩
    · go_enter Tryz.func138, Tryz.ntmps138
      go_wp2
      go_ret
      exact ⟨ret_bool (by simp [inB, h2]), rfl⟩
  · have hd : decide (lo ≤ n) = false := by simpa using h1
    go_enter Tryz.func138, Tryz.ntmps138
    go_wp2
    go_ret
    exact ⟨ret_bool (by simp [inB, hd]), rfl⟩

set_option maxHeartbeats 400000 in
theorem impl_nb (c : Nat) (w : World) :
    Calls Tryz.prog 223 #[.int .u8 (c : Int)] w fun e w' => e = .returned (.bool (nb c)) ∧ w' = w := by
  rcases (show (97 ≤ c ∧ c ≤ 122) ∨ (48 ≤ c ∧ c ≤ 57) ∨ c < 48 ∨ (57 < c ∧ c < 97) ∨ 122 < c by omega) with h | h | h | h | h
  all_goals
    go_enter Tryz.func223, Tryz.ntmps223
    go_wp2
    all_goals
      go_ret
      exact ⟨ret_bool (by rw [Bool.eq_iff_iff]; simp [nb]; omega), rfl⟩

set_option maxHeartbeats 400000 in
theorem impl_name (s : ByteArray) (w : World) (hs : s.size ≤ maxLen) :
    Calls Tryz.prog 178 #[.string s] w fun e w' => e = .returned (.bool (goodName s.data.toList)) ∧ w' = w := by
  unfold maxLen at hs
  by_cases h12 : s.size ≤ 12
  · have hgt : ¬ (12 : Int) < (s.size : Int) := by omega
    go_enter Tryz.func178, Tryz.ntmps178
    go_wp2
    go_loop [9] (fun i => ∃ k : Nat, k ≤ s.size ∧ i = .int .i64 k ∧ Hid ((s.data.toList.take k).all (fun c => nb c.toNat) = true)) (fun i => s.size - (intOf i).toNat)
    case atStart => exact ⟨0, Nat.zero_le _, rfl, hide rfl⟩
    case round =>
      obtain ⟨k, hk, rfl, HA⟩ := hrel
      by_cases hlt : k < s.size
      · cases hn : nb s[k].toNat
        · go_wp2_with (go_at_call 223; refine (impl_nb _ _).mono ?_; rintro e w' ⟨rfl, rfl⟩; rw [hn])
          go_ret
          exact ⟨ret_bool (good_of_bad s k hlt hn).symm, rfl⟩
        · go_wp2_with (go_at_call 223; refine (impl_nb _ _).mono ?_; rintro e w' ⟨rfl, rfl⟩; rw [hn])
          go_round
          case rel => exact ⟨k + 1, by omega, by go_num, hide ((all_take_snoc s k hlt HA.out).trans hn)⟩
          case measure => simp [intOf]; omega
      · go_wp2
        go_ret
        have hA := HA.out
        rw [List.take_of_length_le (by simp; omega)] at hA
        exact ⟨ret_bool (by unfold goodName; rw [hA]; simp; omega), rfl⟩
  · have hgt : (12 : Int) < (s.size : Int) := by omega
    go_enter Tryz.func178, Tryz.ntmps178
    go_wp2
    go_ret
    exact ⟨ret_bool (by unfold goodName; rw [decide_eq_false (by simp; omega)]; rfl), rfl⟩

set_option maxHeartbeats 800000 in
theorem spec_name (s : ByteArray) (w : World) (hs : s.size ≤ maxLen) :
    Calls Tryz.prog 108 #[.string s] w fun e w' => e = .returned (.bool (goodName s.data.toList)) ∧ w' = w := by
  unfold maxLen at hs
  go_enter Tryz.func108, Tryz.ntmps108
  go_wp2
  go_loop [3] (fun i => ∃ k : Nat, k ≤ s.size ∧ i = .int .i64 k ∧ Hid ((s.data.toList.take k).all (fun c => nb c.toNat) = true)) (fun i => s.size - (intOf i).toNat)
  case atStart => exact ⟨0, Nat.zero_le _, rfl, hide rfl⟩
  case round =>
    obtain ⟨k, hk, rfl, HA⟩ := hrel
    by_cases hlt : k < s.size
    · have hs1 := s[k].toNat_lt
      have hsn := all_take_snoc s k hlt HA.out
      have hbd := good_of_bad s k hlt
      have HN := hide (And.intro hsn hbd)
      clear hsn hbd
      generalize hc : s[k].toNat = c at *
      rcases (show (97 ≤ c ∧ c ≤ 122) ∨ (48 ≤ c ∧ c ≤ 57) ∨ c < 48 ∨ (57 < c ∧ c < 97) ∨ 122 < c by omega) with h | h | h | h | h
      · obtain ⟨h1, h2⟩ := h
        have h3 : (97 : Int) ≤ (c : Int) := by omega
        have h4 : (c : Int) ≤ 122 := by omega
        go_wp2
        go_round
        case rel => exact ⟨k + 1, by omega, by go_num, hide (HN.out.1.trans (by simp [nb]; omega))⟩
        case measure => simp [intOf]; omega
      · obtain ⟨h1, h2⟩ := h
        have h3 : decide ((97 : Int) ≤ (c : Int)) = false := by simp; omega
        have h4 : (48 : Int) ≤ (c : Int) := by omega
        have h5 : (c : Int) ≤ 57 := by omega
        go_wp2
        go_round
        case rel => exact ⟨k + 1, by omega, by go_num, hide (HN.out.1.trans (by simp [nb]; omega))⟩
        case measure => simp [intOf]; omega
      · have h3 : decide ((97 : Int) ≤ (c : Int)) = false := by simp; omega
        have h4 : decide ((48 : Int) ≤ (c : Int)) = false := by simp; omega
        go_wp2
        go_ret
        exact ⟨ret_bool (HN.out.2 (by simp [nb]; omega)).symm, rfl⟩
      · obtain ⟨h1, h2⟩ := h
        have h3 : decide ((97 : Int) ≤ (c : Int)) = false := by simp; omega
        have h4 : (48 : Int) ≤ (c : Int) := by omega
        have h5 : ¬ (c : Int) ≤ 57 := by omega
        go_wp2
        go_ret
        exact ⟨ret_bool (HN.out.2 (by simp [nb]; omega)).symm, rfl⟩
      · have h3 : (97 : Int) ≤ (c : Int) := by omega
        have h4 : decide ((c : Int) ≤ 122) = false := by simp; omega
        have h5 : (48 : Int) ≤ (c : Int) := by omega
        have h6 : ¬ (c : Int) ≤ 57 := by omega
        go_wp2
        go_ret
        exact ⟨ret_bool (HN.out.2 (by simp [nb]; omega)).symm, rfl⟩
    · go_wp2
      go_ret
      have hA := HA.out
      rw [List.take_of_length_le (by simp; omega)] at hA
      exact ⟨ret_bool (by unfold goodName; rw [hA]; simp; omega), rfl⟩

set_option maxHeartbeats 400000 in
theorem impl_kind (kind : Int) (w : World) (hk : KK w) :
    Calls Tryz.prog 177 #[.int .i64 kind] w fun e w' => e = .returned (.bool (inB kind 1 6)) ∧ w' = w := by
  by_cases hin : 0 ≤ kind ∧ kind ≤ 6
  · have h06 : inB kind 0 6 = true := by simp [inB, hin]
    rcases (show kind = 0 ∨ kind = 1 ∨ kind = 2 ∨ kind = 3 ∨ kind = 4 ∨ kind = 5 ∨ kind = 6 by omega) with rfl | rfl | rfl | rfl | rfl | rfl | rfl
    · have hc := hk 0 (by omega)
      go_enter Tryz.func177, Tryz.ntmps177
      go_wp2_with (go_at_call 138; refine (impl_in _ _ _ _).mono ?_; rintro e w' ⟨rfl, rfl⟩; rw [h06])
      go_ret
      exact ⟨rfl, rfl⟩
    · have hc := hk 1 (by omega)
      go_enter Tryz.func177, Tryz.ntmps177
      go_wp2_with (go_at_call 138; refine (impl_in _ _ _ _).mono ?_; rintro e w' ⟨rfl, rfl⟩; rw [h06])
      go_ret
      exact ⟨rfl, rfl⟩
    · have hc := hk 2 (by omega)
      go_enter Tryz.func177, Tryz.ntmps177
      go_wp2_with (go_at_call 138; refine (impl_in _ _ _ _).mono ?_; rintro e w' ⟨rfl, rfl⟩; rw [h06])
      go_ret
      exact ⟨rfl, rfl⟩
    · have hc := hk 3 (by omega)
      go_enter Tryz.func177, Tryz.ntmps177
      go_wp2_with (go_at_call 138; refine (impl_in _ _ _ _).mono ?_; rintro e w' ⟨rfl, rfl⟩; rw [h06])
      go_ret
      exact ⟨rfl, rfl⟩
    · have hc := hk 4 (by omega)
      go_enter Tryz.func177, Tryz.ntmps177
      go_wp2_with (go_at_call 138; refine (impl_in _ _ _ _).mono ?_; rintro e w' ⟨rfl, rfl⟩; rw [h06])
      go_ret
      exact ⟨rfl, rfl⟩
    · have hc := hk 5 (by omega)
      go_enter Tryz.func177, Tryz.ntmps177
      go_wp2_with (go_at_call 138; refine (impl_in _ _ _ _).mono ?_; rintro e w' ⟨rfl, rfl⟩; rw [h06])
      go_ret
      exact ⟨rfl, rfl⟩
    · have hc := hk 6 (by omega)
      go_enter Tryz.func177, Tryz.ntmps177
      go_wp2_with (go_at_call 138; refine (impl_in _ _ _ _).mono ?_; rintro e w' ⟨rfl, rfl⟩; rw [h06])
      go_ret
      exact ⟨rfl, rfl⟩
  · have h06 : inB kind 0 6 = false := by unfold inB; rw [Bool.and_eq_false_iff]; simp; omega
    have h16 : inB kind 1 6 = false := by unfold inB; rw [Bool.and_eq_false_iff]; simp; omega
    go_enter Tryz.func177, Tryz.ntmps177
    go_wp2_with (go_at_call 138; refine (impl_in _ _ _ _).mono ?_; rintro e w' ⟨rfl, rfl⟩; rw [h06])
    go_ret
    exact ⟨ret_bool h16.symm, rfl⟩

set_option maxHeartbeats 800000 in
theorem spec_good (id ver kind : Int) (name : ByteArray) (w : World) (hn : name.size ≤ maxLen) :
    Calls Tryz.prog 166 #[ev id ver kind name] w fun e w' => e = .returned (.bool (goodB id ver kind name)) ∧ Below w.heap.size w w' := by
  have hb := (Below.refl w.heap.size w).alloc (Nat.le_refl _)
  unfold goodB
  cases h1 : inB id 1 1000
  · go_enter Tryz.func166, Tryz.ntmps166
    go_wp2_with (go_at_call 78; refine (spec_in _ _ _ _).mono ?_; rintro e w' ⟨rfl, rfl⟩; rw [h1])
    go_ret
    exact ⟨rfl, hb _⟩
  cases h2 : inB ver 0 1000000
  · go_enter Tryz.func166, Tryz.ntmps166
    go_wp2_with (go_at_call 78; refine (spec_in _ _ _ _).mono ?_; rintro e w' ⟨rfl, rfl⟩; first | rw [h1] | rw [h2])
    go_ret
    exact ⟨rfl, hb _⟩
  cases h3 : inB kind 1 6
  · go_enter Tryz.func166, Tryz.ntmps166
    go_wp2_with (go_at_call 78; refine (spec_in _ _ _ _).mono ?_; rintro e w' ⟨rfl, rfl⟩; first | rw [h1] | rw [h2] | rw [h3])
    go_ret
    exact ⟨rfl, hb _⟩
  · go_enter Tryz.func166, Tryz.ntmps166
    go_wp2_with (first
      | (go_at_call 78; refine (spec_in _ _ _ _).mono ?_; rintro e w' ⟨rfl, rfl⟩; first | rw [h1] | rw [h2] | rw [h3])
      | (go_at_call 108; refine (spec_name _ _ hn).mono ?_; rintro e w' ⟨rfl, rfl⟩))
    go_ret
    exact ⟨rfl, hb _⟩

set_option maxHeartbeats 800000 in
theorem impl_good (id ver kind : Int) (name : ByteArray) (w : World) (hn : name.size ≤ maxLen) (hk : KK w) :
    Calls Tryz.prog 217 #[ev id ver kind name] w fun e w' => e = .returned (.bool (goodB id ver kind name)) ∧ Below w.heap.size w w' := by
  have hb := (Below.refl w.heap.size w).alloc (Nat.le_refl _)
  unfold goodB
  cases h1 : inB id 1 1000
  · go_enter Tryz.func217, Tryz.ntmps217
    go_wp2_with (go_at_call 138; refine (impl_in _ _ _ _).mono ?_; rintro e w' ⟨rfl, rfl⟩; rw [h1])
    go_ret
    exact ⟨rfl, hb _⟩
  cases h2 : inB ver 0 1000000
  · go_enter Tryz.func217, Tryz.ntmps217
    go_wp2_with (go_at_call 138; refine (impl_in _ _ _ _).mono ?_; rintro e w' ⟨rfl, rfl⟩; first | rw [h1] | rw [h2])
    go_ret
    exact ⟨rfl, hb _⟩
  cases h3 : inB kind 1 6
  · go_enter Tryz.func217, Tryz.ntmps217
    go_wp2_with (first
      | (go_at_call 138; refine (impl_in _ _ _ _).mono ?_; rintro e w' ⟨rfl, rfl⟩; first | rw [h1] | rw [h2])
      | (go_at_call 177; refine (impl_kind _ _ (hk.alloc _)).mono ?_; rintro e w' ⟨rfl, rfl⟩; rw [h3]))
    go_ret
    exact ⟨rfl, hb _⟩
  · go_enter Tryz.func217, Tryz.ntmps217
    go_wp2_with (first
      | (go_at_call 138; refine (impl_in _ _ _ _).mono ?_; rintro e w' ⟨rfl, rfl⟩; first | rw [h1] | rw [h2])
      | (go_at_call 177; refine (impl_kind _ _ (hk.alloc _)).mono ?_; rintro e w' ⟨rfl, rfl⟩; rw [h3])
      | (go_at_call 178; refine (impl_name _ _ hn).mono ?_; rintro e w' ⟨rfl, rfl⟩))
    go_ret
    exact ⟨rfl, hb _⟩
end Go.Proofs.YtjgopjnkkhkcnaaGreatDoor
