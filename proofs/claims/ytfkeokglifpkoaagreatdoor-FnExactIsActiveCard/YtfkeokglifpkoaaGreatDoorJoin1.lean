/-
  Texts that follow one another, joined: Sum, Good, Laid, JoinF, JoinP.
-/
import Derived.WalkKit
import Derived.Test.YtfkeokglifpkoaaGreatDoorChecked
import Derived.WalkLawsBesides
import Derived.Test.YtfkeokglifpkoaaGreatDoorRows
import Derived.Lib.LaidTab
import Derived.JoinedCond
import Derived.ProofKit
/-
  Plain mathematics of chapter 1's sum: Fletcher's two sums over a list of bytes. No conditions.
-/
namespace Go.Proofs.YtfkeokglifpkoaaGreatDoor.M

def step (p : Nat × Nat) (c : UInt8) : Nat × Nat := ((p.1 + c.toNat) % 255, (p.2 + (p.1 + c.toNat) % 255) % 255)
def fl (l : List UInt8) : Nat × Nat := l.foldl step (0, 0)
def sumOf (l : List UInt8) : Nat := 256 * (fl l).2 + (fl l).1

theorem fl_snoc (l : List UInt8) (c : UInt8) : fl (l ++ [c]) = step (fl l) c := by
  unfold fl; rw [List.foldl_append]; rfl

theorem fl_bd (l : List UInt8) : (fl l).1 < 255 ∧ (fl l).2 < 255 := by
  suffices h : ∀ (l : List UInt8) (p : Nat × Nat), p.1 < 255 ∧ p.2 < 255 → (l.foldl step p).1 < 255 ∧ (l.foldl step p).2 < 255 from
    h l (0, 0) ⟨by decide, by decide⟩
  intro l
  induction l with
  | nil => intro p h; exact h
  | cons c r ih => intro p _; rw [List.foldl_cons]; exact ih _ ⟨Nat.mod_lt _ (by decide), Nat.mod_lt _ (by decide)⟩

theorem sumOf_bd (l : List UInt8) : sumOf l < 65536 := by
  have := fl_bd l; unfold sumOf; omega

theorem take_snoc (s : ByteArray) (k : Nat) (h : k < s.size) : s.data.toList.take (k + 1) = s.data.toList.take k ++ [s[k]] := by
  rw [List.take_succ_eq_append_getElem (by simpa using h)]; rfl

theorem fl_take_succ (s : ByteArray) (k a b : Nat) (h : k < s.size) (e : fl (s.data.toList.take k) = (a, b)) :
    fl (s.data.toList.take (k + 1)) = ((a + s[k].toNat) % 255, (b + (a + s[k].toNat) % 255) % 255) := by
  rw [take_snoc s k h, fl_snoc, e]; rfl

open Go.RowKit in
theorem hide {p : Prop} (h : p) : Hid p := h
theorem ret_int {k : IntKind} {a b : Int} (h : a = b) : Ending.returned (.int k a) = .returned (.int k b) := by rw [h]
end Go.Proofs.YtfkeokglifpkoaaGreatDoor.M

/-
  Both texts of GoodEvent return whether each field is within its bounds; nothing that was there is turned. Condition: the table knownKinds reads as the program's text lays it.
-/
namespace Go.Proofs.YtfkeokglifpkoaaGreatDoor
open Go.RowKit M
namespace M
def inB (n lo hi : Int) : Bool := decide (lo ≤ n) && decide (n ≤ hi)
def nb (c : Nat) : Bool := (decide (97 ≤ c) && decide (c ≤ 122)) || (decide (48 ≤ c) && decide (c ≤ 57))
def goodName (l : List UInt8) : Bool := decide (l.length ≤ 12) && l.all (fun c => nb c.toNat)
def goodB (id ver kind : Int) (name : ByteArray) : Bool := inB id 1 1000 && (inB ver 0 1000000 && (inB kind 1 6 && goodName name.data.toList))
abbrev ev (id ver kind : Int) (name : ByteArray) : Value := .agg #[.int .i64 id, .int .i64 ver, .int .i64 kind, .string name]
/-- The table knownKinds reads as the program's text lays it. -/
def KK (w : World) : Prop := ∀ k, k ≤ 6 → w.cell? ⟨0, k, none⟩ = some (.bool (decide (1 ≤ k)))

theorem KK.below {w w' : World} (h : KK w) (hb : Below w.heap.size w w') : KK w' := fun k hk => by
  have hc := h k hk
  have hlt : 0 < w.heap.size := World.block_lt_of_cell? w _ hc
  rw [hb.cell (p := ⟨0, k, none⟩) hlt]; exact hc
theorem KK.alloc {w : World} (h : KK w) (o : Obj) : KK (w.alloc o) := h.below ((Below.refl _ w).alloc (Nat.le_refl _) o)
theorem KK.drew {w : World} (h : KK w) : KK w.drew := h.below (Below.refl _ w).drew

theorem ret_bool {a b : Bool} (h : a = b) : Ending.returned (.bool a) = .returned (.bool b) := by rw [h]
theorem all_take_snoc (s : ByteArray) (k : Nat) (h : k < s.size) (ha : (s.data.toList.take k).all (fun c => nb c.toNat) = true) :
    (s.data.toList.take (k + 1)).all (fun c => nb c.toNat) = nb s[k].toNat := by
  rw [take_snoc s k h, List.all_append, ha]; simp
theorem all_false (s : ByteArray) (k : Nat) (h : k < s.size) (hn : nb s[k].toNat = false) : s.data.toList.all (fun c => nb c.toNat) = false := by
  rw [List.all_eq_false]
  refine ⟨s[k], ?_, by simp [hn]⟩
  show s.data[k] ∈ s.data.toList
  exact Array.getElem_mem_toList h
theorem good_of_bad (s : ByteArray) (k : Nat) (h : k < s.size) (hn : nb s[k].toNat = false) : goodName s.data.toList = false := by
  unfold goodName; rw [all_false s k h hn, Bool.and_false]
end M

theorem spec_in (n lo hi : Int) (w : World) :
    Calls Tryz.prog 93 #[.int .i64 n, .int .i64 lo, .int .i64 hi] w fun e w' => e = .returned (.bool (inB n lo hi)) ∧ w' = w := by
  by_cases h1 : lo ≤ n
  · by_cases h2 : n ≤ hi
    · go_enter Tryz.func93, Tryz.ntmps93
      go_wp2
      go_ret
      exact ⟨ret_bool (by simp [inB, h1, h2]), rfl⟩
    · go_enter Tryz.func93, Tryz.ntmps93
      go_wp2
      go_ret
      exact ⟨ret_bool (by simp [inB, h2]), rfl⟩
  · have hd : decide (lo ≤ n) = false := by simpa using h1
    go_enter Tryz.func93, Tryz.ntmps93
    go_wp2
    go_ret
    exact ⟨ret_bool (by simp [inB, hd]), rfl⟩

theorem impl_in (n lo hi : Int) (w : World) :
    Calls Tryz.prog 133 #[.int .i64 n, .int .i64 lo, .int .i64 hi] w fun e w' => e = .returned (.bool (inB n lo hi)) ∧ w' = w := by
  by_cases h1 : lo ≤ n
  · by_cases h2 : n ≤ hi
    · go_enter Tryz.func133, Tryz.ntmps133
      go_wp2
      go_ret
      exact ⟨ret_bool (by simp [inB, h1, h2]), rfl⟩
    · go_enter Tryz.func133, Tryz.ntmps133
      go_wp2
      go_ret
      exact ⟨ret_bool (by simp [inB, h2]), rfl⟩
  · have hd : decide (lo ≤ n) = false := by simpa using h1
    go_enter Tryz.func133, Tryz.ntmps133
    go_wp2
    go_ret
    exact ⟨ret_bool (by simp [inB, hd]), rfl⟩

set_option maxHeartbeats 400000 in
theorem impl_nb (c : Nat) (w : World) :
    Calls Tryz.prog 181 #[.int .u8 (c : Int)] w fun e w' => e = .returned (.bool (nb c)) ∧ w' = w := by
  rcases (show (97 ≤ c ∧ c ≤ 122) ∨ (48 ≤ c ∧ c ≤ 57) ∨ c < 48 ∨ (57 < c ∧ c < 97) ∨ 122 < c by omega) with h | h | h | h | h
  all_goals
    go_enter Tryz.func181, Tryz.ntmps181
    go_wp2
    all_goals
      go_ret
      exact ⟨ret_bool (by rw [Bool.eq_iff_iff]; simp [nb]; omega), rfl⟩

set_option maxHeartbeats 400000 in
theorem impl_name (s : ByteArray) (w : World) (hs : s.size ≤ maxLen) :
    Calls Tryz.prog 152 #[.string s] w fun e w' => e = .returned (.bool (goodName s.data.toList)) ∧ w' = w := by
  unfold maxLen at hs
  by_cases h12 : s.size ≤ 12
  · have hgt : ¬ (12 : Int) < (s.size : Int) := by omega
    go_enter Tryz.func152, Tryz.ntmps152
    go_wp2
    go_loop [9] (fun i => ∃ k : Nat, k ≤ s.size ∧ i = .int .i64 k ∧ Hid ((s.data.toList.take k).all (fun c => nb c.toNat) = true)) (fun i => s.size - (intOf i).toNat)
    case atStart => exact ⟨0, Nat.zero_le _, rfl, hide rfl⟩
    case round =>
      obtain ⟨k, hk, rfl, HA⟩ := hrel
      by_cases hlt : k < s.size
      · cases hn : nb s[k].toNat
        · go_wp2_with (go_at_call 181; refine (impl_nb _ _).mono ?_; rintro e w' ⟨rfl, rfl⟩; rw [hn])
          go_ret
          exact ⟨ret_bool (good_of_bad s k hlt hn).symm, rfl⟩
        · go_wp2_with (go_at_call 181; refine (impl_nb _ _).mono ?_; rintro e w' ⟨rfl, rfl⟩; rw [hn])
          go_round
          case rel => exact ⟨k + 1, by omega, by go_num, hide ((all_take_snoc s k hlt HA.out).trans hn)⟩
          case measure => simp [intOf]; omega
      · go_wp2
        go_ret
        have hA := HA.out
        rw [List.take_of_length_le (by simp; omega)] at hA
        exact ⟨ret_bool (by unfold goodName; rw [hA]; simp; omega), rfl⟩
  · have hgt : (12 : Int) < (s.size : Int) := by omega
    go_enter Tryz.func152, Tryz.ntmps152
    go_wp2
    go_ret
    exact ⟨ret_bool (by unfold goodName; rw [decide_eq_false (by simp; omega)]; rfl), rfl⟩

set_option maxHeartbeats 800000 in
theorem spec_name (s : ByteArray) (w : World) (hs : s.size ≤ maxLen) :
    Calls Tryz.prog 99 #[.string s] w fun e w' => e = .returned (.bool (goodName s.data.toList)) ∧ w' = w := by
  unfold maxLen at hs
  go_enter Tryz.func99, Tryz.ntmps99
  go_wp2
  go_loop [3] (fun i => ∃ k : Nat, k ≤ s.size ∧ i = .int .i64 k ∧ Hid ((s.data.toList.take k).all (fun c => nb c.toNat) = true)) (fun i => s.size - (intOf i).toNat)
  case atStart => exact ⟨0, Nat.zero_le _, rfl, hide rfl⟩
  case round =>
    obtain ⟨k, hk, rfl, HA⟩ := hrel
    by_cases hlt : k < s.size
    · have hs1 := s[k].toNat_lt
      have hsn := all_take_snoc s k hlt HA.out
      have hbd := good_of_bad s k hlt
      have HN := hide (And.intro hsn hbd)
      clear hsn hbd
      generalize hc : s[k].toNat = c at *
      rcases (show (97 ≤ c ∧ c ≤ 122) ∨ (48 ≤ c ∧ c ≤ 57) ∨ c < 48 ∨ (57 < c ∧ c < 97) ∨ 122 < c by omega) with h | h | h | h | h
      · obtain ⟨h1, h2⟩ := h
        have h3 : (97 : Int) ≤ (c : Int) := by omega
        have h4 : (c : Int) ≤ 122 := by omega
        go_wp2
        go_round
        case rel => exact ⟨k + 1, by omega, by go_num, hide (HN.out.1.trans (by simp [nb]; omega))⟩
        case measure => simp [intOf]; omega
      · obtain ⟨h1, h2⟩ := h
        have h3 : decide ((97 : Int) ≤ (c : Int)) = false := by simp; omega
        have h4 : (48 : Int) ≤ (c : Int) := by omega
        have h5 : (c : Int) ≤ 57 := by omega
        go_wp2
        go_round
        case rel => exact ⟨k + 1, by omega, by go_num, hide (HN.out.1.trans (by simp [nb]; omega))⟩
        case measure => simp [intOf]; omega
      · have h3 : decide ((97 : Int) ≤ (c : Int)) = false := by simp; omega
        have h4 : decide ((48 : Int) ≤ (c : Int)) = false := by simp; omega
        go_wp2
        go_ret
        exact ⟨ret_bool (HN.out.2 (by simp [nb]; omega)).symm, rfl⟩
      · obtain ⟨h1, h2⟩ := h
        have h3 : decide ((97 : Int) ≤ (c : Int)) = false := by simp; omega
        have h4 : (48 : Int) ≤ (c : Int) := by omega
        have h5 : ¬ (c : Int) ≤ 57 := by omega
        go_wp2
        go_ret
        exact ⟨ret_bool (HN.out.2 (by simp [nb]; omega)).symm, rfl⟩
      · have h3 : (97 : Int) ≤ (c : Int) := by omega
        have h4 : decide ((c : Int) ≤ 122) = false := by simp; omega
        have h5 : (48 : Int) ≤ (c : Int) := by omega
        have h6 : ¬ (c : Int) ≤ 57 := by omega
        go_wp2
        go_ret
        exact ⟨ret_bool (HN.out.2 (by simp [nb]; omega)).symm, rfl⟩
    · go_wp2
      go_ret
      have hA := HA.out
      rw [List.take_of_length_le (by simp; omega)] at hA
      exact ⟨ret_bool (by unfold goodName; rw [hA]; simp; omega), rfl⟩

set_option maxHeartbeats 400000 in
theorem impl_kind (kind : Int) (w : World) (hk : KK w) :
    Calls Tryz.prog 151 #[.int .i64 kind] w fun e w' => e = .returned (.bool (inB kind 1 6)) ∧ w' = w := by
  by_cases hin : 0 ≤ kind ∧ kind ≤ 6
  · have h06 : inB kind 0 6 = true := by simp [inB, hin]
    rcases (show kind = 0 ∨ kind = 1 ∨ kind = 2 ∨ kind = 3 ∨ kind = 4 ∨ kind = 5 ∨ kind = 6 by omega) with rfl | rfl | rfl | rfl | rfl | rfl | rfl
    · have hc := hk 0 (by omega)
      go_enter Tryz.func151, Tryz.ntmps151
      go_wp2_with (go_at_call 133; refine (impl_in _ _ _ _).mono ?_; rintro e w' ⟨rfl, rfl⟩; rw [h06])
      go_ret
      exact ⟨rfl, rfl⟩
    · have hc := hk 1 (by omega)
      go_enter Tryz.func151, Tryz.ntmps151
      go_wp2_with (go_at_call 133; refine (impl_in _ _ _ _).mono ?_; rintro e w' ⟨rfl, rfl⟩; rw [h06])
      go_ret
      exact ⟨rfl, rfl⟩
    · have hc := hk 2 (by omega)
      go_enter Tryz.func151, Tryz.ntmps151
      go_wp2_with (go_at_call 133; refine (impl_in _ _ _ _).mono ?_; rintro e w' ⟨rfl, rfl⟩; rw [h06])
      go_ret
      exact ⟨rfl, rfl⟩
    · have hc := hk 3 (by omega)
      go_enter Tryz.func151, Tryz.ntmps151
      go_wp2_with (go_at_call 133; refine (impl_in _ _ _ _).mono ?_; rintro e w' ⟨rfl, rfl⟩; rw [h06])
      go_ret
      exact ⟨rfl, rfl⟩
    · have hc := hk 4 (by omega)
      go_enter Tryz.func151, Tryz.ntmps151
      go_wp2_with (go_at_call 133; refine (impl_in _ _ _ _).mono ?_; rintro e w' ⟨rfl, rfl⟩; rw [h06])
      go_ret
      exact ⟨rfl, rfl⟩
    · have hc := hk 5 (by omega)
      go_enter Tryz.func151, Tryz.ntmps151
      go_wp2_with (go_at_call 133; refine (impl_in _ _ _ _).mono ?_; rintro e w' ⟨rfl, rfl⟩; rw [h06])
      go_ret
      exact ⟨rfl, rfl⟩
    · have hc := hk 6 (by omega)
      go_enter Tryz.func151, Tryz.ntmps151
      go_wp2_with (go_at_call 133; refine (impl_in _ _ _ _).mono ?_; rintro e w' ⟨rfl, rfl⟩; rw [h06])
      go_ret
      exact ⟨rfl, rfl⟩
  · have h06 : inB kind 0 6 = false := by unfold inB; rw [Bool.and_eq_false_iff]; simp; omega
    have h16 : inB kind 1 6 = false := by unfold inB; rw [Bool.and_eq_false_iff]; simp; omega
    go_enter Tryz.func151, Tryz.ntmps151
    go_wp2_with (go_at_call 133; refine (impl_in _ _ _ _).mono ?_; rintro e w' ⟨rfl, rfl⟩; rw [h06])
    go_ret
    exact ⟨ret_bool h16.symm, rfl⟩

set_option maxHeartbeats 800000 in
theorem spec_good (id ver kind : Int) (name : ByteArray) (w : World) (hn : name.size ≤ maxLen) :
    Calls Tryz.prog 147 #[ev id ver kind name] w fun e w' => e = .returned (.bool (goodB id ver kind name)) ∧ Below w.heap.size w w' := by
  have hb := (Below.refl w.heap.size w).alloc (Nat.le_refl _)
  unfold goodB
  cases h1 : inB id 1 1000
  · go_enter Tryz.func147, Tryz.ntmps147
    go_wp2_with (go_at_call 93; refine (spec_in _ _ _ _).mono ?_; rintro e w' ⟨rfl, rfl⟩; rw [h1])
    go_ret
    exact ⟨rfl, hb _⟩
  cases h2 : inB ver 0 1000000
  · go_enter Tryz.func147, Tryz.ntmps147
    go_wp2_with (go_at_call 93; refine (spec_in _ _ _ _).mono ?_; rintro e w' ⟨rfl, rfl⟩; first | rw [h1] | rw [h2])
    go_ret
    exact ⟨rfl, hb _⟩
  cases h3 : inB kind 1 6
  · go_enter Tryz.func147, Tryz.ntmps147
    go_wp2_with (go_at_call 93; refine (spec_in _ _ _ _).mono ?_; rintro e w' ⟨rfl, rfl⟩; first | rw [h1] | rw [h2] | rw [h3])
    go_ret
    exact ⟨rfl, hb _⟩
  · go_enter Tryz.func147, Tryz.ntmps147
    go_wp2_with (first
      | (go_at_call 93; refine (spec_in _ _ _ _).mono ?_; rintro e w' ⟨rfl, rfl⟩; first | rw [h1] | rw [h2] | rw [h3])
      | (go_at_call 99; refine (spec_name _ _ hn).mono ?_; rintro e w' ⟨rfl, rfl⟩))
    go_ret
    exact ⟨rfl, hb _⟩

set_option maxHeartbeats 800000 in
theorem impl_good (id ver kind : Int) (name : ByteArray) (w : World) (hn : name.size ≤ maxLen) (hk : KK w) :
    Calls Tryz.prog 164 #[ev id ver kind name] w fun e w' => e = .returned (.bool (goodB id ver kind name)) ∧ Below w.heap.size w w' := by
  have hb := (Below.refl w.heap.size w).alloc (Nat.le_refl _)
  unfold goodB
  cases h1 : inB id 1 1000
  · go_enter Tryz.func164, Tryz.ntmps164
    go_wp2_with (go_at_call 133; refine (impl_in _ _ _ _).mono ?_; rintro e w' ⟨rfl, rfl⟩; rw [h1])
    go_ret
    exact ⟨rfl, hb _⟩
  cases h2 : inB ver 0 1000000
  · go_enter Tryz.func164, Tryz.ntmps164
    go_wp2_with (go_at_call 133; refine (impl_in _ _ _ _).mono ?_; rintro e w' ⟨rfl, rfl⟩; first | rw [h1] | rw [h2])
    go_ret
    exact ⟨rfl, hb _⟩
  cases h3 : inB kind 1 6
  · go_enter Tryz.func164, Tryz.ntmps164
    go_wp2_with (first
      | (go_at_call 133; refine (impl_in _ _ _ _).mono ?_; rintro e w' ⟨rfl, rfl⟩; first | rw [h1] | rw [h2])
      | (go_at_call 151; refine (impl_kind _ _ (hk.alloc _)).mono ?_; rintro e w' ⟨rfl, rfl⟩; rw [h3]))
    go_ret
    exact ⟨rfl, hb _⟩
  · go_enter Tryz.func164, Tryz.ntmps164
    go_wp2_with (first
      | (go_at_call 133; refine (impl_in _ _ _ _).mono ?_; rintro e w' ⟨rfl, rfl⟩; first | rw [h1] | rw [h2])
      | (go_at_call 151; refine (impl_kind _ _ (hk.alloc _)).mono ?_; rintro e w' ⟨rfl, rfl⟩; rw [h3])
      | (go_at_call 152; refine (impl_name _ _ hn).mono ?_; rintro e w' ⟨rfl, rfl⟩))
    go_ret
    exact ⟨rfl, hb _⟩
end Go.Proofs.YtfkeokglifpkoaaGreatDoor

/-
  What the rows' list of variables gives the walks: the table knownKinds, cell for cell.
-/
namespace Go.Proofs.YtfkeokglifpkoaaGreatDoor
open Go.RowKit M

theorem laid_mem {P : Program} {w : World} : ∀ {l : List (String × DataW Unit)} {ps : List MemPlace}, DataW.LaidVars P w l ps → ∀ n d, (n, d) ∈ l →
    ∃ g t cs fuel p, P.globalNamed n = some g ∧ (P.globals[g]?).map (·.type) = some t ∧ w.var? P n = some cs ∧ DataW.trod (fun _ => ()) P w 0 (fun _ => true) false fuel t cs.toList = some (d, p)
  | [], _, _, n, d, hm => by cases hm
  | (n', d') :: r, ps, h, n, d, hm => by
    obtain ⟨g, t, cs, fuel, p, q, h1, h2, h3, h4, h5, _⟩ := h
    rcases List.mem_cons.1 hm with e | hm
    · cases e; exact ⟨g, t, cs, fuel, p, h1, h2, h3, h4⟩
    · exact laid_mem h5 n d hm

theorem cells_of_bools {H : Type} {enc : TypeId × Value → H} {P : Program} {w : World} {base : Nat} {sp : Nat → Bool} {held : Bool} {fuel : Nat} {t e : TypeId} {n : Nat} {cs : List Value} {zs : List Bool} {p : List MemPlace}
    (ht : P.underlying t = some (.array n e)) (he : P.underlying e = some .bool) (hce : P.cellsOf e = 1) (hct : P.cellsOf t = n)
    (h : DataW.trod enc P w base sp held fuel t cs = some (.agg (zs.map fun z => .lit (.bool z)), p)) : cs = zs.map Value.bool := by
  cases fuel with
  | zero => simp [DataW.trod] at h
  | succ fuel =>
    simp only [DataW.trod, ht, hce, hct, Nat.mul_one] at h
    split at h
    · rename_i hl
      obtain ⟨xs, hm, hx⟩ := Option.map_eq_some_iff.1 h
      have hxs : xs.map (·.1) = zs.map fun z => (DataW.lit (.bool z) : DataW H) := by
        have := congrArg Prod.fst hx
        simpa using this
      have hxl : xs.length = n := by simpa using Lib.mapM_length hm
      have hzl : zs.length = n := by
        have := congrArg List.length hxs
        simp at this
        omega
      apply List.ext_getElem?
      intro i
      by_cases hi : i < n
      · obtain ⟨b, hb, hf⟩ := Lib.mapM_at hm i i (by simp [hi])
        obtain ⟨z, hc, rfl⟩ := DataW.trod_bool he hf
        have h1 : cs[i]? = some (.bool z) := by
          have := congrArg (·[0]?) hc
          simpa [List.getElem?_take, List.getElem?_drop] using this
        have h2 : (xs.map (·.1))[i]? = some (DataW.lit (.bool z) : DataW H) := by simp [hb]
        rw [hxs] at h2
        simp only [List.getElem?_map, Option.map_eq_some_iff, DataW.lit.injEq, Lit.bool.injEq] at h2
        obtain ⟨z', hz', rfl⟩ := h2
        simp [h1, hz']
      · rw [List.getElem?_eq_none (by omega), List.getElem?_eq_none (by simp; omega)]
    · cases h

theorem gKinds : Tryz.prog.globalNamed "loop.example/g00269/impl.knownKinds" = some 0 := by kernel_rfl
theorem gKindsType : (Tryz.prog.globals[0]?).map (·.type) = some 208 := by kernel_rfl
theorem cellsKinds : Tryz.prog.cellsOf 208 = 7 := by kernel_rfl
theorem cellsBool : Tryz.prog.cellsOf 4 = 1 := by kernel_rfl

theorem kk_of {l : List (String × DataW Unit)} {W : World} (h : laidMet Tryz.prog l W) (hm : ("loop.example/g00269/impl.knownKinds", Rows.laid_loop_example_g00269_impl_knownKinds) ∈ l) : KK W := by
  obtain ⟨ps, hl, _⟩ := h
  obtain ⟨g, t, cs, fuel, p, h1, h2, h3, h4⟩ := laid_mem hl _ _ hm
  obtain rfl := Option.some.inj (gKinds.symm.trans h1)
  obtain rfl := Option.some.inj (gKindsType.symm.trans h2)
  have e := cells_of_bools (zs := [false, true, true, true, true, true, true]) Tryz.underlying208 Tryz.underlying4 cellsBool cellsKinds h4
  intro k hk
  have hc := World.var?_cell h1 h3 k
  rw [hc]
  have e2 : cs = #[.bool false, .bool true, .bool true, .bool true, .bool true, .bool true, .bool true] := by
    apply Array.toList_inj.1; rw [e]; rfl
  subst e2
  rcases (show k = 0 ∨ k = 1 ∨ k = 2 ∨ k = 3 ∨ k = 4 ∨ k = 5 ∨ k = 6 by omega) with rfl | rfl | rfl | rfl | rfl | rfl | rfl <;> rfl
end Go.Proofs.YtfkeokglifpkoaaGreatDoor

/-
  The facts of a program that a card asks, one by one: each may then be a lemma of its own.
-/
namespace Go.Proofs.YtfkeokglifpkoaaGreatDoor
theorem joined_mk {P : Program} {f : FuncId} {fn : Func} {s : ChangeSpec} {c : OpenClaim} (h0 : (c.wf (OpenSpec.ofChange s)) = true) (h1 : (laidOutB P) = true) (h2 : (mapsRowed P) = true) (h3 : (fn.params.all (P.readableRec ·)) = true) (h4 : (namedTie P c.named s.vars) = true) (h5 : (c.stops == []) = true) (h6 : (P.stops == []) = true) (h7 : (c.knobs == []) = true) (h8 : (P.stopKnobs == []) = true) (h9 : (c.inPlace == P.inPlace f) = true) (h10 : (c.unfollowed == P.unfollowed f) = true) (h11 : (c.recurses == P.recurses f) = true) (h12 : (c.named == P.varsNamed f) = true) (h13 : (c.maps == (fn.params.toList ++ s.plain.varTypes P).any (P.mapsRec ·)) = true) (h14 : (c.ifaces == (fn.params.toList ++ s.plain.varTypes P).any (P.ifacesRec ·)) = true) (h15 : (c.mapsOut == P.mapsAmong fn.resultTypes.toList) = true) (h16 : (c.loops == (fn.params.toList ++ s.plain.varTypes P).any (P.loopsFrom ·)) = true) (h17 : (c.wideKeys == (fn.params.toList ++ s.plain.varTypes P ++ fn.resultTypes.toList).any (P.wideKeysFrom ·)) = true) (h18 : (s.vars.all (P.varReadable ·)) = true) (h19 : (fn.resultTypes.all (fun t => P.readableRec t && decide (t < P.types.size))) = true) (h20 : (c.ifacesOut == fn.resultTypes.toList.any (P.ifacesRec ·)) = true) (h21 : (c.loopsOut == fn.resultTypes.toList.any (P.loopsFrom ·)) = true) (h22 : (c.plainKeys == P.plainKeys) = true) (h23 : (c.shortTexts.isNone) = true) (h24 : (P.stopsHeard) = true) (h25 : (P.mayEnter) = true) (h26 : (c.lifted == P.liftsFinal) = true) (h27 : (P.make == some c.make) = true) (h28 : (c.kinds == (if c.domain.isEmpty then [] else fn.params.toList.map fun t => match P.underlying t with | some (.int k) => some k | _ => none)) = true) (h29 : (c.pinned == c.pinnedBy) = true) (h30 : (c.veiled == (fn.params.toList ++ s.plain.varTypes P ++ fn.resultTypes.toList).any (P.veiledRec ·)) = true) (h31 : (c.veiledFits P fn.params.toList (fn.params.toList ++ s.plain.varTypes P ++ fn.resultTypes.toList)) = true) : joinedFacts P f fn s c = true := by
  unfold joinedFacts
  simp only [Bool.and_eq_true]
  exact ⟨⟨⟨⟨⟨⟨⟨⟨⟨⟨⟨⟨⟨⟨⟨⟨⟨⟨⟨⟨⟨⟨⟨⟨⟨⟨⟨⟨⟨⟨⟨h0, h1⟩, h2⟩, h3⟩, h4⟩, h5⟩, h6⟩, h7⟩, h8⟩, h9⟩, h10⟩, h11⟩, h12⟩, h13⟩, h14⟩, h15⟩, h16⟩, h17⟩, h18⟩, h19⟩, h20⟩, h21⟩, h22⟩, h23⟩, h24⟩, h25⟩, h26⟩, h27⟩, h28⟩, h29⟩, h30⟩, h31⟩
end Go.Proofs.YtfkeokglifpkoaaGreatDoor

/-
  Facts of the program that every card of the seat asks.
-/
namespace Go.Proofs.YtfkeokglifpkoaaGreatDoor
theorem jp1 : laidOutB Tryz.prog = true := by kernel_rfl
theorem jp2 : mapsRowed Tryz.prog = true := by kernel_rfl
theorem jp6 : (Tryz.prog.stops == []) = true := by kernel_rfl
theorem jp8 : (Tryz.prog.stopKnobs == []) = true := by kernel_rfl
theorem jp24 : Tryz.prog.stopsHeard = true := by kernel_rfl
theorem jp25 : Tryz.prog.mayEnter = true := by kernel_rfl
end Go.Proofs.YtfkeokglifpkoaaGreatDoor
