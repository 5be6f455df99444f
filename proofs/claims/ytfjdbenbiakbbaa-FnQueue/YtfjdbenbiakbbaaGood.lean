/-
  Both texts of GoodEvent return whether each field is within its bounds; nothing that was there is turned. Condition: the table knownKinds reads as the program's text lays it.
-/
import Derived.Test.YtfjdbenbiakbbaaChecked
import Derived.WalkKit
import Derived.WalkLawsBesides
import Derived.Test.YtfjdbenbiakbbaaSum
namespace Go.Proofs.Ytfjdbenbiakbbaa
open Go.RowKit M
namespace M
def inB (n lo hi : Int) : Bool := decide (lo ≤ n) && decide (n ≤ hi)
def nb (c : Nat) : Bool := (decide (97 ≤ c) && decide (c ≤ 122)) || (decide (48 ≤ c) && decide (c ≤ 57))
def goodName (l : List UInt8) : Bool := decide (l.length ≤ 12) && l.all (fun c => nb c.toNat)
def goodB (id ver kind : Int) (name : ByteArray) : Bool := inB id 1 1000 && (inB ver 0 1000000 && (inB kind 1 6 && goodName name.data.toList))
abbrev ev (id ver kind : Int) (name : ByteArray) : Value := .agg #[.int .i64 id, .int .i64 ver, .int .i64 kind, .string name]
theorem ret_bool {a b : Bool} (h : a = b) : Ending.returned (.bool a) = .returned (.bool b) := by rw [h]
theorem all_take_snoc (s : ByteArray) (k : Nat) (h : k < s.size) (ha : (s.data.toList.take k).all (fun c => nb c.toNat) = true) :
    (s.data.toList.take (k + 1)).all (fun c => nb c.toNat) = nb s[k].toNat := by
  rw [take_snoc s k h, List.all_append, ha]; simp
theorem all_false (s : ByteArray) (k : Nat) (h : k < s.size) (hn : nb s[k].toNat = false) : s.data.toList.all (fun c => nb c.toNat) = false := by
  rw [List.all_eq_false]
  refine ⟨s[k], ?_, by simp [hn]⟩
  show s.data[k] ∈ s.data.toList
  exact Array.getElem_mem_toList h
theorem good_of_bad (s : ByteArray) (k : Nat) (h : k < s.size) (hn : nb s[k].toNat = false) : goodName s.data.toList = false := by
  unfold goodName; rw [all_false s k h hn, Bool.and_false]
end M

theorem spec_in (n lo hi : Int) (w : World) :
    Calls Try.prog 68 #[.int .i64 n, .int .i64 lo, .int .i64 hi] w fun e w' => e = .returned (.bool (inB n lo hi)) ∧ w' = w := by
  by_cases h1 : lo ≤ n
  · by_cases h2 : n ≤ hi
    · go_enter Try.func68, Try.ntmps68
      go_wp2
      go_ret
      exact ⟨ret_bool (by simp [inB, h1, h2]), rfl⟩
    · go_enter Try.func68, Try.ntmps68
      go_wp2
      go_ret
      exact ⟨ret_bool (by simp [inB, h2]), rfl⟩
  · have hd : decide (lo ≤ n) = false := by simpa using h1
    go_enter Try.func68, Try.ntmps68
    go_wp2
    go_ret
    exact ⟨ret_bool (by simp [inB, hd]), rfl⟩

theorem impl_in (n lo hi : Int) (w : World) :
    Calls Try.prog 63 #[.int .i64 n, .int .i64 lo, .int .i64 hi] w fun e w' => e = .returned (.bool (inB n lo hi)) ∧ w' = w := by
  by_cases h1 : lo ≤ n
  · by_cases h2 : n ≤ hi
    · go_enter Try.func63, Try.ntmps63
      go_wp2
      go_ret
      exact ⟨ret_bool (by simp [inB, h1, h2]), rfl⟩
    · go_enter Try.func63, Try.ntmps63
      go_wp2
      go_ret
      exact ⟨ret_bool (by simp [inB, h2]), rfl⟩
  · have hd : decide (lo ≤ n) = false := by simpa using h1
    go_enter Try.func63, Try.ntmps63
    go_wp2
    go_ret
    exact ⟨ret_bool (by simp [inB, hd]), rfl⟩

end Go.Proofs.Ytfjdbenbiakbbaa
