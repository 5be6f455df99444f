/-
  The law's own mark of a number from 1 on: an m and its numeral.
-/
import Derived.Test.YtkcgckobaobogaaDoorSpecAll
namespace Go.Proofs.YtkcgckobaobogaaDoor
open Go.RowKit M
namespace M
def mt (k : Nat) : ByteArray := ⟨#[109]⟩ ++ numB k
/-- What is still to be written, and what is written. -/
def MI (k : Nat) (q : Nat) (out : ByteArray) : Prop := (1 ≤ q ∧ Lib.decDigits q ++ out.data.toList = Lib.decDigits k) ∨ (q = 0 ∧ out = numB k)
theorem MI_step {k q : Nat} {out : ByteArray} (h : MI k q out) (hq : 1 ≤ q) : MI k (q / 10) (strOfNums [48 + ((q % 10 : Nat) : Int)] ++ out) := by
  rcases h with ⟨_, h⟩ | ⟨h0, _⟩
  · have e : (48 + ((q % 10 : Nat) : Int)).toNat = 48 + q % 10 := by omega
    have hd : (strOfNums [48 + ((q % 10 : Nat) : Int)] ++ out).data.toList = UInt8.ofNat (48 + q % 10) :: out.data.toList := by
      rw [ByteArray.data_append, Array.toList_append, strOfNums_data]
      simp only [List.map_cons, List.map_nil, e]
      rfl
    by_cases h10 : q < 10
    · right
      refine ⟨by omega, ba_eq ?_⟩
      rw [hd]
      show _ = Lib.decDigits k
      rw [← h, Lib.decDigits_one h10, Nat.mod_eq_of_lt h10]; rfl
    · left
      refine ⟨by omega, ?_⟩
      rw [hd, ← h]
      conv => rhs; rw [Lib.decDigits.eq_1 q, dif_neg h10]
      simp
  · omega
theorem MI_len {k q : Nat} {out : ByteArray} (hk : k ≤ 1000000) (h : MI k q out) : out.size ≤ 7 := by
  have hz := numB_size k hk
  have e : (numB k).size = (Lib.decDigits k).length := by simp [numB, ByteArray.size]
  rcases h with ⟨_, h⟩ | ⟨_, rfl⟩
  · have := congrArg List.length h
    rw [List.length_append] at this
    rw [Lib.size_eq]; omega
  · omega
end M

set_option maxHeartbeats 1000000 in
theorem mark_text (k : Nat) (w : World) (h1 : 1 ≤ k) (hk : k ≤ 1000000) :
    Calls Tryd.prog 44 #[.int .i64 (k : Int)] w fun e w' => e = .returned (.string (mt k)) ∧ Below w.heap.size w w' := by
  have hle : ¬ ((k : Int) ≤ 0) := by omega
  have z1 := strOfNums_size
  have za := @ByteArray.size_append
  have zm : (⟨#[109]⟩ : ByteArray).size = 1 := rfl
  go_enter Tryd.func44, Tryd.ntmps44
  go_wp2
  go_loopw [0, 3] (fun x y wr => ∃ (q : Nat) (out : ByteArray), q ≤ k ∧ x = .int .i64 q ∧ y = .string out ∧ Hid (MI k q out) ∧ out.size ≤ 7 ∧ Below w.heap.size w wr) (fun x _ _ => (intOf x).toNat)
  case atStart => exact ⟨k, ⟨#[]⟩, Nat.le_refl _, rfl, rfl, hide (.inl ⟨h1, by simp⟩), by simp [ByteArray.size], Below.refl _ _⟩
  case round =>
    obtain ⟨q, out, hq, rfl, rfl, HM, hsz, hbw⟩ := hrel
    by_cases hq0 : 1 ≤ q
    · have hgt : (0 : Int) < (q : Int) := by omega
      have hst := MI_step HM.out hq0
      have hsz2 := MI_len hk hst
      have HS := hide hst
      have hr : q % 10 < 10 := by omega
      have q2 : (q : Int) % 10 = ((q % 10 : Nat) : Int) := by omega
      have q3 : (q : Int) / 10 = ((q / 10 : Nat) : Int) := by omega
      have hlt : q / 10 < q := by omega
      clear hst
      generalize q % 10 = r at *
      generalize q / 10 = t at *
      have k1 : ∀ w : World, (convert 58 9 (.slice (some ⟨w.heap.size, 0, none⟩) 1 1)).run Tryd.prog (w.alloc (.cells #[.int .u8 (48 + (r : Int))] 5)) = .ok (.string (strOfNums [48 + (r : Int)])) (w.alloc (.cells #[.int .u8 (48 + (r : Int))] 5)) := fun w => convB _ _ rfl (Below.refl _ _)
      go_wp2
      go_roundw
      case rel => exact ⟨t, _, by omega, by go_num, rfl, HS, hsz2, hbw.alloc hbw.size _⟩
      case measure => simp [intOf]; omega
    · obtain rfl : q = 0 := by omega
      have ho : out = numB k := by
        rcases HM.out with ⟨h, _⟩ | ⟨_, h⟩
        · omega
        · exact h
      subst ho
      go_wp2
      go_ret
      exact ⟨rfl, hbw⟩
end Go.Proofs.YtkcgckobaobogaaDoor
