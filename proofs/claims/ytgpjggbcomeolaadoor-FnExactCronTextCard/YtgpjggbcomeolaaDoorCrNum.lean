/-
  The specification's text of a number is its decimal numeral, for every number up to a million.
-/
import Derived.Test.YtgpjggbcomeolaaDoorCrG
import Derived.Test.YtgpjggbcomeolaaDoorShelf
import Derived.Laws.BytesArg
import Derived.Laws.IdiomStrings
import Derived.Lib.ItoaMem
import Derived.Lib.Strings
import Derived.Deep.RegionWith
namespace Go.Proofs.YtgpjggbcomeolaaDoor
open Go.RowKit M
namespace M
def numB (n : Nat) : ByteArray := ⟨(Lib.decDigits n).toArray⟩
theorem numB_small (n : Nat) (h : n < 10) : strOfNums [48 + (n : Int)] = numB n := by
  unfold numB strOfNums
  rw [Lib.decDigits_one h]
  have e : (48 + (n : Int)).toNat = 48 + n := by omega
  simp [e]
theorem numB_great (n : Nat) (h : ¬ n < 10) : numB (n / 10) ++ strOfNums [48 + ((n % 10 : Nat) : Int)] = numB n := by
  apply ByteArray.ext
  apply Array.toList_inj.1
  have e : (48 + ((n % 10 : Nat) : Int)).toNat = 48 + n % 10 := by omega
  rw [ByteArray.data_append, Array.toList_append, strOfNums_data]
  show Lib.decDigits (n / 10) ++ _ = Lib.decDigits n
  rw [Lib.decDigits.eq_1 n, dif_neg h]
  simp only [List.map_cons, List.map_nil, e]
theorem numB_size (n : Nat) (h : n ≤ 1000000) : 1 ≤ (numB n).size ∧ (numB n).size ≤ 7 := by
  have e : (numB n).size = (Lib.decDigits n).length := by simp [numB, ByteArray.size]
  rw [e]
  have step : ∀ m, ¬ m < 10 → (Lib.decDigits m).length = (Lib.decDigits (m / 10)).length + 1 := fun m hm => by
    rw [Lib.decDigits.eq_1 m, dif_neg hm]; simp
  have one : ∀ m, m < 10 → (Lib.decDigits m).length = 1 := fun m hm => by rw [Lib.decDigits_one hm]; rfl
  by_cases h1 : n < 10
  · rw [one n h1]; omega
  rw [step n h1]
  by_cases h2 : n / 10 < 10
  · rw [one _ h2]; omega
  rw [step _ h2]
  by_cases h3 : n / 10 / 10 < 10
  · rw [one _ h3]; omega
  rw [step _ h3]
  by_cases h4 : n / 10 / 10 / 10 < 10
  · rw [one _ h4]; omega
  rw [step _ h4]
  by_cases h5 : n / 10 / 10 / 10 / 10 < 10
  · rw [one _ h5]; omega
  rw [step _ h5]
  by_cases h6 : n / 10 / 10 / 10 / 10 / 10 < 10
  · rw [one _ h6]; omega
  rw [step _ h6, one _ (by omega)]; omega
end M

theorem convB {w w1 : World} (a : Int) (o : Obj) (ho : o = .cells #[.int .u8 a] 5) (h : Below (w.alloc o).heap.size (w.alloc o) w1) :
    (convert 66 9 (.slice (some ⟨w.heap.size, 0, none⟩) 1 1)).run Tryd.prog w1 = .ok (.string (strOfNums [a])) w1 := by
  subst ho
  refine run_convert_bytes_arg (P := Tryd.prog) w1 66 5 Tryd.underlying66 Tryd.underlying5 _ 0 1 1 [a] rfl (fun i hi => ?_) 9 Tryd.underlying9
  obtain rfl : i = 0 := by omega
  rw [h.cell (p := ⟨w.heap.size, 0 + 0, none⟩) (by simp), World.cell?_alloc_mark]; rfl

theorem convC {w w1 : World} {a : Int} (h : Below (w.alloc (.cells #[.int .u8 a] 5)).drew.heap.size (w.alloc (.cells #[.int .u8 a] 5)).drew w1) :
    (convert 66 9 (.slice (some ⟨w.heap.size, 0, none⟩) 1 1)).run Tryd.prog w1 = .ok (.string (strOfNums [a])) w1 :=
  convB a _ rfl ((Below.refl _ _).drew.trans h)

set_option maxHeartbeats 1000000 in
set_option maxRecDepth 100000 in
theorem spec_num (n : Nat) : n ≤ 1000000 → ∀ w : World,
    Calls Tryd.prog 34 #[.int .i64 (n : Int)] w fun e w' => e = .returned (.string (numB n)) ∧ Below w.heap.size w w' := by
  induction n using Nat.strongRecOn with
  | ind n ih =>
    intro hn w
    by_cases h : n < 10
    · have hlt : (n : Int) < 10 := by omega
      have k1 : ∀ w : World, (convert 66 9 (.slice (some ⟨w.heap.size, 0, none⟩) 1 1)).run Tryd.prog (w.alloc (.cells #[.int .u8 (48 + (n : Int))] 5)) = .ok (.string (strOfNums [48 + (n : Int)])) (w.alloc (.cells #[.int .u8 (48 + (n : Int))] 5)) := fun w => convB _ _ rfl (Below.refl _ _)
      have HI := hide ih
      clear ih
      go_enter Tryd.func34, Tryd.ntmps34
      go_wp2
      go_ret
      exact ⟨by rw [← numB_small n h]; rfl, (Below.refl _ _).alloc (Nat.le_refl _) _⟩
    · have hlt : ¬ (n : Int) < 10 := by omega
      have hI := ih (n / 10) (by omega) (by omega)
      have hz := numB_size (n / 10) (by omega)
      have HG := hide (numB_great n h)
      have hr : n % 10 < 10 := by omega
      have q1 : IntKind.i64.wrap ((n : Int) / 10) = ((n / 10 : Nat) : Int) := by rw [IntKind.wrap_i64]; omega
      have q2 : (n : Int).tmod 10 = ((n % 10 : Nat) : Int) := by rw [Int.tmod_eq_emod_of_nonneg (by omega)]; omega
      clear ih
      generalize n / 10 = q at *
      generalize n % 10 = r at *
      have HI := hide hI
      clear hI
      have q3 : IntKind.i64.wrap (48 + (r : Int)) = 48 + (r : Int) := by rw [IntKind.wrap_i64]; omega
      have q4 : IntKind.u8.wrap (48 + (r : Int)) = 48 + (r : Int) := by rw [IntKind.wrap_u8]; omega
      have k1 : ∀ w : World, (convert 66 9 (.slice (some ⟨w.heap.size, 0, none⟩) 1 1)).run Tryd.prog (w.alloc (.cells #[.int .u8 (48 + (r : Int))] 5)) = .ok (.string (strOfNums [48 + (r : Int)])) (w.alloc (.cells #[.int .u8 (48 + (r : Int))] 5)) := fun w => convB _ _ rfl (Below.refl _ _)
      have k2 : ∀ w : World, (convert 66 9 (.slice (some ⟨w.heap.size, 0, none⟩) 1 1)).run Tryd.prog (w.alloc (.cells #[.int .u8 (48 + (r : Int))] 5)).drew = .ok (.string (strOfNums [48 + (r : Int)])) (w.alloc (.cells #[.int .u8 (48 + (r : Int))] 5)).drew := fun w => convB _ _ rfl (Below.refl _ _).drew
      have z1 := strOfNums_size
      go_enter Tryd.func34, Tryd.ntmps34
      go_wp2
      go_region_with (go_at_call 34; refine (HI.out _).mono ?_; rintro e w1 ⟨rfl, hb1⟩; try have kc := convC hb1)
      all_goals go_wp2
      all_goals
        go_ret
        refine ⟨by rw [← HG.out]; rfl, ?_⟩
        first
          | exact ((Below.refl _ w).alloc (Nat.le_refl _) _).drew.trans (hb1.mono (by simp))
          | exact ((Below.refl _ w).drew.trans hb1).alloc hb1.size _
end Go.Proofs.YtgpjggbcomeolaaDoor
