/-
  Both texts of TakeFrame return the text of the frame at the front of s and how many bytes the frame has, or the zero answer where there is none; nothing that was there is turned.
-/
import Derived.Test.YtoelclgpmjecmaaFrame
import Derived.Test.YtoelclgpmjecmaaShelf
import Derived.Deep.RegionWith
import Derived.Lib.IndexBytes
namespace Go.Proofs.Ytoelclgpmjecmaa
open Go.RowKit M
namespace M
def takeN (s : ByteArray) : Option Nat :=
  if h : 0 < s.size then
    (if s[0].toNat ≤ 60 ∧ s[0].toNat + 3 ≤ s.size ∧ frameB (s.extract 1 (s[0].toNat + 1)) = s.extract 0 (s[0].toNat + 3) then some s[0].toNat else none)
  else none

theorem takeN_some {s : ByteArray} {n : Nat} (h : takeN s = some n) :
    ∃ h0 : 0 < s.size, s[0].toNat = n ∧ n ≤ 60 ∧ n + 3 ≤ s.size ∧ frameB (s.extract 1 (n + 1)) = s.extract 0 (n + 3) := by
  unfold takeN at h
  split at h
  · rename_i h0
    split at h
    · rename_i h1
      simp only [Option.some.injEq] at h
      subst h
      exact ⟨h0, rfl, h1.1, h1.2.1, h1.2.2⟩
    · cases h
  · cases h

theorem takeN_none {s : ByteArray} (h : takeN s = none) :
    s.size = 0 ∨ ∃ h0 : 0 < s.size, 60 < s[0].toNat ∨ (s[0].toNat ≤ 60 ∧ s.size < s[0].toNat + 3) ∨ (s[0].toNat ≤ 60 ∧ s[0].toNat + 3 ≤ s.size ∧ frameB (s.extract 1 (s[0].toNat + 1)) ≠ s.extract 0 (s[0].toNat + 3)) := by
  unfold takeN at h
  split at h
  · rename_i h0
    split at h
    · cases h
    · rename_i h1
      refine .inr ⟨h0, ?_⟩
      by_cases a : s[0].toNat ≤ 60
      · by_cases b : s[0].toNat + 3 ≤ s.size
        · exact .inr (.inr ⟨a, b, fun c => h1 ⟨a, b, c⟩⟩)
        · exact .inr (.inl ⟨a, by omega⟩)
      · exact .inl (by omega)
  · exact .inl (by omega)

theorem ext_size (s : ByteArray) (a b : Nat) (h : b ≤ s.size) : (s.extract a b).size = b - a := by
  simp; omega

theorem hasPrefix_iff (s p : ByteArray) : Lib.hasPrefix s.data.toList p.data.toList = true ↔ p.size ≤ s.size ∧ p = s.extract 0 p.size := by
  unfold Lib.hasPrefix
  rw [List.isPrefixOf_iff_prefix]
  constructor
  · intro h
    have hl := h.length_le
    have e := List.prefix_iff_eq_take.1 h
    simp at hl
    refine ⟨hl, ?_⟩
    apply ByteArray.ext
    apply Array.toList_inj.1
    rw [Lib.extract_data]
    simpa using e
  · intro ⟨_, h⟩
    have e : p.data.toList = (s.extract 0 p.size).data.toList := by rw [← h]
    rw [Lib.extract_data] at e
    rw [e]
    simp only [List.drop_zero]
    exact List.take_prefix _ _

theorem prefix_no (s : ByteArray) (n : Nat) (h1 : n + 1 ≤ s.size) (h2 : s.size < n + 3) : Lib.hasPrefix s.data.toList (frameB (s.extract 1 (n + 1))).data.toList = false := by
  rw [Bool.eq_false_iff]
  intro h
  have := ((hasPrefix_iff _ _).1 h).1
  rw [frameB_size, ext_size _ _ _ h1] at this
  omega

theorem prefix_ne (s : ByteArray) (n : Nat) (h1 : n + 3 ≤ s.size) (h2 : frameB (s.extract 1 (n + 1)) ≠ s.extract 0 (n + 3)) : Lib.hasPrefix s.data.toList (frameB (s.extract 1 (n + 1))).data.toList = false := by
  rw [Bool.eq_false_iff]
  intro h
  have := ((hasPrefix_iff _ _).1 h).2
  rw [frameB_size, ext_size _ _ _ (by omega)] at this
  exact h2 (by rw [show n + 3 = n + 1 - 1 + 3 by omega]; exact this)

theorem prefix_eq (s : ByteArray) (n : Nat) (h1 : n + 3 ≤ s.size) (h2 : frameB (s.extract 1 (n + 1)) = s.extract 0 (n + 3)) : Lib.hasPrefix s.data.toList (frameB (s.extract 1 (n + 1))).data.toList = true := by
  rw [hasPrefix_iff, frameB_size, ext_size _ _ _ (by omega)]
  refine ⟨by omega, ?_⟩
  rw [show n + 1 - 1 + 3 = n + 3 by omega]; exact h2
end M

theorem clone_t (s : ByteArray) (w : World) (hlim : s.size ≤ 281474976710656) :
    Calls Try.prog 18 #[.string s] w fun e w' => e = .returned (.string s) ∧ Below w.heap.size w w' := by
  go_enter Try.func18, Try.ntmps18
  go_wp2_with (go_at_call 26; refine (Try.stringslite_Clone _ _ hlim).mono ?_; rintro e w1 ⟨rfl, hb1⟩)
  go_ret
  exact ⟨rfl, hb1⟩

theorem slice_at (s : ByteArray) (i j : Int) (a b : Nat) (ha : i = (a : Int)) (hb : j = (b : Int)) (hab : a ≤ b) (hbs : b ≤ s.size) (w : World) :
    (Instr.slice 9 (.string s) (some (.int .i64 i)) (some (.int .i64 j)) none).run Try.prog w = .ok (.string (s.extract a b)) w := by
  subst ha; subst hb
  have h := run_slice_string (P := Try.prog) w 9 s .i64 .i64 (a : Int) (b : Int) Try.underlying9 (by omega) (by omega) (by omega)
  simpa using h

theorem str_ne {a b : ByteArray} (h : a ≠ b) : (a.toList == b.toList) = false := by
  rw [beq_eq_false_iff_ne]
  intro e
  rw [Lib.toList_data, Lib.toList_data] at e
  exact h (ByteArray.ext (Array.toList_inj.1 e))

theorem wrap_in (x : Int) (h0 : 0 ≤ x) (h1 : x < 9223372036854775808) : IntKind.i64.wrap x = x := by
  rw [IntKind.wrap_i64]; omega

theorem not_empty (s : ByteArray) (h : 0 < s.size) : s.toList.isEmpty = false := by
  rw [Lib.toList_data]
  cases hl : s.data.toList with
  | nil => have := Lib.size_eq s; rw [hl] at this; simp only [List.length_nil] at this; omega
  | cons a r => rfl

theorem is_empty (s : ByteArray) (h : s.size = 0) : s = ByteArray.empty := by
  apply ByteArray.ext
  apply Array.toList_inj.1
  have := Lib.size_eq s
  rw [h] at this
  rw [List.eq_nil_of_length_eq_zero this.symm]
  rfl

set_option maxHeartbeats 800000 in
theorem impl_take_some (s : ByteArray) (w : World) (hs : s.size ≤ maxLen) (n : Nat) (h : takeN s = some n) :
    Calls Try.prog 12 #[.string s] w fun e w' => e = .returned (.tuple #[.string (s.extract 1 (n + 1)), .int .i64 ((n + 3 : Nat) : Int), .bool true]) ∧ Below w.heap.size w w' := by
  obtain ⟨h0, hn, h60, h3, hf⟩ := takeN_some h
  clear h
  unfold maxLen at hs
  have hp := prefix_eq s n h3 hf
  clear hf
  have ks := slice_at s 1 (1 + (n : Int)) 1 (n + 1) rfl (by omega) (by omega) (by omega)
  have hz : (s.extract 1 (n + 1)).size = n := by rw [ext_size s 1 (n + 1) (by omega)]; omega
  have hz' : (s.extract 1 (n + 1)).size ≤ 60 := by omega
  have hfz : (frameB (s.extract 1 (n + 1))).size = n + 3 := by rw [frameB_size, hz]
  generalize s.extract 1 (n + 1) = T at *
  have hlt : ¬ ((s.size : Int) - 1 < (n : Int)) := by omega
  have hem := not_empty s h0
  go_enter Try.func12, Try.ntmps12
  go_wp2_with (first
    | (go_at_call 10; refine (impl_frame _ _ hz').mono ?_; rintro e w1 ⟨rfl, hb1⟩)
    | (go_at_call 17; refine (Try.strings_HasPrefix _ _ _).mono ?_; rintro e w' ⟨rfl, rfl⟩; rw [hp])
    | (go_at_call 18; refine (clone_t _ _ (by omega)).mono ?_; rintro e w2 ⟨rfl, hb2⟩))
  go_ret3
  exact ⟨rfl, hb1.trans (hb2.mono hb1.size)⟩

set_option maxHeartbeats 800000 in
theorem impl_take_none (s : ByteArray) (w : World) (hs : s.size ≤ maxLen) (h : takeN s = none) :
    Calls Try.prog 12 #[.string s] w fun e w' => e = .returned (.tuple #[.string ByteArray.empty, .int .i64 0, .bool false]) ∧ Below w.heap.size w w' := by
  have hs0 := hs
  unfold maxLen at hs
  by_cases h0 : 0 < s.size
  · have hem := not_empty s h0
    have hs1 : s[0].toNat < 256 := s[0].toNat_lt
    have hcase : s.size - 1 < s[0].toNat ∨ (s[0].toNat ≤ s.size - 1 ∧ 60 < s[0].toNat) ∨ (s[0].toNat ≤ s.size - 1 ∧ s[0].toNat ≤ 60 ∧ Lib.hasPrefix s.data.toList (frameB (s.extract 1 (s[0].toNat + 1))).data.toList = false) := by
      rcases takeN_none h with h | ⟨_, h | h | h⟩
      · omega
      · by_cases hlt : s.size - 1 < s[0].toNat
        · exact .inl hlt
        · exact .inr (.inl ⟨by omega, h⟩)
      · by_cases hlt : s.size - 1 < s[0].toNat
        · exact .inl hlt
        · exact .inr (.inr ⟨by omega, h.1, prefix_no s _ (by omega) h.2⟩)
      · exact .inr (.inr ⟨by omega, h.1, prefix_ne s _ h.2.1 h.2.2⟩)
    clear h
    generalize hn : s[0].toNat = n at *
    rcases hcase with hc | ⟨hc, h60⟩ | ⟨hc, h60, hp⟩
    · have hlt : ((s.size : Int) - 1 < (n : Int)) := by omega
      go_enter Try.func12, Try.ntmps12
      go_wp2
      go_ret3
      exact ⟨rfl, Below.refl _ _⟩
    · have hlt : ¬ ((s.size : Int) - 1 < (n : Int)) := by omega
      have ks := slice_at s 1 (1 + (n : Int)) 1 (n + 1) rfl (by omega) (by omega) (by omega)
      have hz : (s.extract 1 (n + 1)).size = n := by rw [ext_size s 1 (n + 1) (by omega)]; omega
      have hz' : (s.extract 1 (n + 1)).size ≤ maxLen := by unfold maxLen; omega
      have hz2 : 60 < (s.extract 1 (n + 1)).size := by omega
      generalize s.extract 1 (n + 1) = T at *
      go_enter Try.func12, Try.ntmps12
      go_wp2_with (go_at_call 10; refine (impl_frame_no _ _ hz' hz2).mono ?_; rintro e w' ⟨rfl, rfl⟩)
      go_ret3
      exact ⟨rfl, Below.refl _ _⟩
    · have hlt : ¬ ((s.size : Int) - 1 < (n : Int)) := by omega
      have ks := slice_at s 1 (1 + (n : Int)) 1 (n + 1) rfl (by omega) (by omega) (by omega)
      have hz : (s.extract 1 (n + 1)).size = n := by rw [ext_size s 1 (n + 1) (by omega)]; omega
      have hz' : (s.extract 1 (n + 1)).size ≤ 60 := by omega
      generalize s.extract 1 (n + 1) = T at *
      go_enter Try.func12, Try.ntmps12
      go_wp2_with (first
        | (go_at_call 10; refine (impl_frame _ _ hz').mono ?_; rintro e w1 ⟨rfl, hb1⟩)
        | (go_at_call 17; refine (Try.strings_HasPrefix _ _ _).mono ?_; rintro e w' ⟨rfl, rfl⟩; rw [hp]))
      go_ret3
      exact ⟨rfl, hb1⟩
  · obtain rfl := is_empty s (by omega)
    go_enter Try.func12, Try.ntmps12
    go_wp2
    go_ret3
    exact ⟨rfl, Below.refl _ _⟩

set_option maxHeartbeats 800000 in
theorem spec_take_some (s : ByteArray) (w : World) (hs : s.size ≤ maxLen) (n : Nat) (h : takeN s = some n) :
    Calls Try.prog 11 #[.string s] w fun e w' => e = .returned (.tuple #[.string (s.extract 1 (n + 1)), .int .i64 ((n + 3 : Nat) : Int), .bool true]) ∧ Below w.heap.size w w' := by
  obtain ⟨h0, hn, h60, h3, hf⟩ := takeN_some h
  clear h
  unfold maxLen at hs
  have ks := slice_at s 1 (IntKind.i64.wrap ((n : Int) + 3 - 2)) 1 (n + 1) rfl (by rw [wrap_in _ (by omega) (by omega)]; omega) (by omega) (by omega)
  have ks2 := slice_at s 1 ((n : Int) + 3 - 2) 1 (n + 1) rfl (by omega) (by omega) (by omega)
  have kt : ∀ w, (Instr.slice 9 (.string s) none (some (.int .i64 ((n : Int) + 3))) none).run Try.prog w = .ok (.string (s.extract 0 (n + 3))) w := fun w => by
    have h := run_slice_string_h (P := Try.prog) (w := w) (t := 9) (s := s) Try.underlying9 .i64 ((n : Int) + 3) (by omega) (by omega)
    rw [h]; congr 3
  have hz' : (s.extract 1 (n + 1)).size ≤ 60 := by rw [ext_size s 1 (n + 1) (by omega)]; omega
  have hne : ((s.size : Int) == 0) = false := by rw [beq_eq_false_iff_ne]; omega
  have hgt : ¬ (60 : Int) < (n : Int) := by omega
  have hlt : ¬ ((s.size : Int) < (n : Int) + 3) := by omega
  go_enter Try.func11, Try.ntmps11
  go_wp2
  go_region_with (go_at_call 16; refine (spec_frame _ _ hz').mono ?_; rintro e w1 ⟨rfl, hb1⟩)
  go_wp2
  go_ret3
  exact ⟨rfl, (Below.refl _ w).drew.trans hb1⟩

set_option maxHeartbeats 800000 in
theorem spec_take_none (s : ByteArray) (w : World) (hs : s.size ≤ maxLen) (h : takeN s = none) :
    Calls Try.prog 11 #[.string s] w fun e w' => e = .returned (.tuple #[.string ByteArray.empty, .int .i64 0, .bool false]) ∧ Below w.heap.size w w' := by
  unfold maxLen at hs
  rcases takeN_none h with h0 | ⟨h0, hc⟩
  · obtain rfl := is_empty s h0
    go_enter Try.func11, Try.ntmps11
    go_wp2
    go_ret3
    exact ⟨rfl, Below.refl _ _⟩
  · clear h
    have hne : ((s.size : Int) == 0) = false := by rw [beq_eq_false_iff_ne]; omega
    generalize hn : s[0].toNat = n at *
    rcases hc with hc | ⟨hc, hc2⟩ | ⟨h60, h3, hf⟩
    · have hgt : (60 : Int) < (n : Int) := by omega
      go_enter Try.func11, Try.ntmps11
      go_wp2
      go_ret3
      exact ⟨rfl, Below.refl _ _⟩
    · have hgt : ¬ (60 : Int) < (n : Int) := by omega
      have hlt : ((s.size : Int) < (n : Int) + 3) := by omega
      go_enter Try.func11, Try.ntmps11
      go_wp2
      go_ret3
      exact ⟨rfl, Below.refl _ _⟩
    · have hgt : ¬ (60 : Int) < (n : Int) := by omega
      have hlt : ¬ ((s.size : Int) < (n : Int) + 3) := by omega
      have hq := str_ne hf
      clear hf
      have ks := slice_at s 1 (IntKind.i64.wrap ((n : Int) + 3 - 2)) 1 (n + 1) rfl (by rw [wrap_in _ (by omega) (by omega)]; omega) (by omega) (by omega)
      have kt : ∀ w, (Instr.slice 9 (.string s) none (some (.int .i64 ((n : Int) + 3))) none).run Try.prog w = .ok (.string (s.extract 0 (n + 3))) w := fun w => by
        have h := run_slice_string_h (P := Try.prog) (w := w) (t := 9) (s := s) Try.underlying9 .i64 ((n : Int) + 3) (by omega) (by omega)
        rw [h]; congr 3
      have hz' : (s.extract 1 (n + 1)).size ≤ 60 := by rw [ext_size s 1 (n + 1) (by omega)]; omega
      go_enter Try.func11, Try.ntmps11
      go_wp2
      go_region_with (go_at_call 16; refine (spec_frame _ _ hz').mono ?_; rintro e w1 ⟨rfl, hb1⟩)
      go_wp2
      go_ret3
      exact ⟨rfl, (Below.refl _ w).drew.trans hb1⟩
end Go.Proofs.Ytoelclgpmjecmaa
