/-
  A text's bytes as a row that may be written; what a drawn text for TakeFrame may be; both texts of TakeFrame at once.
-/
import Derived.Test.YtoelclgpmjecmaaFrE
namespace Go.Proofs.Ytoelclgpmjecmaa
open Go.RowKit M
namespace M
/-- The row at g begins with the bytes l, and they may be written. -/
def RowB (W : World) (g : Nat) (l : List UInt8) : Prop :=
  ∃ C : Array Value, W.heap[g]? = some (.cells C 5 (C.size, C.size + 1)) ∧ l.length ≤ C.size ∧ ∀ (j : Nat) (u : UInt8), l[j]? = some u → C[j]? = some (Value.int .u8 (u.toNat : Int))
theorem RowB.cell {W : World} {g : Nat} {l : List UInt8} (h : RowB W g l) {j : Nat} {u : UInt8} (hj : l[j]? = some u) : W.cell? ⟨g, j, none⟩ = some (.int .u8 (u.toNat : Int)) := by
  obtain ⟨C, h1, h2, h3⟩ := h
  simp [World.cell?, h1, h3 j u hj]
theorem RowB.thaw {W : World} {g : Nat} {l : List UInt8} (h : RowB W g l) {j : Nat} (hj : j < l.length) : W.frozen? ⟨g, j, none⟩ = false := by
  obtain ⟨C, h1, h2, h3⟩ := h
  simp [World.frozen?, h1]
  omega
theorem RowB.set {W : World} {g : Nat} {l : List UInt8} (h : RowB W g l) {k y : Nat} (hk : k < l.length) (hy : y < 256) : RowB (W.setCell ⟨g, k, none⟩ (.int .u8 (y : Int))) g (l.set k (UInt8.ofNat y)) := by
  obtain ⟨C, h1, h2, h3⟩ := h
  refine ⟨C.setIfInBounds k (.int .u8 (y : Int)), ?_, by simpa using h2, ?_⟩
  · rw [setCell_eq_setRow W g k C 5 _ _ h1, setRow_heap W g C _ 5 _ h1]
    simp
  · intro j u hj
    rw [List.getElem?_set] at hj
    rw [Array.getElem?_setIfInBounds]
    by_cases hjk : k = j
    · subst hjk
      rw [if_pos rfl, if_pos hk] at hj
      cases hj
      rw [if_pos rfl, if_pos (by omega), u8_of y hy]
    · rw [if_neg hjk] at hj ⊢
      exact h3 j u hj
theorem RowB.below {W W' : World} {g : Nat} {l : List UInt8} (h : RowB W g l) (hg : g < W.heap.size) (hb : Below W.heap.size W W') : RowB W' g l := by
  obtain ⟨C, h1, h2, h3⟩ := h
  exact ⟨C, (hb.block g hg).trans h1, h2, h3⟩
theorem RowB.conv {W : World} {g : Nat} {l : List UInt8} (h : RowB W g l) (cap : Nat) : (convert 28 9 (.slice (some ⟨g, 0, none⟩) l.length cap)).run Try.prog W = .ok (.string ⟨l.toArray⟩) W :=
  run_convert_bytes_back W 28 9 5 ⟨g, 0, none⟩ cap l Try.underlying28 Try.underlying5 Try.underlying9 (fun j hj => by
    rw [show (⟨g, 0, none⟩ : Addr).add j = ⟨g, j, none⟩ by cases j <;> simp [Addr.add]]
    exact h.cell (by simp [hj]))
end M
/-- []byte(s). -/
theorem conv_bytes (w : World) (s : ByteArray) : ∃ (W : World) (cap : Nat), (convert 9 28 (.string s)).run Try.prog w = .ok (.slice (some ⟨w.heap.size, 0, none⟩) s.size cap) W ∧ RowB W w.heap.size s.data.toList ∧ Below w.heap.size w W ∧ w.heap.size < W.heap.size := by
  refine ⟨Lib.bytesWorld w 5 s, _, Lib.run_convert_string_bytes w 9 28 5 s Try.underlying9 Try.underlying28 Try.underlying5, ⟨Lib.bytesCells w 5 s, Lib.bytesWorld_at_new w 5 s, ?_, ?_⟩, ⟨rfl, rfl, rfl, by rw [Lib.bytesWorld_size]; omega, fun k hk => Lib.bytesWorld_at_old w 5 s k hk⟩, by rw [Lib.bytesWorld_size]; omega⟩
  · simp [Lib.bytesCells]
  · intro j u hj
    have hl : j < s.data.toList.length := (List.getElem?_eq_some_iff.1 hj).1
    have hl' : j < s.size := by simpa using hl
    have := Lib.bytesWorld_cell w 5 s j hl'
    simp only [World.cell?, Lib.bytesWorld_at_new] at this
    rw [List.getD, hj] at this
    simpa using this
theorem spec_fb (s : ByteArray) (w : World) (hs : s.size ≤ 61) :
    Calls Try.prog 9 #[.string s] w fun e w' => (∃ y b, e = .returned (.tuple #[.string y, .bool b]) ∧ y.size ≤ 63) ∧ Below w.heap.size w w' := by
  by_cases h : s.size ≤ 60
  · refine (spec_frameB s w h).mono ?_
    rintro e w1 ⟨rfl, hb⟩
    exact ⟨⟨_, _, rfl, by rw [frameB_size]; omega⟩, hb⟩
  · refine (spec_frameB_no s w (by unfold maxLen; omega) (by omega)).mono ?_
    rintro e w1 ⟨rfl, rfl⟩
    exact ⟨⟨_, _, rfl, by simp⟩, Below.refl _ _⟩
theorem take_both (u : ByteArray) (hu : u.size ≤ 300) : ∃ (x : ByteArray) (a : Int) (b : Bool), (∀ w, Calls Try.prog 12 #[.string u] w fun e w' => e = .returned (.tuple #[.string x, .int .i64 a, .bool b]) ∧ Below w.heap.size w w') ∧ (∀ w, Calls Try.prog 11 #[.string u] w fun e w' => e = .returned (.tuple #[.string x, .int .i64 a, .bool b]) ∧ Below w.heap.size w w') := by
  have hs : u.size ≤ maxLen := by unfold maxLen; omega
  cases h : takeN u with
  | none => exact ⟨_, _, _, fun w => impl_take_none u w hs h, fun w => spec_take_none u w hs h⟩
  | some n => exact ⟨_, _, _, fun w => impl_take_some u w hs n h, fun w => spec_take_some u w hs n h⟩
set_option maxHeartbeats 2000000 in
theorem draw_take (v : Value) (n : Nat) (f : Nat → Nat) (w : World) (hv : OctetsOf w v n f) (hn : n ≤ 1048576) :
    Calls Try.prog 15 #[v] w fun e w' => (∃ s : ByteArray, e = .returned (.string s) ∧ s.size ≤ 300) ∧ Below w.heap.size w w' := by
  obtain ⟨a, cap, rfl⟩ := hv.form
  have hal := (Below.refl w.heap.size w).alloc (Nat.le_refl _) (.cells #[.slice a n cap, .int .i64 0, .int .u64 0] 38)
  have HC := hide (cur_new hv hn)
  have HB := hide hal
  clear hv hal
  go_enter Try.func15, Try.ntmps15
  go_wp2_with fail
  refine (cur_raw w.heap.size w.heap.size 0 _ HC.out (by omega)).mono ?_
  rintro e w1 ⟨⟨x, rfl, hx0⟩, hc1, ho1⟩
  have HB1 := hide (HB.out.trans (ho1.below (Nat.le_refl _) HB.out.size))
  have HC1 := hide hc1
  clear hc1 ho1 HC HB
  go_wp2_with fail
  refine (spec_fb x _ hx0).mono ?_
  rintro e w2 ⟨⟨y, b, rfl, hy⟩, hb2⟩
  have HB2 := hide (HB1.out.trans (hb2.mono HB1.out.size))
  have HC2 := hide (HC1.out.below hb2)
  clear hb2 HB1 HC1 hx0
  go_wp2_with fail
  refine (cur_one w.heap.size w.heap.size _ 3 _ HC2.out (by omega) (by omega)).mono ?_
  rintro e w3 ⟨⟨c, rfl⟩, hc3, ho3⟩
  have HB3 := hide (HB2.out.trans (ho3.below (Nat.le_refl _) HB2.out.size))
  have HC3 := hide hc3
  clear hc3 ho3 HC2 HB2
  cases c
  · go_wp2_with fail
    refine (cur_pick w.heap.size w.heap.size _ 3 _ HC3.out (by omega) (by omega)).mono ?_
    rintro e w4 ⟨⟨q, hq, rfl⟩, hc4, ho4⟩
    have HB4 := hide (HB3.out.trans (ho4.below (Nat.le_refl _) HB3.out.size))
    have HC4 := hide hc4
    have hq3 : q ≤ 2 := by omega
    clear hc4 ho4 HC3 HB3 hq
    go_wp2_with fail
    refine (cur_bytes w.heap.size w.heap.size _ q _ HC4.out (by omega) (by omega)).mono ?_
    rintro e w5 ⟨⟨r, rfl, l, hl, hown⟩, hc5, ho5⟩
    have HB5 := hide (HB4.out.trans (ho5.below (Nat.le_refl _) HB4.out.size))
    have kc := conv_own w5 _ r _ _ hown
    have hz : (⟨l.toArray⟩ : ByteArray).size = l.length := by simp [ByteArray.size]
    clear hc5 ho5 HC4 HB4 hown
    generalize (⟨l.toArray⟩ : ByteArray) = L at *
    have q1 : ¬ (9223372036854775807 < y.size + L.size) := by omega
    go_wp2
    go_ret
    exact ⟨⟨_, rfl, by rw [ByteArray.size_append]; omega⟩, HB5.out⟩
  · go_wp2_with fail
    refine (cur_spoilt w.heap.size w.heap.size _ y ⟨#[0, 1, 97]⟩ _ HC3.out (by omega) (by omega) rfl).mono ?_
    rintro e w6 ⟨⟨z, rfl, hz6⟩, hc6, ho6⟩
    have HB6 := hide (HB3.out.trans (ho6.below (Nat.le_refl _) HB3.out.size))
    have HC6 := hide hc6
    clear hc6 ho6 HC3 HB3
    go_wp2_with fail
    refine (cur_pick w.heap.size w.heap.size _ 3 _ HC6.out (by omega) (by omega)).mono ?_
    rintro e w4 ⟨⟨q, hq, rfl⟩, hc4, ho4⟩
    have HB4 := hide (HB6.out.trans (ho4.below (Nat.le_refl _) HB6.out.size))
    have HC4 := hide hc4
    have hq3 : q ≤ 2 := by omega
    clear hc4 ho4 HC6 HB6 hq
    go_wp2_with fail
    refine (cur_bytes w.heap.size w.heap.size _ q _ HC4.out (by omega) (by omega)).mono ?_
    rintro e w5 ⟨⟨r, rfl, l, hl, hown⟩, hc5, ho5⟩
    have HB5 := hide (HB4.out.trans (ho5.below (Nat.le_refl _) HB4.out.size))
    have kc := conv_own w5 _ r _ _ hown
    have hz : (⟨l.toArray⟩ : ByteArray).size = l.length := by simp [ByteArray.size]
    clear hc5 ho5 HC4 HB4 hown
    generalize (⟨l.toArray⟩ : ByteArray) = L at *
    have q1 : ¬ (9223372036854775807 < z.size + L.size) := by omega
    go_wp2
    go_ret
    exact ⟨⟨_, rfl, by rw [ByteArray.size_append]; omega⟩, HB5.out⟩
end Go.Proofs.Ytoelclgpmjecmaa
