/-
  Frames and sums: a text comes back from its frame, whatever stands behind it; one byte that is another one is seen, but for 0 and 255: plain mathematics.
-/
import Derived.Test.YtoelclgpmjecmaaTake
namespace Go.Proofs.Ytoelclgpmjecmaa
open Go.RowKit M
namespace M
def smB (l : List UInt8) : Nat := (l.map UInt8.toNat).sum
theorem fold_fst : ∀ (l : List UInt8) (a b : Nat), a < 255 → (l.foldl step (a, b)).1 = (a + smB l) % 255
  | [], a, b, h => by simp [smB]; omega
  | c :: l, a, b, h => by
    rw [List.foldl_cons]
    show (l.foldl step ((a + c.toNat) % 255, _)).1 = _
    rw [fold_fst l _ _ (Nat.mod_lt _ (by omega))]
    have : smB (c :: l) = c.toNat + smB l := by simp [smB]
    omega
theorem fl_fst (l : List UInt8) : (fl l).1 = smB l % 255 := by
  unfold fl; rw [fold_fst l 0 0 (by omega), Nat.zero_add]
theorem smB_set : ∀ (l : List UInt8) (k : Nat) (x y : UInt8), l[k]? = some x → smB (l.set k y) + x.toNat = smB l + y.toNat
  | [], k, x, y, h => by simp at h
  | c :: l, 0, x, y, h => by simp at h; subst h; simp [smB]; omega
  | c :: l, k + 1, x, y, h => by
    have := smB_set l k x y (by simpa using h)
    simp only [List.set_cons_succ]
    have e1 : smB (c :: l.set k y) = c.toNat + smB (l.set k y) := by simp [smB]
    have e2 : smB (c :: l) = c.toNat + smB l := by simp [smB]
    omega
theorem step_alike (p : Nat × Nat) (x y : UInt8) (h : x.toNat % 255 = y.toNat % 255) : step p x = step p y := by
  unfold step
  have : (p.1 + x.toNat) % 255 = (p.1 + y.toNat) % 255 := by omega
  rw [this]
theorem fold_set : ∀ (l : List UInt8) (k : Nat) (x y : UInt8) (p : Nat × Nat), l[k]? = some x → x.toNat % 255 = y.toNat % 255 → (l.set k y).foldl step p = l.foldl step p
  | [], k, x, y, p, h, _ => by simp at h
  | c :: l, 0, x, y, p, h, he => by simp at h; subst h; simp only [List.set_cons_zero, List.foldl_cons]; rw [step_alike p c y he]
  | c :: l, k + 1, x, y, p, h, he => by
    simp only [List.set_cons_succ, List.foldl_cons]
    exact fold_set l k x y _ (by simpa using h) he
/-- One byte that is another one is seen, but for 0 and 255. -/
theorem sum_set {l : List UInt8} {k : Nat} {x y : UInt8} (h : l[k]? = some x) : sumOf (l.set k y) = sumOf l ↔ (x = y ∨ (x.toNat % 255 = 0 ∧ y.toNat % 255 = 0)) := by
  have hx := x.toNat_lt
  have hy := y.toNat_lt
  have key : sumOf (l.set k y) = sumOf l ↔ x.toNat % 255 = y.toNat % 255 := by
    constructor
    · intro e
      have b1 := fl_bd (l.set k y)
      have b2 := fl_bd l
      unfold sumOf at e
      have e1 : (fl (l.set k y)).1 = (fl l).1 := by omega
      rw [fl_fst, fl_fst] at e1
      have := smB_set l k x y h
      omega
    · intro e
      unfold sumOf fl
      rw [fold_set l k x y _ h e]
  rw [key]
  constructor
  · intro e
    by_cases hxy : x.toNat = y.toNat
    · exact .inl (UInt8.toNat_inj.1 hxy)
    · exact .inr (by omega)
  · rintro (e | ⟨e1, e2⟩)
    · rw [e]
    · omega
theorem baf {a b : ByteArray} (h : a.data.toList = b.data.toList) : a = b := ByteArray.ext (Array.toList_inj.1 h)
theorem frame_first (s m : ByteArray) (h : s.size ≤ 60) (h0 : 0 < (frameB s ++ m).size) : (frameB s ++ m)[0].toNat = s.size := by
  have e : (frameB s ++ m).data.toList = UInt8.ofNat s.size :: ((s.data.toList ++ [UInt8.ofNat (sumOf s.data.toList / 256), UInt8.ofNat (sumOf s.data.toList % 256)]) ++ m.data.toList) := by
    rw [ByteArray.data_append, Array.toList_append]
    simp [frameB, frameL]
  have e2 : (frameB s ++ m).data.toList[0]? = some (UInt8.ofNat s.size) := by rw [e]; rfl
  have e3 : (frameB s ++ m)[0] = UInt8.ofNat s.size := by
    have h1 : (frameB s ++ m).data.toList[0]? = some (frameB s ++ m)[0] := by
      rw [Array.getElem?_toList]
      exact Array.getElem?_eq_getElem h0
    rw [h1] at e2
    simpa using e2
  rw [e3]
  have := u8_of s.size (by omega)
  omega
theorem takeN_frame (s m : ByteArray) (h : s.size ≤ 60) : takeN (frameB s ++ m) = some s.size ∧ (frameB s ++ m).extract 1 (s.size + 1) = s := by
  have hz : (frameB s ++ m).size = s.size + 3 + m.size := by rw [ByteArray.size_append, frameB_size]
  have h0 : 0 < (frameB s ++ m).size := by omega
  have hd : (frameB s ++ m).data.toList = frameL s.data.toList ++ m.data.toList := by
    rw [ByteArray.data_append, Array.toList_append]
    simp [frameB]
  have hl : (frameL s.data.toList).length = s.size + 3 := by
    simp [frameL]
  have hsz : s.data.toList.length = s.size := by simp
  have x1 : (frameB s ++ m).extract 1 (s.size + 1) = s := by
    apply baf
    rw [Lib.extract_data, hd]
    unfold frameL
    simp [hsz]
  have x2 : (frameB s ++ m).extract 0 (s.size + 3) = frameB s := by
    apply baf
    rw [Lib.extract_data, hd]
    simp only [List.drop_zero, Nat.sub_zero]
    rw [List.take_append_of_le_length (by omega), List.take_of_length_le (by omega)]
    simp [frameB]
  have hf := frame_first s m h h0
  refine ⟨?_, x1⟩
  unfold takeN
  rw [dif_pos h0, if_pos, hf]
  rw [hf]
  exact ⟨h, by omega, by rw [x1, x2]⟩
end M
end Go.Proofs.Ytoelclgpmjecmaa
