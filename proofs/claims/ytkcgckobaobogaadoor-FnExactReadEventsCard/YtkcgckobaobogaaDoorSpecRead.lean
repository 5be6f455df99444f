/-
  The specification's ReadEvent returns the good event whose text is s, and the zero answer where there is none; nothing that was there is turned.
-/
import Derived.Test.YtkcgckobaobogaaDoorCut
namespace Go.Proofs.YtkcgckobaobogaaDoor
open Go.RowKit M
namespace M
theorem cutA_len (l : List UInt8) : (cutA l).length ≤ l.length := by
  unfold cutA; exact (List.takeWhile_sublist _).length_le
theorem cutB_len (l : List UInt8) : (cutB l).length ≤ l.length := by
  unfold cutB
  have := (List.dropWhile_sublist nd (l := l)).length_le
  rw [List.length_tail]; omega
def rK (l : List UInt8) : Int := intL (cutA l)
def rI (l : List UInt8) : Int := intL (cutA (cutB l))
def rV (l : List UInt8) : Int := intL (cutA (cutB (cutB l)))
def rN (l : List UInt8) : ByteArray := ⟨(cutA (cutB (cutB (cutB l)))).toArray⟩
abbrev ev0 : Value := ev 0 0 0 ⟨#[]⟩
theorem str_ne2 {a b : ByteArray} (h : a ≠ b) : (a.toList == b.toList) = false := by
  rw [beq_eq_false_iff_ne]
  intro e
  rw [Lib.toList_data, Lib.toList_data] at e
  exact h (ba_eq e)
theorem size_mk (l : List UInt8) : (⟨l.toArray⟩ : ByteArray).size = l.length := by simp [ByteArray.size]
end M

/-- The four cuts and the three numbers, walked once: what stands ahead of the tests. -/
theorem cut_step (l : List UInt8) (w : World) (hs : l.length ≤ maxLen) :
    Calls Tryd.prog 33 #[.string ⟨l.toArray⟩, .int .u8 46] w fun e w' => e = .returned (.tuple #[.string ⟨(cutA l).toArray⟩, .string ⟨(cutB l).toArray⟩, .bool (hasDot l)]) ∧ Below w.heap.size w w' :=
  spec_cut ⟨l.toArray⟩ w (by rw [size_mk]; exact hs)
theorem int_step (l : List UInt8) (w : World) (hs : l.length ≤ maxLen) :
    Calls Tryd.prog 34 #[.string ⟨l.toArray⟩] w fun e w' => e = .returned (.int .i64 (intL l)) ∧ w' = w :=
  spec_int ⟨l.toArray⟩ w (by rw [size_mk]; exact hs)

namespace M
theorem blk4 {w : World} {b : Nat} {a0 a1 a2 a3 : Value} {t : TypeId} (h : w.heap[b]? = some (.cells #[a0, a1, a2, a3] t (0, 0))) :
    (w.cell? ⟨b, 0, none⟩ = some a0 ∧ w.cell? ⟨b, 1, none⟩ = some a1 ∧ w.cell? ⟨b, 2, none⟩ = some a2 ∧ w.cell? ⟨b, 3, none⟩ = some a3) ∧
      (w.frozen? ⟨b, 0, none⟩ = false ∧ w.frozen? ⟨b, 1, none⟩ = false ∧ w.frozen? ⟨b, 2, none⟩ = false ∧ w.frozen? ⟨b, 3, none⟩ = false) := by
  refine ⟨⟨?_, ?_, ?_, ?_⟩, ?_, ?_, ?_, ?_⟩ <;> simp [World.cell?, World.frozen?, h]
theorem blk_below {W w : World} {b : Nat} {o : Obj} (h : W.heap[b]? = some o) (hb : Below W.heap.size W w) : w.heap[b]? = some o := by
  have hlt : b < W.heap.size := by
    rcases Nat.lt_or_ge b W.heap.size with h' | h'
    · exact h'
    · rw [Array.getElem?_eq_none h'] at h; cases h
  rw [hb.block b hlt]; exact h
theorem blk_alloc {W : World} {b : Nat} {o : Obj} (h : W.heap[b]? = some o) (o2 : Obj) : (W.alloc o2).heap[b]? = some o :=
  blk_below h ((Below.refl _ W).alloc (Nat.le_refl _) o2)
end M

set_option maxHeartbeats 1000000 in
theorem spec_read_bad (s : ByteArray) (w : World) (hs : s.size ≤ maxLen) (hg : goodB (rI s.data.toList) (rV s.data.toList) (rK s.data.toList) (rN s.data.toList) = false) :
    Calls Tryd.prog 14 #[.string s] w fun e w' => e = .returned (.tuple #[ev0, .bool false]) ∧ Below w.heap.size w w' := by
  have l0 : s.data.toList.length ≤ maxLen := by rw [← Lib.size_eq]; exact hs
  have l1 := Nat.le_trans (cutB_len s.data.toList) l0
  have l2 := Nat.le_trans (cutB_len (cutB s.data.toList)) l1
  have l3 := Nat.le_trans (cutB_len (cutB (cutB s.data.toList))) l2
  have m0 := Nat.le_trans (cutA_len s.data.toList) l0
  have m1 := Nat.le_trans (cutA_len (cutB s.data.toList)) l1
  have m2 := Nat.le_trans (cutA_len (cutB (cutB s.data.toList))) l2
  have m3 := Nat.le_trans (cutA_len (cutB (cutB (cutB s.data.toList)))) l3
  have m4 : (rN s.data.toList).size ≤ maxLen := by unfold rN; rw [size_mk]; exact m3
  go_enter Tryd.func14, Tryd.ntmps14
  go_wp2_with fail
  refine (spec_cut _ _ hs).mono ?_
  rintro e w1 ⟨rfl, hb1⟩
  go_wp2_with fail
  refine (cut_step _ _ l1).mono ?_
  rintro e w2 ⟨rfl, hb⟩
  have hb2 := hb1.trans (hb.mono hb1.size)
  clear hb
  go_wp2_with fail
  refine (cut_step _ _ l2).mono ?_
  rintro e w3 ⟨rfl, hb⟩
  have hb3 := hb2.trans (hb.mono hb2.size)
  clear hb
  go_wp2_with fail
  refine (cut_step _ _ l3).mono ?_
  rintro e w4 ⟨rfl, hb⟩
  have hb4 := hb3.trans (hb.mono hb3.size)
  clear hb hb1 hb2 hb3
  have b2 := blk_below (heap_alloc_new w (.cells #[.int .i64 0, .int .i64 0, .int .i64 0, .string ⟨#[]⟩] 26)) hb4
  have hz := hb4.size
  rw [World.size_alloc] at hz
  have hbw : Below w.heap.size w w4 := ((Below.refl _ w).alloc (Nat.le_refl _) _).trans (hb4.mono (by simp))
  clear hb4
  go_wp2_with fail
  refine (int_step _ _ m1).mono ?_
  rintro e w5 ⟨rfl, hw⟩
  subst hw
  go_wp2_with fail
  refine (int_step _ _ m2).mono ?_
  rintro e w6 ⟨rfl, hw⟩
  subst hw
  go_wp2_with fail
  refine (int_step _ _ m0).mono ?_
  rintro e w7 ⟨rfl, hw⟩
  subst hw
  change goodB (intL (cutA (cutB s.data.toList))) (intL (cutA (cutB (cutB s.data.toList)))) (intL (cutA s.data.toList)) ⟨(cutA (cutB (cutB (cutB s.data.toList)))).toArray⟩ = _ at hg
  change (⟨(cutA (cutB (cutB (cutB s.data.toList)))).toArray⟩ : ByteArray).size ≤ maxLen at m4
  generalize intL (cutA (cutB s.data.toList)) = I at *
  generalize intL (cutA (cutB (cutB s.data.toList))) = V at *
  generalize intL (cutA s.data.toList) = K at *
  generalize (⟨(cutA (cutB (cutB (cutB s.data.toList)))).toArray⟩ : ByteArray) = N at *
  clear l0 l1 l2 l3 m0 m1 m2 m3
  go_wp2_with fail
  refine (spec_good _ _ _ _ _ m4).mono ?_
  rintro e w8 ⟨rfl, hb8⟩
  rw [hg]
  have b2' := blk_below (blk_alloc b2 _) hb8
  have b16 := blk_below (heap_alloc_new w7 (.cells #[.int .i64 I, .int .i64 V, .int .i64 K, .string N] 26)) hb8
  have hz8 := hb8.size
  rw [World.size_alloc] at hz8
  have hbw8 : Below w.heap.size w w8 := (hbw.alloc (by omega) _).trans (hb8.mono (by rw [World.size_alloc]; omega))
  obtain ⟨⟨c0, c1, c2, c3⟩, d0, d1, d2, d3⟩ := blk4 b2'
  clear b2 b2' b16 hb8 hbw
  go_wp2
  exact bodyPost_ret (v := .tuple #[ev0, .bool false]) (by simp [results, Tryd.results14, go_sem, c0, c1, c2, c3]) rfl ⟨rfl, (((hbw8.setCell (Nat.le_refl _) _).setCell (Nat.le_refl _) _).setCell (Nat.le_refl _) _).setCell (Nat.le_refl _) _⟩

set_option maxHeartbeats 1000000 in
theorem spec_read_ne (s : ByteArray) (w : World) (hs : s.size ≤ maxLen) (hg : goodB (rI s.data.toList) (rV s.data.toList) (rK s.data.toList) (rN s.data.toList) = true)
    (he : evB (rI s.data.toList).toNat (rV s.data.toList).toNat (rK s.data.toList).toNat (rN s.data.toList) ≠ s) :
    Calls Tryd.prog 14 #[.string s] w fun e w' => e = .returned (.tuple #[ev0, .bool false]) ∧ Below w.heap.size w w' := by
  have l0 : s.data.toList.length ≤ maxLen := by rw [← Lib.size_eq]; exact hs
  have l1 := Nat.le_trans (cutB_len s.data.toList) l0
  have l2 := Nat.le_trans (cutB_len (cutB s.data.toList)) l1
  have l3 := Nat.le_trans (cutB_len (cutB (cutB s.data.toList))) l2
  have m0 := Nat.le_trans (cutA_len s.data.toList) l0
  have m1 := Nat.le_trans (cutA_len (cutB s.data.toList)) l1
  have m2 := Nat.le_trans (cutA_len (cutB (cutB s.data.toList))) l2
  have m3 := Nat.le_trans (cutA_len (cutB (cutB (cutB s.data.toList)))) l3
  have m4 : (rN s.data.toList).size ≤ maxLen := by unfold rN; rw [size_mk]; exact m3
  go_enter Tryd.func14, Tryd.ntmps14
  go_wp2_with fail
  refine (spec_cut _ _ hs).mono ?_
  rintro e w1 ⟨rfl, hb1⟩
  go_wp2_with fail
  refine (cut_step _ _ l1).mono ?_
  rintro e w2 ⟨rfl, hb⟩
  have hb2 := hb1.trans (hb.mono hb1.size)
  clear hb
  go_wp2_with fail
  refine (cut_step _ _ l2).mono ?_
  rintro e w3 ⟨rfl, hb⟩
  have hb3 := hb2.trans (hb.mono hb2.size)
  clear hb
  go_wp2_with fail
  refine (cut_step _ _ l3).mono ?_
  rintro e w4 ⟨rfl, hb⟩
  have hb4 := hb3.trans (hb.mono hb3.size)
  clear hb hb1 hb2 hb3
  have b2 := blk_below (heap_alloc_new w (.cells #[.int .i64 0, .int .i64 0, .int .i64 0, .string ⟨#[]⟩] 26)) hb4
  have hz := hb4.size
  rw [World.size_alloc] at hz
  have hbw : Below w.heap.size w w4 := ((Below.refl _ w).alloc (Nat.le_refl _) _).trans (hb4.mono (by simp))
  clear hb4
  go_wp2_with fail
  refine (int_step _ _ m1).mono ?_
  rintro e w5 ⟨rfl, hw⟩
  subst hw
  go_wp2_with fail
  refine (int_step _ _ m2).mono ?_
  rintro e w6 ⟨rfl, hw⟩
  subst hw
  go_wp2_with fail
  refine (int_step _ _ m0).mono ?_
  rintro e w7 ⟨rfl, hw⟩
  subst hw
  change goodB (intL (cutA (cutB s.data.toList))) (intL (cutA (cutB (cutB s.data.toList)))) (intL (cutA s.data.toList)) ⟨(cutA (cutB (cutB (cutB s.data.toList)))).toArray⟩ = _ at hg
  change (⟨(cutA (cutB (cutB (cutB s.data.toList)))).toArray⟩ : ByteArray).size ≤ maxLen at m4
  change evB (intL (cutA (cutB s.data.toList))).toNat (intL (cutA (cutB (cutB s.data.toList)))).toNat (intL (cutA s.data.toList)).toNat ⟨(cutA (cutB (cutB (cutB s.data.toList)))).toArray⟩ ≠ s at he
  generalize intL (cutA (cutB s.data.toList)) = I at *
  generalize intL (cutA (cutB (cutB s.data.toList))) = V at *
  generalize intL (cutA s.data.toList) = K at *
  generalize (⟨(cutA (cutB (cutB (cutB s.data.toList)))).toArray⟩ : ByteArray) = N at *
  clear l0 l1 l2 l3 m0 m1 m2 m3
  have HE := hide he
  clear he
  go_wp2_with fail
  refine (spec_good _ _ _ _ _ m4).mono ?_
  rintro e w8 ⟨rfl, hb8⟩
  rw [hg]
  have b2' := blk_below (blk_alloc b2 _) hb8
  have b16 := blk_below (heap_alloc_new w7 (.cells #[.int .i64 I, .int .i64 V, .int .i64 K, .string N] 26)) hb8
  have hz8 := hb8.size
  rw [World.size_alloc] at hz8
  have hbw8 : Below w.heap.size w w8 := (hbw.alloc (by omega) _).trans (hb8.mono (by rw [World.size_alloc]; omega))
  obtain ⟨⟨p1, p2⟩, ⟨p3, p4⟩, ⟨p5, p6⟩, p7⟩ := good_parts hg
  have b16c := blk4 b16
  obtain ⟨⟨e0, e1, e2, e3⟩, -⟩ := b16c
  obtain ⟨I, rfl⟩ := Int.eq_ofNat_of_zero_le (show 0 ≤ I by omega)
  obtain ⟨V, rfl⟩ := Int.eq_ofNat_of_zero_le (show 0 ≤ V by omega)
  obtain ⟨K, rfl⟩ := Int.eq_ofNat_of_zero_le (show 0 ≤ K by omega)
  simp only [Int.toNat_natCast] at HE
  go_wp2_with fail
  refine (spec_bytes _ _ _ _ _ (by omega) (by omega) (by omega) p7).mono ?_
  rintro e w9 ⟨rfl, hb9⟩
  have b2s := blk_below b2' hb9
  have b16s := blk_below b16 hb9
  have hbw9 : Below w.heap.size w w9 := hbw8.trans (hb9.mono (by omega))
  obtain ⟨⟨c0, c1, c2, c3⟩, d0, d1, d2, d3⟩ := blk4 b2s
  obtain ⟨⟨f0, f1, f2, f3⟩, -⟩ := blk4 b16s
  have hq := str_ne2 HE.out
  clear b2 b2' b16 b2s b16s hb8 hb9 hbw hbw8 e0 e1 e2 e3 HE
  go_wp2
  exact bodyPost_ret (v := .tuple #[ev0, .bool false]) (by simp [results, Tryd.results14, go_sem, c0, c1, c2, c3]) rfl ⟨rfl, (((hbw9.setCell (Nat.le_refl _) _).setCell (Nat.le_refl _) _).setCell (Nat.le_refl _) _).setCell (Nat.le_refl _) _⟩

set_option maxHeartbeats 1000000 in
theorem spec_read_eq (s : ByteArray) (w : World) (hs : s.size ≤ maxLen) (I V K : Nat) (N : ByteArray) (hI : rI s.data.toList = I) (hV : rV s.data.toList = V) (hK : rK s.data.toList = K) (hN : rN s.data.toList = N)
    (hg : goodB I V K N = true) (he : evB I V K N = s) :
    Calls Tryd.prog 14 #[.string s] w fun e w' => e = .returned (.tuple #[ev I V K N, .bool true]) ∧ Below w.heap.size w w' := by
  have l0 : s.data.toList.length ≤ maxLen := by rw [← Lib.size_eq]; exact hs
  have l1 := Nat.le_trans (cutB_len s.data.toList) l0
  have l2 := Nat.le_trans (cutB_len (cutB s.data.toList)) l1
  have l3 := Nat.le_trans (cutB_len (cutB (cutB s.data.toList))) l2
  have m0 := Nat.le_trans (cutA_len s.data.toList) l0
  have m1 := Nat.le_trans (cutA_len (cutB s.data.toList)) l1
  have m2 := Nat.le_trans (cutA_len (cutB (cutB s.data.toList))) l2
  have m3 := Nat.le_trans (cutA_len (cutB (cutB (cutB s.data.toList)))) l3
  have m4 : (rN s.data.toList).size ≤ maxLen := by unfold rN; rw [size_mk]; exact m3
  rw [hN] at m4
  have HI := hide (show intL (cutA (cutB s.data.toList)) = (I : Int) from hI)
  have HV := hide (show intL (cutA (cutB (cutB s.data.toList))) = (V : Int) from hV)
  have HK := hide (show intL (cutA s.data.toList) = (K : Int) from hK)
  have HN := hide (show (⟨(cutA (cutB (cutB (cutB s.data.toList)))).toArray⟩ : ByteArray) = N from hN)
  have HE := hide he
  clear hI hV hK hN he
  go_enter Tryd.func14, Tryd.ntmps14
  go_wp2_with fail
  refine (spec_cut _ _ hs).mono ?_
  rintro e w1 ⟨rfl, hb1⟩
  go_wp2_with fail
  refine (cut_step _ _ l1).mono ?_
  rintro e w2 ⟨rfl, hb⟩
  have hb2 := hb1.trans (hb.mono hb1.size)
  clear hb
  go_wp2_with fail
  refine (cut_step _ _ l2).mono ?_
  rintro e w3 ⟨rfl, hb⟩
  have hb3 := hb2.trans (hb.mono hb2.size)
  clear hb
  go_wp2_with fail
  refine (cut_step _ _ l3).mono ?_
  rintro e w4 ⟨rfl, hb⟩
  rw [HN.out]
  have hb4 := hb3.trans (hb.mono hb3.size)
  clear hb hb1 hb2 hb3
  have b2 := blk_below (heap_alloc_new w (.cells #[.int .i64 0, .int .i64 0, .int .i64 0, .string ⟨#[]⟩] 26)) hb4
  have hz := hb4.size
  rw [World.size_alloc] at hz
  have hbw : Below w.heap.size w w4 := ((Below.refl _ w).alloc (Nat.le_refl _) _).trans (hb4.mono (by simp))
  clear hb4
  go_wp2_with fail
  refine (int_step _ _ m1).mono ?_
  rintro e w5 ⟨rfl, hw⟩
  subst hw
  rw [HI.out]
  go_wp2_with fail
  refine (int_step _ _ m2).mono ?_
  rintro e w6 ⟨rfl, hw⟩
  subst hw
  rw [HV.out]
  go_wp2_with fail
  refine (int_step _ _ m0).mono ?_
  rintro e w7 ⟨rfl, hw⟩
  subst hw
  rw [HK.out]
  clear l0 l1 l2 l3 m0 m1 m2 m3 HI HV HK HN
  go_wp2_with fail
  refine (spec_good _ _ _ _ _ m4).mono ?_
  rintro e w8 ⟨rfl, hb8⟩
  rw [hg]
  have b2' := blk_below (blk_alloc b2 _) hb8
  have b16 := blk_below (heap_alloc_new w7 (.cells #[.int .i64 I, .int .i64 V, .int .i64 K, .string N] 26)) hb8
  have hz8 := hb8.size
  rw [World.size_alloc] at hz8
  have hbw8 : Below w.heap.size w w8 := (hbw.alloc (by omega) _).trans (hb8.mono (by rw [World.size_alloc]; omega))
  obtain ⟨⟨p1, p2⟩, ⟨p3, p4⟩, ⟨p5, p6⟩, p7⟩ := good_parts hg
  have b16c := blk4 b16
  obtain ⟨⟨e0, e1, e2, e3⟩, -⟩ := b16c
  go_wp2_with fail
  refine (spec_bytes _ _ _ _ _ (by omega) (by omega) (by omega) p7).mono ?_
  rintro e w9 ⟨rfl, hb9⟩
  have b2s := blk_below b2' hb9
  have b16s := blk_below b16 hb9
  have hbw9 : Below w.heap.size w w9 := hbw8.trans (hb9.mono (by omega))
  obtain ⟨⟨c0, c1, c2, c3⟩, d0, d1, d2, d3⟩ := blk4 b2s
  obtain ⟨⟨f0, f1, f2, f3⟩, -⟩ := blk4 b16s
  clear b2 b2' b16 b2s b16s hb8 hb9 hbw hbw8 e0 e1 e2 e3
  have hq := HE.out
  go_wp2
  exact bodyPost_ret (v := .tuple #[ev I V K N, .bool true]) (by simp [results, Tryd.results14, go_sem, c0, c1, c2, c3]) rfl ⟨rfl, (((hbw9.setCell (Nat.le_refl _) _).setCell (Nat.le_refl _) _).setCell (Nat.le_refl _) _).setCell (Nat.le_refl _) _⟩
end Go.Proofs.YtkcgckobaobogaaDoor
