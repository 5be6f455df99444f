/-
  The program's ReadEvent returns the good event whose text is s, and the zero answer where there is none; nothing that was there is turned. Condition: the tables and the library's variables read as their texts lay them.
-/
import Derived.Test.YtkcgckobaobogaaDoorReadNum
import Derived.Test.YtkcgckobaobogaaDoorSpecRead
namespace Go.Proofs.YtkcgckobaobogaaDoor
open Go.RowKit M
set_option linter.unusedVariables false
namespace M
abbrev dotB : ByteArray := ⟨#[46]⟩
def parts (s : ByteArray) : List ByteArray := Lib.splitB dotB 0 (min 5 (s.size + 1) - 1) s
theorem parts_data (s : ByteArray) : (parts s).map (·.data.toList) = sp (min 5 (s.size + 1) - 1) s.data.toList := by
  unfold parts
  rw [Lib.splitB_data, ← splitK_sp]
theorem parts_cases (s : ByteArray) : (parts s).length ≠ 5 ∨ ∃ p0 p1 p2 p3 p4, parts s = [p0, p1, p2, p3, p4] ∧ min 5 (s.size + 1) = 5 ∧
    s.data.toList = p0.data.toList ++ 46 :: (p1.data.toList ++ 46 :: (p2.data.toList ++ 46 :: (p3.data.toList ++ 46 :: p4.data.toList))) := by
  by_cases h : (parts s).length = 5
  · right
    match hp : parts s, h with
    | [p0, p1, p2, p3, p4], _ =>
      have hd := parts_data s
      rw [hp] at hd
      simp only [List.map_cons, List.map_nil] at hd
      have hl := sp_len (min 5 (s.size + 1) - 1) s.data.toList
      rw [← hd] at hl
      simp at hl
      refine ⟨p0, p1, p2, p3, p4, rfl, by omega, sp_four _ (by omega) _ _ _ _ _ _ hd.symm⟩
  · exact .inl h
theorem blk5 {w : World} {b : Nat} {a0 a1 a2 a3 a4 : Value} {t : TypeId} (h : w.heap[b]? = some (.cells #[a0, a1, a2, a3, a4] t (0, 0))) :
    w.cell? ⟨b, 0, none⟩ = some a0 ∧ w.cell? ⟨b, 1, none⟩ = some a1 ∧ w.cell? ⟨b, 2, none⟩ = some a2 ∧ w.cell? ⟨b, 3, none⟩ = some a3 ∧ w.cell? ⟨b, 4, none⟩ = some a4 := by
  refine ⟨?_, ?_, ?_, ?_, ?_⟩ <;> simp [World.cell?, h]
theorem part_size {s p : ByteArray} (h : p.data.toList.length ≤ s.data.toList.length) : p.size ≤ s.size := by
  rw [Lib.size_eq, Lib.size_eq]; exact h
end M

theorem clone (s : ByteArray) (w : World) (hlim : s.size ≤ 281474976710656) :
    Calls Tryd.prog 37 #[.string s] w fun e w' => e = .returned (.string s) ∧ Below w.heap.size w w' := by
  go_enter Tryd.func37, Tryd.ntmps37
  go_wp2_with (go_at_call 50; refine (Tryd.stringslite_Clone _ _ hlim).mono ?_; rintro e w1 ⟨rfl, hb1⟩)
  go_ret
  exact ⟨rfl, hb1⟩

theorem split5 (s : ByteArray) (w : World) (hs : s.size ≤ 1048576) (hl : LB w) :
    Calls Tryd.prog 35 #[.string s, .string ⟨#[46]⟩, .int .i64 5] w fun e w' => e = .returned (.slice (some ⟨w.heap.size, 0, none⟩) (parts s).length (min 5 (s.size + 1))) ∧ w' = w.alloc (.cells (Lib.cellsOf (parts s) (min 5 (s.size + 1))) 9) := by
  obtain ⟨⟨m, hm⟩, -⟩ := hl
  exact Tryd.strings_SplitN s ⟨#[46]⟩ 5 m w (by omega) hm (by decide) (by decide) (by decide)

set_option maxHeartbeats 1000000 in
theorem impl_read_short (s : ByteArray) (w : World) (hs : s.size ≤ 1048576) (hl : LB w) (hne : (parts s).length ≠ 5) :
    Calls Tryd.prog 15 #[.string s] w fun e w' => e = .returned (.tuple #[ev0, .bool false]) ∧ Below w.heap.size w w' := by
  have hb5 : (((parts s).length : Int) != 5) = true := by rw [bne_iff_ne]; omega
  clear hne
  go_enter Tryd.func15, Tryd.ntmps15
  go_wp2_with fail
  refine (split5 _ _ hs (hl.alloc _)).mono ?_
  rintro e w1 ⟨rfl, rfl⟩
  have b2 := blk_alloc (heap_alloc_new w (.cells #[.int .i64 0, .int .i64 0, .int .i64 0, .string ⟨#[]⟩] 26)) (.cells (Lib.cellsOf (parts s) (min 5 (s.size + 1))) 9)
  have hbw : Below w.heap.size w ((w.alloc (.cells #[.int .i64 0, .int .i64 0, .int .i64 0, .string ⟨#[]⟩] 26)).alloc (.cells (Lib.cellsOf (parts s) (min 5 (s.size + 1))) 9)) := ((Below.refl _ w).alloc (Nat.le_refl _) _).alloc (by simp) _
  generalize (w.alloc (.cells #[.int .i64 0, .int .i64 0, .int .i64 0, .string ⟨#[]⟩] 26)).alloc (.cells (Lib.cellsOf (parts s) (min 5 (s.size + 1))) 9) = w1 at *
  obtain ⟨⟨c0, c1, c2, c3⟩, d0, d1, d2, d3⟩ := blk4 b2
  clear b2
  go_wp2
  exact bodyPost_ret (v := .tuple #[ev0, .bool false]) (by simp [results, Tryd.results15, go_sem, c0, c1, c2, c3]) rfl ⟨rfl, (((hbw.setCell (Nat.le_refl _) _).setCell (Nat.le_refl _) _).setCell (Nat.le_refl _) _).setCell (Nat.le_refl _) _⟩

theorem split_five (s p0 p1 p2 p3 p4 : ByteArray) (w : World) (hs : s.size ≤ 1048576) (hl : LB w) (hp : parts s = [p0, p1, p2, p3, p4]) (h5 : min 5 (s.size + 1) = 5) :
    Calls Tryd.prog 35 #[.string s, .string ⟨#[46]⟩, .int .i64 5] w fun e w' => e = .returned (.slice (some ⟨w.heap.size, 0, none⟩) 5 5) ∧ w' = w.alloc (.cells #[.string p0, .string p1, .string p2, .string p3, .string p4] 9) := by
  have h := split5 s w hs hl
  rw [hp, h5] at h
  exact h

set_option maxHeartbeats 1000000 in
theorem impl_read_p4 (s p0 p1 p2 p3 p4 : ByteArray) (w : World) (hs : s.size ≤ 1048576) (hl : LB w) (hps : parts s = [p0, p1, p2, p3, p4]) (h5 : min 5 (s.size + 1) = 5) (h4 : p4.toList.isEmpty = false) :
    Calls Tryd.prog 15 #[.string s] w fun e w' => e = .returned (.tuple #[ev0, .bool false]) ∧ Below w.heap.size w w' := by
  go_enter Tryd.func15, Tryd.ntmps15
  go_wp2_with fail
  refine (split_five s p0 p1 p2 p3 p4 _ hs (hl.alloc _) hps h5).mono ?_
  rintro e w1 ⟨rfl, rfl⟩
  have b2 := blk_alloc (heap_alloc_new w (.cells #[.int .i64 0, .int .i64 0, .int .i64 0, .string ⟨#[]⟩] 26)) (.cells #[.string p0, .string p1, .string p2, .string p3, .string p4] 9)
  have b5 := heap_alloc_new (w.alloc (.cells #[.int .i64 0, .int .i64 0, .int .i64 0, .string ⟨#[]⟩] 26)) (.cells #[.string p0, .string p1, .string p2, .string p3, .string p4] 9)
  rw [World.size_alloc] at b5
  have hbw : Below w.heap.size w ((w.alloc (.cells #[.int .i64 0, .int .i64 0, .int .i64 0, .string ⟨#[]⟩] 26)).alloc (.cells #[.string p0, .string p1, .string p2, .string p3, .string p4] 9)) := ((Below.refl _ w).alloc (Nat.le_refl _) _).alloc (by simp) _
  have hz1 : w.heap.size + 2 ≤ ((w.alloc (.cells #[.int .i64 0, .int .i64 0, .int .i64 0, .string ⟨#[]⟩] 26)).alloc (.cells #[.string p0, .string p1, .string p2, .string p3, .string p4] 9)).heap.size := by simp
  generalize (w.alloc (.cells #[.int .i64 0, .int .i64 0, .int .i64 0, .string ⟨#[]⟩] 26)).alloc (.cells #[.string p0, .string p1, .string p2, .string p3, .string p4] 9) = w1 at *
  obtain ⟨x0, x1, x2, x3, x4⟩ := blk5 b5
  obtain ⟨⟨c0, c1, c2, c3⟩, d0, d1, d2, d3⟩ := blk4 b2
  clear b2 b5
  go_wp2
  exact bodyPost_ret (v := .tuple #[ev0, .bool false]) (by simp [results, Tryd.results15, go_sem, c0, c1, c2, c3]) rfl ⟨rfl, (((hbw.setCell (Nat.le_refl _) _).setCell (Nat.le_refl _) _).setCell (Nat.le_refl _) _).setCell (Nat.le_refl _) _⟩

set_option maxHeartbeats 1600000 in
theorem impl_read_flags (s p0 p1 p2 p3 : ByteArray) (w : World) (hs : s.size ≤ 1048576) (hk : KK w) (hp : PT w) (hl : LB w) (hps : parts s = [p0, p1, p2, p3, ⟨#[]⟩]) (h5 : min 5 (s.size + 1) = 5)
    (q0 : p0.size ≤ 1048576) (q1 : p1.size ≤ 1048576) (q2 : p2.size ≤ 1048576) (q3 : p3.size ≤ 1048576) (I V K : Int) (a0 a1 a2 : Bool)
    (hK : numV p0.data.toList = K ∧ numOk p0.data.toList = a0) (hI : numV p1.data.toList = I ∧ numOk p1.data.toList = a1) (hV : numV p2.data.toList = V ∧ numOk p2.data.toList = a2)
    (hno : a0 = false ∨ a1 = false ∨ a2 = false) :
    Calls Tryd.prog 15 #[.string s] w fun e w' => e = .returned (.tuple #[ev0, .bool false]) ∧ Below w.heap.size w w' := by
  have HK := hide hK
  have HI := hide hI
  have HV := hide hV
  have HP := hide hp
  clear hK hI hV hp
  go_enter Tryd.func15, Tryd.ntmps15
  go_wp2_with fail
  refine (split_five s p0 p1 p2 p3 ⟨#[]⟩ _ hs (hl.alloc _) hps h5).mono ?_
  rintro e w1 ⟨rfl, rfl⟩
  have b2 := blk_alloc (heap_alloc_new w (.cells #[.int .i64 0, .int .i64 0, .int .i64 0, .string ⟨#[]⟩] 26)) (.cells #[.string p0, .string p1, .string p2, .string p3, .string ⟨#[]⟩] 9)
  have b5 := heap_alloc_new (w.alloc (.cells #[.int .i64 0, .int .i64 0, .int .i64 0, .string ⟨#[]⟩] 26)) (.cells #[.string p0, .string p1, .string p2, .string p3, .string ⟨#[]⟩] 9)
  rw [World.size_alloc] at b5
  have hbw : Below w.heap.size w ((w.alloc (.cells #[.int .i64 0, .int .i64 0, .int .i64 0, .string ⟨#[]⟩] 26)).alloc (.cells #[.string p0, .string p1, .string p2, .string p3, .string ⟨#[]⟩] 9)) := ((Below.refl _ w).alloc (Nat.le_refl _) _).alloc (by simp) _
  have hz1 : w.heap.size + 2 ≤ ((w.alloc (.cells #[.int .i64 0, .int .i64 0, .int .i64 0, .string ⟨#[]⟩] 26)).alloc (.cells #[.string p0, .string p1, .string p2, .string p3, .string ⟨#[]⟩] 9)).heap.size := by simp
  generalize (w.alloc (.cells #[.int .i64 0, .int .i64 0, .int .i64 0, .string ⟨#[]⟩] 26)).alloc (.cells #[.string p0, .string p1, .string p2, .string p3, .string ⟨#[]⟩] 9) = w1 at *
  obtain ⟨x0, x1, x2, x3, x4⟩ := blk5 b5
  go_wp2_with fail
  refine (impl_num p0 _ q0 (HP.out.below hbw) (hl.below hbw)).mono ?_
  rintro e w2 ⟨rfl, hb2⟩
  rw [HK.out.1, HK.out.2]
  have b2_2 := blk_below b2 hb2
  have b5_2 := blk_below b5 hb2
  have hbw2 : Below w.heap.size w w2 := hbw.trans (hb2.mono (by omega))
  have hz2 : w.heap.size + 2 ≤ w2.heap.size := Nat.le_trans hz1 hb2.size
  clear hb2 b2 b5 x0 x1 x2 x3 x4
  obtain ⟨x0, x1, x2, x3, x4⟩ := blk5 b5_2
  go_wp2_with fail
  refine (impl_num p1 _ q1 (HP.out.below hbw2) (hl.below hbw2)).mono ?_
  rintro e w3 ⟨rfl, hb3⟩
  rw [HI.out.1, HI.out.2]
  have b2_3 := blk_below b2_2 hb3
  have b5_3 := blk_below b5_2 hb3
  have hbw3 : Below w.heap.size w w3 := hbw2.trans (hb3.mono (by omega))
  have hz3 : w.heap.size + 2 ≤ w3.heap.size := Nat.le_trans hz2 hb3.size
  clear hb3 b2_2 b5_2 x0 x1 x2 x3 x4
  obtain ⟨x0, x1, x2, x3, x4⟩ := blk5 b5_3
  go_wp2_with fail
  refine (impl_num p2 _ q2 (HP.out.below hbw3) (hl.below hbw3)).mono ?_
  rintro e w4 ⟨rfl, hb4⟩
  rw [HV.out.1, HV.out.2]
  have b2_4 := blk_below b2_3 hb4
  have b5_4 := blk_below b5_3 hb4
  have hbw4 : Below w.heap.size w w4 := hbw3.trans (hb4.mono (by omega))
  have hz4 : w.heap.size + 2 ≤ w4.heap.size := Nat.le_trans hz3 hb4.size
  clear hb4 b2_3 b5_3 x0 x1 x2 x3 x4
  obtain ⟨x0, x1, x2, x3, x4⟩ := blk5 b5_4
  have hbw5 : Below w.heap.size w (w4.alloc (.cells #[.int .i64 I, .int .i64 V, .int .i64 K, .string p3] 26)) := hbw4.alloc (by omega) _
  obtain ⟨⟨c0, c1, c2, c3⟩, d0, d1, d2, d3⟩ := blk4 (blk_alloc b2_4 (.cells #[.int .i64 I, .int .i64 V, .int .i64 K, .string p3] 26))
  have c6 := blk4 b2_4
  obtain ⟨⟨g0, g1, g2, g3⟩, k0, k1, k2, k3⟩ := c6
  clear b2_4 b5_4
  have hlt4 : w.heap.size < w4.heap.size := by omega
  rcases (show a0 = false ∨ (a0 = true ∧ a1 = false) ∨ (a0 = true ∧ a1 = true ∧ a2 = false) by cases a0 <;> cases a1 <;> simp_all) with rfl | ⟨rfl, rfl⟩ | ⟨rfl, rfl, rfl⟩
  all_goals
    clear hno
    go_wp2
    refine bodyPost_ret (v := .tuple #[ev0, .bool false]) (by simp [results, Tryd.results15, go_sem, g0, g1, g2, g3, hlt4]) rfl ⟨rfl, ?_⟩
    exact ((((hbw4.setCell (Nat.le_refl _) _).setCell (Nat.le_refl _) _).setCell (Nat.le_refl _) _).setCell (Nat.le_refl _) _).alloc (by simp; omega) _

set_option maxHeartbeats 1600000 in
theorem impl_read_bad (s p0 p1 p2 p3 : ByteArray) (w : World) (hs : s.size ≤ 1048576) (hk : KK w) (hp : PT w) (hl : LB w) (hps : parts s = [p0, p1, p2, p3, ⟨#[]⟩]) (h5 : min 5 (s.size + 1) = 5)
    (q0 : p0.size ≤ 1048576) (q1 : p1.size ≤ 1048576) (q2 : p2.size ≤ 1048576) (q3 : p3.size ≤ 1048576) (I V K : Int) (a0 a1 a2 : Bool)
    (hK : numV p0.data.toList = K ∧ numOk p0.data.toList = a0) (hI : numV p1.data.toList = I ∧ numOk p1.data.toList = a1) (hV : numV p2.data.toList = V ∧ numOk p2.data.toList = a2)
    (ha0 : a0 = true) (ha1 : a1 = true) (ha2 : a2 = true) (hg : goodB I V K p3 = false) :
    Calls Tryd.prog 15 #[.string s] w fun e w' => e = .returned (.tuple #[ev0, .bool false]) ∧ Below w.heap.size w w' := by
  have HK := hide hK
  have HI := hide hI
  have HV := hide hV
  have HP := hide hp
  clear hK hI hV hp
  subst ha0 ha1 ha2
  go_enter Tryd.func15, Tryd.ntmps15
  go_wp2_with fail
  refine (split_five s p0 p1 p2 p3 ⟨#[]⟩ _ hs (hl.alloc _) hps h5).mono ?_
  rintro e w1 ⟨rfl, rfl⟩
  have b2 := blk_alloc (heap_alloc_new w (.cells #[.int .i64 0, .int .i64 0, .int .i64 0, .string ⟨#[]⟩] 26)) (.cells #[.string p0, .string p1, .string p2, .string p3, .string ⟨#[]⟩] 9)
  have b5 := heap_alloc_new (w.alloc (.cells #[.int .i64 0, .int .i64 0, .int .i64 0, .string ⟨#[]⟩] 26)) (.cells #[.string p0, .string p1, .string p2, .string p3, .string ⟨#[]⟩] 9)
  rw [World.size_alloc] at b5
  have hbw : Below w.heap.size w ((w.alloc (.cells #[.int .i64 0, .int .i64 0, .int .i64 0, .string ⟨#[]⟩] 26)).alloc (.cells #[.string p0, .string p1, .string p2, .string p3, .string ⟨#[]⟩] 9)) := ((Below.refl _ w).alloc (Nat.le_refl _) _).alloc (by simp) _
  have hz1 : w.heap.size + 2 ≤ ((w.alloc (.cells #[.int .i64 0, .int .i64 0, .int .i64 0, .string ⟨#[]⟩] 26)).alloc (.cells #[.string p0, .string p1, .string p2, .string p3, .string ⟨#[]⟩] 9)).heap.size := by simp
  generalize (w.alloc (.cells #[.int .i64 0, .int .i64 0, .int .i64 0, .string ⟨#[]⟩] 26)).alloc (.cells #[.string p0, .string p1, .string p2, .string p3, .string ⟨#[]⟩] 9) = w1 at *
  obtain ⟨x0, x1, x2, x3, x4⟩ := blk5 b5
  go_wp2_with fail
  refine (impl_num p0 _ q0 (HP.out.below hbw) (hl.below hbw)).mono ?_
  rintro e w2 ⟨rfl, hb2⟩
  rw [HK.out.1, HK.out.2]
  have b2_2 := blk_below b2 hb2
  have b5_2 := blk_below b5 hb2
  have hbw2 : Below w.heap.size w w2 := hbw.trans (hb2.mono (by omega))
  have hz2 : w.heap.size + 2 ≤ w2.heap.size := Nat.le_trans hz1 hb2.size
  clear hb2 b2 b5 x0 x1 x2 x3 x4
  obtain ⟨x0, x1, x2, x3, x4⟩ := blk5 b5_2
  go_wp2_with fail
  refine (impl_num p1 _ q1 (HP.out.below hbw2) (hl.below hbw2)).mono ?_
  rintro e w3 ⟨rfl, hb3⟩
  rw [HI.out.1, HI.out.2]
  have b2_3 := blk_below b2_2 hb3
  have b5_3 := blk_below b5_2 hb3
  have hbw3 : Below w.heap.size w w3 := hbw2.trans (hb3.mono (by omega))
  have hz3 : w.heap.size + 2 ≤ w3.heap.size := Nat.le_trans hz2 hb3.size
  clear hb3 b2_2 b5_2 x0 x1 x2 x3 x4
  obtain ⟨x0, x1, x2, x3, x4⟩ := blk5 b5_3
  go_wp2_with fail
  refine (impl_num p2 _ q2 (HP.out.below hbw3) (hl.below hbw3)).mono ?_
  rintro e w4 ⟨rfl, hb4⟩
  rw [HV.out.1, HV.out.2]
  have b2_4 := blk_below b2_3 hb4
  have b5_4 := blk_below b5_3 hb4
  have hbw4 : Below w.heap.size w w4 := hbw3.trans (hb4.mono (by omega))
  have hz4 : w.heap.size + 2 ≤ w4.heap.size := Nat.le_trans hz3 hb4.size
  clear hb4 b2_3 b5_3 x0 x1 x2 x3 x4
  obtain ⟨x0, x1, x2, x3, x4⟩ := blk5 b5_4
  have HB2 := hide b2_4
  clear b2_4 b5_4
  go_wp2_with fail
  refine (impl_good _ _ _ _ _ (by unfold maxLen; omega) ((hk.below hbw4).alloc _)).mono ?_
  rintro e w5 ⟨rfl, hb5⟩
  rw [hg]
  have hbw5 : Below w.heap.size w w5 := (hbw4.alloc (by omega) _).trans (hb5.mono (by rw [World.size_alloc]; omega))
  obtain ⟨⟨c0, c1, c2, c3⟩, d0, d1, d2, d3⟩ := blk4 (blk_below (blk_alloc HB2.out _) hb5)
  clear hb5 x0 x1 x2 x3 x4
  go_wp2
  exact bodyPost_ret (v := .tuple #[ev0, .bool false]) (by simp [results, Tryd.results15, go_sem, c0, c1, c2, c3]) rfl ⟨rfl, (((hbw5.setCell (Nat.le_refl _) _).setCell (Nat.le_refl _) _).setCell (Nat.le_refl _) _).setCell (Nat.le_refl _) _⟩

set_option maxHeartbeats 1600000 in
theorem impl_read_yes (s p0 p1 p2 p3 : ByteArray) (w : World) (hs : s.size ≤ 1048576) (hk : KK w) (hp : PT w) (hl : LB w) (hps : parts s = [p0, p1, p2, p3, ⟨#[]⟩]) (h5 : min 5 (s.size + 1) = 5)
    (q0 : p0.size ≤ 1048576) (q1 : p1.size ≤ 1048576) (q2 : p2.size ≤ 1048576) (q3 : p3.size ≤ 1048576) (I V K : Int) (a0 a1 a2 : Bool)
    (hK : numV p0.data.toList = K ∧ numOk p0.data.toList = a0) (hI : numV p1.data.toList = I ∧ numOk p1.data.toList = a1) (hV : numV p2.data.toList = V ∧ numOk p2.data.toList = a2)
    (ha0 : a0 = true) (ha1 : a1 = true) (ha2 : a2 = true) (hg : goodB I V K p3 = true) :
    Calls Tryd.prog 15 #[.string s] w fun e w' => e = .returned (.tuple #[ev I V K p3, .bool true]) ∧ Below w.heap.size w w' := by
  have HK := hide hK
  have HI := hide hI
  have HV := hide hV
  have HP := hide hp
  clear hK hI hV hp
  subst ha0 ha1 ha2
  go_enter Tryd.func15, Tryd.ntmps15
  go_wp2_with fail
  refine (split_five s p0 p1 p2 p3 ⟨#[]⟩ _ hs (hl.alloc _) hps h5).mono ?_
  rintro e w1 ⟨rfl, rfl⟩
  have b2 := blk_alloc (heap_alloc_new w (.cells #[.int .i64 0, .int .i64 0, .int .i64 0, .string ⟨#[]⟩] 26)) (.cells #[.string p0, .string p1, .string p2, .string p3, .string ⟨#[]⟩] 9)
  have b5 := heap_alloc_new (w.alloc (.cells #[.int .i64 0, .int .i64 0, .int .i64 0, .string ⟨#[]⟩] 26)) (.cells #[.string p0, .string p1, .string p2, .string p3, .string ⟨#[]⟩] 9)
  rw [World.size_alloc] at b5
  have hbw : Below w.heap.size w ((w.alloc (.cells #[.int .i64 0, .int .i64 0, .int .i64 0, .string ⟨#[]⟩] 26)).alloc (.cells #[.string p0, .string p1, .string p2, .string p3, .string ⟨#[]⟩] 9)) := ((Below.refl _ w).alloc (Nat.le_refl _) _).alloc (by simp) _
  have hz1 : w.heap.size + 2 ≤ ((w.alloc (.cells #[.int .i64 0, .int .i64 0, .int .i64 0, .string ⟨#[]⟩] 26)).alloc (.cells #[.string p0, .string p1, .string p2, .string p3, .string ⟨#[]⟩] 9)).heap.size := by simp
  generalize (w.alloc (.cells #[.int .i64 0, .int .i64 0, .int .i64 0, .string ⟨#[]⟩] 26)).alloc (.cells #[.string p0, .string p1, .string p2, .string p3, .string ⟨#[]⟩] 9) = w1 at *
  obtain ⟨x0, x1, x2, x3, x4⟩ := blk5 b5
  go_wp2_with fail
  refine (impl_num p0 _ q0 (HP.out.below hbw) (hl.below hbw)).mono ?_
  rintro e w2 ⟨rfl, hb2⟩
  rw [HK.out.1, HK.out.2]
  have b2_2 := blk_below b2 hb2
  have b5_2 := blk_below b5 hb2
  have hbw2 : Below w.heap.size w w2 := hbw.trans (hb2.mono (by omega))
  have hz2 : w.heap.size + 2 ≤ w2.heap.size := Nat.le_trans hz1 hb2.size
  clear hb2 b2 b5 x0 x1 x2 x3 x4
  obtain ⟨x0, x1, x2, x3, x4⟩ := blk5 b5_2
  go_wp2_with fail
  refine (impl_num p1 _ q1 (HP.out.below hbw2) (hl.below hbw2)).mono ?_
  rintro e w3 ⟨rfl, hb3⟩
  rw [HI.out.1, HI.out.2]
  have b2_3 := blk_below b2_2 hb3
  have b5_3 := blk_below b5_2 hb3
  have hbw3 : Below w.heap.size w w3 := hbw2.trans (hb3.mono (by omega))
  have hz3 : w.heap.size + 2 ≤ w3.heap.size := Nat.le_trans hz2 hb3.size
  clear hb3 b2_2 b5_2 x0 x1 x2 x3 x4
  obtain ⟨x0, x1, x2, x3, x4⟩ := blk5 b5_3
  go_wp2_with fail
  refine (impl_num p2 _ q2 (HP.out.below hbw3) (hl.below hbw3)).mono ?_
  rintro e w4 ⟨rfl, hb4⟩
  rw [HV.out.1, HV.out.2]
  have b2_4 := blk_below b2_3 hb4
  have b5_4 := blk_below b5_3 hb4
  have hbw4 : Below w.heap.size w w4 := hbw3.trans (hb4.mono (by omega))
  have hz4 : w.heap.size + 2 ≤ w4.heap.size := Nat.le_trans hz3 hb4.size
  clear hb4 b2_3 b5_3 x0 x1 x2 x3 x4
  obtain ⟨x0, x1, x2, x3, x4⟩ := blk5 b5_4
  have HB2 := hide b2_4
  clear b2_4 b5_4
  go_wp2_with fail
  refine (impl_good _ _ _ _ _ (by unfold maxLen; omega) ((hk.below hbw4).alloc _)).mono ?_
  rintro e w5 ⟨rfl, hb5⟩
  rw [hg]
  have hbw5 : Below w.heap.size w w5 := (hbw4.alloc (by omega) _).trans (hb5.mono (by rw [World.size_alloc]; omega))
  have B2 := blk_below (blk_alloc HB2.out (.cells #[.int .i64 I, .int .i64 V, .int .i64 K, .string p3] 26)) hb5
  have B11 := blk_below (heap_alloc_new w4 (.cells #[.int .i64 I, .int .i64 V, .int .i64 K, .string p3] 26)) hb5
  have hz5 : w4.heap.size + 1 ≤ w5.heap.size := by have := hb5.size; rw [World.size_alloc] at this; exact this
  clear hb5 x0 x1 x2 x3 x4 HB2
  obtain ⟨⟨f0, f1, f2, f3⟩, -⟩ := blk4 B11
  go_wp2_with fail
  refine (clone p3 _ (by omega)).mono ?_
  rintro e w6 ⟨rfl, hb6⟩
  have hbw6 : Below w.heap.size w w6 := hbw5.trans (hb6.mono (by omega))
  obtain ⟨⟨c0, c1, c2, c3⟩, d0, d1, d2, d3⟩ := blk4 (blk_below B2 hb6)
  clear f0 f1 f2 f3
  obtain ⟨⟨f0, f1, f2, f3⟩, i0, i1, i2, i3⟩ := blk4 (blk_below B11 hb6)
  have hne : w4.heap.size ≠ w.heap.size := by omega
  have hne2 : w.heap.size ≠ w4.heap.size := by omega
  clear B2 B11 hb6
  go_wp2
  refine bodyPost_ret (v := .tuple #[ev I V K p3, .bool true]) (by simp [results, Tryd.results15, go_sem, c0, c1, c2, c3]) rfl ⟨rfl, ?_⟩
  exact ((((hbw6.setCell (p := ⟨w4.heap.size, 3, none⟩) (show w.heap.size ≤ w4.heap.size by omega) _).setCell (Nat.le_refl _) _).setCell (Nat.le_refl _) _).setCell (Nat.le_refl _) _).setCell (Nat.le_refl _) _
end Go.Proofs.YtkcgckobaobogaaDoor
