/-
  The law of DiagramOf, walked: it returns true and turns nothing that was there.
-/
import Derived.Test.YtfiooclkefmijaaDoorBddH
import Derived.Test.YtfiooclkefmijaaDoorBddI
namespace Go.Proofs.YtfiooclkefmijaaDoor
open Go.RowKit M
open Clk (upd upd_same upd_other)
open Bdd (formT dia)
set_option maxRecDepth 20000 in
set_option maxHeartbeats 4000000 in
theorem law_diagram_run (s : ByteArray) (r : Int) (l : List Bdd.Ch) (b : Bool) (w : World) (ho : OV w) (hs : s.size ≤ 1048576) (hl : l.length ≤ 1048576)
    (hSp : ∀ w, Calls Tryd.prog 16 #[.string s] w fun e w' => DiagA w r l b e w') (hIm : ∀ w, OV w → Calls Tryd.prog 17 #[.string s] w fun e w' => DiagA w r l b e w') :
    Calls Tryd.prog 5 #[.string s] w fun e w' => e = .returned (.bool true) ∧ Below w.heap.size w w' := by
  have hle : ¬ (1048576 < (s.size : Int)) := by omega
  have HO := hide ho
  have HS := hide hSp
  have HI := hide hIm
  have hbb : (b != b) = false := by simp
  obtain ⟨m, hm⟩ : ∃ m, 1 + l.length * 3 = m := ⟨_, rfl⟩
  have hmn : ¬ ((m : Int) < 0) := by omega
  have hmm : ((m : Int) != (m : Int)) = false := by simp
  have HM := hide hm
  clear ho hSp hIm hs hm
  go_enter Tryd.func5, Tryd.ntmps5
  go_wp2_with fail
  refine (HS.out w).mono ?_
  rintro e w1 ⟨⟨v1, rfl, hA1⟩, hb1⟩
  obtain ⟨a1, c1, rfl⟩ := hA1.form
  have hd2 := (Below.refl w1.heap.size w1).alloc (Nat.le_refl _) (.cells #[.slice a1 l.length c1, .int .i64 r] 27)
  have x2 := Blk.fresh w1 #[.slice a1 l.length c1, .int .i64 r] 2 (q2 (.slice a1 l.length c1) (.int .i64 r)) 27 rfl
  obtain ⟨w2, hw2⟩ : ∃ w2, w1.alloc (.cells #[.slice a1 l.length c1, .int .i64 r] 27) = w2 := ⟨_, rfl⟩
  have Hw2 := hide hw2
  rw [hw2] at hd2 x2
  have hb2 := hb1.trans (hd2.mono hb1.size)
  have C2 := hide (hA1.chs.below hd2)
  have X2 := hide x2
  have B2 := hide hb2
  clear hA1 hb1 hd2 hb2 x2 hw2
  go_wp2_with fail
  rw [Hw2.out]
  refine (HI.out w2 (HO.out.below B2.out)).mono ?_
  rintro e w3 ⟨⟨v3, rfl, hA3⟩, hb3⟩
  obtain ⟨a3, c3', rfl⟩ := hA3.form
  have hd4 := (Below.refl w3.heap.size w3).alloc (Nat.le_refl _) (.cells #[.slice a3 l.length c3', .int .i64 r] 27)
  have x4 := Blk.fresh w3 #[.slice a3 l.length c3', .int .i64 r] 2 (q2 (.slice a3 l.length c3') (.int .i64 r)) 27 rfl
  obtain ⟨w4, hw4⟩ : ∃ w4, w3.alloc (.cells #[.slice a3 l.length c3', .int .i64 r] 27) = w4 := ⟨_, rfl⟩
  have Hw4 := hide hw4
  rw [hw4] at hd4 x4
  have hb24 := hb3.trans (hd4.mono hb3.size)
  have X4 := hide x4
  have A4 := hide (hA3.down hd4)
  have B4 := hide hb24
  obtain ⟨k0, k1, -, -⟩ := X4.out.two
  obtain ⟨k2, k3, -, -⟩ := (X2.out.down hb24).two
  simp [q2] at k0 k1 k2 k3
  clear hA3 hb3 hd4 hb24 x4 hw4 Hw2
  rw [← Hw4.out] at k0 k1 k2 k3
  go_wp2_with fail
  rw [Hw4.out] at k0 k1 k2 k3 ⊢
  refine (eq_diagram _ _ r l w4 A4.out.chs (C2.out.below B4.out) hl).mono ?_
  rintro e w5 ⟨rfl, hb5⟩
  have A5 := hide (A4.out.down hb5)
  have X5 := hide (X4.out.down hb5)
  have B5 := hide (B4.out.trans (hb5.mono B4.out.size))
  obtain ⟨k0, k1, -, -⟩ := X5.out.two
  simp [q2] at k0 k1
  clear A4 X4 B4 hb5 k2 k3 Hw4
  go_wp2_with fail
  refine (mark_diagram w2.heap.size 1 _ r l w5 A5.out hl (by omega) B5.out.size).mono ?_
  rintro e w6 ⟨rfl, hm6, hb6, hk6⟩
  have M6 := hide hm6
  have X6 := hide (X5.out.at (hk6 _ X5.out.lt (X5.out.free A5.out (by decide))))
  have B6 := hide (B5.out.trans hb6)
  obtain ⟨k0, k1, -, -⟩ := X6.out.two
  simp [q2] at k0 k1
  rw [HM.out]
  clear A5 X5 B5 hm6 hb6 hk6
  go_wp2_with fail
  refine (held_diagram w2.heap.size 1 l.length _ r w6 M6.out hl (by omega)).mono ?_
  rintro e w7 ⟨rfl, hb7⟩
  have M7 := hide (M6.out.down hb7)
  have X7 := hide (X6.out.down hb7)
  have B7 := hide (B6.out.trans (hb7.mono B6.out.size))
  rw [HM.out]
  clear M6 X6 B6 hb7 k0 k1
  go_wp2_with fail
  refine (HI.out w7 ((HO.out.below B2.out).below B7.out)).mono ?_
  rintro e w8 ⟨⟨v8, rfl, hA8⟩, hb8⟩
  obtain ⟨a8, c8, rfl⟩ := hA8.form
  have hd9 := (Below.refl w8.heap.size w8).alloc (Nat.le_refl _) (.cells #[.slice a8 l.length c8, .int .i64 r] 27)
  have x9 := Blk.fresh w8 #[.slice a8 l.length c8, .int .i64 r] 2 (q2 (.slice a8 l.length c8) (.int .i64 r)) 27 rfl
  obtain ⟨w9, hw9⟩ : ∃ w9, w8.alloc (.cells #[.slice a8 l.length c8, .int .i64 r] 27) = w9 := ⟨_, rfl⟩
  have Hw9 := hide hw9
  rw [hw9] at hd9 x9
  have hb79 := hb8.trans (hd9.mono hb8.size)
  have A9 := hide (hA8.down hd9)
  have M9 := hide (M7.out.down hb79)
  have X9 := hide (X7.out.down hb79)
  have B9 := hide (B7.out.trans (hb79.mono B7.out.size))
  obtain ⟨k0, k1, -, -⟩ := x9.two
  obtain ⟨k2, k3, -, -⟩ := (X2.out.below B9.out X2.out.lt).two
  simp [q2] at k0 k1 k2 k3
  clear hA8 hb8 hd9 hb79 x9 hw9 M7 X7 B7
  rw [← Hw9.out] at k0 k1 k2 k3
  go_wp2_with fail
  rw [Hw9.out] at k0 k1 k2 k3 ⊢
  refine (eq_diagram _ _ r l w9 A9.out.chs (C2.out.below B9.out) hl).mono ?_
  rintro e w10 ⟨rfl, hb10⟩
  have M10 := hide (M9.out.down hb10)
  have X10 := hide (X9.out.down hb10)
  have B10 := hide (B9.out.trans (hb10.mono B9.out.size))
  obtain ⟨k0, k1, -, -⟩ := X10.out.two
  simp [q2] at k0 k1
  clear A9 M9 X9 B9 hb10 k2 k3 Hw9
  go_wp2_with fail
  refine (held_diagram w2.heap.size 1 l.length _ r w10 M10.out hl (by omega)).mono ?_
  rintro e w11 ⟨rfl, hb11⟩
  have HZ := hide (B2.out.trans ((B10.out.trans (hb11.mono B10.out.size)).mono B2.out.size))
  rw [HM.out]
  clear M10 X10 B10 hb11 k0 k1 C2 X2 B2 HO HS HI HM
  go_wp2
  go_ret
  exact ⟨rfl, HZ.out⟩
theorem law_diagram (s : ByteArray) (w : World) (ho : OV w) (hm : s.size ≤ maxLen) :
    Calls Tryd.prog 5 #[.string s] w fun e w' => e = .returned (.bool true) ∧ Below w.heap.size w w' := by
  have hm' := hm
  unfold maxLen at hm'
  by_cases hs : s.size ≤ 1048576
  · have k1 := fun w => spec_diagram s w hm
    have k2 := fun w ho => impl_diagram s w ho hm
    cases h : formT s with
    | none => rw [h] at k1 k2; exact law_diagram_run s 0 [] false w ho hs (by simp) k1 k2
    | some x => rw [h] at k1 k2; exact law_diagram_run s _ _ true w ho hs (by have := Bdd.dia_len x; omega) k1 k2
  · have hle : (1048576 < (s.size : Int)) := by omega
    clear ho hm
    go_enter Tryd.func5, Tryd.ntmps5
    go_wp2
    go_ret
    exact ⟨rfl, Below.refl _ _⟩
end Go.Proofs.YtfiooclkefmijaaDoor
