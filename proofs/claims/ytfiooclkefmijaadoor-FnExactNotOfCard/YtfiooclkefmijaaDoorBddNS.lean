/-
  NotOf and Restrict of the specification, and the laws of both.
-/
import Derived.Test.YtfiooclkefmijaaDoorBddNI
import Derived.Test.YtfiooclkefmijaaDoorBddLR
namespace Go.Proofs.YtfiooclkefmijaaDoor
open Go.RowKit M
open Clk (upd upd_same upd_other)
open Bdd (dia dec)
set_option maxRecDepth 20000 in
theorem spec_NotOf (v : Value) (r : Int) (l : List Bdd.Ch) (b : Bool) (hb : b = true ↔ Bdd.Good l r) (w : World) (hv : ChsOf w v l) (hn : l.length ≤ 1048576) :
    Calls Tryd.prog 33 #[dgV v r] w fun e w' => if b then DiagA w (dia (~~~dec l r)).1 (dia (~~~dec l r)).2 true e w' else DiagA w 0 [] false e w' := by
  have HV := hide hv
  obtain ⟨a, cap, rfl⟩ := hv.form
  have hd1 := (Below.refl w.heap.size w).alloc (Nat.le_refl _) (.cells #[.slice a l.length cap, .int .i64 r] 27)
  have hd2 := hd1.alloc hd1.size (.cells #[.slice none 0 0, .int .i64 0] 27)
  obtain ⟨w2, hw2⟩ : ∃ w2, (w.alloc (.cells #[.slice a l.length cap, .int .i64 r] 27)).alloc (.cells #[.slice none 0 0, .int .i64 0] 27) = w2 := ⟨_, rfl⟩
  have Hw2 := hide hw2
  have x0 : Blk w2 w.heap.size 2 (q2 (.slice a l.length cap) (.int .i64 r)) 27 := by
    rw [← hw2]; exact (Blk.fresh w #[.slice a l.length cap, .int .i64 r] 2 (q2 (.slice a l.length cap) (.int .i64 r)) 27 rfl).alloc _
  have y0 : Blk w2 (w.heap.size + 1) 2 (q2 (.slice none 0 0) (.int .i64 0)) 27 := by
    rw [← hw2]
    have := dbox (w.alloc (.cells #[.slice a l.length cap, .int .i64 r] 27))
    simpa using this
  rw [hw2] at hd2
  have HD := hide hd2
  have HY := hide y0
  have HG := hide (l7_good_b (.slice a l.length cap) r l b hb w2 (hv.below hd2) hn)
  obtain ⟨d0, d1⟩ := x0.pr
  rw [← hw2] at d0 d1
  clear hv hd1 hd2 x0 y0 hw2 hb
  cases b with
  | false =>
    simp only [Bool.false_eq_true, if_false]
    go_enter Tryd.func33, Tryd.ntmps33
    go_wp2_with fail
    rw [Hw2.out] at d0 d1 ⊢
    refine HG.out.mono ?_
    rintro e w3 ⟨⟨t, rfl, ht⟩, hb3⟩
    have y3 := HY.out.down hb3
    obtain ⟨k0, k1, k2, k3⟩ := y3.two
    have HB := hide (HD.out.trans (hb3.mono HD.out.size))
    have HE := hide (box_ans1 0 y3 (ansD_nil w3 w.heap.size) HB.out)
    clear hb3 y3 HD HY HV HG Hw2 ht
    clear d0 d1
    go_wp2
    obtain ⟨hA, hB, c0, c1⟩ := HE.out
    exact bodyPost_ret (v := .tuple #[dgV (.slice none 0 0) 0, .bool false]) (by simp [results, Tryd.results33, go_sem, c0, c1]) rfl ⟨⟨_, rfl, hA⟩, hB⟩
  | true =>
    simp only [if_true]
    obtain ⟨D, hD⟩ : ∃ D, dia (~~~dec l r) = D := ⟨_, rfl⟩
    have HDD := hide hD
    rw [hD]
    obtain ⟨rr, ll⟩ := D
    clear hD
    go_enter Tryd.func33, Tryd.ntmps33
    go_wp2_with fail
    rw [Hw2.out] at d0 d1 ⊢
    refine HG.out.mono ?_
    rintro e w3 ⟨⟨t, rfl, ht⟩, hb3⟩
    rw [ht (by trivial)]
    have HB3 := hide (HD.out.trans (hb3.mono HD.out.size))
    have HY3 := hide (HY.out.down hb3)
    clear hb3 HD HY HG Hw2 d0 d1 ht
    have hnot : bits .xor .u64 (if IntKind.u64.signed = true then -1 else IntKind.u64.max) (tn (dec l r)) = tn (~~~dec l r) := u_not _
    have hnot2 := u_not (dec l r)
    go_wp2_with fail
    refine (l7_tell (~~~dec l r) _).mono ?_
    rintro e w5 ⟨⟨u5, rfl, hA5⟩, hb5⟩
    rw [HDD.out] at hA5 ⊢
    simp only at hA5 ⊢
    obtain ⟨a5, c5, rfl⟩ := hA5.form
    have y5 := HY3.out.down hb5
    obtain ⟨k0, k1, k2, k3⟩ := y5.two
    have HE := hide (box_ans1 rr y5 (owns_mono hA5 HB3.out.size) (HB3.out.trans (hb5.mono HB3.out.size)))
    clear hA5 hb5 y5 HB3 HY3 HV
    go_wp2
    obtain ⟨hA, hB, c0, c1⟩ := HE.out
    exact bodyPost_ret (v := .tuple #[dgV (.slice a5 ll.length c5) rr, .bool true]) (by simp [results, Tryd.results33, go_sem, c0, c1]) rfl ⟨⟨_, rfl, hA⟩, hB⟩
set_option maxRecDepth 20000 in
theorem spec_Restrict (v : Value) (r : Int) (l : List Bdd.Ch) (x : Int) (y : Bool) (b : Bool) (hb : b = true ↔ Bdd.Good l r) (w : World) (hv : ChsOf w v l) (hn : l.length ≤ 1048576) :
    Calls Tryd.prog 29 #[dgV v r, .int .i64 x, .bool y] w fun e w' => if (b && decide (0 ≤ x ∧ x ≤ 5)) then DiagA w (dia (Bdd.hf (dec l r) x.toNat y)).1 (dia (Bdd.hf (dec l r) x.toNat y)).2 true e w' else DiagA w 0 [] false e w' := by
  have HV := hide hv
  obtain ⟨a, cap, rfl⟩ := hv.form
  have hd1 := (Below.refl w.heap.size w).alloc (Nat.le_refl _) (.cells #[.slice a l.length cap, .int .i64 r] 27)
  have hd2 := hd1.alloc hd1.size (.cells #[.slice none 0 0, .int .i64 0] 27)
  obtain ⟨w2, hw2⟩ : ∃ w2, (w.alloc (.cells #[.slice a l.length cap, .int .i64 r] 27)).alloc (.cells #[.slice none 0 0, .int .i64 0] 27) = w2 := ⟨_, rfl⟩
  have Hw2 := hide hw2
  have x0 : Blk w2 w.heap.size 2 (q2 (.slice a l.length cap) (.int .i64 r)) 27 := by
    rw [← hw2]; exact (Blk.fresh w #[.slice a l.length cap, .int .i64 r] 2 (q2 (.slice a l.length cap) (.int .i64 r)) 27 rfl).alloc _
  have y0 : Blk w2 (w.heap.size + 1) 2 (q2 (.slice none 0 0) (.int .i64 0)) 27 := by
    rw [← hw2]
    have := dbox (w.alloc (.cells #[.slice a l.length cap, .int .i64 r] 27))
    simpa using this
  rw [hw2] at hd2
  have HD := hide hd2
  have HY := hide y0
  have HG := hide (l7_good_b (.slice a l.length cap) r l b hb w2 (hv.below hd2) hn)
  obtain ⟨d0, d1⟩ := x0.pr
  rw [← hw2] at d0 d1
  clear hv hd1 hd2 x0 y0 hw2 hb
  cases b with
  | false =>
    simp only [Bool.false_and, Bool.false_eq_true, if_false]
    go_enter Tryd.func29, Tryd.ntmps29
    go_wp2_with fail
    rw [Hw2.out] at d0 d1 ⊢
    refine HG.out.mono ?_
    rintro e w3 ⟨⟨t, rfl, ht⟩, hb3⟩
    have y3 := HY.out.down hb3
    obtain ⟨k0, k1, k2, k3⟩ := y3.two
    have HB := hide (HD.out.trans (hb3.mono HD.out.size))
    have HE := hide (box_ans1 0 y3 (ansD_nil w3 w.heap.size) HB.out)
    clear hb3 y3 HD HY HV HG Hw2 ht
    clear d0 d1
    go_wp2
    obtain ⟨hA, hB, c0, c1⟩ := HE.out
    exact bodyPost_ret (v := .tuple #[dgV (.slice none 0 0) 0, .bool false]) (by simp [results, Tryd.results29, go_sem, c0, c1]) rfl ⟨⟨_, rfl, hA⟩, hB⟩
  | true =>
    obtain ⟨c, hc⟩ : ∃ c, decide (0 ≤ x ∧ x ≤ 5) = c := ⟨_, rfl⟩
    have HW := hide (l1_in x 0 5 c hc)
    cases c with
    | false =>
      rw [hc]
      clear hc
      simp only [Bool.and_false, Bool.false_eq_true, if_false]
      go_enter Tryd.func29, Tryd.ntmps29
      go_wp2_with fail
      rw [Hw2.out] at d0 d1 ⊢
      refine HG.out.mono ?_
      rintro e w3 ⟨⟨t, rfl, ht⟩, hb3⟩
      have y3 := HY.out.down hb3
      obtain ⟨k0, k1, k2, k3⟩ := y3.two
      have HB := hide (HD.out.trans (hb3.mono HD.out.size))
      have HE := hide (box_ans1 0 y3 (ansD_nil w3 w.heap.size) HB.out)
      clear hb3 y3 HD HY HV HG Hw2 ht
      clear d0 d1
      go_wp2_with (refine (HW.out _).mono ?_; rintro e w4 ⟨rfl, rfl⟩)
      obtain ⟨hA, hB, c0, c1⟩ := HE.out
      exact bodyPost_ret (v := .tuple #[dgV (.slice none 0 0) 0, .bool false]) (by simp [results, Tryd.results29, go_sem, c0, c1]) rfl ⟨⟨_, rfl, hA⟩, hB⟩
    | true =>
      rw [hc]
      obtain ⟨n, rfl⟩ : ∃ n : Nat, x = (n : Int) := ⟨x.toNat, by simp at hc; omega⟩
      have hn6 : n < 6 := by simp at hc; omega
      have HN6 := hide hn6
      clear hc hn6
      simp only [Bool.and_self, if_true, Int.toNat_natCast]
      obtain ⟨D, hD⟩ : ∃ D, dia (Bdd.hf (dec l r) n y) = D := ⟨_, rfl⟩
      have HDD := hide hD
      rw [hD]
      obtain ⟨rr, ll⟩ := D
      clear hD
      go_enter Tryd.func29, Tryd.ntmps29
      go_wp2_with fail
      rw [Hw2.out] at d0 d1 ⊢
      refine HG.out.mono ?_
      rintro e w3 ⟨⟨t, rfl, ht⟩, hb3⟩
      rw [ht (by trivial)]
      have HB3 := hide (HD.out.trans (hb3.mono HD.out.size))
      have HY3 := hide (HY.out.down hb3)
      clear hb3 HD HY HG Hw2 d0 d1 ht
      go_wp2_with fail
      refine (HW.out _).mono ?_
      rintro e w4 ⟨rfl, rfl⟩
      go_wp2_with fail
      refine (l7_half (dec l r) n HN6.out y _).mono ?_
      rintro e w4 ⟨rfl, rfl⟩
      go_wp2_with fail
      refine (l7_tell (Bdd.hf (dec l r) n y) _).mono ?_
      rintro e w5 ⟨⟨u5, rfl, hA5⟩, hb5⟩
      rw [HDD.out] at hA5 ⊢
      simp only at hA5 ⊢
      obtain ⟨a5, c5, rfl⟩ := hA5.form
      have y5 := HY3.out.down hb5
      obtain ⟨k0, k1, k2, k3⟩ := y5.two
      have HE := hide (box_ans1 rr y5 (owns_mono hA5 HB3.out.size) (HB3.out.trans (hb5.mono HB3.out.size)))
      clear hA5 hb5 y5 HB3 HY3 HV
      go_wp2
      obtain ⟨hA, hB, c0, c1⟩ := HE.out
      exact bodyPost_ret (v := .tuple #[dgV (.slice a5 ll.length c5) rr, .bool true]) (by simp [results, Tryd.results29, go_sem, c0, c1]) rfl ⟨⟨_, rfl, hA⟩, hB⟩
theorem law_NotOf (v : Value) (l : List Bdd.Ch) (r : Int) (w : World) (ho : OV w) (hv : ChsOf w v l) (hm : l.length ≤ maxLen) :
    Calls Tryd.prog 11 #[dgV v r] w fun e w' => e = .returned (.bool true) ∧ Below w.heap.size w w' := by
  obtain ⟨b, hb⟩ := good_bool l r
  refine law_NotOf_run v l r w ho hv hm fun hn => ?_
  by_cases h : b = true
  · exact ⟨(dia (~~~dec l r)).1, (dia (~~~dec l r)).2, true, by have := Bdd.dia_len (~~~dec l r); omega, fun u W hu => by have := spec_NotOf u r l b hb W hu hn; simp only [h, if_true] at this; exact this, fun u W ho hu => by have := impl_NotOf u r l b hb W hu hn ho; simp only [h, if_true] at this; exact this⟩
  · exact ⟨0, [], false, by simp, fun u W hu => by have := spec_NotOf u r l b hb W hu hn; simp only [h] at this; exact this, fun u W ho hu => by have := impl_NotOf u r l b hb W hu hn ho; simp only [h] at this; exact this⟩
theorem law_Restrict (v : Value) (l : List Bdd.Ch) (r : Int) (x : Int) (y : Bool) (w : World) (ho : OV w) (hv : ChsOf w v l) (hm : l.length ≤ maxLen) :
    Calls Tryd.prog 9 #[dgV v r, .int .i64 x, .bool y] w fun e w' => e = .returned (.bool true) ∧ Below w.heap.size w w' := by
  obtain ⟨b, hb⟩ := good_bool l r
  refine law_Restrict_run v l r x y w ho hv hm fun hn => ?_
  by_cases h : (b && decide (0 ≤ x ∧ x ≤ 5)) = true
  · exact ⟨(dia (Bdd.hf (dec l r) x.toNat y)).1, (dia (Bdd.hf (dec l r) x.toNat y)).2, true, by have := Bdd.dia_len (Bdd.hf (dec l r) x.toNat y); omega, fun u W hu => by have := spec_Restrict u r l x y b hb W hu hn; simp only [h, if_true] at this; exact this, fun u W ho hu => by have := impl_Restrict u r l x y b hb W hu hn ho; simp only [h, if_true] at this; exact this⟩
  · exact ⟨0, [], false, by simp, fun u W hu => by have := spec_Restrict u r l x y b hb W hu hn; simp only [h] at this; exact this, fun u W ho hu => by have := impl_Restrict u r l x y b hb W hu hn ho; simp only [h] at this; exact this⟩
end Go.Proofs.YtfiooclkefmijaaDoor
