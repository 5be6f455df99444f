/-
  NotOf and Restrict of both texts; NotOf's law.
-/
import Derived.Test.YtfiooclkefmijaaDoorBddLN
import Derived.Test.YtfiooclkefmijaaDoorBddLD
namespace Go.Proofs.YtfiooclkefmijaaDoor
open Go.RowKit M
open Clk (upd upd_same upd_other)
open Bdd (dia dec)
namespace M
open Bdd
theorem box_ans1 {w w4 : World} {f : Nat → Value} {v : Value} {l : List Ch} (r : Int) (x4 : Blk w4 (w.heap.size + 1) 2 f 27) (hA : AnsD w4 w.heap.size v l) (hb : Below w.heap.size w w4) :
    AnsD ((w4.setCell ⟨w.heap.size + 1, 0, none⟩ v).setCell ⟨w.heap.size + 1, 1, none⟩ (.int .i64 r)) w.heap.size v l ∧ Below w.heap.size w ((w4.setCell ⟨w.heap.size + 1, 0, none⟩ v).setCell ⟨w.heap.size + 1, 1, none⟩ (.int .i64 r)) ∧
    ((w4.setCell ⟨w.heap.size + 1, 0, none⟩ v).setCell ⟨w.heap.size + 1, 1, none⟩ (.int .i64 r)).cell? ⟨w.heap.size + 1, 0, none⟩ = some v ∧ ((w4.setCell ⟨w.heap.size + 1, 0, none⟩ v).setCell ⟨w.heap.size + 1, 1, none⟩ (.int .i64 r)).cell? ⟨w.heap.size + 1, 1, none⟩ = some (.int .i64 r) :=
  ⟨owns_set (owns_set hA x4 (by decide) 0 _) (x4.set 0 _) (by decide) 1 _, (hb.setCell (p := ⟨w.heap.size + 1, 0, none⟩) (by show w.heap.size ≤ w.heap.size + 1; omega) _).setCell (p := ⟨w.heap.size + 1, 1, none⟩) (by show w.heap.size ≤ w.heap.size + 1; omega) _,
    ((x4.set 0 v).set 1 (.int .i64 r)).cell (show 0 < 2 by omega), ((x4.set 0 v).set 1 (.int .i64 r)).cell (show 1 < 2 by omega)⟩
end M
set_option maxRecDepth 20000 in
theorem impl_NotOf (v : Value) (r : Int) (l : List Bdd.Ch) (b : Bool) (hb : b = true ↔ Bdd.Good l r) (w : World) (hv : ChsOf w v l) (hn : l.length ≤ 1048576) (ho : OV w) :
    Calls Tryd.prog 34 #[dgV v r] w fun e w' => if b then DiagA w (dia (~~~dec l r)).1 (dia (~~~dec l r)).2 true e w' else DiagA w 0 [] false e w' := by
  have HV := hide hv
  obtain ⟨a, cap, rfl⟩ := hv.form
  have hd1 := (Below.refl w.heap.size w).alloc (Nat.le_refl _) (.cells #[.slice a l.length cap, .int .i64 r] 27)
  have hd2 := hd1.alloc hd1.size (.cells #[.slice none 0 0, .int .i64 0] 27)
  obtain ⟨w2, hw2⟩ : ∃ w2, (w.alloc (.cells #[.slice a l.length cap, .int .i64 r] 27)).alloc (.cells #[.slice none 0 0, .int .i64 0] 27) = w2 := ⟨_, rfl⟩
  have Hw2 := hide hw2
  have x0 : Blk w2 w.heap.size 2 (q2 (.slice a l.length cap) (.int .i64 r)) 27 := by
    rw [← hw2]; exact (Blk.fresh w #[.slice a l.length cap, .int .i64 r] 2 (q2 (.slice a l.length cap) (.int .i64 r)) 27 rfl).alloc _
  have y0 : Blk w2 (w.heap.size + 1) 2 (q2 (.slice none 0 0) (.int .i64 0)) 27 := by
    rw [← hw2]
    have := dbox (w.alloc (.cells #[.slice a l.length cap, .int .i64 r] 27))
    simpa using this
  rw [hw2] at hd2
  have HD := hide hd2
  have HX := hide x0
  have HY := hide y0
  have HO := hide (ho.below hd2)
  have HG := hide (impl_good_b (.slice a l.length cap) r l b hb w2 (hv.below hd2) hn (ho.below hd2))
  obtain ⟨d0, d1⟩ := x0.pr
  rw [← hw2] at d0 d1
  clear hv hd1 hd2 ho x0 y0 hw2
  cases b with
  | false =>
    clear hb
    simp only [Bool.false_eq_true, if_false]
    go_enter Tryd.func34, Tryd.ntmps34
    go_wp2_with fail
    rw [Hw2.out] at d0 d1 ⊢
    refine HG.out.mono ?_
    rintro e w3 ⟨rfl, hb3⟩
    have y3 := HY.out.down hb3
    obtain ⟨k0, k1, k2, k3⟩ := y3.two
    have HB := hide (HD.out.trans (hb3.mono HD.out.size))
    have HE := hide (box_ans1 0 y3 (ansD_nil w3 w.heap.size) HB.out)
    clear hb3 y3 HD HX HY HV HG HO Hw2
    clear d0 d1
    go_wp2
    obtain ⟨hA, hB, c0, c1⟩ := HE.out
    exact bodyPost_ret (v := .tuple #[dgV (.slice none 0 0) 0, .bool false]) (by simp [results, Tryd.results34, go_sem, c0, c1]) rfl ⟨⟨_, rfl, hA⟩, hB⟩
  | true =>
    have HEn := hide (hb.1 rfl).1
    clear hb
    simp only [if_true]
    obtain ⟨D, hD⟩ : ∃ D, dia (~~~dec l r) = D := ⟨_, rfl⟩
    have HDD := hide hD
    rw [hD]
    obtain ⟨rr, ll⟩ := D
    clear hD
    go_enter Tryd.func34, Tryd.ntmps34
    go_wp2_with fail
    rw [Hw2.out] at d0 d1 ⊢
    refine HG.out.mono ?_
    rintro e w3 ⟨rfl, hb3⟩
    have HB3 := hide (HD.out.trans (hb3.mono HD.out.size))
    have HY3 := hide (HY.out.down hb3)
    have HO3 := hide (HO.out.below hb3)
    obtain ⟨d0, d1⟩ := (HX.out.down hb3).pr
    clear hb3 HD HX HY HG HO Hw2
    go_wp2_with fail
    refine (decisions_in _ r l _ (HV.out.below HB3.out) HEn.out).mono ?_
    rintro e w4 ⟨rfl, hb4⟩
    have HB4 := hide (HB3.out.trans (hb4.mono HB3.out.size))
    have HY4 := hide (HY3.out.down hb4)
    have HO4 := hide (HO3.out.below hb4)
    clear hb4 HB3 HY3 HO3 d0 d1
    have hnot : bits .xor .u64 (if IntKind.u64.signed = true then -1 else IntKind.u64.max) (tn (dec l r)) = tn (~~~dec l r) := u_not _
    have hnot2 := u_not (dec l r)
    go_wp2_with fail
    refine (diagram_for (~~~dec l r) _ HO4.out).mono ?_
    rintro e w5 ⟨⟨u5, rfl, hA5⟩, hb5⟩
    rw [HDD.out] at hA5 ⊢
    simp only at hA5 ⊢
    obtain ⟨a5, c5, rfl⟩ := hA5.form
    have y5 := HY4.out.down hb5
    obtain ⟨k0, k1, k2, k3⟩ := y5.two
    have HE := hide (box_ans1 rr y5 (owns_mono hA5 HB4.out.size) (HB4.out.trans (hb5.mono HB4.out.size)))
    clear hA5 hb5 y5 HB4 HY4 HO4 HV HEn
    go_wp2
    obtain ⟨hA, hB, c0, c1⟩ := HE.out
    exact bodyPost_ret (v := .tuple #[dgV (.slice a5 ll.length c5) rr, .bool true]) (by simp [results, Tryd.results34, go_sem, c0, c1]) rfl ⟨⟨_, rfl, hA⟩, hB⟩
set_option maxRecDepth 20000 in
theorem impl_Restrict (v : Value) (r : Int) (l : List Bdd.Ch) (x : Int) (y : Bool) (b : Bool) (hb : b = true ↔ Bdd.Good l r) (w : World) (hv : ChsOf w v l) (hn : l.length ≤ 1048576) (ho : OV w) :
    Calls Tryd.prog 30 #[dgV v r, .int .i64 x, .bool y] w fun e w' => if (b && decide (0 ≤ x ∧ x ≤ 5)) then DiagA w (dia (Bdd.hf (dec l r) x.toNat y)).1 (dia (Bdd.hf (dec l r) x.toNat y)).2 true e w' else DiagA w 0 [] false e w' := by
  have HV := hide hv
  obtain ⟨a, cap, rfl⟩ := hv.form
  have hd1 := (Below.refl w.heap.size w).alloc (Nat.le_refl _) (.cells #[.slice a l.length cap, .int .i64 r] 27)
  have hd2 := hd1.alloc hd1.size (.cells #[.slice none 0 0, .int .i64 0] 27)
  obtain ⟨w2, hw2⟩ : ∃ w2, (w.alloc (.cells #[.slice a l.length cap, .int .i64 r] 27)).alloc (.cells #[.slice none 0 0, .int .i64 0] 27) = w2 := ⟨_, rfl⟩
  have Hw2 := hide hw2
  have x0 : Blk w2 w.heap.size 2 (q2 (.slice a l.length cap) (.int .i64 r)) 27 := by
    rw [← hw2]; exact (Blk.fresh w #[.slice a l.length cap, .int .i64 r] 2 (q2 (.slice a l.length cap) (.int .i64 r)) 27 rfl).alloc _
  have y0 : Blk w2 (w.heap.size + 1) 2 (q2 (.slice none 0 0) (.int .i64 0)) 27 := by
    rw [← hw2]
    have := dbox (w.alloc (.cells #[.slice a l.length cap, .int .i64 r] 27))
    simpa using this
  rw [hw2] at hd2
  have HD := hide hd2
  have HX := hide x0
  have HY := hide y0
  have HO := hide (ho.below hd2)
  have HG := hide (impl_good_b (.slice a l.length cap) r l b hb w2 (hv.below hd2) hn (ho.below hd2))
  obtain ⟨d0, d1⟩ := x0.pr
  rw [← hw2] at d0 d1
  clear hv hd1 hd2 ho x0 y0 hw2
  cases b with
  | false =>
    clear hb
    simp only [Bool.false_and, Bool.false_eq_true, if_false]
    go_enter Tryd.func30, Tryd.ntmps30
    go_wp2_with fail
    rw [Hw2.out] at d0 d1 ⊢
    refine HG.out.mono ?_
    rintro e w3 ⟨rfl, hb3⟩
    have y3 := HY.out.down hb3
    obtain ⟨k0, k1, k2, k3⟩ := y3.two
    have HB := hide (HD.out.trans (hb3.mono HD.out.size))
    have HE := hide (box_ans1 0 y3 (ansD_nil w3 w.heap.size) HB.out)
    clear hb3 y3 HD HX HY HV HG HO Hw2
    clear d0 d1
    go_wp2
    obtain ⟨hA, hB, c0, c1⟩ := HE.out
    exact bodyPost_ret (v := .tuple #[dgV (.slice none 0 0) 0, .bool false]) (by simp [results, Tryd.results30, go_sem, c0, c1]) rfl ⟨⟨_, rfl, hA⟩, hB⟩
  | true =>
    have HEn := hide (hb.1 rfl).1
    clear hb
    obtain ⟨c, hc⟩ : ∃ c, decide (0 ≤ x ∧ x ≤ 5) = c := ⟨_, rfl⟩
    have HW := hide (within_is x 0 5 c hc)
    cases c with
    | false =>
      rw [hc]
      clear hc
      simp only [Bool.and_false, Bool.false_eq_true, if_false]
      go_enter Tryd.func30, Tryd.ntmps30
      go_wp2_with fail
      rw [Hw2.out] at d0 d1 ⊢
      refine HG.out.mono ?_
      rintro e w3 ⟨rfl, hb3⟩
      have y3 := HY.out.down hb3
      obtain ⟨k0, k1, k2, k3⟩ := y3.two
      have HB := hide (HD.out.trans (hb3.mono HD.out.size))
      have HE := hide (box_ans1 0 y3 (ansD_nil w3 w.heap.size) HB.out)
      clear hb3 y3 HD HX HY HV HG HO Hw2
      clear d0 d1
      go_wp2_with (refine (HW.out _).mono ?_; rintro e w4 ⟨rfl, rfl⟩)
      obtain ⟨hA, hB, c0, c1⟩ := HE.out
      exact bodyPost_ret (v := .tuple #[dgV (.slice none 0 0) 0, .bool false]) (by simp [results, Tryd.results30, go_sem, c0, c1]) rfl ⟨⟨_, rfl, hA⟩, hB⟩
    | true =>
      rw [hc]
      obtain ⟨n, rfl⟩ : ∃ n : Nat, x = (n : Int) := ⟨x.toNat, by simp at hc; omega⟩
      have hn6 : n < 6 := by simp at hc; omega
      have HN6 := hide hn6
      clear hc hn6
      simp only [Bool.and_self, if_true, Int.toNat_natCast]
      obtain ⟨D, hD⟩ : ∃ D, dia (Bdd.hf (dec l r) n y) = D := ⟨_, rfl⟩
      have HDD := hide hD
      rw [hD]
      obtain ⟨rr, ll⟩ := D
      clear hD
      go_enter Tryd.func30, Tryd.ntmps30
      go_wp2_with fail
      rw [Hw2.out] at d0 d1 ⊢
      refine HG.out.mono ?_
      rintro e w3 ⟨rfl, hb3⟩
      have HB3 := hide (HD.out.trans (hb3.mono HD.out.size))
      have HY3 := hide (HY.out.down hb3)
      have HO3 := hide (HO.out.below hb3)
      obtain ⟨d0, d1⟩ := (HX.out.down hb3).pr
      clear hb3 HD HX HY HG HO Hw2
      go_wp2_with fail
      refine (HW.out _).mono ?_
      rintro e w3' ⟨rfl, rfl⟩
      go_wp2_with fail
      refine (decisions_in _ r l _ (HV.out.below HB3.out) HEn.out).mono ?_
      rintro e w4 ⟨rfl, hb4⟩
      have HB4 := hide (HB3.out.trans (hb4.mono HB3.out.size))
      have HY4 := hide (HY3.out.down hb4)
      have HO4 := hide (HO3.out.below hb4)
      clear hb4 HB3 HY3 HO3 d0 d1
      go_wp2_with fail
      refine (with_v (dec l r) n HN6.out y _ HO4.out).mono ?_
      rintro e w4' ⟨rfl, rfl⟩
      go_wp2_with fail
      refine (diagram_for (Bdd.hf (dec l r) n y) _ HO4.out).mono ?_
      rintro e w5 ⟨⟨u5, rfl, hA5⟩, hb5⟩
      rw [HDD.out] at hA5 ⊢
      simp only at hA5 ⊢
      obtain ⟨a5, c5, rfl⟩ := hA5.form
      have y5 := HY4.out.down hb5
      obtain ⟨k0, k1, k2, k3⟩ := y5.two
      have HE := hide (box_ans1 rr y5 (owns_mono hA5 HB4.out.size) (HB4.out.trans (hb5.mono HB4.out.size)))
      clear hA5 hb5 y5 HB4 HY4 HO4 HV HEn
      go_wp2
      obtain ⟨hA, hB, c0, c1⟩ := HE.out
      exact bodyPost_ret (v := .tuple #[dgV (.slice a5 ll.length c5) rr, .bool true]) (by simp [results, Tryd.results30, go_sem, c0, c1]) rfl ⟨⟨_, rfl, hA⟩, hB⟩
end Go.Proofs.YtfiooclkefmijaaDoor
