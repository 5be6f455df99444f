/-
  BothOf of the specification.
-/
import Derived.Test.YtfiooclkefmijaaDoorBddNI
import Derived.Test.YtfiooclkefmijaaDoorBddSG
namespace Go.Proofs.YtfiooclkefmijaaDoor
open Go.RowKit M
open Clk (upd upd_same upd_other)
open Bdd (dia dec)
namespace M
open Bdd
theorem box_ansg {w w4 : World} {f : Nat → Value} {v : Value} {l : List Ch} (g : Nat) (hg : w.heap.size ≤ g) (r : Int) (x4 : Blk w4 g 2 f 27) (hA : AnsD w4 w.heap.size v l) (hb : Below w.heap.size w w4) :
    AnsD ((w4.setCell ⟨g, 0, none⟩ v).setCell ⟨g, 1, none⟩ (.int .i64 r)) w.heap.size v l ∧ Below w.heap.size w ((w4.setCell ⟨g, 0, none⟩ v).setCell ⟨g, 1, none⟩ (.int .i64 r)) ∧
    ((w4.setCell ⟨g, 0, none⟩ v).setCell ⟨g, 1, none⟩ (.int .i64 r)).cell? ⟨g, 0, none⟩ = some v ∧ ((w4.setCell ⟨g, 0, none⟩ v).setCell ⟨g, 1, none⟩ (.int .i64 r)).cell? ⟨g, 1, none⟩ = some (.int .i64 r) :=
  ⟨owns_set (owns_set hA x4 (by decide) 0 _) (x4.set 0 _) (by decide) 1 _, (hb.setCell (p := ⟨g, 0, none⟩) hg _).setCell (p := ⟨g, 1, none⟩) hg _,
    ((x4.set 0 v).set 1 (.int .i64 r)).cell (show 0 < 2 by omega), ((x4.set 0 v).set 1 (.int .i64 r)).cell (show 1 < 2 by omega)⟩
end M
set_option maxRecDepth 20000 in
theorem spec_BothOf (v1 : Value) (r1 : Int) (l1 : List Bdd.Ch) (b1 : Bool) (hb1 : b1 = true ↔ Bdd.Good l1 r1) (v2 : Value) (r2 : Int) (l2 : List Bdd.Ch) (b2 : Bool) (hb2 : b2 = true ↔ Bdd.Good l2 r2)
    (w : World) (hv1 : ChsOf w v1 l1) (hn1 : l1.length ≤ 1048576) (hv2 : ChsOf w v2 l2) (hn2 : l2.length ≤ 1048576) :
    Calls Tryd.prog 31 #[dgV v1 r1, dgV v2 r2] w fun e w' => if (b1 && b2) then DiagA w (dia (dec l1 r1 &&& dec l2 r2)).1 (dia (dec l1 r1 &&& dec l2 r2)).2 true e w' else DiagA w 0 [] false e w' := by
  have HV1 := hide hv1
  have HV2 := hide hv2
  obtain ⟨a1, p1, rfl⟩ := hv1.form
  obtain ⟨a2, p2, rfl⟩ := hv2.form
  have hd1 := (Below.refl w.heap.size w).alloc (Nat.le_refl _) (.cells #[.slice a1 l1.length p1, .int .i64 r1] 27)
  have hd2 := hd1.alloc hd1.size (.cells #[.slice a2 l2.length p2, .int .i64 r2] 27)
  have hd3 := hd2.alloc hd2.size (.cells #[.slice none 0 0, .int .i64 0] 27)
  obtain ⟨w2, hw2⟩ : ∃ w2, ((w.alloc (.cells #[.slice a1 l1.length p1, .int .i64 r1] 27)).alloc (.cells #[.slice a2 l2.length p2, .int .i64 r2] 27)).alloc (.cells #[.slice none 0 0, .int .i64 0] 27) = w2 := ⟨_, rfl⟩
  have Hw2 := hide hw2
  have x0 : Blk w2 w.heap.size 2 (q2 (.slice a1 l1.length p1) (.int .i64 r1)) 27 := by
    rw [← hw2]; exact ((Blk.fresh w #[.slice a1 l1.length p1, .int .i64 r1] 2 (q2 (.slice a1 l1.length p1) (.int .i64 r1)) 27 rfl).alloc _).alloc _
  have z0 : Blk w2 (w.heap.size + 1) 2 (q2 (.slice a2 l2.length p2) (.int .i64 r2)) 27 := by
    rw [← hw2]
    have := (Blk.fresh (w.alloc (.cells #[.slice a1 l1.length p1, .int .i64 r1] 27)) #[.slice a2 l2.length p2, .int .i64 r2] 2 (q2 (.slice a2 l2.length p2) (.int .i64 r2)) 27 rfl).alloc (.cells #[.slice none 0 0, .int .i64 0] 27)
    simpa using this
  have y0 : Blk w2 (w.heap.size + 2) 2 (q2 (.slice none 0 0) (.int .i64 0)) 27 := by
    rw [← hw2]
    have := dbox ((w.alloc (.cells #[.slice a1 l1.length p1, .int .i64 r1] 27)).alloc (.cells #[.slice a2 l2.length p2, .int .i64 r2] 27))
    simpa using this
  rw [hw2] at hd3
  have HD := hide hd3
  have HX := hide x0
  have HZ := hide z0
  have HY := hide y0
  have HG1 := hide (l7_good_b (.slice a1 l1.length p1) r1 l1 b1 hb1 w2 (hv1.below hd3) hn1)
  have HG2 := hide (fun W h => l7_good_b (.slice a2 l2.length p2) r2 l2 b2 hb2 W h hn2)
  obtain ⟨d0, d1⟩ := x0.pr
  rw [← hw2] at d0 d1
  clear hv1 hv2 hd1 hd2 hd3 x0 z0 y0 hw2 hb1 hb2 HX
  cases b1 with
  | false =>
    cases b2 with
    | false =>
      simp only [Bool.and_false, Bool.false_eq_true, if_false]
      go_enter Tryd.func31, Tryd.ntmps31
      go_wp2_with fail
      rw [Hw2.out] at d0 d1 ⊢
      refine HG1.out.mono ?_
      rintro e w3 ⟨⟨t1, rfl, ht1⟩, hb3⟩
      have HT1 := hide ht1
      have HB3 := hide (HD.out.trans (hb3.mono HD.out.size))
      have HY3 := hide (HY.out.down hb3)
      obtain ⟨e0, e1⟩ := (HZ.out.down hb3).pr
      clear hb3 HD HY HG1 Hw2 d0 d1 ht1 HZ
      go_wp2_with fail
      refine (HG2.out w3 (HV2.out.below HB3.out)).mono ?_
      rintro e w4 ⟨⟨t2, rfl, ht2⟩, hb4⟩
      have HT2 := hide ht2
      have HB4 := hide (HB3.out.trans (hb4.mono HB3.out.size))
      have HY4 := hide (HY3.out.down hb4)
      clear hb4 HB3 HY3 HG2 e0 e1 ht2
      have y3 := HY4.out
      obtain ⟨k0, k1, k2, k3⟩ := y3.two
      have HE := hide (box_ansg (w.heap.size + 2) (by omega) 0 y3 (ansD_nil w4 w.heap.size) HB4.out)
      clear y3 HY4 HV1 HV2 HT1 HT2
      go_wp2
      obtain ⟨hA, hB, c0, c1⟩ := HE.out
      exact bodyPost_ret (v := .tuple #[dgV (.slice none 0 0) 0, .bool false]) (by simp [results, Tryd.results31, go_sem, c0, c1]) rfl ⟨⟨_, rfl, hA⟩, hB⟩
    | true =>
      simp only [Bool.false_and, Bool.false_eq_true, if_false]
      go_enter Tryd.func31, Tryd.ntmps31
      go_wp2_with fail
      rw [Hw2.out] at d0 d1 ⊢
      refine HG1.out.mono ?_
      rintro e w3 ⟨⟨t1, rfl, ht1⟩, hb3⟩
      have HT1 := hide ht1
      have HB3 := hide (HD.out.trans (hb3.mono HD.out.size))
      have HY3 := hide (HY.out.down hb3)
      obtain ⟨e0, e1⟩ := (HZ.out.down hb3).pr
      clear hb3 HD HY HG1 Hw2 d0 d1 ht1 HZ
      go_wp2_with fail
      refine (HG2.out w3 (HV2.out.below HB3.out)).mono ?_
      rintro e w4 ⟨⟨t2, rfl, ht2⟩, hb4⟩
      have HT2 := hide ht2
      have HB4 := hide (HB3.out.trans (hb4.mono HB3.out.size))
      have HY4 := hide (HY3.out.down hb4)
      clear hb4 HB3 HY3 HG2 e0 e1 ht2
      have y3 := HY4.out
      obtain ⟨k0, k1, k2, k3⟩ := y3.two
      have HE := hide (box_ansg (w.heap.size + 2) (by omega) 0 y3 (ansD_nil w4 w.heap.size) HB4.out)
      clear y3 HY4 HV1 HV2 HT1 HT2
      go_wp2
      obtain ⟨hA, hB, c0, c1⟩ := HE.out
      exact bodyPost_ret (v := .tuple #[dgV (.slice none 0 0) 0, .bool false]) (by simp [results, Tryd.results31, go_sem, c0, c1]) rfl ⟨⟨_, rfl, hA⟩, hB⟩
  | true =>
    cases b2 with
    | false =>
      simp only [Bool.and_false, Bool.false_eq_true, if_false]
      go_enter Tryd.func31, Tryd.ntmps31
      go_wp2_with fail
      rw [Hw2.out] at d0 d1 ⊢
      refine HG1.out.mono ?_
      rintro e w3 ⟨⟨t1, rfl, ht1⟩, hb3⟩
      have HT1 := hide ht1
      have HB3 := hide (HD.out.trans (hb3.mono HD.out.size))
      have HY3 := hide (HY.out.down hb3)
      obtain ⟨e0, e1⟩ := (HZ.out.down hb3).pr
      clear hb3 HD HY HG1 Hw2 d0 d1 ht1 HZ
      go_wp2_with fail
      refine (HG2.out w3 (HV2.out.below HB3.out)).mono ?_
      rintro e w4 ⟨⟨t2, rfl, ht2⟩, hb4⟩
      have HT2 := hide ht2
      have HB4 := hide (HB3.out.trans (hb4.mono HB3.out.size))
      have HY4 := hide (HY3.out.down hb4)
      clear hb4 HB3 HY3 HG2 e0 e1 ht2
      have y3 := HY4.out
      obtain ⟨k0, k1, k2, k3⟩ := y3.two
      have HE := hide (box_ansg (w.heap.size + 2) (by omega) 0 y3 (ansD_nil w4 w.heap.size) HB4.out)
      clear y3 HY4 HV1 HV2 HT1 HT2
      go_wp2
      obtain ⟨hA, hB, c0, c1⟩ := HE.out
      exact bodyPost_ret (v := .tuple #[dgV (.slice none 0 0) 0, .bool false]) (by simp [results, Tryd.results31, go_sem, c0, c1]) rfl ⟨⟨_, rfl, hA⟩, hB⟩
    | true =>
      simp only [Bool.and_self, if_true]
      obtain ⟨D, hD⟩ : ∃ D, dia (dec l1 r1 &&& dec l2 r2) = D := ⟨_, rfl⟩
      have HDD := hide hD
      rw [hD]
      obtain ⟨rr, ll⟩ := D
      clear hD
      go_enter Tryd.func31, Tryd.ntmps31
      go_wp2_with fail
      rw [Hw2.out] at d0 d1 ⊢
      refine HG1.out.mono ?_
      rintro e w3 ⟨⟨t1, rfl, ht1⟩, hb3⟩
      have HT1 := hide ht1
      have HB3 := hide (HD.out.trans (hb3.mono HD.out.size))
      have HY3 := hide (HY.out.down hb3)
      obtain ⟨e0, e1⟩ := (HZ.out.down hb3).pr
      clear hb3 HD HY HG1 Hw2 d0 d1 ht1 HZ
      go_wp2_with fail
      refine (HG2.out w3 (HV2.out.below HB3.out)).mono ?_
      rintro e w4 ⟨⟨t2, rfl, ht2⟩, hb4⟩
      have HT2 := hide ht2
      have HB4 := hide (HB3.out.trans (hb4.mono HB3.out.size))
      have HY4 := hide (HY3.out.down hb4)
      clear hb4 HB3 HY3 HG2 e0 e1 ht2
      rw [HT1.out (by trivial), HT2.out (by trivial)]
      have hand := u_and (dec l1 r1) (dec l2 r2)
      clear HT1 HT2
      go_wp2_with fail
      refine (l7_tell (dec l1 r1 &&& dec l2 r2) _).mono ?_
      rintro e w5 ⟨⟨u5, rfl, hA5⟩, hb5⟩
      rw [HDD.out] at hA5 ⊢
      simp only at hA5 ⊢
      obtain ⟨a5, c5, rfl⟩ := hA5.form
      have y5 := HY4.out.down hb5
      obtain ⟨k0, k1, k2, k3⟩ := y5.two
      have HE := hide (box_ansg (w.heap.size + 2) (by omega) rr y5 (owns_mono hA5 HB4.out.size) (HB4.out.trans (hb5.mono HB4.out.size)))
      clear hA5 hb5 y5 HB4 HY4 HV1 HV2 hand
      go_wp2
      obtain ⟨hA, hB, c0, c1⟩ := HE.out
      exact bodyPost_ret (v := .tuple #[dgV (.slice a5 ll.length c5) rr, .bool true]) (by simp [results, Tryd.results31, go_sem, c0, c1]) rfl ⟨⟨_, rfl, hA⟩, hB⟩
end Go.Proofs.YtfiooclkefmijaaDoor
