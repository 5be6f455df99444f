/-
  BothOf of the program.
-/
import Derived.Test.YtfiooclkefmijaaDoorBddBS
import Derived.Deep.RegionHeld
namespace Go.Proofs.YtfiooclkefmijaaDoor
open Go.RowKit M
open Clk (upd upd_same upd_other)
open Bdd (dia dec)
namespace M
open Bdd
/-- The two boxes, the answer's box and the diagrams as they were. -/
def BI (w W : World) (v1 : Value) (r1 : Int) (l1 : List Ch) (v2 : Value) (r2 : Int) (l2 : List Ch) : Prop :=
  Below w.heap.size w W ∧ (Blk W w.heap.size 2 (q2 v1 (.int .i64 r1)) 27 ∧ Blk W (w.heap.size + 1) 2 (q2 v2 (.int .i64 r2)) 27 ∧ Blk W (w.heap.size + 2) 2 (q2 (.slice none 0 0) (.int .i64 0)) 27) ∧ (ChsOf W v1 l1 ∧ ChsOf W v2 l2) ∧ OV W
theorem BI.down {w W W' : World} {v1 : Value} {r1 : Int} {l1 : List Ch} {v2 : Value} {r2 : Int} {l2 : List Ch} (h : BI w W v1 r1 l1 v2 r2 l2) (hb : Below W.heap.size W W') : BI w W' v1 r1 l1 v2 r2 l2 :=
  ⟨h.1.trans (hb.mono h.1.size), ⟨h.2.1.1.down hb, h.2.1.2.1.down hb, h.2.1.2.2.down hb⟩, ⟨h.2.2.1.1.below hb, h.2.2.1.2.below hb⟩, h.2.2.2.below hb⟩
theorem BI.kept {w W : World} {v1 : Value} {r1 : Int} {l1 : List Ch} {v2 : Value} {r2 : Int} {l2 : List Ch} (h : BI w W v1 r1 l1 v2 r2 l2) (x y : Value) :
    ((W.setCell ⟨w.heap.size + 1 + 1, 0, none⟩ x).setCell ⟨w.heap.size + 1 + 1, 1, none⟩ y).cell? ⟨w.heap.size, 0, none⟩ = some v1 ∧ ((W.setCell ⟨w.heap.size + 1 + 1, 0, none⟩ x).setCell ⟨w.heap.size + 1 + 1, 1, none⟩ y).cell? ⟨w.heap.size, 1, none⟩ = some (.int .i64 r1) ∧
    ((W.setCell ⟨w.heap.size + 1 + 1, 0, none⟩ x).setCell ⟨w.heap.size + 1 + 1, 1, none⟩ y).cell? ⟨w.heap.size + 1, 0, none⟩ = some v2 ∧ ((W.setCell ⟨w.heap.size + 1 + 1, 0, none⟩ x).setCell ⟨w.heap.size + 1 + 1, 1, none⟩ y).cell? ⟨w.heap.size + 1, 1, none⟩ = some (.int .i64 r2) := by
  have a := (h.2.1.1.set_other (show w.heap.size ≠ w.heap.size + 1 + 1 by omega) 0 x).set_other (show w.heap.size ≠ w.heap.size + 1 + 1 by omega) 1 y
  have b := (h.2.1.2.1.set_other (show w.heap.size + 1 ≠ w.heap.size + 1 + 1 by omega) 0 x).set_other (show w.heap.size + 1 ≠ w.heap.size + 1 + 1 by omega) 1 y
  exact ⟨a.pr.1, a.pr.2, b.pr.1, b.pr.2⟩
end M
set_option maxRecDepth 20000 in
theorem impl_BothOf (v1 : Value) (r1 : Int) (l1 : List Bdd.Ch) (b1 : Bool) (hb1 : b1 = true ↔ Bdd.Good l1 r1) (v2 : Value) (r2 : Int) (l2 : List Bdd.Ch) (b2 : Bool) (hb2 : b2 = true ↔ Bdd.Good l2 r2)
    (w : World) (hv1 : ChsOf w v1 l1) (hn1 : l1.length ≤ 1048576) (hv2 : ChsOf w v2 l2) (hn2 : l2.length ≤ 1048576) (ho : OV w) :
    Calls Tryd.prog 32 #[dgV v1 r1, dgV v2 r2] w fun e w' => if (b1 && b2) then DiagA w (dia (dec l1 r1 &&& dec l2 r2)).1 (dia (dec l1 r1 &&& dec l2 r2)).2 true e w' else DiagA w 0 [] false e w' := by
  have HV1 := hide hv1
  have HV2 := hide hv2
  obtain ⟨a1, p1, rfl⟩ := hv1.form
  obtain ⟨a2, p2, rfl⟩ := hv2.form
  have hd1 := (Below.refl w.heap.size w).alloc (Nat.le_refl _) (.cells #[.slice a1 l1.length p1, .int .i64 r1] 27)
  have hd2 := hd1.alloc hd1.size (.cells #[.slice a2 l2.length p2, .int .i64 r2] 27)
  have hd3 := hd2.alloc hd2.size (.cells #[.slice none 0 0, .int .i64 0] 27)
  obtain ⟨w2, hw2⟩ : ∃ w2, ((w.alloc (.cells #[.slice a1 l1.length p1, .int .i64 r1] 27)).alloc (.cells #[.slice a2 l2.length p2, .int .i64 r2] 27)).alloc (.cells #[.slice none 0 0, .int .i64 0] 27) = w2 := ⟨_, rfl⟩
  have Hw2 := hide hw2
  have x0 : Blk w2 w.heap.size 2 (q2 (.slice a1 l1.length p1) (.int .i64 r1)) 27 := by
    rw [← hw2]; exact ((Blk.fresh w #[.slice a1 l1.length p1, .int .i64 r1] 2 (q2 (.slice a1 l1.length p1) (.int .i64 r1)) 27 rfl).alloc _).alloc _
  have z0 : Blk w2 (w.heap.size + 1) 2 (q2 (.slice a2 l2.length p2) (.int .i64 r2)) 27 := by
    rw [← hw2]
    have := (Blk.fresh (w.alloc (.cells #[.slice a1 l1.length p1, .int .i64 r1] 27)) #[.slice a2 l2.length p2, .int .i64 r2] 2 (q2 (.slice a2 l2.length p2) (.int .i64 r2)) 27 rfl).alloc (.cells #[.slice none 0 0, .int .i64 0] 27)
    simpa using this
  have y0 : Blk w2 (w.heap.size + 2) 2 (q2 (.slice none 0 0) (.int .i64 0)) 27 := by
    rw [← hw2]
    have := dbox ((w.alloc (.cells #[.slice a1 l1.length p1, .int .i64 r1] 27)).alloc (.cells #[.slice a2 l2.length p2, .int .i64 r2] 27))
    simpa using this
  rw [hw2] at hd3
  have HD := hide hd3
  have HX := hide x0
  have HZ := hide z0
  have HY := hide y0
  have HB0 := hide (show BI w w2 (.slice a1 l1.length p1) r1 l1 (.slice a2 l2.length p2) r2 l2 from ⟨hd3, ⟨x0, z0, y0⟩, ⟨hv1.below hd3, hv2.below hd3⟩, ho.below hd3⟩)
  have HG1 := hide (fun W h ho => impl_good_b (.slice a1 l1.length p1) r1 l1 b1 hb1 W h hn1 ho)
  have HG2 := hide (fun W h ho => impl_good_b (.slice a2 l2.length p2) r2 l2 b2 hb2 W h hn2 ho)
  have HN1 := hide hb1.1
  have HN2 := hide hb2.1
  obtain ⟨d0, d1⟩ := x0.pr
  rw [← hw2] at d0 d1
  clear hv1 hv2 hd1 hd2 hd3 x0 z0 y0 hw2 hb1 hb2 HX HY HZ HD ho HV1 HV2
  cases b1 with
  | false =>
    simp only [Bool.false_and, Bool.false_eq_true, if_false]
    go_enter Tryd.func32, Tryd.ntmps32
    go_wp2_with fail
    rw [Hw2.out] at d0 d1 ⊢
    refine (HG1.out w2 HB0.out.2.2.1.1 HB0.out.2.2.2).mono ?_
    rintro e w3 ⟨rfl, hb3⟩
    have HB3 := hide (HB0.out.down hb3)
    clear hb3 HB0 HG1 Hw2 d0 d1
    have y3 := HB3.out.2.1.2.2
    obtain ⟨k0, k1, k2, k3⟩ := y3.two
    have HE := hide (box_ansg (w.heap.size + 2) (by omega) 0 y3 (ansD_nil w3 w.heap.size) HB3.out.1)
    clear y3 HN1 HN2
    go_wp2
    obtain ⟨hA, hB, c0, c1⟩ := HE.out
    exact bodyPost_ret (v := .tuple #[dgV (.slice none 0 0) 0, .bool false]) (by simp [results, Tryd.results32, go_sem, c0, c1]) rfl ⟨⟨_, rfl, hA⟩, hB⟩
  | true =>
    cases b2 with
    | false =>
      simp only [Bool.and_false, Bool.false_eq_true, if_false]
      go_enter Tryd.func32, Tryd.ntmps32
      go_wp2_with fail
      rw [Hw2.out] at d0 d1 ⊢
      refine (HG1.out w2 HB0.out.2.2.1.1 HB0.out.2.2.2).mono ?_
      rintro e w3 ⟨rfl, hb3⟩
      have HB3 := hide (HB0.out.down hb3)
      clear hb3 HB0 HG1 Hw2 d0 d1
      obtain ⟨e0, e1⟩ := HB3.out.2.1.2.1.pr
      go_wp2_with fail
      refine (HG2.out w3 HB3.out.2.2.1.2 HB3.out.2.2.2).mono ?_
      rintro e w4 ⟨rfl, hb4⟩
      have HB4 := hide (HB3.out.down hb4)
      clear hb4 HB3 HG2 e0 e1
      have y3 := HB4.out.2.1.2.2
      obtain ⟨k0, k1, k2, k3⟩ := y3.two
      have HE := hide (box_ansg (w.heap.size + 2) (by omega) 0 y3 (ansD_nil w4 w.heap.size) HB4.out.1)
      clear y3 HN1 HN2
      go_wp2
      obtain ⟨hA, hB, c0, c1⟩ := HE.out
      exact bodyPost_ret (v := .tuple #[dgV (.slice none 0 0) 0, .bool false]) (by simp [results, Tryd.results32, go_sem, c0, c1]) rfl ⟨⟨_, rfl, hA⟩, hB⟩
    | true =>
      simp only [Bool.and_self, if_true]
      obtain ⟨D, hD⟩ : ∃ D, dia (dec l1 r1 &&& dec l2 r2) = D := ⟨_, rfl⟩
      have HDD := hide hD
      rw [hD]
      obtain ⟨rr, ll⟩ := D
      clear hD
      go_enter Tryd.func32, Tryd.ntmps32
      go_wp2_with fail
      rw [Hw2.out] at d0 d1 ⊢
      refine (HG1.out w2 HB0.out.2.2.1.1 HB0.out.2.2.2).mono ?_
      rintro e w3 ⟨rfl, hb3⟩
      have HB3 := hide (HB0.out.down hb3)
      clear hb3 HB0 HG1 Hw2 d0 d1
      obtain ⟨e0, e1⟩ := HB3.out.2.1.2.1.pr
      go_wp2_with fail
      refine (HG2.out w3 HB3.out.2.2.1.2 HB3.out.2.2.2).mono ?_
      rintro e w4 ⟨rfl, hb4⟩
      have HB4 := hide (HB3.out.down hb4)
      clear hb4 HB3 HG2 e0 e1
      go_upto_region 3 with fail
      have hF := HB4.out.down (Below.refl w4.heap.size w4).drew
      have HS := hide (show ∀ W, BI w W (.slice a1 l1.length p1) r1 l1 (.slice a2 l2.length p2) r2 l2 → W.cell? ⟨w.heap.size, 0, none⟩ = some (.slice a1 l1.length p1) ∧ W.cell? ⟨w.heap.size, 1, none⟩ = some (.int .i64 r1) ∧ W.cell? ⟨w.heap.size + 1, 0, none⟩ = some (.slice a2 l2.length p2) ∧ W.cell? ⟨w.heap.size + 1, 1, none⟩ = some (.int .i64 r2) from fun W hW => ⟨hW.2.1.1.pr.1, hW.2.1.1.pr.2, hW.2.1.2.1.pr.1, hW.2.1.2.1.pr.2⟩)
      have HD1 := hide (show ∀ W, BI w W (.slice a1 l1.length p1) r1 l1 (.slice a2 l2.length p2) r2 l2 → Calls Tryd.prog 46 #[.agg #[.slice a1 l1.length p1, .int .i64 r1]] W fun e W' => e = .returned (uv (dec l1 r1)) ∧ BI w W' (.slice a1 l1.length p1) r1 l1 (.slice a2 l2.length p2) r2 l2 from fun W hW => (decisions_in _ r1 l1 W hW.2.2.1.1 (HN1.out (by trivial)).1).mono (by rintro e W' ⟨rfl, hb⟩; exact ⟨rfl, hW.down hb⟩))
      have HD2 := hide (show ∀ W, BI w W (.slice a1 l1.length p1) r1 l1 (.slice a2 l2.length p2) r2 l2 → Calls Tryd.prog 46 #[.agg #[.slice a2 l2.length p2, .int .i64 r2]] W fun e W' => e = .returned (uv (dec l2 r2)) ∧ BI w W' (.slice a1 l1.length p1) r1 l1 (.slice a2 l2.length p2) r2 l2 from fun W hW => (decisions_in _ r2 l2 W hW.2.2.1.2 (HN2.out (by trivial)).1).mono (by rintro e W' ⟨rfl, hb⟩; exact ⟨rfl, hW.down hb⟩))
      have HDf := hide (show ∀ W, BI w W (.slice a1 l1.length p1) r1 l1 (.slice a2 l2.length p2) r2 l2 → Calls Tryd.prog 38 #[.int .u64 (tn (dec l1 r1 &&& dec l2 r2))] W fun e W' => (∃ a5 c5, e = .returned (dgV (.slice a5 ll.length c5) rr) ∧ AnsD W' w.heap.size (.slice a5 ll.length c5) ll) ∧ BI w W' (.slice a1 l1.length p1) r1 l1 (.slice a2 l2.length p2) r2 l2 from fun W hW => (diagram_for (dec l1 r1 &&& dec l2 r2) W hW.2.2.2).mono (by
        rintro e W' ⟨⟨u5, rfl, hA5⟩, hb5⟩
        rw [HDD.out] at hA5 ⊢
        obtain ⟨a5, c5, rfl⟩ := hA5.form
        exact ⟨⟨a5, c5, rfl, owns_mono hA5 hW.1.size⟩, hW.down hb5⟩))
      have hand := u_and (dec l1 r1) (dec l2 r2)
      clear HB4 HN1 HN2
      go_region_held (fun W => W.cell? ⟨w.heap.size, 0, none⟩ = some (.slice a1 l1.length p1) ∧ W.cell? ⟨w.heap.size, 1, none⟩ = some (.int .i64 r1) ∧ W.cell? ⟨w.heap.size + 1, 0, none⟩ = some (.slice a2 l2.length p2) ∧ W.cell? ⟨w.heap.size + 1, 1, none⟩ = some (.int .i64 r2)) (first | exact hFd.kept _ _ | exact HS.out _ hFd | exact HS.out _ hFt | exact HS.out _ hFo | exact HS.out _ hF | go_keep) (first
        | (go_at_call 46; first
            | (with_reducible refine Calls.mono (HD1.out _ (by assumption)) ?_; rintro e wo ⟨rfl, hFo⟩)
            | (with_reducible refine Calls.mono (HD2.out _ (by assumption)) ?_; rintro e wt ⟨rfl, hFt⟩))
        | (go_at_call 38; refine Calls.mono (HDf.out _ (by assumption)) ?_; rintro e w5 ⟨⟨a5, c5, rfl, hA5⟩, hFd⟩; have HA5 := hide hA5; obtain ⟨k0, k1, k2, k3⟩ := hFd.2.1.2.2.two; clear hA5))
      all_goals
        have HE := hide (box_ansg (w.heap.size + 1 + 1) (by omega) rr hFd.2.1.2.2 HA5.out hFd.1)
        clear HA5 hFd
        go_wp2
        obtain ⟨hA, hB, c0, c1⟩ := HE.out
        exact bodyPost_ret (v := .tuple #[dgV (.slice a5 ll.length c5) rr, .bool true]) (by simp [results, Tryd.results32, go_sem, c0, c1]) rfl ⟨⟨_, rfl, hA⟩, hB⟩
end Go.Proofs.YtfiooclkefmijaaDoor
