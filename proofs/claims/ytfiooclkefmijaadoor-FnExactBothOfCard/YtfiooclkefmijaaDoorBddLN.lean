/-
  The laws of NotOf and Restrict, walked: they return true and turn nothing that was there, wherever both texts tell the same.
-/
import Derived.Test.YtfiooclkefmijaaDoorBddI
import Derived.Test.YtfiooclkefmijaaDoorBddE
import Derived.Deep.RegionHeld
import Derived.Deep.Cut
namespace Go.Proofs.YtfiooclkefmijaaDoor
open Go.RowKit M
open Clk (upd upd_same upd_other)
namespace M
open Bdd
/-- The argument's copy and the answer, behind the world W0 in which the specification's answer lies. -/
def LS (W0 W : World) (x : Nat) (vx : Value) (r : Int) (l : List Ch) (bx g : Nat) (vg : Value) (rr : Int) (ll : List Ch) (bg : Nat) : Prop :=
  Below W0.heap.size W0 W ∧ (Blk W x 2 (q2 vx (.int .i64 r)) 27 ∧ AnsD W bx vx l) ∧ Blk W g 2 (q2 vg (.int .i64 rr)) 27 ∧ AnsD W bg vg ll
theorem LS.down {W0 W W' : World} {x : Nat} {vx : Value} {r : Int} {l : List Ch} {bx g : Nat} {vg : Value} {rr : Int} {ll : List Ch} {bg : Nat} (h : LS W0 W x vx r l bx g vg rr ll bg) (hb : Below W.heap.size W W') : LS W0 W' x vx r l bx g vg rr ll bg :=
  ⟨h.1.trans (hb.mono h.1.size), ⟨h.2.1.1.down hb, h.2.1.2.down hb⟩, h.2.2.1.down hb, h.2.2.2.down hb⟩
def LT (W0 W : World) (g : Nat) (vg : Value) (rr : Int) (ll : List Ch) (bg : Nat) : Prop := Below W0.heap.size W0 W ∧ Blk W g 2 (q2 vg (.int .i64 rr)) 27 ∧ AnsD W bg vg ll
theorem LT.down {W0 W W' : World} {g : Nat} {vg : Value} {rr : Int} {ll : List Ch} {bg : Nat} (h : LT W0 W g vg rr ll bg) (hb : Below W.heap.size W W') : LT W0 W' g vg rr ll bg :=
  ⟨h.1.trans (hb.mono h.1.size), h.2.1.down hb, h.2.2.down hb⟩
/-- Behind the marks on the argument's copy. -/
theorem LS.marked {W0 W W' : World} {x : Nat} {vx : Value} {r : Int} {l : List Ch} {bx g : Nat} {vg : Value} {rr : Int} {ll : List Ch} {bg : Nat} (h : LS W0 W x vx r l bx g vg rr ll bg) (hb : Below bx W W') (h0 : W0.heap.size ≤ bx)
    (hk : ∀ k, k < W.heap.size → vx.ownBlock ≠ some k → W'.heap[k]? = W.heap[k]?) (hx : ∀ k, vx.ownBlock = some k → k < bg) : LT W0 W' g vg rr ll bg := by
  refine ⟨h.1.trans (hb.mono h0), h.2.2.1.at (hk g h.2.2.1.lt (h.2.2.1.free h.2.1.2 (by decide))), owns_at h.2.2.2 (fun q hq => hk q ?_ (fun e => ?_))⟩
  · rcases h.2.2.2.2 with ⟨e, _⟩ | ⟨g', cap, cur, e, _, hg, _⟩
    · rw [e] at hq; simp [Value.ownBlock] at hq
    · rw [e] at hq
      simp only [Value.ownBlock, Option.some.injEq] at hq
      subst hq
      rcases Nat.lt_or_ge g' W.heap.size with h' | h'
      · exact h'
      · rw [Array.getElem?_eq_none h'] at hg; cases hg
  · have h1 := own_ge h.2.2.2 q hq
    have h2 := hx q e
    omega
def LU (W0 W : World) (g : Nat) (vg : Value) (rr : Int) (n bg k0 : Nat) : Prop := Below W0.heap.size W0 W ∧ Blk W g 2 (q2 vg (.int .i64 rr)) 27 ∧ Mrk W bg vg n k0
theorem LU.down {W0 W W' : World} {g : Nat} {vg : Value} {rr : Int} {n bg k0 : Nat} (h : LU W0 W g vg rr n bg k0) (hb : Below W.heap.size W W') : LU W0 W' g vg rr n bg k0 :=
  ⟨h.1.trans (hb.mono h.1.size), h.2.1.down hb, h.2.2.down hb⟩
theorem own_lt {w : World} {B : Nat} {v : Value} {l : List Ch} (h : AnsD w B v l) : ∀ k, v.ownBlock = some k → k < w.heap.size := fun k hk => by
  rcases h.2 with ⟨e, _⟩ | ⟨g', cap, cur, e, _, hg, _⟩
  · rw [e] at hk; simp [Value.ownBlock] at hk
  · rw [e] at hk
    simp only [Value.ownBlock, Option.some.injEq] at hk
    subst hk
    rcases Nat.lt_or_ge g' w.heap.size with h' | h'
    · exact h'
    · rw [Array.getElem?_eq_none h'] at hg; cases hg
theorem Blk.pr {w : World} {g : Nat} {a : Value} {r : Int} {t : TypeId} (h : Blk w g 2 (q2 a (.int .i64 r)) t) : w.cell? ⟨g, 0, none⟩ = some a ∧ w.cell? ⟨g, 1, none⟩ = some (.int .i64 r) := ⟨h.cell (by omega), h.cell (by omega)⟩
end M
set_option maxRecDepth 20000 in
set_option maxHeartbeats 8000000 in
theorem law_NotOf_run (v : Value) (l : List Bdd.Ch) (r : Int) (w : World) (ho : OV w) (hv : ChsOf w v l) (hm : l.length ≤ maxLen)
    (hC : l.length ≤ 1048576 → ∃ (rr : Int) (ll : List Bdd.Ch) (b : Bool), ll.length ≤ 1048576 ∧ (∀ u W, ChsOf W u l → Calls Tryd.prog 33 #[dgV u r] W fun e w' => DiagA W rr ll b e w') ∧
      (∀ u W, OV W → ChsOf W u l → Calls Tryd.prog 34 #[dgV u r] W fun e w' => DiagA W rr ll b e w')) :
    Calls Tryd.prog 11 #[dgV v r] w fun e w' => e = .returned (.bool true) ∧ Below w.heap.size w w' := by
  have HV := hide hv
  have HC0 := hide hC
  have HO := hide ho
  obtain ⟨a, cap, rfl⟩ := hv.form
  have hd0 := (Below.refl w.heap.size w).alloc (Nat.le_refl _) (.cells #[.slice a l.length cap, .int .i64 r] 34)
  have hx0 := Blk.fresh w #[.slice a l.length cap, .int .i64 r] 2 (q2 (.slice a l.length cap) (.int .i64 r)) 34 rfl
  obtain ⟨w0, hw0⟩ : ∃ w0, w.alloc (.cells #[.slice a l.length cap, .int .i64 r] 34) = w0 := ⟨_, rfl⟩
  have Hw0 := hide hw0
  rw [hw0] at hd0 hx0
  have HB0 := hide hd0
  have HN0 := hide hx0
  obtain ⟨d0, d1⟩ := hx0.pr
  rw [← hw0] at d0 d1
  have HS0 := hide (sz_diagram a l.length cap r 1048576 w0 hm (Nat.le_refl _))
  clear hd0 hx0 hw0 hv hC ho hm
  go_enter Tryd.func11, Tryd.ntmps11
  go_wp2_with fail
  rw [Hw0.out] at d0 d1 ⊢
  refine HS0.out.mono ?_
  rintro e w1 ⟨rfl, hb⟩
  have HB1 := hide (HB0.out.trans (hb.mono HB0.out.size))
  have HN1 := hide (HN0.out.down hb)
  clear hb HB0 HN0 d0 d1 HS0 Hw0
  by_cases hs : l.length ≤ 1048576
  · rw [if_pos hs]
    obtain ⟨q, hq⟩ : ∃ q : Nat, 1048576 - l.length = q := ⟨_, rfl⟩
    rw [hq]
    have hq0 : ¬ ((q : Int) < 0) := by omega
    have HS := hide hs
    obtain ⟨rr, ll, b, hll, hSp, hIm⟩ := HC0.out hs
    have hbb : (b != b) = false := by simp
    obtain ⟨m, hm⟩ : ∃ m, 1 + ll.length * 3 = m := ⟨_, rfl⟩
    have hmn : ¬ ((m : Int) < 0) := by omega
    have hmm : ((m : Int) != (m : Int)) = false := by simp
    obtain ⟨m2, hm2⟩ : ∃ m2, 1 + l.length * 3 = m2 := ⟨_, rfl⟩
    have hmn2 : ¬ ((m2 : Int) < 0) := by omega
    have HM := hide hm
    have HM2 := hide hm2
    have HLL := hide hll
    have HSp := hide hSp
    have HIm := hide hIm
    clear hq hs hSp hIm HC0 hm hm2 hll
    obtain ⟨d0, d1⟩ := HN1.out.pr
    go_wp2_with fail
    refine (to_diagram _ r l _ (HV.out.below HB1.out) HS.out).mono ?_
    rintro e w2 ⟨⟨u2, rfl, hA2⟩, hb⟩
    have HB2 := hide (HB1.out.trans (hb.mono HB1.out.size))
    have HN2 := hide (HN1.out.down hb)
    clear d0 d1 hb HB1 HN1
    go_wp2_with fail
    refine (HSp.out u2 w2 hA2.chs).mono ?_
    rintro e w3 ⟨⟨v3, rfl, hA3⟩, hb⟩
    obtain ⟨a3, c3', rfl⟩ := hA3.form
    have hd4 := (Below.refl w3.heap.size w3).alloc (Nat.le_refl _) (.cells #[.slice a3 ll.length c3', .int .i64 rr] 27)
    have hx4 := Blk.fresh w3 #[.slice a3 ll.length c3', .int .i64 rr] 2 (q2 (.slice a3 ll.length c3') (.int .i64 rr)) 27 rfl
    obtain ⟨w4, hw4⟩ : ∃ w4, w3.alloc (.cells #[.slice a3 ll.length c3', .int .i64 rr] 27) = w4 := ⟨_, rfl⟩
    have Hw4 := hide hw4
    rw [hw4] at hd4 hx4
    have hb3 := HB2.out.trans (hb.mono HB2.out.size)
    have HB4 := hide (hb3.trans (hd4.mono hb3.size))
    have HN4 := hide ((HN2.out.down hb).down hd4)
    have HX4 := hide hx4
    have HC4 := hide (hA3.chs.below hd4)
    obtain ⟨d0, d1⟩ := HN4.out.pr
    rw [← hw4] at d0 d1
    clear hb hb3 hd4 hx4 hw4 hA3 HB2 HN2 hA2
    go_wp2_with fail
    rw [Hw4.out] at d0 d1 ⊢
    refine (to_diagram _ r l _ (HV.out.below HB4.out) HS.out).mono ?_
    rintro e w5 ⟨⟨u5, rfl, hA5⟩, hb5⟩
    obtain ⟨a5, c5, rfl⟩ := hA5.form
    have hd6 := (Below.refl w5.heap.size w5).alloc (Nat.le_refl _) (.cells #[.slice a5 l.length c5, .int .i64 r] 27)
    have hx6 := Blk.fresh w5 #[.slice a5 l.length c5, .int .i64 r] 2 (q2 (.slice a5 l.length c5) (.int .i64 r)) 27 rfl
    obtain ⟨w6, hw6⟩ : ∃ w6, w5.alloc (.cells #[.slice a5 l.length c5, .int .i64 r] 27) = w6 := ⟨_, rfl⟩
    have Hw6 := hide hw6
    rw [hw6] at hd6 hx6
    have hb46 := hb5.trans (hd6.mono hb5.size)
    have HA6 := hide (hA5.down hd6)
    have HB6 := hide hb46
    have HX6 := hide hx6
    have HOx := hide (fun k hk => Nat.lt_of_lt_of_le (own_lt hA5 k hk) hd6.size)
    have HG46 := hide hb46.size
    obtain ⟨d0, d1⟩ := hx6.pr
    rw [← hw6] at d0 d1
    clear hb5 hd6 hx6 hw6 hA5 hb46 Hw4
    go_wp2_with fail
    rw [Hw6.out] at d0 d1 ⊢
    refine (HIm.out _ w6 ((HO.out.below HB4.out).below HB6.out) HA6.out.chs).mono ?_
    rintro e w7 ⟨⟨v7, rfl, hA7⟩, hb7⟩
    obtain ⟨a7, c7, rfl⟩ := hA7.form
    have hd8 := (Below.refl w7.heap.size w7).alloc (Nat.le_refl _) (.cells #[.slice a7 ll.length c7, .int .i64 rr] 27)
    have hx8 := Blk.fresh w7 #[.slice a7 ll.length c7, .int .i64 rr] 2 (q2 (.slice a7 ll.length c7) (.int .i64 rr)) 27 rfl
    obtain ⟨w8, hw8⟩ : ∃ w8, w7.alloc (.cells #[.slice a7 ll.length c7, .int .i64 rr] 27) = w8 := ⟨_, rfl⟩
    have Hw8 := hide hw8
    rw [hw8] at hd8 hx8
    have hb68 := hb7.trans (hd8.mono hb7.size)
    have HG67 := hide hb7.size
    have hL8 : LS w4 w8 w5.heap.size (.slice a5 l.length c5) r l w4.heap.size w7.heap.size (.slice a7 ll.length c7) rr ll w6.heap.size := ⟨HB6.out.trans (hb68.mono HB6.out.size), ⟨HX6.out.down hb68, HA6.out.down hb68⟩, hx8, hA7.down hd8⟩
    have HL8 := hide hL8
    obtain ⟨d0, d1⟩ := hL8.2.2.1.pr
    obtain ⟨d2, d3⟩ := (HX4.out.down hL8.1).pr
    rw [← hw8] at d0 d1 d2 d3
    clear hb7 hd8 hx8 hw8 hA7 hb68 hL8 HA6 HB6 HX6 Hw6
    go_wp2_with fail
    rw [Hw8.out] at d0 d1 d2 d3 ⊢
    refine (eq_diagram _ _ rr ll w8 HL8.out.2.2.2.chs (HC4.out.below HL8.out.1) HLL.out).mono ?_
    rintro e w9 ⟨rfl, hb9⟩
    have hL9 := HL8.out.down hb9
    clear hb9 HL8 d0 d1 d2 d3 Hw8
    go_upto_region 10 with fail
    have hL9d := hL9.down (Below.refl w9.heap.size w9).drew
    have HTo := hide (show ∀ W, LS w4 W w5.heap.size (.slice a5 l.length c5) r l w4.heap.size w7.heap.size (.slice a7 ll.length c7) rr ll w6.heap.size → Calls Tryd.prog 23 #[dgV (.slice a l.length cap) r] W fun e w' => (∃ u, e = .returned (dgV u r) ∧ AnsD w' W.heap.size u l) ∧ LS w4 w' w5.heap.size (.slice a5 l.length c5) r l w4.heap.size w7.heap.size (.slice a7 ll.length c7) rr ll w6.heap.size from fun W hW => by
      refine (to_diagram _ r l W ((HV.out.below HB4.out).below hW.1) HS.out).mono ?_
      rintro e w' ⟨hu, hb⟩
      exact ⟨hu, hW.down hb⟩)
    have HSS := hide (show ∀ W, LS w4 W w5.heap.size (.slice a5 l.length c5) r l w4.heap.size w7.heap.size (.slice a7 ll.length c7) rr ll w6.heap.size → W.cell? ⟨w5.heap.size, 0, none⟩ = some (.slice a5 l.length c5) ∧ W.cell? ⟨w5.heap.size, 1, none⟩ = some (.int .i64 r) ∧ W.cell? ⟨w.heap.size, 0, none⟩ = some (.slice a l.length cap) ∧ W.cell? ⟨w.heap.size, 1, none⟩ = some (.int .i64 r) from fun W hW => ⟨hW.2.1.1.pr.1, hW.2.1.1.pr.2, (HN4.out.down hW.1).pr.1, (HN4.out.down hW.1).pr.2⟩)
    go_cut [45] from 41 (fun bb wx => bb = .bool false ∧ Hid (LS w4 wx w5.heap.size (.slice a5 l.length c5) r l w4.heap.size w7.heap.size (.slice a7 ll.length c7) rr ll w6.heap.size))
    case first =>
      go_region_held (fun W => W.cell? ⟨w5.heap.size, 0, none⟩ = some (.slice a5 l.length c5) ∧ W.cell? ⟨w5.heap.size, 1, none⟩ = some (.int .i64 r) ∧ W.cell? ⟨w.heap.size, 0, none⟩ = some (.slice a l.length cap) ∧ W.cell? ⟨w.heap.size, 1, none⟩ = some (.int .i64 r)) (first | exact HSS.out _ hFe | exact HSS.out _ hFj | exact HSS.out _ hL9d) (first
        | (go_at_call 23; refine Calls.mono (HTo.out _ (by assumption)) ?_; rintro e wj ⟨⟨uj, rfl, hAj⟩, hFj⟩; have HAj := hide hAj; obtain ⟨aj, cj, rfl⟩ := hAj.form; clear hAj)
        | (go_at_call 18; refine Calls.mono (eq_diagram _ _ r l _ hFj.2.1.2.chs HAj.out.chs HS.out) ?_; rintro e we ⟨rfl, hbe⟩; have hFe := hFj.down hbe))
      all_goals
        go_wp2_with fail
        go_meet
        exact ⟨rfl, hide hFe⟩
    case rest =>
      rename World => wC
      obtain ⟨rfl, HLC⟩ := hcut
      clear hL9 hL9d HTo HSS
      obtain ⟨d0, d1⟩ := HLC.out.2.1.1.pr
      go_wp2_with fail
      refine (mark_diagram w4.heap.size 1 _ r l _ HLC.out.2.1.2 HS.out (by omega) (Nat.le_trans HLC.out.1.size (Nat.le_refl _))).mono ?_
      rintro e w10 ⟨rfl, -, hb10, hk10⟩
      have HL10 := hide (HLC.out.marked hb10 (Nat.le_refl _) hk10 HOx.out)
      rw [HM2.out]
      clear hb10 hk10 HLC d0 d1 HOx
      obtain ⟨d0, d1⟩ := HL10.out.2.1.pr
      obtain ⟨d2, d3⟩ := (HX4.out.down HL10.out.1).pr
      go_wp2_with fail
      refine (eq_diagram _ _ rr ll _ HL10.out.2.2.chs (HC4.out.below HL10.out.1) HLL.out).mono ?_
      rintro e w11 ⟨rfl, hb11⟩
      have HL11 := hide (HL10.out.down hb11)
      clear hb11 HL10 d0 d1 d2 d3
      obtain ⟨d0, d1⟩ := HL11.out.2.1.pr
      go_wp2_with fail
      have HG6 := hide (show w4.heap.size ≤ w6.heap.size ∧ w6.heap.size ≤ w11.heap.size from by
        refine ⟨?_, ?_⟩
        · have h1 := HG46.out; omega
        · have h1 := HL11.out.2.1.lt; have h2 := HG67.out; omega)
      refine (mark_diagram w6.heap.size 1 _ rr ll _ HL11.out.2.2 HLL.out (by omega) HG6.out.2).mono ?_
      rintro e w12 ⟨rfl, hm12, hb12, hk12⟩
      have HL12 := hide (show LU w4 w12 w7.heap.size (.slice a7 ll.length c7) rr ll.length w6.heap.size 1 from ⟨HL11.out.1.trans (hb12.mono HG6.out.1), HL11.out.2.1.at (hk12 _ HL11.out.2.1.lt (HL11.out.2.1.free HL11.out.2.2 (by decide))), hm12⟩)
      rw [HM.out]
      clear hm12 hb12 hk12 HL11 d0 d1 HG6
      obtain ⟨d0, d1⟩ := HL12.out.2.1.pr
      go_wp2_with fail
      refine (held_diagram w6.heap.size 1 ll.length _ rr _ HL12.out.2.2 HLL.out (by omega)).mono ?_
      rintro e w13 ⟨rfl, hb13⟩
      have HL13 := hide (HL12.out.down hb13)
      rw [HM.out]
      clear hb13 HL12 d0 d1
      obtain ⟨d0, d1⟩ := (HN4.out.down HL13.out.1).pr
      go_wp2_with fail
      refine (to_diagram _ r l _ ((HV.out.below HB4.out).below HL13.out.1) HS.out).mono ?_
      rintro e w14 ⟨⟨u14, rfl, hA14⟩, hb14⟩
      have HL14 := hide (HL13.out.down hb14)
      clear hb14 HL13 d0 d1
      go_wp2_with fail
      refine (HIm.out _ w14 ((HO.out.below HB4.out).below HL14.out.1) hA14.chs).mono ?_
      rintro e w15 ⟨⟨v15, rfl, hA15⟩, hb15⟩
      obtain ⟨a15, c15, rfl⟩ := hA15.form
      have hd16 := (Below.refl w15.heap.size w15).alloc (Nat.le_refl _) (.cells #[.slice a15 ll.length c15, .int .i64 rr] 27)
      have hx16 := Blk.fresh w15 #[.slice a15 ll.length c15, .int .i64 rr] 2 (q2 (.slice a15 ll.length c15) (.int .i64 rr)) 27 rfl
      obtain ⟨w16, hw16⟩ : ∃ w16, w15.alloc (.cells #[.slice a15 ll.length c15, .int .i64 rr] 27) = w16 := ⟨_, rfl⟩
      have Hw16 := hide hw16
      rw [hw16] at hd16 hx16
      have HL16 := hide ((HL14.out.down hb15).down hd16)
      have HA16 := hide (hA15.down hd16).chs
      obtain ⟨d0, d1⟩ := hx16.pr
      obtain ⟨d2, d3⟩ := (HX4.out.down HL16.out.1).pr
      rw [← hw16] at d0 d1 d2 d3
      clear hb15 hd16 hx16 hw16 hA15 hA14 HL14
      go_wp2_with fail
      rw [Hw16.out] at d0 d1 d2 d3 ⊢
      refine (eq_diagram _ _ rr ll _ HA16.out (HC4.out.below HL16.out.1) HLL.out).mono ?_
      rintro e w17 ⟨rfl, hb17⟩
      have HL17 := hide (HL16.out.down hb17)
      clear hb17 HL16 d0 d1 d2 d3 HA16 Hw16
      obtain ⟨d0, d1⟩ := HL17.out.2.1.pr
      go_wp2_with fail
      refine (held_diagram w6.heap.size 1 ll.length _ rr _ HL17.out.2.2 HLL.out (by omega)).mono ?_
      rintro e w18 ⟨rfl, hb18⟩
      have HZ := hide (HB4.out.trans (((HL17.out.down hb18).1).mono HB4.out.size))
      rw [HM.out]
      clear hb18 HL17 d0 d1 HB4 HN4 HX4 HC4 HV HS HO HSp HIm
      go_wp2
      go_ret
      exact ⟨rfl, HZ.out⟩
  · rw [if_neg hs]
    clear hs HC0 HN1
    go_wp2
    go_ret
    exact ⟨rfl, HB1.out⟩
end Go.Proofs.YtfiooclkefmijaaDoor
