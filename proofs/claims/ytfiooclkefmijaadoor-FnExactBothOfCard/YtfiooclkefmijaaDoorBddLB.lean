/-
  The law of BothOf, walked: it returns true and turns nothing that was there, wherever both texts tell the same.
-/
import Derived.Test.YtfiooclkefmijaaDoorBddLN
import Derived.Test.YtfiooclkefmijaaDoorBddBS
import Derived.Deep.RegionHeld3
import Derived.Deep.Cut
namespace Go.Proofs.YtfiooclkefmijaaDoor
open Go.RowKit M
open Clk (upd upd_same upd_other)
namespace M
open Bdd
/-- In the midst of a statement that draws its order: the answer's box may be there (o), the copies may be there (c1, c2). -/
def ST (w0 W : World) (l1 l2 : List Ch) (o : Option Nat) (c1 c2 : Option Value) : Prop :=
  Below w0.heap.size w0 W ∧ (∀ g, o = some g → Blk W g 2 (q2 (.slice none 0 0) (.int .i64 0)) 27 ∧ w0.heap.size ≤ g) ∧ (∀ u, c1 = some u → ChsOf W u l1) ∧ (∀ u, c2 = some u → ChsOf W u l2)
theorem ST.down {w0 W W' : World} {l1 l2 : List Ch} {o : Option Nat} {c1 c2 : Option Value} (h : ST w0 W l1 l2 o c1 c2) (hb : Below W.heap.size W W') : ST w0 W' l1 l2 o c1 c2 :=
  ⟨h.1.trans (hb.mono h.1.size), fun g e => ⟨(h.2.1 g e).1.down hb, (h.2.1 g e).2⟩, fun u e => (h.2.2.1 u e).below hb, fun u e => (h.2.2.2 u e).below hb⟩
theorem ST.alloc {w0 W : World} {l1 l2 : List Ch} {c1 c2 : Option Value} (h : ST w0 W l1 l2 none c1 c2) : ST w0 (W.alloc (.cells #[.slice none 0 0, .int .i64 0] 27)) l1 l2 (some W.heap.size) c1 c2 := by
  have hb := (Below.refl W.heap.size W).alloc (Nat.le_refl _) (.cells #[.slice none 0 0, .int .i64 0] 27)
  refine ⟨h.1.trans (hb.mono h.1.size), fun g e => ?_, fun u e => (h.2.2.1 u e).below hb, fun u e => (h.2.2.2 u e).below hb⟩
  cases e
  exact ⟨dbox W, h.1.size⟩
theorem ST.alloc1 {w0 W : World} {l1 l2 : List Ch} {c1 c2 : Option Value} (h : ST w0 W l1 l2 none c1 c2) : ST w0 (W.alloc (.cells #[.slice none 0 0, .int .i64 0] 27)).drew l1 l2 (some W.heap.size) c1 c2 := (ST.alloc h).down (Below.refl _ _).drew
/-- Behind the call: the answer's box may be there; the answer is owned. -/
def SV (w0 W : World) (o : Option Nat) (v : Value) (ll : List Ch) : Prop :=
  Below w0.heap.size w0 W ∧ (∀ g, o = some g → Blk W g 2 (q2 (.slice none 0 0) (.int .i64 0)) 27 ∧ w0.heap.size ≤ g) ∧ AnsD W w0.heap.size v ll
/-- Behind the statement. -/
def LX (w0 W : World) (g : Nat) (v : Value) (rr : Int) (ll : List Ch) : Prop := Below w0.heap.size w0 W ∧ Blk W g 2 (q2 v (.int .i64 rr)) 27 ∧ AnsD W w0.heap.size v ll
theorem SV.fresh {w0 W : World} {v : Value} {ll : List Ch} (h : SV w0 W none v ll) (rr : Int) : LX w0 (W.alloc (.cells #[v, .int .i64 rr] 27)) W.heap.size v rr ll := by
  have hb := (Below.refl W.heap.size W).alloc (Nat.le_refl _) (.cells #[v, .int .i64 rr] 27)
  exact ⟨h.1.trans (hb.mono h.1.size), Blk.fresh W #[v, .int .i64 rr] 2 (q2 v (.int .i64 rr)) 27 rfl, h.2.2.down hb⟩
theorem SV.cells {w0 W : World} {g : Nat} {v : Value} {ll : List Ch} (h : SV w0 W (some g) v ll) : W.cell? ⟨g, 0, none⟩ = some (.slice none 0 0) ∧ W.cell? ⟨g, 1, none⟩ = some (.int .i64 0) ∧ W.frozen? ⟨g, 0, none⟩ = false ∧ W.frozen? ⟨g, 1, none⟩ = false := (h.2.1 g rfl).1.two
theorem SV.set {w0 W : World} {g : Nat} {v : Value} {ll : List Ch} (h : SV w0 W (some g) v ll) (rr : Int) : LX w0 ((W.setCell ⟨g, 0, none⟩ v).setCell ⟨g, 1, none⟩ (.int .i64 rr)) g v rr ll := by
  obtain ⟨hx, hg⟩ := h.2.1 g rfl
  obtain ⟨hA, hB, -, -⟩ := box_ansg g hg rr hx h.2.2 h.1
  refine ⟨hB, ((hx.set 0 v).set 1 (.int .i64 rr)).ext (fun i hi => ?_), hA⟩
  rcases i with _ | _ | i
  · rfl
  · rfl
  · omega
theorem LX.down {w0 W W' : World} {g : Nat} {v : Value} {rr : Int} {ll : List Ch} (h : LX w0 W g v rr ll) (hb : Below W.heap.size W W') : LX w0 W' g v rr ll :=
  ⟨h.1.trans (hb.mono h.1.size), h.2.1.down hb, h.2.2.down hb⟩
/-- The first argument's copy beside the second's and the answer. -/
def LQ (W0 W : World) (x0 : Nat) (v0 : Value) (r0 : Int) (l0 : List Ch) (b0 x : Nat) (vx : Value) (r : Int) (l : List Ch) (bx g : Nat) (vg : Value) (rr : Int) (ll : List Ch) (bg : Nat) : Prop :=
  (Blk W x0 2 (q2 v0 (.int .i64 r0)) 27 ∧ AnsD W b0 v0 l0) ∧ LS W0 W x vx r l bx g vg rr ll bg
theorem LQ.down {W0 W W' : World} {x0 : Nat} {v0 : Value} {r0 : Int} {l0 : List Ch} {b0 x : Nat} {vx : Value} {r : Int} {l : List Ch} {bx g : Nat} {vg : Value} {rr : Int} {ll : List Ch} {bg : Nat} (h : LQ W0 W x0 v0 r0 l0 b0 x vx r l bx g vg rr ll bg) (hb : Below W.heap.size W W') : LQ W0 W' x0 v0 r0 l0 b0 x vx r l bx g vg rr ll bg :=
  ⟨⟨h.1.1.down hb, h.1.2.down hb⟩, h.2.down hb⟩
theorem owns_mk {w w' : World} {B : Nat} {v v' : Value} {l : List Ch} (h : AnsD w B v l) (hk : ∀ k, k < w.heap.size → v'.ownBlock ≠ some k → w'.heap[k]? = w.heap[k]?) (hx : ∀ k, v'.ownBlock = some k → k < B) : AnsD w' B v l :=
  owns_at h (fun q hq => hk q (own_lt h q hq) (fun e => by
    have h1 := own_ge h q hq
    have h2 := hx q e
    omega))
theorem LQ.marked {W0 W W' : World} {x0 : Nat} {v0 : Value} {r0 : Int} {l0 : List Ch} {b0 x : Nat} {vx : Value} {r : Int} {l : List Ch} {bx g : Nat} {vg : Value} {rr : Int} {ll : List Ch} {bg : Nat} (h : LQ W0 W x0 v0 r0 l0 b0 x vx r l bx g vg rr ll bg) (hb : Below b0 W W') (h0 : W0.heap.size ≤ b0)
    (hk : ∀ k, k < W.heap.size → v0.ownBlock ≠ some k → W'.heap[k]? = W.heap[k]?) (hx : ∀ k, v0.ownBlock = some k → k < bx) (hg : ∀ k, v0.ownBlock = some k → k < bg) : LS W0 W' x vx r l bx g vg rr ll bg :=
  ⟨h.2.1.trans (hb.mono h0), ⟨h.2.2.1.1.at (hk x h.2.2.1.1.lt (h.2.2.1.1.free h.1.2 (by decide))), owns_mk h.2.2.1.2 hk hx⟩, h.2.2.2.1.at (hk g h.2.2.2.1.lt (h.2.2.2.1.free h.1.2 (by decide))), owns_mk h.2.2.2.2 hk hg⟩
end M
set_option maxRecDepth 20000 in
set_option maxHeartbeats 8000000 in
theorem law_BothOf_run (v1 : Value) (l1 : List Bdd.Ch) (r1 : Int) (v2 : Value) (l2 : List Bdd.Ch) (r2 : Int) (w : World) (ho : OV w) (hv1 : ChsOf w v1 l1) (hm1 : l1.length ≤ maxLen) (hv2 : ChsOf w v2 l2) (hm2 : l2.length ≤ maxLen)
    (hC : l1.length ≤ 1048576 → l2.length ≤ 1048576 → ∃ (rr : Int) (ll : List Bdd.Ch) (b : Bool), ll.length ≤ 1048576 ∧ (∀ u1 u2 W, ChsOf W u1 l1 → ChsOf W u2 l2 → Calls Tryd.prog 31 #[dgV u1 r1, dgV u2 r2] W fun e w' => DiagA W rr ll b e w') ∧
      (∀ u1 u2 W, OV W → ChsOf W u1 l1 → ChsOf W u2 l2 → Calls Tryd.prog 32 #[dgV u1 r1, dgV u2 r2] W fun e w' => DiagA W rr ll b e w')) :
    Calls Tryd.prog 10 #[dgV v1 r1, dgV v2 r2] w fun e w' => e = .returned (.bool true) ∧ Below w.heap.size w w' := by
  have HV1 := hide hv1
  have HV2 := hide hv2
  have HC0 := hide hC
  have HO := hide ho
  obtain ⟨a1, p1, rfl⟩ := hv1.form
  obtain ⟨a2, p2, rfl⟩ := hv2.form
  have hd1 := (Below.refl w.heap.size w).alloc (Nat.le_refl _) (.cells #[.slice a1 l1.length p1, .int .i64 r1] 34)
  have hd0 := hd1.alloc hd1.size (.cells #[.slice a2 l2.length p2, .int .i64 r2] 34)
  have hx0 := (Blk.fresh w #[.slice a1 l1.length p1, .int .i64 r1] 2 (q2 (.slice a1 l1.length p1) (.int .i64 r1)) 34 rfl).alloc (.cells #[.slice a2 l2.length p2, .int .i64 r2] 34)
  have hz0 : Blk ((w.alloc (.cells #[.slice a1 l1.length p1, .int .i64 r1] 34)).alloc (.cells #[.slice a2 l2.length p2, .int .i64 r2] 34)) (w.heap.size + 1) 2 (q2 (.slice a2 l2.length p2) (.int .i64 r2)) 34 := by
    have := Blk.fresh (w.alloc (.cells #[.slice a1 l1.length p1, .int .i64 r1] 34)) #[.slice a2 l2.length p2, .int .i64 r2] 2 (q2 (.slice a2 l2.length p2) (.int .i64 r2)) 34 rfl
    simpa using this
  obtain ⟨w0, hw0⟩ : ∃ w0, (w.alloc (.cells #[.slice a1 l1.length p1, .int .i64 r1] 34)).alloc (.cells #[.slice a2 l2.length p2, .int .i64 r2] 34) = w0 := ⟨_, rfl⟩
  have Hw0 := hide hw0
  rw [hw0] at hd0 hx0 hz0
  have HB0 := hide hd0
  have HX0 := hide hx0
  have HZ0 := hide hz0
  obtain ⟨d0, d1⟩ := hx0.pr
  rw [← hw0] at d0 d1
  have HS0 := hide (sz_diagram a1 l1.length p1 r1 1048576 w0 hm1 (Nat.le_refl _))
  have HS1 := hide (fun x W (hx : x ≤ 1048576) => sz_diagram a2 l2.length p2 r2 x W hm2 hx)
  clear hd0 hd1 hx0 hz0 hw0 hv1 hv2 hC ho hm1 hm2
  go_enter Tryd.func10, Tryd.ntmps10
  go_wp2_with fail
  rw [Hw0.out] at d0 d1 ⊢
  refine HS0.out.mono ?_
  rintro e w1' ⟨rfl, hb⟩
  have HB1' := hide (HB0.out.trans (hb.mono HB0.out.size))
  have HX1' := hide (HX0.out.down hb)
  have HZ1' := hide (HZ0.out.down hb)
  clear hb HB0 HX0 HZ0 d0 d1 HS0 Hw0
  by_cases hs : l1.length ≤ 1048576
  case neg =>
    rw [if_neg hs]
    clear hs HC0 HX1' HZ1' HS1
    go_wp2
    go_ret
    exact ⟨rfl, HB1'.out⟩
  rw [if_pos hs]
  obtain ⟨q, hq⟩ : ∃ q : Nat, 1048576 - l1.length = q := ⟨_, rfl⟩
  have HQ := hide (show q ≤ 1048576 from by omega)
  rw [hq]
  have hq0 : ¬ ((q : Int) < 0) := by omega
  have HN1 := hide hs
  obtain ⟨d0, d1⟩ := HZ1'.out.pr
  clear hs hq
  go_wp2_with fail
  refine (HS1.out q _ HQ.out).mono ?_
  rintro e w1 ⟨rfl, hb⟩
  have HB1 := hide (HB1'.out.trans (hb.mono HB1'.out.size))
  have HX1 := hide (HX1'.out.down hb)
  have HZ1 := hide (HZ1'.out.down hb)
  clear hb HB1' HX1' HZ1' d0 d1 HS1
  by_cases hs : l2.length ≤ q
  case neg =>
    rw [if_neg hs]
    clear hs HC0 HX1 HZ1
    go_wp2
    go_ret
    exact ⟨rfl, HB1.out⟩
  rw [if_pos hs]
  obtain ⟨q2', hq2⟩ : ∃ q2' : Nat, q - l2.length = q2' := ⟨_, rfl⟩
  rw [hq2]
  have hq20 : ¬ ((q2' : Int) < 0) := by omega
  have HN2 := hide (Nat.le_trans hs HQ.out)
  obtain ⟨rr, ll, b, hll, hSp, hIm⟩ := HC0.out HN1.out HN2.out
  have hbb : (b != b) = false := by simp
  have HLL := hide hll
  have HSp := hide hSp
  have HIm := hide hIm
  clear hs hq2 HQ HC0 hll hSp hIm hq0
  · obtain ⟨m, hm⟩ : ∃ m, 1 + ll.length * 3 = m := ⟨_, rfl⟩
    have hmn : ¬ ((m : Int) < 0) := by omega
    have hmm : ((m : Int) != (m : Int)) = false := by simp
    obtain ⟨m1, hm1⟩ : ∃ m1, 1 + l1.length * 3 = m1 := ⟨_, rfl⟩
    obtain ⟨m2, hm2⟩ : ∃ m2, m1 + l2.length * 3 = m2 := ⟨_, rfl⟩
    have hmn2 : ¬ ((m2 : Int) < 0) := by omega
    have HMB := hide (show m1 ≤ 1000000000 from by have := HN1.out; omega)
    have HM := hide hm
    have HM1 := hide hm1
    have HM2 := hide hm2
    clear hm hm1 hm2
    go_upto_region 8 with fail
    have hF1 : ST w1 w1 l1 l2 none none none := ⟨Below.refl w1.heap.size w1, fun g e => (by cases e), fun _ e => (by cases e), fun _ e => (by cases e)⟩
    have hF0 : ST w1 w1.drew l1 l2 none none none := ⟨(Below.refl w1.heap.size w1).drew, fun g e => (by cases e), fun _ e => (by cases e), fun _ e => (by cases e)⟩
    have HS := hide (show ∀ W, Below w1.heap.size w1 W → W.cell? ⟨w.heap.size, 0, none⟩ = some (.slice a1 l1.length p1) ∧ W.cell? ⟨w.heap.size, 1, none⟩ = some (.int .i64 r1) ∧ W.cell? ⟨w.heap.size + 1, 0, none⟩ = some (.slice a2 l2.length p2) ∧ W.cell? ⟨w.heap.size + 1, 1, none⟩ = some (.int .i64 r2) from fun W hW => ⟨(HX1.out.down hW).pr.1, (HX1.out.down hW).pr.2, (HZ1.out.down hW).pr.1, (HZ1.out.down hW).pr.2⟩)
    have HT1 := hide (show ∀ W o c1 c2, ST w1 W l1 l2 o c1 c2 → Calls Tryd.prog 23 #[.agg #[.slice a1 l1.length p1, .int .i64 r1]] W fun e W' => ∃ a c, e = .returned (.agg #[.slice a l1.length c, .int .i64 r1]) ∧ ST w1 W' l1 l2 o (some (.slice a l1.length c)) c2 from fun W o c1 c2 hW => (to_diagram _ r1 l1 W ((HV1.out.below HB1.out).below hW.1) HN1.out).mono (by
      rintro e W' ⟨⟨u, rfl, hA⟩, hb⟩
      obtain ⟨a, c, rfl⟩ := hA.form
      have h := hW.down hb
      exact ⟨a, c, rfl, h.1, h.2.1, fun u e => by cases e; exact hA.chs, h.2.2.2⟩))
    have HT2 := hide (show ∀ W o c1 c2, ST w1 W l1 l2 o c1 c2 → Calls Tryd.prog 23 #[.agg #[.slice a2 l2.length p2, .int .i64 r2]] W fun e W' => ∃ a c, e = .returned (.agg #[.slice a l2.length c, .int .i64 r2]) ∧ ST w1 W' l1 l2 o c1 (some (.slice a l2.length c)) from fun W o c1 c2 hW => (to_diagram _ r2 l2 W ((HV2.out.below HB1.out).below hW.1) HN2.out).mono (by
      rintro e W' ⟨⟨u, rfl, hA⟩, hb⟩
      obtain ⟨a, c, rfl⟩ := hA.form
      have h := hW.down hb
      exact ⟨a, c, rfl, h.1, h.2.1, h.2.2.1, fun u e => by cases e; exact hA.chs⟩))
    have HF := hide (show ∀ W o u1 u2, ST w1 W l1 l2 o (some u1) (some u2) → Calls Tryd.prog 31 #[.agg #[u1, .int .i64 r1], .agg #[u2, .int .i64 r2]] W fun e W' => ∃ a c, e = .returned (.tuple #[.agg #[.slice a ll.length c, .int .i64 rr], .bool b]) ∧ SV w1 W' o (.slice a ll.length c) ll from fun W o u1 u2 hW => (HSp.out u1 u2 W (hW.2.2.1 u1 rfl) (hW.2.2.2 u2 rfl)).mono (by
      rintro e W' ⟨⟨v3, rfl, hA⟩, hb⟩
      obtain ⟨a, c, rfl⟩ := hA.form
      have h := hW.down hb
      exact ⟨a, c, rfl, h.1, h.2.1, owns_mono hA hW.1.size⟩))
    go_cut [6, 7] from 27 (fun p bb wx => ∃ (g : Nat) (a3 : Option Addr) (c3 : Nat), p = .pointer (some ⟨g, 0, none⟩) ∧ bb = .bool b ∧ Hid (LX w1 wx g (.slice a3 ll.length c3) rr ll))
    case first =>
      go_region_held3 (fun W => W.cell? ⟨w.heap.size, 0, none⟩ = some (.slice a1 l1.length p1) ∧ W.cell? ⟨w.heap.size, 1, none⟩ = some (.int .i64 r1) ∧ W.cell? ⟨w.heap.size + 1, 0, none⟩ = some (.slice a2 l2.length p2) ∧ W.cell? ⟨w.heap.size + 1, 1, none⟩ = some (.int .i64 r2)) (first
        | exact HS.out _ (by with_reducible assumption)
        | exact HS.out _ (ST.down (by with_reducible assumption) (Below.refl _ _)).1
        | exact HS.out _ (ST.alloc (by with_reducible assumption)).1
        | exact HS.out _ (ST.alloc1 (by with_reducible assumption)).1
        | exact HS.out _ (show SV _ _ _ _ _ from (by with_reducible assumption)).1
        | exact HS.out _ (SV.set (by with_reducible assumption) _).1
        | exact HS.out _ (SV.fresh (by with_reducible assumption) _).1
        | exact HS.out _ ((show SV _ _ _ _ _ from (by with_reducible assumption)).1.alloc (show SV _ _ _ _ _ from (by with_reducible assumption)).1.size _)) (first
        | (go_at_call 23; first
            | (with_reducible refine Calls.mono (HT1.out _ _ _ _ (by first | assumption | exact ST.alloc1 (by assumption) | exact ST.alloc (by assumption))) ?_; rintro e wo ⟨ao, co, rfl, hSo⟩)
            | (with_reducible refine Calls.mono (HT2.out _ _ _ _ (by first | assumption | exact ST.alloc1 (by assumption) | exact ST.alloc (by assumption))) ?_; rintro e wt ⟨at', ct, rfl, hSt⟩))
        | (go_at_call 31; with_reducible refine Calls.mono (HF.out _ _ _ _ (by first | assumption | exact ST.alloc1 (by assumption) | exact ST.alloc (by assumption))) ?_; rintro e wf ⟨af, cf', rfl, hSf⟩; first | (obtain ⟨k0, k1, k2, k3⟩ := hSf.cells) | skip))
      all_goals
        go_wp2_with fail
        go_meet
        first
          | exact ⟨_, af, cf', rfl, rfl, hide (hSf.set rr)⟩
          | exact ⟨_, af, cf', rfl, rfl, hide (hSf.fresh rr)⟩
    case rest =>
      rename World => wC
      obtain ⟨g, a3, c3, rfl, rfl, HLX⟩ := hcut
      have HB4 := hide (HB1.out.trans (HLX.out.1.mono HB1.out.size))
      have HNX4 := hide (HX1.out.down HLX.out.1)
      have HNZ4 := hide (HZ1.out.down HLX.out.1)
      have HX4 := hide HLX.out.2.1
      have HC4 := hide HLX.out.2.2.chs
      clear hF0 hF1 HS HT1 HT2 HF HLX HB1 HX1 HZ1 HSp
      obtain ⟨d0, d1⟩ := HNX4.out.pr
      go_wp2_with fail
      refine (to_diagram _ r1 l1 _ (HV1.out.below HB4.out) HN1.out).mono ?_
      rintro e w5 ⟨⟨u5, rfl, hA5⟩, hb5⟩
      obtain ⟨a5, c5, rfl⟩ := hA5.form
      have hd6 := (Below.refl w5.heap.size w5).alloc (Nat.le_refl _) (.cells #[.slice a5 l1.length c5, .int .i64 r1] 27)
      have hx6 := Blk.fresh w5 #[.slice a5 l1.length c5, .int .i64 r1] 2 (q2 (.slice a5 l1.length c5) (.int .i64 r1)) 27 rfl
      obtain ⟨w6, hw6⟩ : ∃ w6, w5.alloc (.cells #[.slice a5 l1.length c5, .int .i64 r1] 27) = w6 := ⟨_, rfl⟩
      have Hw6 := hide hw6
      rw [hw6] at hd6 hx6
      have hb46 := hb5.trans (hd6.mono hb5.size)
      have HA6 := hide (hA5.down hd6)
      have HB6 := hide hb46
      have HX6 := hide hx6
      have HG46 := hide hb46.size
      have HO5 := hide (fun k hk => Nat.lt_of_lt_of_le (own_lt hA5 k hk) hd6.size)
      obtain ⟨d0, d1⟩ := (HNZ4.out.down hb46).pr
      rw [← hw6] at d0 d1
      clear hb5 hd6 hx6 hw6 hA5 hb46
      go_wp2_with fail
      rw [Hw6.out] at d0 d1 ⊢
      refine (to_diagram _ r2 l2 w6 ((HV2.out.below HB4.out).below HB6.out) HN2.out).mono ?_
      rintro e w7 ⟨⟨u7, rfl, hA7⟩, hb7⟩
      obtain ⟨a7, c7, rfl⟩ := hA7.form
      have hd8 := (Below.refl w7.heap.size w7).alloc (Nat.le_refl _) (.cells #[.slice a7 l2.length c7, .int .i64 r2] 27)
      have hx8 := Blk.fresh w7 #[.slice a7 l2.length c7, .int .i64 r2] 2 (q2 (.slice a7 l2.length c7) (.int .i64 r2)) 27 rfl
      obtain ⟨w8, hw8⟩ : ∃ w8, w7.alloc (.cells #[.slice a7 l2.length c7, .int .i64 r2] 27) = w8 := ⟨_, rfl⟩
      have Hw8 := hide hw8
      rw [hw8] at hd8 hx8
      have hb68 := hb7.trans (hd8.mono hb7.size)
      have HA8 := hide (hA7.down hd8)
      have HX8 := hide hx8
      have HX68 := hide (HX6.out.down hb68)
      have HA68 := hide (HA6.out.down hb68)
      have HB8 := hide (HB6.out.trans (hb68.mono HB6.out.size))
      have HO7 := hide (fun k hk => Nat.lt_of_lt_of_le (own_lt hA7 k hk) hd8.size)
      have HG67 := hide hb7.size
      have HG68 := hide hb68.size
      obtain ⟨d0, d1⟩ := (HX6.out.down hb68).pr
      obtain ⟨d2, d3⟩ := hx8.pr
      rw [← hw8] at d0 d1 d2 d3
      clear hb7 hd8 hx8 hw8 hA7 hb68 HB6 HX6 HA6 Hw6
      go_wp2_with fail
      rw [Hw8.out] at d0 d1 d2 d3 ⊢
      refine (HIm.out _ _ w8 ((HO.out.below HB4.out).below HB8.out) HA68.out.chs HA8.out.chs).mono ?_
      rintro e w9 ⟨⟨v9, rfl, hA9⟩, hb9⟩
      obtain ⟨a9, c9, rfl⟩ := hA9.form
      have hd10 := (Below.refl w9.heap.size w9).alloc (Nat.le_refl _) (.cells #[.slice a9 ll.length c9, .int .i64 rr] 27)
      have hx10 := Blk.fresh w9 #[.slice a9 ll.length c9, .int .i64 rr] 2 (q2 (.slice a9 ll.length c9) (.int .i64 rr)) 27 rfl
      obtain ⟨w10, hw10⟩ : ∃ w10, w9.alloc (.cells #[.slice a9 ll.length c9, .int .i64 rr] 27) = w10 := ⟨_, rfl⟩
      have Hw10 := hide hw10
      rw [hw10] at hd10 hx10
      have hb810 := hb9.trans (hd10.mono hb9.size)
      have HG89 := hide hb9.size
      have HL10 := hide (show LQ wC w10 w5.heap.size (.slice a5 l1.length c5) r1 l1 wC.heap.size w7.heap.size (.slice a7 l2.length c7) r2 l2 w6.heap.size w9.heap.size (.slice a9 ll.length c9) rr ll w8.heap.size from ⟨⟨HX68.out.down hb810, HA68.out.down hb810⟩, HB8.out.trans (hb810.mono HB8.out.size), ⟨HX8.out.down hb810, HA8.out.down hb810⟩, hx10, hA9.down hd10⟩)
      obtain ⟨d0, d1⟩ := HL10.out.2.2.2.1.pr
      obtain ⟨d2, d3⟩ := (HX4.out.down HL10.out.2.1).pr
      rw [← hw10] at d0 d1 d2 d3
      clear hb9 hd10 hx10 hw10 hA9 hb810 HB8 HX8 HA8 HX68 HA68 Hw8
      go_wp2_with fail
      rw [Hw10.out] at d0 d1 d2 d3 ⊢
      refine (eq_diagram _ _ rr ll w10 HL10.out.2.2.2.2.chs (HC4.out.below HL10.out.2.1) HLL.out).mono ?_
      rintro e w11 ⟨rfl, hb11⟩
      have hLa := HL10.out.down hb11
      clear hb11 HL10 d0 d1 d2 d3 Hw10
      go_upto_region 14 with fail
      have hLad := hLa.down (Below.refl w11.heap.size w11).drew
      have HToa := hide (show ∀ W, LQ wC W w5.heap.size (.slice a5 l1.length c5) r1 l1 wC.heap.size w7.heap.size (.slice a7 l2.length c7) r2 l2 w6.heap.size w9.heap.size (.slice a9 ll.length c9) rr ll w8.heap.size → Calls Tryd.prog 23 #[.agg #[.slice a1 l1.length p1, .int .i64 r1]] W fun e w' => (∃ u, e = .returned (dgV u r1) ∧ AnsD w' W.heap.size u l1) ∧ LQ wC w' w5.heap.size (.slice a5 l1.length c5) r1 l1 wC.heap.size w7.heap.size (.slice a7 l2.length c7) r2 l2 w6.heap.size w9.heap.size (.slice a9 ll.length c9) rr ll w8.heap.size from fun W hW => by
        refine (to_diagram _ r1 l1 W ((HV1.out.below HB4.out).below hW.2.1) HN1.out).mono ?_
        rintro e w' ⟨hu, hb⟩
        exact ⟨hu, hW.down hb⟩)
      have HSSa := hide (show ∀ W, LQ wC W w5.heap.size (.slice a5 l1.length c5) r1 l1 wC.heap.size w7.heap.size (.slice a7 l2.length c7) r2 l2 w6.heap.size w9.heap.size (.slice a9 ll.length c9) rr ll w8.heap.size → W.cell? ⟨w5.heap.size, 0, none⟩ = some (.slice a5 l1.length c5) ∧ W.cell? ⟨w5.heap.size, 1, none⟩ = some (.int .i64 r1) ∧ W.cell? ⟨w.heap.size, 0, none⟩ = some (.slice a1 l1.length p1) ∧ W.cell? ⟨w.heap.size, 1, none⟩ = some (.int .i64 r1) from fun W hW => ⟨(hW.1.1).pr.1, (hW.1.1).pr.2, (HNX4.out.down hW.2.1).pr.1, (HNX4.out.down hW.2.1).pr.2⟩)
      go_cut [58] from 54 (fun bb wx => bb = .bool false ∧ Hid (LQ wC wx w5.heap.size (.slice a5 l1.length c5) r1 l1 wC.heap.size w7.heap.size (.slice a7 l2.length c7) r2 l2 w6.heap.size w9.heap.size (.slice a9 ll.length c9) rr ll w8.heap.size))
      case first =>
        go_region_held3 (fun W => W.cell? ⟨w5.heap.size, 0, none⟩ = some (.slice a5 l1.length c5) ∧ W.cell? ⟨w5.heap.size, 1, none⟩ = some (.int .i64 r1) ∧ W.cell? ⟨w.heap.size, 0, none⟩ = some (.slice a1 l1.length p1) ∧ W.cell? ⟨w.heap.size, 1, none⟩ = some (.int .i64 r1)) (first | exact HSSa.out _ hFe | exact HSSa.out _ hFj | exact HSSa.out _ hLad) (first
          | (go_at_call 23; with_reducible refine Calls.mono (HToa.out _ (by assumption)) ?_; rintro e wj ⟨⟨uj, rfl, hAj⟩, hFj⟩; have HAj := hide hAj; obtain ⟨aj, cj, rfl⟩ := hAj.form; clear hAj)
          | (go_at_call 18; refine Calls.mono (eq_diagram _ _ r1 l1 _ hFj.1.2.chs HAj.out.chs HN1.out) ?_; rintro e we ⟨rfl, hbe⟩; have hFe := hFj.down hbe))
        all_goals
          go_wp2_with fail
          go_meet
          exact ⟨rfl, hide hFe⟩
      case rest =>
        rename World => wE
        obtain ⟨rfl, HLa⟩ := hcut
        have hLb := HLa.out
        clear hLa hLad HToa HSSa HLa
        go_upto_region 16 with fail
        have hLbd := hLb.down (Below.refl wE.heap.size wE).drew
        have HTob := hide (show ∀ W, LQ wC W w5.heap.size (.slice a5 l1.length c5) r1 l1 wC.heap.size w7.heap.size (.slice a7 l2.length c7) r2 l2 w6.heap.size w9.heap.size (.slice a9 ll.length c9) rr ll w8.heap.size → Calls Tryd.prog 23 #[.agg #[.slice a2 l2.length p2, .int .i64 r2]] W fun e w' => (∃ u, e = .returned (dgV u r2) ∧ AnsD w' W.heap.size u l2) ∧ LQ wC w' w5.heap.size (.slice a5 l1.length c5) r1 l1 wC.heap.size w7.heap.size (.slice a7 l2.length c7) r2 l2 w6.heap.size w9.heap.size (.slice a9 ll.length c9) rr ll w8.heap.size from fun W hW => by
          refine (to_diagram _ r2 l2 W ((HV2.out.below HB4.out).below hW.2.1) HN2.out).mono ?_
          rintro e w' ⟨hu, hb⟩
          exact ⟨hu, hW.down hb⟩)
        have HSSb := hide (show ∀ W, LQ wC W w5.heap.size (.slice a5 l1.length c5) r1 l1 wC.heap.size w7.heap.size (.slice a7 l2.length c7) r2 l2 w6.heap.size w9.heap.size (.slice a9 ll.length c9) rr ll w8.heap.size → W.cell? ⟨w7.heap.size, 0, none⟩ = some (.slice a7 l2.length c7) ∧ W.cell? ⟨w7.heap.size, 1, none⟩ = some (.int .i64 r2) ∧ W.cell? ⟨w.heap.size + 1, 0, none⟩ = some (.slice a2 l2.length p2) ∧ W.cell? ⟨w.heap.size + 1, 1, none⟩ = some (.int .i64 r2) from fun W hW => ⟨(hW.2.2.1.1).pr.1, (hW.2.2.1.1).pr.2, (HNZ4.out.down hW.2.1).pr.1, (HNZ4.out.down hW.2.1).pr.2⟩)
        go_cut [63] from 59 (fun bb wx => bb = .bool false ∧ Hid (LQ wC wx w5.heap.size (.slice a5 l1.length c5) r1 l1 wC.heap.size w7.heap.size (.slice a7 l2.length c7) r2 l2 w6.heap.size w9.heap.size (.slice a9 ll.length c9) rr ll w8.heap.size))
        case first =>
          go_region_held3 (fun W => W.cell? ⟨w7.heap.size, 0, none⟩ = some (.slice a7 l2.length c7) ∧ W.cell? ⟨w7.heap.size, 1, none⟩ = some (.int .i64 r2) ∧ W.cell? ⟨w.heap.size + 1, 0, none⟩ = some (.slice a2 l2.length p2) ∧ W.cell? ⟨w.heap.size + 1, 1, none⟩ = some (.int .i64 r2)) (first | exact HSSb.out _ hFe | exact HSSb.out _ hFj | exact HSSb.out _ hLbd) (first
            | (go_at_call 23; with_reducible refine Calls.mono (HTob.out _ (by assumption)) ?_; rintro e wj ⟨⟨uj, rfl, hAj⟩, hFj⟩; have HAj := hide hAj; obtain ⟨aj, cj, rfl⟩ := hAj.form; clear hAj)
            | (go_at_call 18; refine Calls.mono (eq_diagram _ _ r2 l2 _ hFj.2.2.1.2.chs HAj.out.chs HN2.out) ?_; rintro e we ⟨rfl, hbe⟩; have hFe := hFj.down hbe))
          all_goals
            go_wp2_with fail
            go_meet
            exact ⟨rfl, hide hFe⟩
        case rest =>
          rename World => wG
          obtain ⟨rfl, HLC⟩ := hcut
          clear hLb hLbd HTob HSSb
          obtain ⟨d0, d1⟩ := HLC.out.1.1.pr
          go_wp2_with fail
          refine (mark_diagram wC.heap.size 1 _ r1 l1 _ HLC.out.1.2 HN1.out (by omega) HLC.out.2.1.size).mono ?_
          rintro e w12 ⟨rfl, -, hb12, hk12⟩
          have HL12 := hide (HLC.out.marked hb12 (Nat.le_refl _) hk12 HO5.out (fun k hk => Nat.lt_of_lt_of_le (HO5.out k hk) HG68.out))
          rw [HM1.out]
          clear hb12 hk12 HLC d0 d1
          obtain ⟨d0, d1⟩ := HL12.out.2.1.1.pr
          go_wp2_with fail
          refine (mark_diagram w6.heap.size m1 _ r2 l2 _ HL12.out.2.1.2 HN2.out HMB.out (Nat.le_trans HG67.out (Nat.le_of_lt HL12.out.2.1.1.lt))).mono ?_
          rintro e w13 ⟨rfl, -, hb13, hk13⟩
          have HL13 := hide (HL12.out.marked hb13 HG46.out hk13 HO7.out)
          rw [HM2.out]
          clear hb13 hk13 HL12 d0 d1
          obtain ⟨d0, d1⟩ := HL13.out.2.1.pr
          obtain ⟨d2, d3⟩ := (HX4.out.down HL13.out.1).pr
          go_wp2_with fail
          refine (eq_diagram _ _ rr ll _ HL13.out.2.2.chs (HC4.out.below HL13.out.1) HLL.out).mono ?_
          rintro e w14 ⟨rfl, hb14⟩
          have HL14 := hide (HL13.out.down hb14)
          clear hb14 HL13 d0 d1 d2 d3
          obtain ⟨d0, d1⟩ := HL14.out.2.1.pr
          go_wp2_with fail
          have HG8 := hide (show wC.heap.size ≤ w8.heap.size ∧ w8.heap.size ≤ w14.heap.size from ⟨Nat.le_trans HG46.out HG68.out, Nat.le_trans HG89.out (Nat.le_of_lt HL14.out.2.1.lt)⟩)
          refine (mark_diagram w8.heap.size 1 _ rr ll _ HL14.out.2.2 HLL.out (by omega) HG8.out.2).mono ?_
          rintro e w15 ⟨rfl, hm15, hb15, hk15⟩
          have HL15 := hide (show LU wC w15 w9.heap.size (.slice a9 ll.length c9) rr ll.length w8.heap.size 1 from ⟨HL14.out.1.trans (hb15.mono HG8.out.1), HL14.out.2.1.at (hk15 _ HL14.out.2.1.lt (HL14.out.2.1.free HL14.out.2.2 (by decide))), hm15⟩)
          rw [HM.out]
          clear hm15 hb15 hk15 HL14 d0 d1 HG8
          obtain ⟨d0, d1⟩ := HL15.out.2.1.pr
          go_wp2_with fail
          refine (held_diagram w8.heap.size 1 ll.length _ rr _ HL15.out.2.2 HLL.out (by omega)).mono ?_
          rintro e w16 ⟨rfl, hb16⟩
          have HL16 := hide (HL15.out.down hb16)
          rw [HM.out]
          clear hb16 HL15 d0 d1
          have HB16 := hide (HB4.out.trans (HL16.out.1.mono HB4.out.size))
          have HX16 := hide (HNX4.out.down HL16.out.1)
          have HZ16 := hide (HNZ4.out.down HL16.out.1)
          clear HO5 HO7 HG46 HG67 HG68 HG89 HMB HM1 HM2 HNX4 HNZ4
          go_upto_region 31 with fail
          have hF1 : ST w16 w16 l1 l2 none none none := ⟨Below.refl w16.heap.size w16, fun g e => (by cases e), fun _ e => (by cases e), fun _ e => (by cases e)⟩
          have hF0 : ST w16 w16.drew l1 l2 none none none := ⟨(Below.refl w16.heap.size w16).drew, fun g e => (by cases e), fun _ e => (by cases e), fun _ e => (by cases e)⟩
          have HS := hide (show ∀ W, Below w16.heap.size w16 W → W.cell? ⟨w.heap.size, 0, none⟩ = some (.slice a1 l1.length p1) ∧ W.cell? ⟨w.heap.size, 1, none⟩ = some (.int .i64 r1) ∧ W.cell? ⟨w.heap.size + 1, 0, none⟩ = some (.slice a2 l2.length p2) ∧ W.cell? ⟨w.heap.size + 1, 1, none⟩ = some (.int .i64 r2) from fun W hW => ⟨(HX16.out.down hW).pr.1, (HX16.out.down hW).pr.2, (HZ16.out.down hW).pr.1, (HZ16.out.down hW).pr.2⟩)
          have HT1 := hide (show ∀ W o c1 c2, ST w16 W l1 l2 o c1 c2 → Calls Tryd.prog 23 #[.agg #[.slice a1 l1.length p1, .int .i64 r1]] W fun e W' => ∃ a c, e = .returned (.agg #[.slice a l1.length c, .int .i64 r1]) ∧ ST w16 W' l1 l2 o (some (.slice a l1.length c)) c2 from fun W o c1 c2 hW => (to_diagram _ r1 l1 W ((HV1.out.below HB16.out).below hW.1) HN1.out).mono (by
            rintro e W' ⟨⟨u, rfl, hA⟩, hb⟩
            obtain ⟨a, c, rfl⟩ := hA.form
            have h := hW.down hb
            exact ⟨a, c, rfl, h.1, h.2.1, fun u e => by cases e; exact hA.chs, h.2.2.2⟩))
          have HT2 := hide (show ∀ W o c1 c2, ST w16 W l1 l2 o c1 c2 → Calls Tryd.prog 23 #[.agg #[.slice a2 l2.length p2, .int .i64 r2]] W fun e W' => ∃ a c, e = .returned (.agg #[.slice a l2.length c, .int .i64 r2]) ∧ ST w16 W' l1 l2 o c1 (some (.slice a l2.length c)) from fun W o c1 c2 hW => (to_diagram _ r2 l2 W ((HV2.out.below HB16.out).below hW.1) HN2.out).mono (by
            rintro e W' ⟨⟨u, rfl, hA⟩, hb⟩
            obtain ⟨a, c, rfl⟩ := hA.form
            have h := hW.down hb
            exact ⟨a, c, rfl, h.1, h.2.1, h.2.2.1, fun u e => by cases e; exact hA.chs⟩))
          have HF := hide (show ∀ W o u1 u2, ST w16 W l1 l2 o (some u1) (some u2) → Calls Tryd.prog 32 #[.agg #[u1, .int .i64 r1], .agg #[u2, .int .i64 r2]] W fun e W' => ∃ a c, e = .returned (.tuple #[.agg #[.slice a ll.length c, .int .i64 rr], .bool b]) ∧ SV w16 W' o (.slice a ll.length c) ll from fun W o u1 u2 hW => (HIm.out u1 u2 W ((HO.out.below HB16.out).below hW.1) (hW.2.2.1 u1 rfl) (hW.2.2.2 u2 rfl)).mono (by
            rintro e W' ⟨⟨v3, rfl, hA⟩, hb⟩
            obtain ⟨a, c, rfl⟩ := hA.form
            have h := hW.down hb
            exact ⟨a, c, rfl, h.1, h.2.1, owns_mono hA hW.1.size⟩))
          go_cut [15, 16] from 94 (fun p bb wx => ∃ (g : Nat) (a3 : Option Addr) (c3 : Nat), p = .pointer (some ⟨g, 0, none⟩) ∧ bb = .bool b ∧ Hid (LX w16 wx g (.slice a3 ll.length c3) rr ll))
          case first =>
            go_region_held3 (fun W => W.cell? ⟨w.heap.size, 0, none⟩ = some (.slice a1 l1.length p1) ∧ W.cell? ⟨w.heap.size, 1, none⟩ = some (.int .i64 r1) ∧ W.cell? ⟨w.heap.size + 1, 0, none⟩ = some (.slice a2 l2.length p2) ∧ W.cell? ⟨w.heap.size + 1, 1, none⟩ = some (.int .i64 r2)) (first
              | exact HS.out _ (by with_reducible assumption)
              | exact HS.out _ (ST.down (by with_reducible assumption) (Below.refl _ _)).1
              | exact HS.out _ (ST.alloc (by with_reducible assumption)).1
              | exact HS.out _ (ST.alloc1 (by with_reducible assumption)).1
              | exact HS.out _ (show SV _ _ _ _ _ from (by with_reducible assumption)).1
              | exact HS.out _ (SV.set (by with_reducible assumption) _).1
              | exact HS.out _ (SV.fresh (by with_reducible assumption) _).1
              | exact HS.out _ ((show SV _ _ _ _ _ from (by with_reducible assumption)).1.alloc (show SV _ _ _ _ _ from (by with_reducible assumption)).1.size _)) (first
              | (go_at_call 23; first
                  | (with_reducible refine Calls.mono (HT1.out _ _ _ _ (by first | assumption | exact ST.alloc1 (by assumption) | exact ST.alloc (by assumption))) ?_; rintro e wo ⟨ao, co, rfl, hSo⟩)
                  | (with_reducible refine Calls.mono (HT2.out _ _ _ _ (by first | assumption | exact ST.alloc1 (by assumption) | exact ST.alloc (by assumption))) ?_; rintro e wt ⟨at', ct, rfl, hSt⟩))
              | (go_at_call 32; with_reducible refine Calls.mono (HF.out _ _ _ _ (by first | assumption | exact ST.alloc1 (by assumption) | exact ST.alloc (by assumption))) ?_; rintro e wf ⟨af, cf', rfl, hSf⟩; first | (obtain ⟨k0, k1, k2, k3⟩ := hSf.cells) | skip))
            all_goals
              go_wp2_with fail
              go_meet
              first
                | exact ⟨_, af, cf', rfl, rfl, hide (hSf.set rr)⟩
                | exact ⟨_, af, cf', rfl, rfl, hide (hSf.fresh rr)⟩
          case rest =>
            rename World => wD
            obtain ⟨g', a17, c17, rfl, rfl, HLY⟩ := hcut
            have HL17 := hide (HL16.out.down HLY.out.1)
            have HX17 := hide HLY.out.2.1
            have HA17 := hide HLY.out.2.2.chs
            clear hF0 hF1 HS HT1 HT2 HF HLY HL16 HX16 HZ16 HB16 HIm
            obtain ⟨d0, d1⟩ := HX17.out.pr
            obtain ⟨d2, d3⟩ := (HX4.out.down HL17.out.1).pr
            go_wp2_with fail
            refine (eq_diagram _ _ rr ll _ HA17.out (HC4.out.below HL17.out.1) HLL.out).mono ?_
            rintro e w18 ⟨rfl, hb18⟩
            have HL18 := hide (HL17.out.down hb18)
            clear hb18 HL17 d0 d1 d2 d3 HX17 HA17
            obtain ⟨d0, d1⟩ := HL18.out.2.1.pr
            go_wp2_with fail
            refine (held_diagram w8.heap.size 1 ll.length _ rr _ HL18.out.2.2 HLL.out (by omega)).mono ?_
            rintro e w19 ⟨rfl, hb19⟩
            have HZ := hide (HB4.out.trans ((HL18.out.down hb19).1.mono HB4.out.size))
            rw [HM.out]
            clear hb19 HL18 d0 d1 HB4 HX4 HC4 HV1 HV2 HO
            go_wp2
            go_ret
            exact ⟨rfl, HZ.out⟩
end Go.Proofs.YtfiooclkefmijaaDoor
