/-
  What the law of SetTimer holds on its way: its boxes, answers and copies.
-/
import Derived.Test.YtcodllammndciaaWhZ
import Derived.Deep.Cut
import Derived.Deep.RegionHeld
namespace Go.Proofs.Ytcodllammndciaa
open Go.RowKit M
open Clk (upd upd_same upd_other)
namespace M
/-- The boxes of the law's arguments. -/
def LB (w W : World) (x : Int) (v : Value) (tm id : Int) : Prop := Blk W w.heap.size 2 (p2 (.int .i64 x) v) 31 ∧ Blk W (w.heap.size + 1) 2 (p2 (.int .i64 tm) (.int .i64 id)) 37 ∧ Below w.heap.size w W ∧ w.heap.size + 2 ≤ W.heap.size
theorem LB.down {w W W' : World} {x : Int} {v : Value} {tm id : Int} (h : LB w W x v tm id) {B : Nat} (hb : Below B W W') (hB : w.heap.size + 2 ≤ B) : LB w W' x v tm id :=
  ⟨h.1.below hb (by omega), h.2.1.below hb (by omega), h.2.2.1.trans (hb.mono (by omega)), Nat.le_trans h.2.2.2 hb.size⟩
theorem LB.drew {w W : World} {x : Int} {v : Value} {tm id : Int} (h : LB w W x v tm id) : LB w W.drew x v tm id := h.down (Below.refl W.heap.size W).drew h.2.2.2
theorem LB.alloc {w W : World} {x : Int} {v : Value} {tm id : Int} (h : LB w W x v tm id) (o : Obj) : LB w (W.alloc o) x v tm id := h.down ((Below.refl W.heap.size W).alloc (Nat.le_refl _) o) h.2.2.2
theorem LB.set {w W : World} {x : Int} {v : Value} {tm id : Int} (h : LB w W x v tm id) {g : Nat} (hg : w.heap.size + 2 ≤ g) (i : Nat) (y : Value) : LB w (W.setCell ⟨g, i, none⟩ y) x v tm id :=
  ⟨h.1.set_other (by omega) _ _, h.2.1.set_other (by omega) _ _, h.2.2.1.setCell (show w.heap.size ≤ g by omega) _, by rw [World.size_setCell]; exact h.2.2.2⟩
/-- Behind the specification's call. -/
def F5 (w W : World) (x : Int) (v : Value) (tm id : Int) (g0 : Nat) (x' : Int) (u : Value) (k' : Nat) (rs' : Nat → Rw) : Prop := LB w W x v tm id ∧ Blk W g0 2 (p2 (.int .i64 x') u) 24 ∧ RowsOf W u k' rs' ∧ w.heap.size + 2 ≤ g0
theorem F5.al {w W : World} {x : Int} {v : Value} {tm id x' : Int} {u : Value} {k' L : Nat} {rs' : Nat → Rw} (h : LB w W x v tm id) (hr : RowsK L W u k' rs') : F5 w (W.alloc (.cells #[.int .i64 x', u] 24)) x v tm id W.heap.size x' u k' rs' :=
  ⟨h.alloc _, Blk.fresh W #[.int .i64 x', u] 2 (p2 (.int .i64 x') u) 24 rfl, (hr.down ((Below.refl W.heap.size W).alloc (Nat.le_refl _) _)).rows, h.2.2.2⟩
theorem F5.st {w W : World} {x : Int} {v : Value} {tm id x' : Int} {u : Value} {k' L g : Nat} {rs' : Nat → Rw} (h : LB w W x v tm id) (hr : RowsK L W u k' rs') (hz : Blk W g 2 (p2 (.int .i64 0) (.slice none 0 0)) 24) (hg : g < L) (hg2 : w.heap.size + 2 ≤ g) : F5 w ((W.setCell ⟨g, 0, none⟩ (.int .i64 x')).setCell ⟨g, 1, none⟩ u) x v tm id g x' u k' rs' :=
  ⟨(h.set hg2 _ _).set hg2 _ _, ((hz.set 0 _).set 1 _).ext (fun q hq => by
    match q, hq with
    | 0, _ => rfl
    | 1, _ => rfl), ((hr.set hg _ _).set hg _ _).rows, hg2⟩
theorem LB.s {w W : World} {x : Int} {v : Value} {tm id : Int} (h : LB w W x v tm id) : W.cell? ⟨w.heap.size, 0, none⟩ = some (.int .i64 x) ∧ W.cell? ⟨w.heap.size, 1, none⟩ = some v ∧ W.cell? ⟨w.heap.size + 1, 0, none⟩ = some (.int .i64 tm) ∧ W.cell? ⟨w.heap.size + 1, 1, none⟩ = some (.int .i64 id) := ⟨h.1.pair.1, h.1.pair.2.1, h.2.1.pair.1, h.2.1.pair.2.1⟩
theorem Blk.apart {w : World} {g g' n n' : Nat} {f f' : Nat → Value} {t t' : TypeId} (h : Blk w g n f t) (h' : Blk w g' n' f' t') (hne : t ≠ t') : g ≠ g' := fun e => by
  subst e
  unfold Blk at h h'
  rw [h] at h'
  simp only [Option.some.injEq, Obj.cells.injEq] at h'
  exact hne h'.2.1
theorem AnsX.setW {w : World} {B hi k b n : Nat} {v : Value} {rs : Nat → Rw} {f : Nat → Value} (h : AnsX w B hi v k rs) (hb : Blk w b n f 24) (q : Nat) (y : Value) : AnsX (w.setCell ⟨b, q, none⟩ y) B hi v k rs := by
  rcases h with h | ⟨g, cap, cap', β, X, hv, h, h2⟩
  · exact .inl h
  · refine .inr ⟨g, cap, cap', β, X, hv, ⟨h.ge, h.le, h.blk.set_other (h.blk.apart hb (by decide)) _ _, fun i hi => ?_, h.apart⟩, h2⟩
    obtain ⟨a, c, e1, e2⟩ := h.row i hi
    refine ⟨a, c, e1, fun hn => ?_⟩
    obtain ⟨z1, z2, hc, k', hk, he⟩ := e2 hn
    exact ⟨z1, z2, hc, k', hk.set_other (hk.apart hb (by decide)) _ _, he⟩
theorem AnsW.k {w : World} {B k : Nat} {v : Value} {rs : Nat → Rw} (h : AnsW w B v k rs) : RowsK B w v k rs := fun W h1 _ => by
  rcases h with ⟨rfl, rfl⟩ | ⟨g, cap, cap', β, X, rfl, h⟩
  · exact ⟨_, _, rfl, fun h => absurd h (Nat.lt_irrefl _)⟩
  · have hb : ∀ {g n : Nat} {f : Nat → Value} {t : TypeId}, Blk w g n f t → B ≤ g → Blk W g n f t := fun hb hB => by unfold Blk; rw [h1 _ hB hb.lt]; exact hb
    have hA : AW 52 W B g cap k rs β X := ⟨h.ge, h.le, hb h.blk h.ge, fun i hi => by
      obtain ⟨a, c, e1, e2⟩ := h.row i hi
      refine ⟨a, c, e1, fun hn => ?_⟩
      obtain ⟨z1, z2, hc, k', hk, he⟩ := e2 hn
      exact ⟨z1, z2, hc, k', hb hk z2, he⟩, h.apart⟩
    exact hA.rows
/-- All that the law holds: its boxes, the specification's answer, the argument's copy. -/
def L7 (w A W : World) (x : Int) (v : Value) (tm id : Int) (g0 : Nat) (x' : Int) (us : Value) (H gX : Nat) (ux : Value) (k : Nat) (rs : Nat → Rw) : Prop :=
  LB w W x v tm id ∧ Blk W g0 2 (p2 (.int .i64 x') us) 24 ∧ Blk W gX 2 (p2 (.int .i64 x) ux) 24 ∧ AnsX W A.heap.size H ux k rs ∧ Below A.heap.size A W ∧ H + 1 ≤ W.heap.size ∧ g0 < A.heap.size ∧ gX = H ∧ w.heap.size + 2 ≤ A.heap.size ∧ A.heap.size ≤ H
theorem L7.down {w A W : World} {x : Int} {v : Value} {tm id : Int} {g0 : Nat} {x' : Int} {us : Value} {H gX : Nat} {ux : Value} {k : Nat} {rs : Nat → Rw} {W' : World} (h : L7 w A W x v tm id g0 x' us H gX ux k rs) (hb : Below W.heap.size W W') : L7 w A W' x v tm id g0 x' us H gX ux k rs :=
  ⟨h.1.down hb h.1.2.2.2, h.2.1.down hb, h.2.2.1.down hb, h.2.2.2.1.down hb, h.2.2.2.2.1.trans (hb.mono h.2.2.2.2.1.size), Nat.le_trans h.2.2.2.2.2.1 hb.size, h.2.2.2.2.2.2⟩
theorem L7.alloc {w A W : World} {x : Int} {v : Value} {tm id : Int} {g0 : Nat} {x' : Int} {us : Value} {H gX : Nat} {ux : Value} {k : Nat} {rs : Nat → Rw} (h : L7 w A W x v tm id g0 x' us H gX ux k rs) (o : Obj) : L7 w A (W.alloc o) x v tm id g0 x' us H gX ux k rs := h.down ((Below.refl W.heap.size W).alloc (Nat.le_refl _) o)
theorem L7.drew {w A W : World} {x : Int} {v : Value} {tm id : Int} {g0 : Nat} {x' : Int} {us : Value} {H gX : Nat} {ux : Value} {k : Nat} {rs : Nat → Rw} (h : L7 w A W x v tm id g0 x' us H gX ux k rs) : L7 w A W.drew x v tm id g0 x' us H gX ux k rs := h.down (Below.refl W.heap.size W).drew
theorem L7.set {w A W : World} {x : Int} {v : Value} {tm id : Int} {g0 : Nat} {x' : Int} {us : Value} {H gX : Nat} {ux : Value} {k : Nat} {rs : Nat → Rw} (h : L7 w A W x v tm id g0 x' us H gX ux k rs) {G n : Nat} {f : Nat → Value} (hz : Blk W G n f 24) (hG : H + 1 ≤ G) (i : Nat) (y : Value) : L7 w A (W.setCell ⟨G, i, none⟩ y) x v tm id g0 x' us H gX ux k rs :=
  have h9 := h.2.2.2.2.2
  ⟨h.1.set (by omega) _ _, h.2.1.set_other (by omega) _ _, h.2.2.1.set_other (by omega) _ _, h.2.2.2.1.setW hz _ _, h.2.2.2.2.1.setCell (show A.heap.size ≤ G by omega) _, by rw [World.size_setCell]; exact h9⟩
theorem L7.s {w A W : World} {x : Int} {v : Value} {tm id : Int} {g0 : Nat} {x' : Int} {us : Value} {H gX : Nat} {ux : Value} {k : Nat} {rs : Nat → Rw} (h : L7 w A W x v tm id g0 x' us H gX ux k rs) : W.cell? ⟨gX, 0, none⟩ = some (.int .i64 x) ∧ W.cell? ⟨gX, 1, none⟩ = some ux ∧ W.cell? ⟨w.heap.size + 1, 0, none⟩ = some (.int .i64 tm) ∧ W.cell? ⟨w.heap.size + 1, 1, none⟩ = some (.int .i64 id) := ⟨h.2.2.1.pair.1, h.2.2.1.pair.2.1, h.1.2.1.pair.1, h.1.2.1.pair.2.1⟩
theorem two_sets {W : World} {g : Nat} {x' : Int} {u : Value} (hz : Blk W g 2 (p2 (.int .i64 0) (.slice none 0 0)) 24) : Blk ((W.setCell ⟨g, 0, none⟩ (.int .i64 x')).setCell ⟨g, 1, none⟩ u) g 2 (p2 (.int .i64 x') u) 24 :=
  ((hz.set 0 _).set 1 _).ext (fun q hq => by
    match q, hq with
    | 0, _ => rfl
    | 1, _ => rfl)
/-- Behind the program's call. -/
def F7 (w A W : World) (x : Int) (v : Value) (tm id : Int) (g0 : Nat) (x' : Int) (us : Value) (H gX : Nat) (ux : Value) (k : Nat) (rs : Nat → Rw) (gG Bg hg : Nat) (u1 : Value) (k' : Nat) (rs' : Nat → Rw) : Prop :=
  L7 w A W x v tm id g0 x' us H gX ux k rs ∧ Blk W gG 2 (p2 (.int .i64 x') u1) 24 ∧ AnsX W Bg hg u1 k' rs' ∧ H + 1 ≤ Bg ∧ H + 1 ≤ gG ∧ (gG < Bg ∨ hg ≤ gG)
theorem F7.down {w A W : World} {x : Int} {v : Value} {tm id : Int} {g0 : Nat} {x' : Int} {us : Value} {H gX : Nat} {ux : Value} {k : Nat} {rs : Nat → Rw} {W' : World} {gG Bg hg : Nat} {u1 : Value} {k' : Nat} {rs' : Nat → Rw} (h : F7 w A W x v tm id g0 x' us H gX ux k rs gG Bg hg u1 k' rs') (hb : Below W.heap.size W W') : F7 w A W' x v tm id g0 x' us H gX ux k rs gG Bg hg u1 k' rs' :=
  ⟨h.1.down hb, h.2.1.down hb, h.2.2.1.down hb, h.2.2.2⟩
theorem F7.al {w A W : World} {x : Int} {v : Value} {tm id : Int} {g0 : Nat} {x' : Int} {us : Value} {H gX : Nat} {ux : Value} {k : Nat} {rs : Nat → Rw} {B : Nat} {u1 : Value} {k' : Nat} {rs' : Nat → Rw} (h : L7 w A W x v tm id g0 x' us H gX ux k rs) (ha : AnsW W B u1 k' rs') (hB : H + 1 ≤ B) : F7 w A (W.alloc (.cells #[.int .i64 x', u1] 24)) x v tm id g0 x' us H gX ux k rs W.heap.size B W.heap.size u1 k' rs' :=
  ⟨h.alloc _, Blk.fresh W #[.int .i64 x', u1] 2 (p2 (.int .i64 x') u1) 24 rfl, ha.x.down ((Below.refl W.heap.size W).alloc (Nat.le_refl _) _), hB, h.2.2.2.2.2.1, .inr (Nat.le_refl _)⟩
theorem F7.st {w A W : World} {x : Int} {v : Value} {tm id : Int} {g0 : Nat} {x' : Int} {us : Value} {H gX : Nat} {ux : Value} {k : Nat} {rs : Nat → Rw} {B G : Nat} {u1 : Value} {k' : Nat} {rs' : Nat → Rw} (h : L7 w A W x v tm id g0 x' us H gX ux k rs) (ha : AnsW W B u1 k' rs') (hB : H + 1 ≤ B) (hz : Blk W G 2 (p2 (.int .i64 0) (.slice none 0 0)) 24) (hG : G < B) (hG2 : H + 1 ≤ G) : ∃ hg, F7 w A ((W.setCell ⟨G, 0, none⟩ (.int .i64 x')).setCell ⟨G, 1, none⟩ u1) x v tm id g0 x' us H gX ux k rs G B hg u1 k' rs' :=
  ⟨_, (h.set hz hG2 _ _).set (hz.set 0 _) hG2 _ _, two_sets hz, ((ha.set_low hG 0 (.int .i64 x')).set_low hG 1 u1).x, hB, hG2, .inl hG⟩
/-- Behind the first marks. -/
def K8 (w A W : World) (x : Int) (v : Value) (tm id : Int) (g0 gG Bg hg : Nat) (x' : Int) (us u1 : Value) (k' : Nat) (rs1 : Nat → Rw) : Prop :=
  LB w W x v tm id ∧ Blk W g0 2 (p2 (.int .i64 x') us) 24 ∧ Blk W gG 2 (p2 (.int .i64 x') u1) 24 ∧ AnsX W Bg hg u1 k' rs1 ∧ Below A.heap.size A W ∧ w.heap.size + 2 ≤ A.heap.size ∧ A.heap.size ≤ Bg ∧ g0 < A.heap.size ∧ (gG < Bg ∨ hg ≤ gG)
theorem K8.down {w A W : World} {x : Int} {v : Value} {tm id : Int} {g0 gG Bg hg : Nat} {x' : Int} {us u1 : Value} {k' : Nat} {rs1 : Nat → Rw} {W' : World} (h : K8 w A W x v tm id g0 gG Bg hg x' us u1 k' rs1) (hb : Below W.heap.size W W') : K8 w A W' x v tm id g0 gG Bg hg x' us u1 k' rs1 :=
  ⟨h.1.down hb h.1.2.2.2, h.2.1.down hb, h.2.2.1.down hb, h.2.2.2.1.down hb, h.2.2.2.2.1.trans (hb.mono h.2.2.2.2.1.size), h.2.2.2.2.2⟩
theorem K8.alloc {w A W : World} {x : Int} {v : Value} {tm id : Int} {g0 gG Bg hg : Nat} {x' : Int} {us u1 : Value} {k' : Nat} {rs1 : Nat → Rw} (h : K8 w A W x v tm id g0 gG Bg hg x' us u1 k' rs1) (o : Obj) : K8 w A (W.alloc o) x v tm id g0 gG Bg hg x' us u1 k' rs1 := h.down ((Below.refl W.heap.size W).alloc (Nat.le_refl _) o)
theorem K8.drew {w A W : World} {x : Int} {v : Value} {tm id : Int} {g0 gG Bg hg : Nat} {x' : Int} {us u1 : Value} {k' : Nat} {rs1 : Nat → Rw} (h : K8 w A W x v tm id g0 gG Bg hg x' us u1 k' rs1) : K8 w A W.drew x v tm id g0 gG Bg hg x' us u1 k' rs1 := h.down (Below.refl W.heap.size W).drew
theorem K8.marked {w A W : World} {x : Int} {v : Value} {tm id : Int} {g0 gG Bg hg : Nat} {x' : Int} {us u1 : Value} {k' : Nat} {rs1 : Nat → Rw} {W' : World} {rs2 : Nat → Rw} (h : K8 w A W x v tm id g0 gG Bg hg x' us u1 k' rs1) (hk : Kept Bg hg W W') (ha : AnsX W' Bg hg u1 k' rs2) : K8 w A W' x v tm id g0 gG Bg hg x' us u1 k' rs2 :=
  have h9 := h.2.2.2.2.2
  ⟨⟨hk.blk h.1.1 (.inl (by omega)), hk.blk h.1.2.1 (.inl (by omega)), h.1.2.2.1.trans (hk.below (by omega) h.1.2.2.1.size), Nat.le_trans h.1.2.2.2 hk.size⟩, hk.blk h.2.1 (.inl (by omega)), hk.blk h.2.2.1 h9.2.2.2, ha, h.2.2.2.2.1.trans (hk.below (by omega) h.2.2.2.2.1.size), h9⟩
theorem F7.k8 {w A W : World} {x : Int} {v : Value} {tm id : Int} {g0 : Nat} {x' : Int} {us : Value} {H gX : Nat} {ux : Value} {k : Nat} {rs : Nat → Rw} {W' : World} {gG Bg hg : Nat} {u1 : Value} {k' : Nat} {rs' : Nat → Rw} (h : F7 w A W x v tm id g0 x' us H gX ux k rs gG Bg hg u1 k' rs') (hk : Kept A.heap.size H W W') : K8 w A W' x v tm id g0 gG Bg hg x' us u1 k' rs' :=
  have h9 := h.1.2.2.2.2.2
  have h8 := h.2.2.2
  ⟨⟨hk.blk h.1.1.1 (.inl (by omega)), hk.blk h.1.1.2.1 (.inl (by omega)), h.1.1.2.2.1.trans (hk.below (by omega) h.1.1.2.2.1.size), Nat.le_trans h.1.1.2.2.2 hk.size⟩, hk.blk h.1.2.1 (.inl (by omega)), hk.blk h.2.1 (.inr (by omega)), h.2.2.1.kept hk (by omega), h.1.2.2.2.2.1.trans (hk.below (Nat.le_refl _) h.1.2.2.2.2.1.size), by omega, by omega, by omega, h8.2.2⟩
theorem K8.set {w A W : World} {x : Int} {v : Value} {tm id : Int} {g0 gG Bg hg : Nat} {x' : Int} {us u1 : Value} {k' : Nat} {rs1 : Nat → Rw} {wp : World} (h : K8 w A W x v tm id g0 gG Bg hg x' us u1 k' rs1) {G n : Nat} {f : Nat → Value} (hz : Blk W G n f 24) (hp : K8 w A wp x v tm id g0 gG Bg hg x' us u1 k' rs1) (hG : wp.heap.size = G) (i : Nat) (y : Value) : K8 w A (W.setCell ⟨G, i, none⟩ y) x v tm id g0 gG Bg hg x' us u1 k' rs1 :=
  have a1 := hp.1.2.2.2
  have a2 := hp.2.1.lt
  have a3 := hp.2.2.1.lt
  have a4 := hp.2.2.2.2.1.size
  ⟨h.1.set (by omega) _ _, h.2.1.set_other (by omega) _ _, h.2.2.1.set_other (by omega) _ _, h.2.2.2.1.setW hz _ _, h.2.2.2.2.1.setCell (show A.heap.size ≤ G by omega) _, h.2.2.2.2.2⟩
def F24 (w A W : World) (x : Int) (v : Value) (tm id : Int) (g0 gG Bg hg : Nat) (x' : Int) (us u1 : Value) (k' : Nat) (rs1 : Nat → Rw) (gH : Nat) (u2 : Value) (rs' : Nat → Rw) : Prop :=
  K8 w A W x v tm id g0 gG Bg hg x' us u1 k' rs1 ∧ Blk W gH 2 (p2 (.int .i64 x') u2) 24 ∧ RowsOf W u2 k' rs'
theorem F24.al {w A W : World} {x : Int} {v : Value} {tm id : Int} {g0 gG Bg hg : Nat} {x' : Int} {us u1 : Value} {k' : Nat} {rs1 : Nat → Rw} {L : Nat} {u2 : Value} {rs' : Nat → Rw} (h : K8 w A W x v tm id g0 gG Bg hg x' us u1 k' rs1) (hr : RowsK L W u2 k' rs') : F24 w A (W.alloc (.cells #[.int .i64 x', u2] 24)) x v tm id g0 gG Bg hg x' us u1 k' rs1 W.heap.size u2 rs' :=
  ⟨h.alloc _, Blk.fresh W #[.int .i64 x', u2] 2 (p2 (.int .i64 x') u2) 24 rfl, (hr.down ((Below.refl W.heap.size W).alloc (Nat.le_refl _) _)).rows⟩
theorem F24.st {w A W : World} {x : Int} {v : Value} {tm id : Int} {g0 gG Bg hg : Nat} {x' : Int} {us u1 : Value} {k' : Nat} {rs1 : Nat → Rw} {wp : World} {L G : Nat} {u2 : Value} {rs' : Nat → Rw} (h : K8 w A W x v tm id g0 gG Bg hg x' us u1 k' rs1) (hr : RowsK L W u2 k' rs') (hz : Blk W G 2 (p2 (.int .i64 0) (.slice none 0 0)) 24) (hl : G < L) (hp : K8 w A wp x v tm id g0 gG Bg hg x' us u1 k' rs1) (hG : wp.heap.size = G) : F24 w A ((W.setCell ⟨G, 0, none⟩ (.int .i64 x')).setCell ⟨G, 1, none⟩ u2) x v tm id g0 gG Bg hg x' us u1 k' rs1 G u2 rs' :=
  ⟨(h.set hz hp hG _ _).set (hz.set 0 _) hp hG _ _, two_sets hz, ((hr.set hl _ _).set hl _ _).rows⟩
theorem F7.drew {w A W : World} {x : Int} {v : Value} {tm id : Int} {g0 : Nat} {x' : Int} {us : Value} {H gX : Nat} {ux : Value} {k : Nat} {rs : Nat → Rw} {gG Bg hg : Nat} {u1 : Value} {k' : Nat} {rs' : Nat → Rw} (h : F7 w A W x v tm id g0 x' us H gX ux k rs gG Bg hg u1 k' rs') : F7 w A W.drew x v tm id g0 x' us H gX ux k rs gG Bg hg u1 k' rs' := h.down (Below.refl W.heap.size W).drew
theorem F7.s {w A W : World} {x : Int} {v : Value} {tm id : Int} {g0 : Nat} {x' : Int} {us : Value} {H gX : Nat} {ux : Value} {k : Nat} {rs : Nat → Rw} {gG Bg hg : Nat} {u1 : Value} {k' : Nat} {rs' : Nat → Rw} (h : F7 w A W x v tm id g0 x' us H gX ux k rs gG Bg hg u1 k' rs') : W.cell? ⟨gX, 0, none⟩ = some (.int .i64 x) ∧ W.cell? ⟨gX, 1, none⟩ = some ux ∧ W.cell? ⟨w.heap.size, 0, none⟩ = some (.int .i64 x) ∧ W.cell? ⟨w.heap.size, 1, none⟩ = some v := ⟨h.1.2.2.1.pair.1, h.1.2.2.1.pair.2.1, h.1.1.1.pair.1, h.1.1.1.pair.2.1⟩
theorem K8.s {w A W : World} {x : Int} {v : Value} {tm id : Int} {g0 gG Bg hg : Nat} {x' : Int} {us u1 : Value} {k' : Nat} {rs1 : Nat → Rw} (h : K8 w A W x v tm id g0 gG Bg hg x' us u1 k' rs1) : W.cell? ⟨w.heap.size, 0, none⟩ = some (.int .i64 x) ∧ W.cell? ⟨w.heap.size, 1, none⟩ = some v ∧ W.cell? ⟨w.heap.size + 1, 0, none⟩ = some (.int .i64 tm) ∧ W.cell? ⟨w.heap.size + 1, 1, none⟩ = some (.int .i64 id) := h.1.s
abbrev o0 : Obj := .cells #[.int .i64 0, .slice none 0 0] 24
end M
end Go.Proofs.Ytcodllammndciaa
