/-
  Texts that follow one another, joined: StA, BrA.
-/
import Derived.Test.YtfkeokglifpkoaaGreatDoorJoin7
import Derived.Test.YtfkeokglifpkoaaGreatDoorJoin3
/-
  States in memory: blocks of six cells; what the law does with states: how much is left, copies in new memory, two that are told alike, marks that are written and found again.
-/
namespace Go.Proofs.YtfkeokglifpkoaaGreatDoor
open Go.RowKit M
open Clk (upd upd_same upd_other)
open Go.Sort (grow)
namespace M
def q6 (a b c d e f : Value) : Nat → Value := fun i => if i = 0 then a else if i = 1 then b else if i = 2 then c else if i = 3 then d else if i = 4 then e else f
theorem Blk.hex {w : World} {g : Nat} {a b c d e f : Value} {t : TypeId} (h : Blk w g 6 (q6 a b c d e f) t) : (w.cell? ⟨g, 0, none⟩ = some a ∧ w.cell? ⟨g, 1, none⟩ = some b ∧ w.cell? ⟨g, 2, none⟩ = some c ∧ w.cell? ⟨g, 3, none⟩ = some d ∧ w.cell? ⟨g, 4, none⟩ = some e ∧ w.cell? ⟨g, 5, none⟩ = some f) ∧ w.frozen? ⟨g, 0, none⟩ = false ∧ w.frozen? ⟨g, 1, none⟩ = false ∧ w.frozen? ⟨g, 2, none⟩ = false ∧ w.frozen? ⟨g, 3, none⟩ = false ∧ w.frozen? ⟨g, 4, none⟩ = false ∧ w.frozen? ⟨g, 5, none⟩ = false :=
  ⟨⟨h.cell (show 0 < 6 by omega), h.cell (show 1 < 6 by omega), h.cell (show 2 < 6 by omega), h.cell (show 3 < 6 by omega), h.cell (show 4 < 6 by omega), h.cell (show 5 < 6 by omega)⟩, h.thaw 0, h.thaw 1, h.thaw 2, h.thaw 3, h.thaw 4, h.thaw 5⟩
theorem new6 (w : World) (a b c d e f : Value) (t : TypeId) : Blk (w.alloc (.cells #[a, b, c, d, e, f] t)) w.heap.size 6 (q6 a b c d e f) t := Blk.fresh w _ 6 _ t rfl
theorem Blk.hex0 {w : World} {g : Nat} {a b c d e f : Value} {t : TypeId} (h : Blk w g 6 (q6 a b c d e f) t) (u : Value) : Blk (w.setCell ⟨g, 0, none⟩ u) g 6 (q6 u b c d e f) t :=
  (h.set 0 u).ext fun i hi => by match i, hi with
                                | 0, _ => rfl
                                | 1, _ => rfl
                                | 2, _ => rfl
                                | 3, _ => rfl
                                | 4, _ => rfl
                                | 5, _ => rfl
theorem Blk.hex1 {w : World} {g : Nat} {a b c d e f : Value} {t : TypeId} (h : Blk w g 6 (q6 a b c d e f) t) (u : Value) : Blk (w.setCell ⟨g, 1, none⟩ u) g 6 (q6 a u c d e f) t :=
  (h.set 1 u).ext fun i hi => by match i, hi with
                                | 0, _ => rfl
                                | 1, _ => rfl
                                | 2, _ => rfl
                                | 3, _ => rfl
                                | 4, _ => rfl
                                | 5, _ => rfl
theorem Blk.hex2 {w : World} {g : Nat} {a b c d e f : Value} {t : TypeId} (h : Blk w g 6 (q6 a b c d e f) t) (u : Value) : Blk (w.setCell ⟨g, 2, none⟩ u) g 6 (q6 a b u d e f) t :=
  (h.set 2 u).ext fun i hi => by match i, hi with
                                | 0, _ => rfl
                                | 1, _ => rfl
                                | 2, _ => rfl
                                | 3, _ => rfl
                                | 4, _ => rfl
                                | 5, _ => rfl
theorem Blk.hex3 {w : World} {g : Nat} {a b c d e f : Value} {t : TypeId} (h : Blk w g 6 (q6 a b c d e f) t) (u : Value) : Blk (w.setCell ⟨g, 3, none⟩ u) g 6 (q6 a b c u e f) t :=
  (h.set 3 u).ext fun i hi => by match i, hi with
                                | 0, _ => rfl
                                | 1, _ => rfl
                                | 2, _ => rfl
                                | 3, _ => rfl
                                | 4, _ => rfl
                                | 5, _ => rfl
theorem Blk.hex4 {w : World} {g : Nat} {a b c d e f : Value} {t : TypeId} (h : Blk w g 6 (q6 a b c d e f) t) (u : Value) : Blk (w.setCell ⟨g, 4, none⟩ u) g 6 (q6 a b c d u f) t :=
  (h.set 4 u).ext fun i hi => by match i, hi with
                                | 0, _ => rfl
                                | 1, _ => rfl
                                | 2, _ => rfl
                                | 3, _ => rfl
                                | 4, _ => rfl
                                | 5, _ => rfl
theorem Blk.hex5 {w : World} {g : Nat} {a b c d e f : Value} {t : TypeId} (h : Blk w g 6 (q6 a b c d e f) t) (u : Value) : Blk (w.setCell ⟨g, 5, none⟩ u) g 6 (q6 a b c d e u) t :=
  (h.set 5 u).ext fun i hi => by match i, hi with
                                | 0, _ => rfl
                                | 1, _ => rfl
                                | 2, _ => rfl
                                | 3, _ => rfl
                                | 4, _ => rfl
                                | 5, _ => rfl
theorem put6 {w W : World} {g : Nat} {a b c d e f : Value} {t : TypeId} (h : Blk W g 6 (q6 a b c d e f) t) (hb : Below w.heap.size w W) (hg : w.heap.size ≤ g) (x0 x1 x2 x3 x4 x5 : Value) : ∀ WZ, ((((((W.setCell ⟨g, 0, none⟩ x0).setCell ⟨g, 1, none⟩ x1).setCell ⟨g, 2, none⟩ x2).setCell ⟨g, 3, none⟩ x3).setCell ⟨g, 4, none⟩ x4).setCell ⟨g, 5, none⟩ x5) = WZ →
    Blk WZ g 6 (q6 x0 x1 x2 x3 x4 x5) t ∧ Below w.heap.size w WZ ∧ W.grownBy WZ (some g) := by
  rintro WZ rfl
  exact ⟨((((((h.hex0 _).hex1 _).hex2 _).hex3 _).hex4 _).hex5 _), ((((((hb.setCell (p := ⟨g, 0, none⟩) hg _).setCell (p := ⟨g, 1, none⟩) hg _).setCell (p := ⟨g, 2, none⟩) hg _).setCell (p := ⟨g, 3, none⟩) hg _).setCell (p := ⟨g, 4, none⟩) hg _).setCell (p := ⟨g, 5, none⟩) hg _), (gbT_set (o := 5) (v := x5) (gbT_set (o := 4) (v := x4) (gbT_set (o := 3) (v := x3) (gbT_set (o := 2) (v := x2) (gbT_set (o := 1) (v := x1) (gbT_set (o := 0) (v := x0) (gbT_refl W (some g))))))))⟩
theorem Blk.gb {w w' : World} {g n : Nat} {f : Nat → Value} {t : TypeId} {row : Option Nat} (h : Blk w g n f t) (hg : w.grownBy w' row) (hne : some g ≠ row) : Blk w' g n f t := by
  unfold Blk; rw [hg.block g h.lt hne]; exact h
theorem gbT_low {w w' : World} {B : Nat} {row : Option Nat} (h : w.grownBy w' row) (hB : ∀ g, row = some g → B ≤ g) (hs : B ≤ w.heap.size) : Below B w w' :=
  ⟨h.os, h.tape, h.output, h.size, fun k hk => h.block k (by omega) (fun e => by have := hB k e.symm; omega)⟩
theorem OwnT.set_other {w : World} {B : Nat} {v : Value} {l : Txs} (h : OwnT w B v l) {g : Nat} (hne : g < B) (o : Nat) (u : Value) : OwnT (w.setCell ⟨g, o, none⟩ u) B v l :=
  h.other (gbT_set (gbT_refl w (some g))) (fun g' hg' e => by
    have := (h.lt hg').1
    simp only [Option.some.injEq] at e
    omega)
/-- A state as a value, its lists as v0 and v1. -/
abbrev stv (v0 v1 : Value) (s : St) : Value := .agg #[.int .i64 s.st, .int .i64 s.nx, .bool s.ca, .int .i64 s.dn, v0, v1]
abbrev sq (v0 v1 : Value) (s : St) : Nat → Value := q6 (.int .i64 s.st) (.int .i64 s.nx) (.bool s.ca) (.int .i64 s.dn) v0 v1
abbrev sarr (v0 v1 : Value) (s : St) : Array Value := #[.int .i64 s.st, .int .i64 s.nx, .bool s.ca, .int .i64 s.dn, v0, v1]
/-- A state's lists, read; within their capacities, too. -/
def StQ (w : World) (v0 v1 : Value) (s : St) : Prop := TxsOf w v0 s.sg ∧ TxsOf w v1 s.tm
def StC (w : World) (v0 v1 : Value) (s : St) : Prop := TxC w v0 s.sg ∧ TxC w v1 s.tm
theorem StQ.below {w w' : World} {v0 v1 : Value} {s : St} (h : StQ w v0 v1 s) (hb : Below w.heap.size w w') : StQ w' v0 v1 s := ⟨h.1.below hb, h.2.below hb⟩
theorem StC.below {w w' : World} {v0 v1 : Value} {s : St} (h : StC w v0 v1 s) (hb : Below w.heap.size w w') : StC w' v0 v1 s := ⟨h.1.below hb, h.2.below hb⟩
theorem StC.q {w : World} {v0 v1 : Value} {s : St} (h : StC w v0 v1 s) : StQ w v0 v1 s := ⟨h.1.1, h.2.1⟩
def LensT (s : St) : Prop := (s.sg.length ≤ maxLen ∧ ∀ x ∈ s.sg, x.size ≤ maxLen) ∧ (s.tm.length ≤ maxLen ∧ ∀ x ∈ s.tm, x.size ≤ maxLen)
def ShortT (s : St) : Prop := s.sg.length ≤ 1048576 ∧ s.tm.length ≤ 1048576
def NmT (s : St) : Prop := (∀ x ∈ s.sg, x.size ≤ maxLen) ∧ ∀ x ∈ s.tm, x.size ≤ maxLen
/-- Two slices in unlike blocks. -/
def Apart (v0 v1 : Value) : Prop := ∀ g, v0.ownBlock = some g → v1.ownBlock ≠ some g
/-- A state's lists in memory of the call's own, from block lo up to hi, apart from each other. -/
structure AnsL (w : World) (lo hi : Nat) (v0 v1 : Value) (l0 l1 : Txs) : Prop where
  o0 : OwnT w lo v0 l0
  o1 : OwnT w lo v1 l1
  ap : Apart v0 v1
  h0 : ∀ g, v0.ownBlock = some g → g < hi
  h1 : ∀ g, v1.ownBlock = some g → g < hi
theorem AnsL.down {w w' : World} {lo hi : Nat} {v0 v1 : Value} {l0 l1 : Txs} (h : AnsL w lo hi v0 v1 l0 l1) (hb : Below w.heap.size w w') : AnsL w' lo hi v0 v1 l0 l1 := ⟨h.o0.down hb, h.o1.down hb, h.ap, h.h0, h.h1⟩
theorem AnsL.mono {w : World} {lo hi lo' hi' : Nat} {v0 v1 : Value} {l0 l1 : Txs} (h : AnsL w lo hi v0 v1 l0 l1) (hl : lo' ≤ lo) (hh : hi ≤ hi') : AnsL w lo' hi' v0 v1 l0 l1 :=
  ⟨h.o0.mono hl, h.o1.mono hl, h.ap, fun g hg => by have := h.h0 g hg; omega, fun g hg => by have := h.h1 g hg; omega⟩
theorem AnsL.of {w : World} {lo : Nat} {v0 v1 : Value} {l0 l1 : Txs} (h0 : OwnT w lo v0 l0) (h1 : OwnT w lo v1 l1) (ha : Apart v0 v1) : AnsL w lo w.heap.size v0 v1 l0 l1 :=
  ⟨h0, h1, ha, fun _ hg => (h0.lt hg).2, fun _ hg => (h1.lt hg).2⟩
theorem AnsL.c {w : World} {lo hi : Nat} {v0 v1 : Value} {s : St} (h : AnsL w lo hi v0 v1 s.sg s.tm) : StC w v0 v1 s := ⟨h.o0.c, h.o1.c⟩
theorem AnsL.q {w : World} {lo hi : Nat} {v0 v1 : Value} {s : St} (h : AnsL w lo hi v0 v1 s.sg s.tm) : StQ w v0 v1 s := h.c.q
/-- Only blocks from lo to hi may have turned, of those that were there. -/
structure KeptB (lo hi : Nat) (w w' : World) : Prop where
  os : w'.os = w.os
  tape : w'.tape = w.tape
  output : w'.output = w.output
  size : w.heap.size ≤ w'.heap.size
  block : ∀ k, k < w.heap.size → k < lo ∨ hi ≤ k → w'.heap[k]? = w.heap[k]?
theorem KeptB.refl (lo hi : Nat) (w : World) : KeptB lo hi w w := ⟨rfl, rfl, rfl, Nat.le_refl _, fun _ _ _ => rfl⟩
theorem KeptB.trans {lo hi : Nat} {a b c : World} (h : KeptB lo hi a b) (h2 : KeptB lo hi b c) : KeptB lo hi a c :=
  ⟨h2.os.trans h.os, h2.tape.trans h.tape, h2.output.trans h.output, Nat.le_trans h.size h2.size, fun k hk hl => (h2.block k (Nat.lt_of_lt_of_le hk h.size) hl).trans (h.block k hk hl)⟩
theorem Below.keptB {w w1 : World} (h : Below w.heap.size w w1) (lo hi : Nat) : KeptB lo hi w w1 := ⟨h.os, h.tape, h.output, h.size, fun k hk _ => h.block k hk⟩
theorem KeptB.of {w w' : World} {row : Option Nat} {lo hi : Nat} (h : w.grownBy w' row) (hr : ∀ g, row = some g → lo ≤ g ∧ g < hi) : KeptB lo hi w w' :=
  ⟨h.os, h.tape, h.output, h.size, fun k hk hl => h.block k hk (fun e => by have := hr k e.symm; omega)⟩
theorem KeptB.below {lo hi B : Nat} {w w' : World} (h : KeptB lo hi w w') (h1 : B ≤ lo) (h2 : B ≤ w.heap.size) : Below B w w' :=
  ⟨h.os, h.tape, h.output, h.size, fun k hk => h.block k (by omega) (.inl (by omega))⟩
theorem KeptB.blk {lo hi : Nat} {w w' : World} (h : KeptB lo hi w w') {g n : Nat} {f : Nat → Value} {t : TypeId} (hb : Blk w g n f t) (hg : g < lo ∨ hi ≤ g) : Blk w' g n f t := by
  unfold Blk; rw [h.block g hb.lt hg]; exact hb
theorem OwnT.keptB {lo hi : Nat} {w w' : World} {B : Nat} {v : Value} {l : Txs} (h : OwnT w B v l) (hk : KeptB lo hi w w') (hB : hi ≤ B) : OwnT w' B v l := by
  refine ⟨h.1, ?_⟩
  rcases h.2 with h0 | ⟨g, cap, cur, hv, hBg, hb, r⟩
  · exact .inl h0
  · refine .inr ⟨g, cap, cur, hv, hBg, ?_, r⟩
    rw [hk.block g ?_ (.inr (by omega))]
    · exact hb
    · rcases Nat.lt_or_ge g w.heap.size with h' | h'
      · exact h'
      · rw [Array.getElem?_eq_none h'] at hb; cases hb
theorem AnsL.kept {w w' : World} {lo hi lo' hi' : Nat} {v0 v1 : Value} {l0 l1 : Txs} (h : AnsL w lo hi v0 v1 l0 l1) (hk : KeptB lo' hi' w w') (hB : hi' ≤ lo) : AnsL w' lo hi v0 v1 l0 l1 :=
  ⟨h.o0.keptB hk hB, h.o1.keptB hk hB, h.ap, h.h0, h.h1⟩
end M
set_option maxHeartbeats 1000000 in
theorem eq_state (v0 v1 u0 u1 : Value) (s : St) (w : World) (hv : StQ w v0 v1 s) (hu : StQ w u0 u1 s) (hs : ShortT s) :
    Calls Tryz.prog 36 #[stv v0 v1 s, stv u0 u1 s] w fun e w' => e = .returned (.bool true) ∧ Below w.heap.size w w' := by
  obtain ⟨a0, c0, rfl⟩ := hv.1.form
  obtain ⟨a1, c1, rfl⟩ := hv.2.form
  obtain ⟨a3, c3, rfl⟩ := hu.1.form
  obtain ⟨a4, c4, rfl⟩ := hu.2.form
  have hb0 := ((Below.refl w.heap.size w).alloc (Nat.le_refl _) (.cells (sarr (.slice a0 s.sg.length c0) (.slice a1 s.tm.length c1) s) 60)).alloc (by simp) (.cells (sarr (.slice a3 s.sg.length c3) (.slice a4 s.tm.length c4) s) 60)
  have HM0 := hide (show Blk ((w.alloc (.cells (sarr (.slice a0 s.sg.length c0) (.slice a1 s.tm.length c1) s) 60)).alloc (.cells (sarr (.slice a3 s.sg.length c3) (.slice a4 s.tm.length c4) s) 60)) w.heap.size 6 (sq (.slice a0 s.sg.length c0) (.slice a1 s.tm.length c1) s) 60 from (new6 w _ _ _ _ _ _ 60).alloc _)
  have HN0 := hide (show Blk ((w.alloc (.cells (sarr (.slice a0 s.sg.length c0) (.slice a1 s.tm.length c1) s) 60)).alloc (.cells (sarr (.slice a3 s.sg.length c3) (.slice a4 s.tm.length c4) s) 60)) (w.heap.size + 1) 6 (sq (.slice a3 s.sg.length c3) (.slice a4 s.tm.length c4) s) 60 from by
    have := new6 (w.alloc (.cells (sarr (.slice a0 s.sg.length c0) (.slice a1 s.tm.length c1) s) 60)) (.int .i64 s.st) (.int .i64 s.nx) (.bool s.ca) (.int .i64 s.dn) (.slice a3 s.sg.length c3) (.slice a4 s.tm.length c4) 60
    rw [World.size_alloc] at this; exact this)
  have HV := hide hv
  have HU := hide hu
  have HS := hide hs
  have hx0 : (s.st != s.st) = false := by simp
  have hx1 : (s.nx != s.nx) = false := by simp
  have hx2 : (s.ca != s.ca) = false := by simp
  have hx3 : (s.dn != s.dn) = false := by simp
  clear hv hu hs
  go_enter Tryz.func36, Tryz.ntmps36
  go_wp2_with fail
  refine (eq_txs _ _ s.sg _ (HV.out.1.below hb0) (HU.out.1.below hb0) HS.out.1).mono ?_
  rintro e w1 ⟨rfl, hb⟩
  have hb1 := hb0.trans (hb.mono hb0.size)
  have HM1 := hide (HM0.out.down hb)
  have HN1 := hide (HN0.out.down hb)
  obtain ⟨⟨-, -, -, -, -, m5⟩, -⟩ := HM1.out.hex
  obtain ⟨⟨-, -, -, -, -, n5⟩, -⟩ := HN1.out.hex
  clear hb hb0 HM0 HN0
  go_wp2_with fail
  refine (eq_txs _ _ s.tm _ (HV.out.2.below hb1) (HU.out.2.below hb1) HS.out.2).mono ?_
  rintro e w2 ⟨rfl, hb⟩
  have hb2 := hb1.trans (hb.mono hb1.size)
  clear hb hb1 HM1 HN1 m5 n5
  go_wp2
  go_ret
  exact ⟨rfl, hb2⟩
set_option maxHeartbeats 1000000 in
theorem mark_state (lo hi : Nat) (v0 v1 : Value) (s : St) (w : World) (h : AnsL w lo hi v0 v1 s.sg s.tm) (hs : ShortT s) (hhi : hi ≤ w.heap.size) :
    Calls Tryz.prog 37 #[stv v0 v1 s, .int .i64 1] w fun e w' => e = .returned (.int .i64 ((1 + s.sg.length + s.tm.length : Nat) : Int)) ∧ AnsL w' lo hi v0 v1 (mks 1 s.sg.length) (mks (1 + s.sg.length) s.tm.length) ∧ KeptB lo hi w w' := by
  obtain ⟨a0, c0, rfl⟩ := h.o0.form
  obtain ⟨a1, c1, rfl⟩ := h.o1.form
  have hbA := (Below.refl w.heap.size w).alloc (Nat.le_refl _) (.cells (sarr (.slice a0 s.sg.length c0) (.slice a1 s.tm.length c1) s) 60)
  have HN := hide (show Blk (w.alloc (.cells (sarr (.slice a0 s.sg.length c0) (.slice a1 s.tm.length c1) s) 60)) w.heap.size 6 (sq (.slice a0 s.sg.length c0) (.slice a1 s.tm.length c1) s) 60 from new6 w _ _ _ _ _ _ 60)
  have HV := hide (h.down hbA)
  have HS := hide hs
  clear h hs
  go_enter Tryz.func37, Tryz.ntmps37
  go_wp2_with fail
  refine (mark_txs lo 1 _ s.sg _ HV.out.o0 HS.out.1 (by omega) (by omega)).mono ?_
  rintro e w1 ⟨rfl, h1, hg⟩
  have hk := KeptB.of (lo := lo) (hi := hi) hg (fun g hg => ⟨(HV.out.o0.lt hg).1, HV.out.h0 g hg⟩)
  have HO1 := hide (HV.out.o1.other hg (fun g hg e => HV.out.ap g e.symm hg))
  have HO0 := hide h1
  have hk1 := (Below.keptB hbA lo hi).trans hk
  obtain ⟨⟨-, -, -, -, -, d5⟩, -⟩ := (hk.blk HN.out (.inr hhi)).hex
  clear h1 hg hk HN hbA
  obtain ⟨m, hm⟩ : ∃ m, 1 + s.sg.length = m := ⟨_, rfl⟩
  have hm1 : m ≤ 10000000 := by have := HS.out.1; omega
  have hm2 : 1 ≤ m := by omega
  rw [hm]
  have HM := hide hm
  clear hm
  go_wp2_with fail
  refine (mark_txs lo m _ s.tm _ HO1.out HS.out.2 hm2 hm1).mono ?_
  rintro e w2 ⟨rfl, h2, hg⟩
  have hk := KeptB.of (lo := lo) (hi := hi) hg (fun g hg => ⟨(HO1.out.lt hg).1, HV.out.h1 g hg⟩)
  have hk2 := hk1.trans hk
  have HQ := hide (show AnsL w2 lo hi (.slice a0 s.sg.length c0) (.slice a1 s.tm.length c1) (mks 1 s.sg.length) (mks m s.tm.length) from
    ⟨HO0.out.other hg (fun g hg e => HV.out.ap g hg e.symm), h2, HV.out.ap, HV.out.h0, HV.out.h1⟩)
  obtain ⟨m2, hm2⟩ : ∃ m2, m + s.tm.length = m2 := ⟨_, rfl⟩
  have HM2 := hide hm2
  rw [hm2]
  clear hm2 HO0 HO1 HS h2 hk hg hk1 d5 HV
  go_wp2
  go_ret
  exact ⟨by have e1 := HM.out; have e2 := HM2.out; subst e1; subst e2; rfl, by rw [HM.out]; exact HQ.out, hk2⟩
set_option maxHeartbeats 1000000 in
theorem held_state (lo hi : Nat) (v0 v1 : Value) (s : St) (w : World) (h : AnsL w lo hi v0 v1 (mks 1 s.sg.length) (mks (1 + s.sg.length) s.tm.length)) (hs : ShortT s) :
    Calls Tryz.prog 38 #[stv v0 v1 s, .int .i64 1] w fun e w' => e = .returned (.int .i64 ((1 + s.sg.length + s.tm.length : Nat) : Int)) ∧ Below w.heap.size w w' := by
  obtain ⟨a0, c0, rfl⟩ := h.o0.form
  obtain ⟨a1, c1, rfl⟩ := h.o1.form
  rw [mks_len, mks_len] at *
  have hbA := (Below.refl w.heap.size w).alloc (Nat.le_refl _) (.cells (sarr (.slice a0 s.sg.length c0) (.slice a1 s.tm.length c1) s) 60)
  have HN := hide (show Blk (w.alloc (.cells (sarr (.slice a0 s.sg.length c0) (.slice a1 s.tm.length c1) s) 60)) w.heap.size 6 (sq (.slice a0 s.sg.length c0) (.slice a1 s.tm.length c1) s) 60 from new6 w _ _ _ _ _ _ 60)
  have HV := hide (h.down hbA)
  have HS := hide hs
  clear h hs
  go_enter Tryz.func38, Tryz.ntmps38
  go_wp2_with fail
  refine (held_txs _ 1 s.sg.length _ HV.out.o0.txs HS.out.1 (by omega) (by omega)).mono ?_
  rintro e w1 ⟨rfl, hb⟩
  have hb1 := hbA.trans (hb.mono hbA.size)
  have HO1 := hide (HV.out.o1.down hb).txs
  obtain ⟨⟨-, -, -, -, -, d5⟩, -⟩ := (HN.out.down hb).hex
  clear hb hbA HN HV
  obtain ⟨m, hm⟩ : ∃ m, 1 + s.sg.length = m := ⟨_, rfl⟩
  have hm1 : m ≤ 10000000 := by have := HS.out.1; omega
  have hm2 : 1 ≤ m := by omega
  have hmn : ¬ ((m : Int) < 0) := by omega
  rw [hm] at HO1 ⊢
  have HM := hide hm
  clear hm
  go_wp2_with fail
  refine (held_txs _ m s.tm.length _ HO1.out HS.out.2 hm2 hm1).mono ?_
  rintro e w2 ⟨rfl, hb⟩
  have hb2 := hb1.trans (hb.mono hb1.size)
  obtain ⟨m2, hm2⟩ : ∃ m2, m + s.tm.length = m2 := ⟨_, rfl⟩
  have hmn2 : ¬ ((m2 : Int) < 0) := by omega
  have HM2 := hide hm2
  rw [hm2]
  clear hm2 HO1 HS hb hb1 d5
  go_wp2
  go_ret
  exact ⟨by have e1 := HM.out; have e2 := HM2.out; subst e1; subst e2; rfl, hb2⟩
end Go.Proofs.YtfkeokglifpkoaaGreatDoor

/-
  Branches in memory, those that are read and those of a call's own, and the law's helpers on them: size, copy, comparison, marks.
-/
namespace Go.Proofs.YtfkeokglifpkoaaGreatDoor
open Go.RowKit M
open Go.Sort (grow)
namespace M
def wb : Brs → Nat
  | [] => 0
  | b :: r => wt b + wb r
theorem wb_take : ∀ (bs : Brs) (k : Nat) (b : Evs), bs[k]? = some b → wb (bs.take (k + 1)) = wb (bs.take k) + wt b
  | [], k, b, h => by simp at h
  | x :: r, 0, b, h => by simp at h; subst h; simp [wb]
  | x :: r, k + 1, b, h => by
    have := wb_take r k b (by simpa using h)
    simp only [List.take_succ_cons, wb]
    omega
theorem wb_take_le : ∀ (bs : Brs) (k : Nat), wb (bs.take k) ≤ wb bs
  | [], k => by simp [wb]
  | x :: r, 0 => by simp [wb]
  | x :: r, k + 1 => by
    have := wb_take_le r k
    simp only [List.take_succ_cons, wb]
    omega
theorem wb_mem : ∀ {bs : Brs} {b : Evs}, b ∈ bs → wt b ≤ wb bs
  | [], b, h => by cases h
  | x :: r, b, h => by
    rcases List.mem_cons.1 h with h | h
    · subst h; simp [wb]
    · have := wb_mem h; simp only [wb]; omega
def Fine (bs : Brs) : Prop := bs.length ≤ maxLen ∧ ∀ b ∈ bs, b.length ≤ maxLen ∧ ∀ e ∈ b, e.name.size ≤ maxLen
/-- Branches that are read. -/
def BrsOf (w : World) (v : Value) (bs : Brs) : Prop :=
  ∃ a cap, v = .slice a bs.length cap ∧ (0 < bs.length → ∃ b off, a = some ⟨b, off, none⟩ ∧ b < w.heap.size ∧ ∀ (i : Nat) es, bs[i]? = some es → ∃ u, w.cell? ⟨b, off + i, none⟩ = some u ∧ SliceOf w u es)
theorem BrsOf.below {w w' : World} {v : Value} {bs : Brs} (h : BrsOf w v bs) (hb : Below w.heap.size w w') : BrsOf w' v bs := by
  obtain ⟨a, cap, hv, hr⟩ := h
  refine ⟨a, cap, hv, fun hp => ?_⟩
  obtain ⟨b, off, ha, hlt, hrow⟩ := hr hp
  refine ⟨b, off, ha, Nat.lt_of_lt_of_le hlt hb.size, fun i es hi => ?_⟩
  obtain ⟨u, hu, hs⟩ := hrow i es hi
  exact ⟨u, (hb.cell (p := ⟨b, off + i, none⟩) hlt).trans hu, hs.below hb⟩
theorem BrsOf.form {w : World} {v : Value} {bs : Brs} (h : BrsOf w v bs) : ∃ a cap, v = .slice a bs.length cap := by
  obtain ⟨a, cap, hv, _⟩ := h; exact ⟨a, cap, hv⟩
theorem SliceOf.form {w : World} {v : Value} {es : Evs} (h : SliceOf w v es) : ∃ a cap, v = .slice a es.length cap := by
  obtain ⟨a, cap, hv, _⟩ := h; exact ⟨a, cap, hv⟩
/-- One of them. -/
theorem BrsOf.at {w : World} {a : Option Addr} {n cap : Nat} {bs : Brs} (h : BrsOf w (.slice a n cap) bs) {i : Nat} {es : Evs} (hi : bs[i]? = some es) : ∃ b off, a = some ⟨b, off, none⟩ ∧ b < w.heap.size ∧ ∃ a' c', w.cell? ⟨b, off + i, none⟩ = some (.slice a' es.length c') ∧ SliceOf w (.slice a' es.length c') es := by
  obtain ⟨a2, cap2, hv, hr⟩ := h
  simp only [Value.slice.injEq] at hv
  obtain ⟨rfl, rfl, rfl⟩ := hv
  have hl := (List.getElem?_eq_some_iff.1 hi).1
  obtain ⟨b, off, ha, hlt, hrow⟩ := hr (by omega)
  obtain ⟨u, hu, hs⟩ := hrow i es hi
  obtain ⟨a', c', rfl⟩ := hs.form
  exact ⟨b, off, ha, hlt, a', c', hu, hs⟩
/-- Values beside what they hold. -/
abbrev Prs := List (Value × Evs)
def vsP (ps : Prs) : List Value := ps.map Prod.fst
def bsP (ps : Prs) : Brs := ps.map Prod.snd
theorem vsP_len (ps : Prs) : (vsP ps).length = ps.length := by simp [vsP]
theorem bsP_len (ps : Prs) : (bsP ps).length = ps.length := by simp [bsP]
theorem bsP_at {ps : Prs} {i : Nat} {es : Evs} (h : (bsP ps)[i]? = some es) : ∃ u, ps[i]? = some (u, es) := by
  unfold bsP at h
  rw [List.getElem?_map] at h
  cases hp : ps[i]? with
  | none => rw [hp] at h; simp at h
  | some p => rw [hp] at h; simp at h; subst h; exact ⟨p.1, rfl⟩
theorem vsP_at {ps : Prs} {i : Nat} {p : Value × Evs} (h : ps[i]? = some p) : (vsP ps)[i]? = some p.1 := by
  unfold vsP; rw [List.getElem?_map, h]; rfl
/-- Two values lie in unlike blocks. -/
def Apt (u v : Value) : Prop := ∀ g, u.ownBlock = some g → v.ownBlock ≠ some g
theorem Apt.symm {u v : Value} (h : Apt u v) : Apt v u := fun g h1 h0 => h g h0 h1
/-- Branches that a call owns: a row of its own, and each one's events. -/
structure OwnP (w : World) (B : Nat) (v : Value) (ps : Prs) : Prop where
  row : w.ownsRow B 81 1 v ps.length (vsP ps)
  evs : ∀ p ∈ ps, OwnE w B p.1 p.2
  ap : ps.Pairwise (fun p q => Apt p.1 q.1)
theorem OwnP.down {w w' : World} {B : Nat} {v : Value} {ps : Prs} (h : OwnP w B v ps) (hb : Below w.heap.size w w') : OwnP w' B v ps := ⟨owns_below h.row hb, fun p hp => (h.evs p hp).down hb, h.ap⟩
theorem OwnP.mono {w : World} {B B' : Nat} {v : Value} {ps : Prs} (h : OwnP w B v ps) (hB : B' ≤ B) : OwnP w B' v ps := ⟨owns_mono h.row hB, fun p hp => (h.evs p hp).mono hB, h.ap⟩
theorem OwnP.nil (w : World) (B : Nat) : OwnP w B (.slice none 0 0) [] := ⟨⟨rfl, .inl ⟨rfl, rfl⟩⟩, fun p hp => (by cases hp), List.Pairwise.nil⟩
theorem OwnP.brs {w : World} {B : Nat} {v : Value} {ps : Prs} (h : OwnP w B v ps) : BrsOf w v (bsP ps) := by
  obtain ⟨a, cap, hv, hr⟩ := own_cells h.row (by rw [vsP_len]; omega)
  refine ⟨a, cap, by rw [bsP_len]; exact hv, fun hp => ?_⟩
  obtain ⟨g, ha, _, hlt, hc⟩ := hr (by rw [bsP_len] at hp; exact hp)
  refine ⟨g, 0, ha, hlt, fun i es hi => ?_⟩
  obtain ⟨u, hu⟩ := bsP_at hi
  exact ⟨u, by rw [Nat.zero_add]; exact hc i u (vsP_at hu), (h.evs _ (List.mem_of_getElem? hu)).slice⟩
/-- The row's block is none of the events'. -/
theorem OwnP.far {w : World} {B : Nat} {v : Value} {ps : Prs} (h : OwnP w B v ps) {p : Value × Evs} (hp : p ∈ ps) : Apt v p.1 := fun g hg e => by
  have := owns_apart h.row (h.evs p hp) (by decide) g hg
  exact this e.symm
theorem OwnP.split {w : World} {B : Nat} {v : Value} {ps : Prs} (h : OwnP w B v ps) : (v = .slice none 0 0 ∧ ps = []) ∨ ∃ g cap, v = .slice (some ⟨g, 0, none⟩) ps.length cap ∧ B ≤ g ∧ g < w.heap.size ∧ ps.length ≤ cap ∧ cap ≤ maxLen := by
  rcases h.row.2 with ⟨rfl, h0⟩ | ⟨g, cap, cur, rfl, hB, hg, hn, hc, hs, ht⟩
  · exact .inl ⟨rfl, List.eq_nil_of_length_eq_zero h0⟩
  · refine .inr ⟨g, cap, rfl, hB, ?_, hn, hc⟩
    rcases Nat.lt_or_ge g w.heap.size with h' | h'
    · exact h'
    · rw [Array.getElem?_eq_none h'] at hg; cases hg
theorem own1_cell {w : World} {B e g n cap : Nat} {xs : List Value} (h : w.ownsRow B e 1 (.slice (some ⟨g, 0, none⟩) n cap) n xs) {j : Nat} {x : Value} (hj : xs[j]? = some x) : w.cell? ⟨g, j, none⟩ = some x := by
  obtain ⟨a, c, hv, hr⟩ := own_cells h (by rw [h.1])
  simp only [Value.slice.injEq] at hv
  obtain ⟨rfl, -, rfl⟩ := hv
  have hl := (List.getElem?_eq_some_iff.1 hj).1
  obtain ⟨g', ha, _, _, hc⟩ := hr (by rw [h.1] at hl; omega)
  simp only [Option.some.injEq, Addr.mk.injEq] at ha
  obtain ⟨rfl, -⟩ := ha
  exact hc j x hj
theorem own1_thaw {w : World} {B e g n cap : Nat} {xs : List Value} (h : w.ownsRow B e 1 (.slice (some ⟨g, 0, none⟩) n cap) n xs) (j : Nat) : w.frozen? ⟨g, j, none⟩ = false := by
  rcases h.2 with ⟨hv, _⟩ | ⟨g', cap', cur, hv, hB, hg, _⟩
  · simp at hv
  · simp only [Value.slice.injEq, Option.some.injEq, Addr.mk.injEq] at hv
    obtain ⟨⟨rfl, -, -⟩, -, -⟩ := hv
    simp [World.frozen?, hg]
/-- A row of one cell an element, one of them stored. -/
theorem own1_set {w : World} {B e g n cap : Nat} {xs : List Value} (h : w.ownsRow B e 1 (.slice (some ⟨g, 0, none⟩) n cap) n xs) (j : Nat) (x : Value) : (w.setCell ⟨g, j, none⟩ x).ownsRow B e 1 (.slice (some ⟨g, 0, none⟩) n cap) n (xs.set j x) := by
  rcases h.2 with ⟨hv, _⟩ | ⟨g', cap', cur, hv, hB, hg, h1, h2, h3, h4⟩
  · simp at hv
  · simp only [Value.slice.injEq, Option.some.injEq, Addr.mk.injEq] at hv
    obtain ⟨⟨rfl, -, -⟩, -, rfl⟩ := hv
    refine ⟨by rw [List.length_set]; exact h.1, .inr ⟨g, cap, cur.setIfInBounds j x, rfl, hB, heap_setCell_same _ g j _ e x hg, h1, h2, by simpa using h3, ?_⟩⟩
    rw [Array.toList_setIfInBounds, ← h4, List.take_set]
theorem gb_other {w w' : World} {B e s n : Nat} {v : Value} {xs : List Value} {row : Option Nat} (h : w.ownsRow B e s v n xs) (hg : w.grownBy w' row) (hne : ∀ g, v.ownBlock = some g → row ≠ some g) : w'.ownsRow B e s v n xs := owns_other h hg (fun g h1 h2 => hne g h1 h2.symm)
/-- Marks on branches from k on. -/
def mkP : Nat → Prs → Prs
  | _, [] => []
  | k, p :: r => (p.1, mkE k p.2.length) :: mkP (k + 4 * p.2.length) r
def evn : Prs → Nat
  | [] => 0
  | p :: r => p.2.length + evn r
theorem mkP_len : ∀ (k : Nat) (ps : Prs), (mkP k ps).length = ps.length
  | _, [] => rfl
  | k, p :: r => by simp [mkP, mkP_len]
theorem vsP_mk : ∀ (k : Nat) (ps : Prs), vsP (mkP k ps) = vsP ps
  | _, [] => rfl
  | k, p :: r => by have := vsP_mk (k + 4 * p.2.length) r; unfold vsP at this ⊢; simp [mkP, this]
theorem mkP_app : ∀ (k : Nat) (a b : Prs), mkP k (a ++ b) = mkP k a ++ mkP (k + 4 * evn a) b
  | k, [], b => by simp [mkP, evn]
  | k, p :: r, b => by
    rw [List.cons_append, mkP, mkP, mkP_app _ r b, evn, List.cons_append]
    congr 3; omega
theorem evn_app : ∀ (a b : Prs), evn (a ++ b) = evn a + evn b
  | [], b => by simp [evn]
  | p :: r, b => by rw [List.cons_append, evn, evn, evn_app r b]; omega
theorem evn_wb : ∀ ps : Prs, evn ps ≤ wb (bsP ps)
  | [] => Nat.zero_le _
  | p :: r => by
    have := evn_wb r
    unfold bsP at this ⊢
    simp only [evn, List.map_cons, wb, wt]; omega
theorem evn_take_le (ps : Prs) (k : Nat) : evn (ps.take k) ≤ evn ps := by
  have h : ps = ps.take k ++ ps.drop k := (List.take_append_drop k ps).symm
  have := congrArg evn h
  rw [evn_app] at this
  omega
/-- Some of them marked, the others as they were. -/
theorem pw_fst {ps qs : Prs} (h : vsP qs = vsP ps) (ha : ps.Pairwise (fun p q => Apt p.1 q.1)) : qs.Pairwise (fun p q => Apt p.1 q.1) := by
  have h1 : (vsP ps).Pairwise Apt := List.pairwise_map.2 ha
  rw [← h] at h1
  exact List.pairwise_map.1 h1
theorem OwnP.rowBlock {w : World} {B g : Nat} {v : Value} {ps : Prs} (h : OwnP w B v ps) (hg : v.ownBlock = some g) : B ≤ g ∧ g < w.heap.size := by
  rcases h.split with ⟨rfl, _⟩ | ⟨g', cap, rfl, h1, h2, _⟩
  · simp [Value.ownBlock] at hg
  · simp only [Value.ownBlock, Option.some.injEq] at hg
    subst hg; exact ⟨h1, h2⟩
/-- All of it lies between two sizes of the heap. -/
def Within (lo hi : Nat) (v : Value) (ps : Prs) : Prop := (∀ g, v.ownBlock = some g → lo ≤ g ∧ g < hi) ∧ ∀ p ∈ ps, ∀ g, p.1.ownBlock = some g → lo ≤ g ∧ g < hi
theorem OwnP.within {w : World} {B : Nat} {v : Value} {ps : Prs} (h : OwnP w B v ps) : Within B w.heap.size v ps := ⟨fun _ hg => h.rowBlock hg, fun p hp _ hg => (h.evs p hp).lt hg⟩
theorem owns_kept {lo hi : Nat} {w w' : World} {B e s n : Nat} {v : Value} {l : List Value} (h : w.ownsRow B e s v n l) (hk : KeptB lo hi w w') (hB : ∀ g, v.ownBlock = some g → g < lo ∨ hi ≤ g) : w'.ownsRow B e s v n l := by
  refine ⟨h.1, ?_⟩
  rcases h.2 with h0 | ⟨g, cap, cur, hv, hB', hb, r⟩
  · exact .inl h0
  · refine .inr ⟨g, cap, cur, hv, hB', ?_, r⟩
    have hlt : g < w.heap.size := by
      rcases Nat.lt_or_ge g w.heap.size with h' | h'
      · exact h'
      · rw [Array.getElem?_eq_none h'] at hb; cases hb
    rw [hk.block g hlt (hB g (by rw [hv]; rfl))]; exact hb
theorem OwnE.kept {lo hi B : Nat} {w w' : World} {v : Value} {es : Evs} (h : OwnE w B v es) (hk : KeptB lo hi w w') (hB : hi ≤ B) : OwnE w' B v es := owns_kept h hk (fun _ hg => .inr (Nat.le_trans hB (h.lt hg).1))
theorem OwnP.kept {lo hi B : Nat} {w w' : World} {v : Value} {ps : Prs} (h : OwnP w B v ps) (hk : KeptB lo hi w w') (hB : hi ≤ B) : OwnP w' B v ps :=
  ⟨owns_kept h.row hk (fun _ hg => .inr (Nat.le_trans hB (h.rowBlock hg).1)), fun p hp => (h.evs p hp).kept hk hB, h.ap⟩
theorem KeptB.wide {lo hi lo' hi' : Nat} {w w' : World} (h : KeptB lo hi w w') (h1 : lo' ≤ lo) (h2 : hi ≤ hi') : KeptB lo' hi' w w' :=
  ⟨h.os, h.tape, h.output, h.size, fun k hk hb => h.block k hk (by omega)⟩
def tlv (v : Value) : Value := .agg #[v]
end M
theorem info_br : (Tryz.prog.info? 81).map (fun i => (i.zero, i.size, i.bytes)) = some (some (.agg #[.slice none 0 0]), 1, 24) := by kernel_rfl
theorem make_brs (n : Nat) (h : n ≤ 1048576) (w : World) : (Instr.makeSlice 30 (.int .i64 (n : Int)) (.int .i64 (n : Int))).run Tryz.prog w = .ok (.slice (some ⟨w.heap.size, 0, none⟩) n n) (w.alloc (.cells (madeCells #[(.slice none 0 0 : Value)] n) 81)) := by
  obtain ⟨i, hi, hz0, hz1, hz2⟩ := info_parts info_br
  have hr := run_make (P := Tryz.prog) w 30 81 i _ Tryz.underlying30 hi hz0 .i64 .i64 (n : Int) (n : Int) (by omega) (Int.le_refl _) (by rw [hz2]; omega) (by omega)
  rw [hr, hz1]
  simp only [Int.toNat_natCast, Nat.mul_one]
  rfl
namespace M
theorem made_brs (w : World) (n : Nat) (h : n ≤ 1048576) : (w.alloc (.cells (madeCells #[(.slice none 0 0 : Value)] n) 81)).ownsRow w.heap.size 81 1 (.slice (some ⟨w.heap.size, 0, none⟩) n n) n (List.replicate n (.slice none 0 0)) := by
  have h1 := World.ownsRow_lit (base := w.heap.size) (e := 81) (size := 1) w (madeCells #[(.slice none 0 0 : Value)] n) n (Nat.le_refl _) (by unfold maxLen; omega) (by rw [size_madeCells]; omega)
  rw [toList_madeCells_one] at h1
  exact h1
end M
set_option maxHeartbeats 1000000 in
theorem sz_branch (u : Value) (es : Evs) (left : Int) (w : World) (hv : SliceOf w u es) (hlen : es.length ≤ maxLen) (hnm : ∀ e ∈ es, e.name.size ≤ maxLen) (hl0 : 0 ≤ left) (hl1 : left ≤ 1048576) :
    Calls Tryz.prog 141 #[.agg #[u], .int .i64 left] w fun e w' => e = .returned (.int .i64 (szr left (wt es))) ∧ Below w.heap.size w w' := by
  have HN := hide hnm
  clear hnm
  have ha := (Below.refl w.heap.size w).alloc (Nat.le_refl _) (.cells #[u] 171)
  have HV := hide (hv.below ha)
  obtain ⟨a, c, rfl⟩ := hv.form
  clear hv
  by_cases hfit : ((wt es : Nat) : Int) ≤ left
  · have hz := szr_yes hfit
    have hge : ¬ (szr left (wt es) < 0) := by rw [hz]; omega
    clear hz
    go_enter Tryz.func141, Tryz.ntmps141
    go_wp2_with fail
    refine (sz_evs _ es left _ HV.out hlen HN.out hl0 hl1).mono ?_
    rintro e w1 ⟨rfl, hb⟩
    have hb1 := ha.trans (hb.mono ha.size)
    clear hb ha
    go_wp2
    go_ret
    exact ⟨rfl, hb1⟩
  · have hz := szr_no (left := left) (n := wt es) (by omega)
    have hge : szr left (wt es) < 0 := by rw [hz]; omega
    have HZ := hide hz
    clear hz
    go_enter Tryz.func141, Tryz.ntmps141
    go_wp2_with fail
    refine (sz_evs _ es left _ HV.out hlen HN.out hl0 hl1).mono ?_
    rintro e w1 ⟨rfl, hb⟩
    have hb1 := ha.trans (hb.mono ha.size)
    clear hb ha
    go_wp2
    go_ret
    exact ⟨ret_int (by rw [HZ.out]), hb1⟩
set_option maxHeartbeats 1600000 in
theorem sz_brs (v : Value) (bs : Brs) (left : Int) (w : World) (hv : BrsOf w v bs) (hf : Fine bs) (hl0 : 0 ≤ left) (hl1 : left ≤ 1048576) :
    Calls Tryz.prog 92 #[v, .int .i64 left] w fun e w' => e = .returned (.int .i64 (szr left (bs.length + wb bs))) ∧ Below w.heap.size w w' := by
  have HV := hide hv
  have HF := hide hf.2
  have hlen := hf.1
  unfold maxLen at hlen
  obtain ⟨a, cap, rfl⟩ := hv.form
  clear hv hf
  by_cases hbig : left < (bs.length : Int)
  · have hge : (left - (bs.length : Int) < 0) := by omega
    have HZ := hide (szr_no (left := left) (n := bs.length + wb bs) (by omega))
    go_enter Tryz.func92, Tryz.ntmps92
    go_wp2
    go_ret
    exact ⟨ret_int (by rw [HZ.out]), Below.refl _ _⟩
  · have hge : ¬ (left - (bs.length : Int) < 0) := by omega
    go_enter Tryz.func92, Tryz.ntmps92
    go_wp2
    go_loopw [1, 5] (fun x i wr => ∃ k : Nat, k ≤ bs.length ∧ i = .int .i64 k ∧ x = .int .i64 (left - (bs.length : Int) - (wb (bs.take k) : Nat)) ∧ ((bs.length + wb (bs.take k) : Nat) : Int) ≤ left ∧ Below w.heap.size w wr) (fun _ i _ => bs.length - (intOf i).toNat)
    case atStart => exact ⟨0, Nat.zero_le _, rfl, by simp [wb], by simp [wb]; omega, Below.refl _ _⟩
    case round =>
      obtain ⟨k, hk, rfl, rfl, hfit, hbw⟩ := hrel
      by_cases hlt2 : k < bs.length
      · obtain ⟨es, he⟩ : ∃ e, bs[k]? = some e := ⟨bs[k], List.getElem?_eq_getElem hlt2⟩
        obtain ⟨b, off, rfl, hlt, a', c', hc, hs⟩ := (HV.out.below hbw).at he
        have HS := hide hs
        have HT := hide (wb_take bs k es he)
        have hm := HF.out es (List.mem_of_getElem? he)
        have HL := hide (wb_take_le bs (k + 1))
        have HM := hide hm.2
        have hml := hm.1
        clear HV he hm hs
        by_cases hfit2 : ((bs.length + wb (bs.take k) + wt es : Nat) : Int) ≤ left
        · have hz := szr_yes (left := left - (bs.length : Int) - ((wb (bs.take k) : Nat) : Int)) (n := wt es) (by omega)
          have hge2 : ¬ (szr (left - (bs.length : Int) - ((wb (bs.take k) : Nat) : Int)) (wt es) < 0) := by rw [hz]; omega
          have HZ := hide hz
          clear hz
          go_wp2_with fail
          refine (sz_branch _ es _ _ HS.out hml HM.out (by omega) (by omega)).mono ?_
          rintro e' w2 ⟨rfl, hb2⟩
          have hbw2 := hbw.trans (hb2.mono hbw.size)
          clear hb2 hc
          go_wp2
          go_roundw
          case rel => exact ⟨k + 1, by omega, by go_num, by rw [HT.out, HZ.out]; go_num, by rw [HT.out]; omega, hbw2⟩
          case measure => simp [intOf]; omega
        · have hz := szr_no (left := left - (bs.length : Int) - ((wb (bs.take k) : Nat) : Int)) (n := wt es) (by omega)
          have hge2 : szr (left - (bs.length : Int) - ((wb (bs.take k) : Nat) : Int)) (wt es) < 0 := by rw [hz]; omega
          have HZ := hide (szr_no (left := left) (n := bs.length + wb bs) (by have := HT.out; have := HL.out; omega))
          clear hz
          go_wp2_with fail
          refine (sz_branch _ es _ _ HS.out hml HM.out (by omega) (by omega)).mono ?_
          rintro e' w2 ⟨rfl, hb2⟩
          have hbw2 := hbw.trans (hb2.mono hbw.size)
          clear hb2 hc
          go_wp2
          go_ret
          exact ⟨ret_int (by rw [HZ.out]), hbw2⟩
      · rw [List.take_of_length_le (by omega)] at hfit ⊢
        have HZ := hide (szr_yes (left := left) (n := bs.length + wb bs) hfit)
        clear HV
        go_wp2
        go_ret
        exact ⟨ret_int (by rw [HZ.out]; omega), hbw⟩
set_option maxHeartbeats 1000000 in
theorem sz_tell (v : Value) (bs : Brs) (left : Int) (w : World) (hv : BrsOf w v bs) (hf : Fine bs) (hl0 : 0 ≤ left) (hl1 : left ≤ 1048576) :
    Calls Tryz.prog 50 #[.agg #[v], .int .i64 left] w fun e w' => e = .returned (.int .i64 (szr left (bs.length + wb bs))) ∧ Below w.heap.size w w' := by
  have HF := hide hf
  clear hf
  have ha := (Below.refl w.heap.size w).alloc (Nat.le_refl _) (.cells #[v] 24)
  have HV := hide (hv.below ha)
  obtain ⟨a, c, rfl⟩ := hv.form
  clear hv
  by_cases hfit : ((bs.length + wb bs : Nat) : Int) ≤ left
  · have hz := szr_yes hfit
    have hge : ¬ (szr left (bs.length + wb bs) < 0) := by rw [hz]; omega
    clear hz
    go_enter Tryz.func50, Tryz.ntmps50
    go_wp2_with fail
    refine (sz_brs _ bs left _ HV.out HF.out hl0 hl1).mono ?_
    rintro e w1 ⟨rfl, hb⟩
    have hb1 := ha.trans (hb.mono ha.size)
    clear hb ha
    go_wp2
    go_ret
    exact ⟨rfl, hb1⟩
  · have hz := szr_no (left := left) (n := bs.length + wb bs) (by omega)
    have hge : szr left (bs.length + wb bs) < 0 := by rw [hz]; omega
    have HZ := hide hz
    clear hz
    go_enter Tryz.func50, Tryz.ntmps50
    go_wp2_with fail
    refine (sz_brs _ bs left _ HV.out HF.out hl0 hl1).mono ?_
    rintro e w1 ⟨rfl, hb⟩
    have hb1 := ha.trans (hb.mono ha.size)
    clear hb ha
    go_wp2
    go_ret
    exact ⟨ret_int (by rw [HZ.out]), hb1⟩
end Go.Proofs.YtfkeokglifpkoaaGreatDoor
