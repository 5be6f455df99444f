/-
  States in memory: blocks of six cells; what the law does with states: how much is left, copies in new memory, two that are told alike, marks that are written and found again.
-/
import Derived.Test.YtoengmekbpcocaaGreatDoorStG
namespace Go.Proofs.YtoengmekbpcocaaGreatDoor
open Go.RowKit M
open Clk (upd upd_same upd_other)
open Go.Sort (grow)
namespace M
def q6 (a b c d e f : Value) : Nat → Value := fun i => if i = 0 then a else if i = 1 then b else if i = 2 then c else if i = 3 then d else if i = 4 then e else f
theorem Blk.hex {w : World} {g : Nat} {a b c d e f : Value} {t : TypeId} (h : Blk w g 6 (q6 a b c d e f) t) : (w.cell? ⟨g, 0, none⟩ = some a ∧ w.cell? ⟨g, 1, none⟩ = some b ∧ w.cell? ⟨g, 2, none⟩ = some c ∧ w.cell? ⟨g, 3, none⟩ = some d ∧ w.cell? ⟨g, 4, none⟩ = some e ∧ w.cell? ⟨g, 5, none⟩ = some f) ∧ w.frozen? ⟨g, 0, none⟩ = false ∧ w.frozen? ⟨g, 1, none⟩ = false ∧ w.frozen? ⟨g, 2, none⟩ = false ∧ w.frozen? ⟨g, 3, none⟩ = false ∧ w.frozen? ⟨g, 4, none⟩ = false ∧ w.frozen? ⟨g, 5, none⟩ = false :=
  ⟨⟨h.cell (show 0 < 6 by omega), h.cell (show 1 < 6 by omega), h.cell (show 2 < 6 by omega), h.cell (show 3 < 6 by omega), h.cell (show 4 < 6 by omega), h.cell (show 5 < 6 by omega)⟩, h.thaw 0, h.thaw 1, h.thaw 2, h.thaw 3, h.thaw 4, h.thaw 5⟩
theorem new6 (w : World) (a b c d e f : Value) (t : TypeId) : Blk (w.alloc (.cells #[a, b, c, d, e, f] t)) w.heap.size 6 (q6 a b c d e f) t := Blk.fresh w _ 6 _ t rfl
theorem Blk.hex0 {w : World} {g : Nat} {a b c d e f : Value} {t : TypeId} (h : Blk w g 6 (q6 a b c d e f) t) (u : Value) : Blk (w.setCell ⟨g, 0, none⟩ u) g 6 (q6 u b c d e f) t :=
  (h.set 0 u).ext fun i hi => by match i, hi with
                                | 0, _ => rfl
                                | 1, _ => rfl
                                | 2, _ => rfl
                                | 3, _ => rfl
                                | 4, _ => rfl
                                | 5, _ => rfl
theorem Blk.hex1 {w : World} {g : Nat} {a b c d e f : Value} {t : TypeId} (h : Blk w g 6 (q6 a b c d e f) t) (u : Value) : Blk (w.setCell ⟨g, 1, none⟩ u) g 6 (q6 a u c d e f) t :=
  (h.set 1 u).ext fun i hi => by match i, hi with
                                | 0, _ => rfl
                                | 1, _ => rfl
                                | 2, _ => rfl
                                | 3, _ => rfl
                                | 4, _ => rfl
                                | 5, _ => rfl
theorem Blk.hex2 {w : World} {g : Nat} {a b c d e f : Value} {t : TypeId} (h : Blk w g 6 (q6 a b c d e f) t) (u : Value) : Blk (w.setCell ⟨g, 2, none⟩ u) g 6 (q6 a b u d e f) t :=
  (h.set 2 u).ext fun i hi => by match i, hi with
                                | 0, _ => rfl
                                | 1, _ => rfl
                                | 2, _ => rfl
                                | 3, _ => rfl
                                | 4, _ => rfl
                                | 5, _ => rfl
theorem Blk.hex3 {w : World} {g : Nat} {a b c d e f : Value} {t : TypeId} (h : Blk w g 6 (q6 a b c d e f) t) (u : Value) : Blk (w.setCell ⟨g, 3, none⟩ u) g 6 (q6 a b c u e f) t :=
  (h.set 3 u).ext fun i hi => by match i, hi with
                                | 0, _ => rfl
                                | 1, _ => rfl
                                | 2, _ => rfl
                                | 3, _ => rfl
                                | 4, _ => rfl
                                | 5, _ => rfl
theorem Blk.hex4 {w : World} {g : Nat} {a b c d e f : Value} {t : TypeId} (h : Blk w g 6 (q6 a b c d e f) t) (u : Value) : Blk (w.setCell ⟨g, 4, none⟩ u) g 6 (q6 a b c d u f) t :=
  (h.set 4 u).ext fun i hi => by match i, hi with
                                | 0, _ => rfl
                                | 1, _ => rfl
                                | 2, _ => rfl
                                | 3, _ => rfl
                                | 4, _ => rfl
                                | 5, _ => rfl
theorem Blk.hex5 {w : World} {g : Nat} {a b c d e f : Value} {t : TypeId} (h : Blk w g 6 (q6 a b c d e f) t) (u : Value) : Blk (w.setCell ⟨g, 5, none⟩ u) g 6 (q6 a b c d e u) t :=
  (h.set 5 u).ext fun i hi => by match i, hi with
                                | 0, _ => rfl
                                | 1, _ => rfl
                                | 2, _ => rfl
                                | 3, _ => rfl
                                | 4, _ => rfl
                                | 5, _ => rfl
theorem put6 {w W : World} {g : Nat} {a b c d e f : Value} {t : TypeId} (h : Blk W g 6 (q6 a b c d e f) t) (hb : Below w.heap.size w W) (hg : w.heap.size ≤ g) (x0 x1 x2 x3 x4 x5 : Value) : ∀ WZ, ((((((W.setCell ⟨g, 0, none⟩ x0).setCell ⟨g, 1, none⟩ x1).setCell ⟨g, 2, none⟩ x2).setCell ⟨g, 3, none⟩ x3).setCell ⟨g, 4, none⟩ x4).setCell ⟨g, 5, none⟩ x5) = WZ →
    Blk WZ g 6 (q6 x0 x1 x2 x3 x4 x5) t ∧ Below w.heap.size w WZ ∧ W.grownBy WZ (some g) := by
  rintro WZ rfl
  exact ⟨((((((h.hex0 _).hex1 _).hex2 _).hex3 _).hex4 _).hex5 _), ((((((hb.setCell (p := ⟨g, 0, none⟩) hg _).setCell (p := ⟨g, 1, none⟩) hg _).setCell (p := ⟨g, 2, none⟩) hg _).setCell (p := ⟨g, 3, none⟩) hg _).setCell (p := ⟨g, 4, none⟩) hg _).setCell (p := ⟨g, 5, none⟩) hg _), (gbT_set (o := 5) (v := x5) (gbT_set (o := 4) (v := x4) (gbT_set (o := 3) (v := x3) (gbT_set (o := 2) (v := x2) (gbT_set (o := 1) (v := x1) (gbT_set (o := 0) (v := x0) (gbT_refl W (some g))))))))⟩
theorem Blk.gb {w w' : World} {g n : Nat} {f : Nat → Value} {t : TypeId} {row : Option Nat} (h : Blk w g n f t) (hg : w.grownBy w' row) (hne : some g ≠ row) : Blk w' g n f t := by
  unfold Blk; rw [hg.block g h.lt hne]; exact h
theorem gbT_low {w w' : World} {B : Nat} {row : Option Nat} (h : w.grownBy w' row) (hB : ∀ g, row = some g → B ≤ g) (hs : B ≤ w.heap.size) : Below B w w' :=
  ⟨h.os, h.tape, h.output, h.size, fun k hk => h.block k (by omega) (fun e => by have := hB k e.symm; omega)⟩
theorem OwnT.set_other {w : World} {B : Nat} {v : Value} {l : Txs} (h : OwnT w B v l) {g : Nat} (hne : g < B) (o : Nat) (u : Value) : OwnT (w.setCell ⟨g, o, none⟩ u) B v l :=
  h.other (gbT_set (gbT_refl w (some g))) (fun g' hg' e => by
    have := (h.lt hg').1
    simp only [Option.some.injEq] at e
    omega)
/-- A state as a value, its lists as v0 and v1. -/
abbrev stv (v0 v1 : Value) (s : St) : Value := .agg #[.int .i64 s.st, .int .i64 s.nx, .bool s.ca, .int .i64 s.dn, v0, v1]
abbrev sq (v0 v1 : Value) (s : St) : Nat → Value := q6 (.int .i64 s.st) (.int .i64 s.nx) (.bool s.ca) (.int .i64 s.dn) v0 v1
abbrev sarr (v0 v1 : Value) (s : St) : Array Value := #[.int .i64 s.st, .int .i64 s.nx, .bool s.ca, .int .i64 s.dn, v0, v1]
/-- A state's lists, read; within their capacities, too. -/
def StQ (w : World) (v0 v1 : Value) (s : St) : Prop := TxsOf w v0 s.sg ∧ TxsOf w v1 s.tm
def StC (w : World) (v0 v1 : Value) (s : St) : Prop := TxC w v0 s.sg ∧ TxC w v1 s.tm
theorem StQ.below {w w' : World} {v0 v1 : Value} {s : St} (h : StQ w v0 v1 s) (hb : Below w.heap.size w w') : StQ w' v0 v1 s := ⟨h.1.below hb, h.2.below hb⟩
theorem StC.below {w w' : World} {v0 v1 : Value} {s : St} (h : StC w v0 v1 s) (hb : Below w.heap.size w w') : StC w' v0 v1 s := ⟨h.1.below hb, h.2.below hb⟩
theorem StC.q {w : World} {v0 v1 : Value} {s : St} (h : StC w v0 v1 s) : StQ w v0 v1 s := ⟨h.1.1, h.2.1⟩
def LensT (s : St) : Prop := (s.sg.length ≤ maxLen ∧ ∀ x ∈ s.sg, x.size ≤ maxLen) ∧ (s.tm.length ≤ maxLen ∧ ∀ x ∈ s.tm, x.size ≤ maxLen)
def ShortT (s : St) : Prop := s.sg.length ≤ 1048576 ∧ s.tm.length ≤ 1048576
def NmT (s : St) : Prop := (∀ x ∈ s.sg, x.size ≤ maxLen) ∧ ∀ x ∈ s.tm, x.size ≤ maxLen
/-- Two slices in unlike blocks. -/
def Apart (v0 v1 : Value) : Prop := ∀ g, v0.ownBlock = some g → v1.ownBlock ≠ some g
/-- A state's lists in memory of the call's own, from block lo up to hi, apart from each other. -/
structure AnsL (w : World) (lo hi : Nat) (v0 v1 : Value) (l0 l1 : Txs) : Prop where
  o0 : OwnT w lo v0 l0
  o1 : OwnT w lo v1 l1
  ap : Apart v0 v1
  h0 : ∀ g, v0.ownBlock = some g → g < hi
  h1 : ∀ g, v1.ownBlock = some g → g < hi
theorem AnsL.down {w w' : World} {lo hi : Nat} {v0 v1 : Value} {l0 l1 : Txs} (h : AnsL w lo hi v0 v1 l0 l1) (hb : Below w.heap.size w w') : AnsL w' lo hi v0 v1 l0 l1 := ⟨h.o0.down hb, h.o1.down hb, h.ap, h.h0, h.h1⟩
theorem AnsL.mono {w : World} {lo hi lo' hi' : Nat} {v0 v1 : Value} {l0 l1 : Txs} (h : AnsL w lo hi v0 v1 l0 l1) (hl : lo' ≤ lo) (hh : hi ≤ hi') : AnsL w lo' hi' v0 v1 l0 l1 :=
  ⟨h.o0.mono hl, h.o1.mono hl, h.ap, fun g hg => by have := h.h0 g hg; omega, fun g hg => by have := h.h1 g hg; omega⟩
theorem AnsL.of {w : World} {lo : Nat} {v0 v1 : Value} {l0 l1 : Txs} (h0 : OwnT w lo v0 l0) (h1 : OwnT w lo v1 l1) (ha : Apart v0 v1) : AnsL w lo w.heap.size v0 v1 l0 l1 :=
  ⟨h0, h1, ha, fun _ hg => (h0.lt hg).2, fun _ hg => (h1.lt hg).2⟩
theorem AnsL.c {w : World} {lo hi : Nat} {v0 v1 : Value} {s : St} (h : AnsL w lo hi v0 v1 s.sg s.tm) : StC w v0 v1 s := ⟨h.o0.c, h.o1.c⟩
theorem AnsL.q {w : World} {lo hi : Nat} {v0 v1 : Value} {s : St} (h : AnsL w lo hi v0 v1 s.sg s.tm) : StQ w v0 v1 s := h.c.q
/-- Only blocks from lo to hi may have turned, of those that were there. -/
structure KeptB (lo hi : Nat) (w w' : World) : Prop where
  os : w'.os = w.os
  tape : w'.tape = w.tape
  output : w'.output = w.output
  size : w.heap.size ≤ w'.heap.size
  block : ∀ k, k < w.heap.size → k < lo ∨ hi ≤ k → w'.heap[k]? = w.heap[k]?
theorem KeptB.refl (lo hi : Nat) (w : World) : KeptB lo hi w w := ⟨rfl, rfl, rfl, Nat.le_refl _, fun _ _ _ => rfl⟩
theorem KeptB.trans {lo hi : Nat} {a b c : World} (h : KeptB lo hi a b) (h2 : KeptB lo hi b c) : KeptB lo hi a c :=
  ⟨h2.os.trans h.os, h2.tape.trans h.tape, h2.output.trans h.output, Nat.le_trans h.size h2.size, fun k hk hl => (h2.block k (Nat.lt_of_lt_of_le hk h.size) hl).trans (h.block k hk hl)⟩
theorem Below.keptB {w w1 : World} (h : Below w.heap.size w w1) (lo hi : Nat) : KeptB lo hi w w1 := ⟨h.os, h.tape, h.output, h.size, fun k hk _ => h.block k hk⟩
theorem KeptB.of {w w' : World} {row : Option Nat} {lo hi : Nat} (h : w.grownBy w' row) (hr : ∀ g, row = some g → lo ≤ g ∧ g < hi) : KeptB lo hi w w' :=
  ⟨h.os, h.tape, h.output, h.size, fun k hk hl => h.block k hk (fun e => by have := hr k e.symm; omega)⟩
theorem KeptB.below {lo hi B : Nat} {w w' : World} (h : KeptB lo hi w w') (h1 : B ≤ lo) (h2 : B ≤ w.heap.size) : Below B w w' :=
  ⟨h.os, h.tape, h.output, h.size, fun k hk => h.block k (by omega) (.inl (by omega))⟩
theorem KeptB.blk {lo hi : Nat} {w w' : World} (h : KeptB lo hi w w') {g n : Nat} {f : Nat → Value} {t : TypeId} (hb : Blk w g n f t) (hg : g < lo ∨ hi ≤ g) : Blk w' g n f t := by
  unfold Blk; rw [h.block g hb.lt hg]; exact hb
theorem OwnT.keptB {lo hi : Nat} {w w' : World} {B : Nat} {v : Value} {l : Txs} (h : OwnT w B v l) (hk : KeptB lo hi w w') (hB : hi ≤ B) : OwnT w' B v l := by
  refine ⟨h.1, ?_⟩
  rcases h.2 with h0 | ⟨g, cap, cur, hv, hBg, hb, r⟩
  · exact .inl h0
  · refine .inr ⟨g, cap, cur, hv, hBg, ?_, r⟩
    rw [hk.block g ?_ (.inr (by omega))]
    · exact hb
    · rcases Nat.lt_or_ge g w.heap.size with h' | h'
      · exact h'
      · rw [Array.getElem?_eq_none h'] at hb; cases hb
theorem AnsL.kept {w w' : World} {lo hi lo' hi' : Nat} {v0 v1 : Value} {l0 l1 : Txs} (h : AnsL w lo hi v0 v1 l0 l1) (hk : KeptB lo' hi' w w') (hB : hi' ≤ lo) : AnsL w' lo hi v0 v1 l0 l1 :=
  ⟨h.o0.keptB hk hB, h.o1.keptB hk hB, h.ap, h.h0, h.h1⟩
end M
set_option maxHeartbeats 1000000 in
theorem eq_state (v0 v1 u0 u1 : Value) (s : St) (w : World) (hv : StQ w v0 v1 s) (hu : StQ w u0 u1 s) (hs : ShortT s) :
    Calls Tryz.prog 48 #[stv v0 v1 s, stv u0 u1 s] w fun e w' => e = .returned (.bool true) ∧ Below w.heap.size w w' := by
  obtain ⟨a0, c0, rfl⟩ := hv.1.form
  obtain ⟨a1, c1, rfl⟩ := hv.2.form
  obtain ⟨a3, c3, rfl⟩ := hu.1.form
  obtain ⟨a4, c4, rfl⟩ := hu.2.form
  have hb0 := ((Below.refl w.heap.size w).alloc (Nat.le_refl _) (.cells (sarr (.slice a0 s.sg.length c0) (.slice a1 s.tm.length c1) s) 69)).alloc (by simp) (.cells (sarr (.slice a3 s.sg.length c3) (.slice a4 s.tm.length c4) s) 69)
  have HM0 := hide (show Blk ((w.alloc (.cells (sarr (.slice a0 s.sg.length c0) (.slice a1 s.tm.length c1) s) 69)).alloc (.cells (sarr (.slice a3 s.sg.length c3) (.slice a4 s.tm.length c4) s) 69)) w.heap.size 6 (sq (.slice a0 s.sg.length c0) (.slice a1 s.tm.length c1) s) 69 from (new6 w _ _ _ _ _ _ 69).alloc _)
  have HN0 := hide (show Blk ((w.alloc (.cells (sarr (.slice a0 s.sg.length c0) (.slice a1 s.tm.length c1) s) 69)).alloc (.cells (sarr (.slice a3 s.sg.length c3) (.slice a4 s.tm.length c4) s) 69)) (w.heap.size + 1) 6 (sq (.slice a3 s.sg.length c3) (.slice a4 s.tm.length c4) s) 69 from by
    have := new6 (w.alloc (.cells (sarr (.slice a0 s.sg.length c0) (.slice a1 s.tm.length c1) s) 69)) (.int .i64 s.st) (.int .i64 s.nx) (.bool s.ca) (.int .i64 s.dn) (.slice a3 s.sg.length c3) (.slice a4 s.tm.length c4) 69
    rw [World.size_alloc] at this; exact this)
  have HV := hide hv
  have HU := hide hu
  have HS := hide hs
  have hx0 : (s.st != s.st) = false := by simp
  have hx1 : (s.nx != s.nx) = false := by simp
  have hx2 : (s.ca != s.ca) = false := by simp
  have hx3 : (s.dn != s.dn) = false := by simp
  clear hv hu hs
  go_enter Tryz.func48, Tryz.ntmps48
  go_wp2_with fail
  refine (eq_txs _ _ s.sg _ (HV.out.1.below hb0) (HU.out.1.below hb0) HS.out.1).mono ?_
  rintro e w1 ⟨rfl, hb⟩
  have hb1 := hb0.trans (hb.mono hb0.size)
  have HM1 := hide (HM0.out.down hb)
  have HN1 := hide (HN0.out.down hb)
  obtain ⟨⟨-, -, -, -, -, m5⟩, -⟩ := HM1.out.hex
  obtain ⟨⟨-, -, -, -, -, n5⟩, -⟩ := HN1.out.hex
  clear hb hb0 HM0 HN0
  go_wp2_with fail
  refine (eq_txs _ _ s.tm _ (HV.out.2.below hb1) (HU.out.2.below hb1) HS.out.2).mono ?_
  rintro e w2 ⟨rfl, hb⟩
  have hb2 := hb1.trans (hb.mono hb1.size)
  clear hb hb1 HM1 HN1 m5 n5
  go_wp2
  go_ret
  exact ⟨rfl, hb2⟩
set_option maxHeartbeats 1000000 in
theorem mark_state (lo hi : Nat) (v0 v1 : Value) (s : St) (w : World) (h : AnsL w lo hi v0 v1 s.sg s.tm) (hs : ShortT s) (hhi : hi ≤ w.heap.size) :
    Calls Tryz.prog 49 #[stv v0 v1 s, .int .i64 1] w fun e w' => e = .returned (.int .i64 ((1 + s.sg.length + s.tm.length : Nat) : Int)) ∧ AnsL w' lo hi v0 v1 (mks 1 s.sg.length) (mks (1 + s.sg.length) s.tm.length) ∧ KeptB lo hi w w' := by
  obtain ⟨a0, c0, rfl⟩ := h.o0.form
  obtain ⟨a1, c1, rfl⟩ := h.o1.form
  have hbA := (Below.refl w.heap.size w).alloc (Nat.le_refl _) (.cells (sarr (.slice a0 s.sg.length c0) (.slice a1 s.tm.length c1) s) 69)
  have HN := hide (show Blk (w.alloc (.cells (sarr (.slice a0 s.sg.length c0) (.slice a1 s.tm.length c1) s) 69)) w.heap.size 6 (sq (.slice a0 s.sg.length c0) (.slice a1 s.tm.length c1) s) 69 from new6 w _ _ _ _ _ _ 69)
  have HV := hide (h.down hbA)
  have HS := hide hs
  clear h hs
  go_enter Tryz.func49, Tryz.ntmps49
  go_wp2_with fail
  refine (mark_txs lo 1 _ s.sg _ HV.out.o0 HS.out.1 (by omega) (by omega)).mono ?_
  rintro e w1 ⟨rfl, h1, hg⟩
  have hk := KeptB.of (lo := lo) (hi := hi) hg (fun g hg => ⟨(HV.out.o0.lt hg).1, HV.out.h0 g hg⟩)
  have HO1 := hide (HV.out.o1.other hg (fun g hg e => HV.out.ap g e.symm hg))
  have HO0 := hide h1
  have hk1 := (Below.keptB hbA lo hi).trans hk
  obtain ⟨⟨-, -, -, -, -, d5⟩, -⟩ := (hk.blk HN.out (.inr hhi)).hex
  clear h1 hg hk HN hbA
  obtain ⟨m, hm⟩ : ∃ m, 1 + s.sg.length = m := ⟨_, rfl⟩
  have hm1 : m ≤ 10000000 := by have := HS.out.1; omega
  have hm2 : 1 ≤ m := by omega
  rw [hm]
  have HM := hide hm
  clear hm
  go_wp2_with fail
  refine (mark_txs lo m _ s.tm _ HO1.out HS.out.2 hm2 hm1).mono ?_
  rintro e w2 ⟨rfl, h2, hg⟩
  have hk := KeptB.of (lo := lo) (hi := hi) hg (fun g hg => ⟨(HO1.out.lt hg).1, HV.out.h1 g hg⟩)
  have hk2 := hk1.trans hk
  have HQ := hide (show AnsL w2 lo hi (.slice a0 s.sg.length c0) (.slice a1 s.tm.length c1) (mks 1 s.sg.length) (mks m s.tm.length) from
    ⟨HO0.out.other hg (fun g hg e => HV.out.ap g hg e.symm), h2, HV.out.ap, HV.out.h0, HV.out.h1⟩)
  obtain ⟨m2, hm2⟩ : ∃ m2, m + s.tm.length = m2 := ⟨_, rfl⟩
  have HM2 := hide hm2
  rw [hm2]
  clear hm2 HO0 HO1 HS h2 hk hg hk1 d5 HV
  go_wp2
  go_ret
  exact ⟨by have e1 := HM.out; have e2 := HM2.out; subst e1; subst e2; rfl, by rw [HM.out]; exact HQ.out, hk2⟩
set_option maxHeartbeats 1000000 in
theorem held_state (lo hi : Nat) (v0 v1 : Value) (s : St) (w : World) (h : AnsL w lo hi v0 v1 (mks 1 s.sg.length) (mks (1 + s.sg.length) s.tm.length)) (hs : ShortT s) :
    Calls Tryz.prog 50 #[stv v0 v1 s, .int .i64 1] w fun e w' => e = .returned (.int .i64 ((1 + s.sg.length + s.tm.length : Nat) : Int)) ∧ Below w.heap.size w w' := by
  obtain ⟨a0, c0, rfl⟩ := h.o0.form
  obtain ⟨a1, c1, rfl⟩ := h.o1.form
  rw [mks_len, mks_len] at *
  have hbA := (Below.refl w.heap.size w).alloc (Nat.le_refl _) (.cells (sarr (.slice a0 s.sg.length c0) (.slice a1 s.tm.length c1) s) 69)
  have HN := hide (show Blk (w.alloc (.cells (sarr (.slice a0 s.sg.length c0) (.slice a1 s.tm.length c1) s) 69)) w.heap.size 6 (sq (.slice a0 s.sg.length c0) (.slice a1 s.tm.length c1) s) 69 from new6 w _ _ _ _ _ _ 69)
  have HV := hide (h.down hbA)
  have HS := hide hs
  clear h hs
  go_enter Tryz.func50, Tryz.ntmps50
  go_wp2_with fail
  refine (held_txs _ 1 s.sg.length _ HV.out.o0.txs HS.out.1 (by omega) (by omega)).mono ?_
  rintro e w1 ⟨rfl, hb⟩
  have hb1 := hbA.trans (hb.mono hbA.size)
  have HO1 := hide (HV.out.o1.down hb).txs
  obtain ⟨⟨-, -, -, -, -, d5⟩, -⟩ := (HN.out.down hb).hex
  clear hb hbA HN HV
  obtain ⟨m, hm⟩ : ∃ m, 1 + s.sg.length = m := ⟨_, rfl⟩
  have hm1 : m ≤ 10000000 := by have := HS.out.1; omega
  have hm2 : 1 ≤ m := by omega
  have hmn : ¬ ((m : Int) < 0) := by omega
  rw [hm] at HO1 ⊢
  have HM := hide hm
  clear hm
  go_wp2_with fail
  refine (held_txs _ m s.tm.length _ HO1.out HS.out.2 hm2 hm1).mono ?_
  rintro e w2 ⟨rfl, hb⟩
  have hb2 := hb1.trans (hb.mono hb1.size)
  obtain ⟨m2, hm2⟩ : ∃ m2, m + s.tm.length = m2 := ⟨_, rfl⟩
  have hmn2 : ¬ ((m2 : Int) < 0) := by omega
  have HM2 := hide hm2
  rw [hm2]
  clear hm2 HO1 HS hb hb1 d5
  go_wp2
  go_ret
  exact ⟨by have e1 := HM.out; have e2 := HM2.out; subst e1; subst e2; rfl, hb2⟩
end Go.Proofs.YtoengmekbpcocaaGreatDoor
