/-
  What the law of ApplyEvent keeps: copies that are made in any order, the box of an answer, marks on lists.
-/
import Derived.Test.YtglpkikncgdghaaDoorStW
import Derived.Test.YtglpkikncgdghaaDoorEvM
import Derived.Deep.RegionWith
import Derived.Deep.RegionHeld3
import Derived.Deep.Cut
namespace Go.Proofs.YtglpkikncgdghaaDoor
open Go.RowKit M
open Clk (upd upd_same upd_other)
open Go.Sort (grow)
namespace M
/-- While an answer is made: the box of the answer, if it is there yet, and the copy of the state. -/
structure ST (A W : World) (s : St) (o : Option Nat) (c : Option (Value × Value)) : Prop where
  low : Below A.heap.size A W
  box : ∀ g, o = some g → Blk W g 6 (q6 (.int .i64 0) (.int .i64 0) (.bool false) (.int .i64 0) (.slice none 0 0) (.slice none 0 0)) 29 ∧ A.heap.size ≤ g
  cp : ∀ u, c = some u → StC W u.1 u.2 s
theorem ST.down {A W W' : World} {s : St} {o : Option Nat} {c : Option (Value × Value)} (h : ST A W s o c) (hb : Below W.heap.size W W') : ST A W' s o c :=
  ⟨h.low.trans (hb.mono h.low.size), fun g hg => ⟨(h.box g hg).1.down hb, (h.box g hg).2⟩, fun u hu => (h.cp u hu).below hb⟩
theorem ST.alloc {A W : World} {s : St} {c : Option (Value × Value)} (h : ST A W s none c) : ST A (W.alloc (.cells zarr 29)) s (some W.heap.size) c := by
  have hd := (Below.refl W.heap.size W).alloc (Nat.le_refl _) (.cells zarr 29)
  refine ⟨h.low.trans (hd.mono h.low.size), fun g hg => ?_, fun u hu => (h.cp u hu).below hd⟩
  simp only [Option.some.injEq] at hg
  subst hg
  exact ⟨new6 W _ _ _ _ _ _ 29, h.low.size⟩
theorem ST.alloc1 {A W : World} {s : St} {c : Option (Value × Value)} (h : ST A W s none c) : ST A (W.alloc (.cells zarr 29)).drew s (some W.heap.size) c := by
  have h2 := h.alloc
  exact ⟨h2.low.drew, h2.box, fun u hu => ⟨(h2.cp u hu).1.below (Below.refl _ _).drew, (h2.cp u hu).2.below (Below.refl _ _).drew⟩⟩
/-- Behind the call: the answer r with its lists, the box, if it is there. -/
structure SV (A W : World) (o : Option Nat) (y0 y1 : Value) (r : St) : Prop where
  low : Below A.heap.size A W
  box : ∀ g, o = some g → Blk W g 6 (q6 (.int .i64 0) (.int .i64 0) (.bool false) (.int .i64 0) (.slice none 0 0) (.slice none 0 0)) 29 ∧ A.heap.size ≤ g
  ans : AnsL W A.heap.size W.heap.size y0 y1 r.sg r.tm
theorem SV.drew {A W : World} {o : Option Nat} {y0 y1 : Value} {r : St} (h : SV A W o y0 y1 r) : SV A W.drew o y0 y1 r := ⟨h.low.drew, h.box, h.ans.down (Below.refl _ _).drew⟩
/-- The answer in its box. -/
structure LX (A W : World) (g : Nat) (y0 y1 : Value) (r : St) : Prop where
  low : Below A.heap.size A W
  box : Blk W g 6 (sq y0 y1 r) 29
  lo : A.heap.size ≤ g
  ans : AnsL W A.heap.size W.heap.size y0 y1 r.sg r.tm
theorem SV.set {A W : World} {g : Nat} {y0 y1 : Value} {r : St} (h : SV A W (some g) y0 y1 r) : LX A ((((((W.setCell ⟨g, 0, none⟩ (.int .i64 r.st)).setCell ⟨g, 1, none⟩ (.int .i64 r.nx)).setCell ⟨g, 2, none⟩ (.bool r.ca)).setCell ⟨g, 3, none⟩ (.int .i64 r.dn)).setCell ⟨g, 4, none⟩ y0).setCell ⟨g, 5, none⟩ y1) g y0 y1 r := by
  obtain ⟨hb, hlo⟩ := h.box g rfl
  obtain ⟨k1, k2, k3⟩ := put6 (w := A) hb h.low hlo (.int .i64 r.st) (.int .i64 r.nx) (.bool r.ca) (.int .i64 r.dn) y0 y1 _ rfl
  have n0 := h.ans.o0.ne_blk hb (by decide)
  have n1 := h.ans.o1.ne_blk hb (by decide)
  exact ⟨k2, k1, hlo, AnsL.of (h.ans.o0.other k3 (fun q hq e => n0 (by rw [hq, e]))) (h.ans.o1.other k3 (fun q hq e => n1 (by rw [hq, e]))) h.ans.ap⟩
theorem SV.fresh {A W : World} {o : Option Nat} {y0 y1 : Value} {r : St} (h : SV A W o y0 y1 r) : LX A (W.alloc (.cells (sarr y0 y1 r) 29)) W.heap.size y0 y1 r := by
  have hd := (Below.refl W.heap.size W).alloc (Nat.le_refl _) (.cells (sarr y0 y1 r) 29)
  exact ⟨h.low.trans (hd.mono h.low.size), new6 W _ _ _ _ _ _ 29, h.low.size, (h.ans.down hd).mono (Nat.le_refl _) hd.size⟩
/-- Only two rows may have turned. -/
structure Mk2 (v0 v1 : Value) (w w' : World) : Prop where
  os : w'.os = w.os
  tape : w'.tape = w.tape
  output : w'.output = w.output
  size : w.heap.size ≤ w'.heap.size
  block : ∀ k, k < w.heap.size → some k ≠ v0.ownBlock → some k ≠ v1.ownBlock → w'.heap[k]? = w.heap[k]?
theorem Mk2.low {v0 v1 : Value} {w w' : World} {B : Nat} (h : Mk2 v0 v1 w w') (h0 : ∀ g, v0.ownBlock = some g → B ≤ g) (h1 : ∀ g, v1.ownBlock = some g → B ≤ g) (hB : B ≤ w.heap.size) : Below B w w' :=
  ⟨h.os, h.tape, h.output, h.size, fun k hk => h.block k (by omega) (fun e => by have := h0 k e.symm; omega) (fun e => by have := h1 k e.symm; omega)⟩
theorem Mk2.blk {v0 v1 : Value} {w w' : World} {g n : Nat} {f : Nat → Value} {t : TypeId} (h : Mk2 v0 v1 w w') (hb : Blk w g n f t) (h0 : v0.ownBlock ≠ some g) (h1 : v1.ownBlock ≠ some g) : Blk w' g n f t := by
  unfold Blk; rw [h.block g hb.lt (fun e => h0 e.symm) (fun e => h1 e.symm)]; exact hb
theorem Mk2.own {v0 v1 v : Value} {w w' : World} {B : Nat} {l : Txs} (h : Mk2 v0 v1 w w') (ho : OwnT w B v l) (hne : ∀ g, v.ownBlock = some g → v0.ownBlock ≠ some g ∧ v1.ownBlock ≠ some g) : OwnT w' B v l := by
  refine ⟨ho.1, ?_⟩
  rcases ho.2 with h0 | ⟨g, cap, cur, hv, hBg, hb, r⟩
  · exact .inl h0
  · refine .inr ⟨g, cap, cur, hv, hBg, ?_, r⟩
    have hn := hne g (by rw [hv]; rfl)
    rw [h.block g ?_ (fun e => hn.1 e.symm) (fun e => hn.2 e.symm)]
    · exact hb
    · rcases Nat.lt_or_ge g w.heap.size with h' | h'
      · exact h'
      · rw [Array.getElem?_eq_none h'] at hb; cases hb
theorem mk2_of {v0 v1 : Value} {a b c : World} (h : a.grownBy b v0.ownBlock) (h2 : b.grownBy c v1.ownBlock) : Mk2 v0 v1 a c :=
  ⟨h2.os.trans h.os, h2.tape.trans h.tape, h2.output.trans h.output, Nat.le_trans h.size h2.size, fun k hk n0 n1 => (h2.block k (Nat.lt_of_lt_of_le hk h.size) n1).trans (h.block k hk n0)⟩
end M
set_option maxHeartbeats 1000000 in
theorem mark_state2 (lo hi : Nat) (v0 v1 : Value) (s : St) (w : World) (h : AnsL w lo hi v0 v1 s.sg s.tm) (hs : ShortT s) :
    Calls Tryd.prog 16 #[stv v0 v1 s, .int .i64 1] w fun e w' => e = .returned (.int .i64 ((1 + s.sg.length + s.tm.length : Nat) : Int)) ∧ AnsL w' lo hi v0 v1 (mks 1 s.sg.length) (mks (1 + s.sg.length) s.tm.length) ∧ Mk2 v0 v1 w w' := by
  obtain ⟨a0, c0, rfl⟩ := h.o0.form
  obtain ⟨a1, c1, rfl⟩ := h.o1.form
  have hbA := (Below.refl w.heap.size w).alloc (Nat.le_refl _) (.cells (sarr (.slice a0 s.sg.length c0) (.slice a1 s.tm.length c1) s) 29)
  have HN := hide (show Blk (w.alloc (.cells (sarr (.slice a0 s.sg.length c0) (.slice a1 s.tm.length c1) s) 29)) w.heap.size 6 (sq (.slice a0 s.sg.length c0) (.slice a1 s.tm.length c1) s) 29 from new6 w _ _ _ _ _ _ 29)
  have HV := hide (h.down hbA)
  have HS := hide hs
  have HA := hide hbA
  clear h hs hbA
  go_enter Tryd.func16, Tryd.ntmps16
  go_wp2_with fail
  refine (mark_txs lo 1 _ s.sg _ HV.out.o0 HS.out.1 (by omega) (by omega)).mono ?_
  rintro e w1 ⟨rfl, h1, hg⟩
  have HG1 := hide hg
  have HO1 := hide (HV.out.o1.other hg (fun g hg e => HV.out.ap g e.symm hg))
  have HO0 := hide h1
  obtain ⟨⟨-, -, -, -, -, d5⟩, -⟩ := (HN.out.gb hg (fun e => HV.out.o0.ne_blk HN.out (by decide) e.symm)).hex
  clear h1 hg HN
  obtain ⟨m, hm⟩ : ∃ m, 1 + s.sg.length = m := ⟨_, rfl⟩
  have hm1 : m ≤ 10000000 := by have := HS.out.1; omega
  have hm2 : 1 ≤ m := by omega
  rw [hm]
  have HM := hide hm
  clear hm
  go_wp2_with fail
  refine (mark_txs lo m _ s.tm _ HO1.out HS.out.2 hm2 hm1).mono ?_
  rintro e w2 ⟨rfl, h2, hg⟩
  have HQ := hide (show AnsL w2 lo hi (.slice a0 s.sg.length c0) (.slice a1 s.tm.length c1) (mks 1 s.sg.length) (mks m s.tm.length) from
    ⟨HO0.out.other hg (fun g hg e => HV.out.ap g hg e.symm), h2, HV.out.ap, HV.out.h0, HV.out.h1⟩)
  have HK := hide (show Mk2 (.slice a0 s.sg.length c0) (.slice a1 s.tm.length c1) w w2 from by
    have h3 := mk2_of HG1.out hg
    have h4 := HA.out
    exact ⟨h3.os.trans h4.os, h3.tape.trans h4.tape, h3.output.trans h4.output, Nat.le_trans h4.size h3.size, fun k hk n0 n1 => (h3.block k (Nat.lt_of_lt_of_le hk h4.size) n0 n1).trans (h4.block k hk)⟩)
  obtain ⟨m2, hm2⟩ : ∃ m2, m + s.tm.length = m2 := ⟨_, rfl⟩
  have HM2 := hide hm2
  rw [hm2]
  clear hm2 HO0 HO1 HS h2 hg d5 HV HG1 HA
  go_wp2
  go_ret
  exact ⟨by have e1 := HM.out; have e2 := HM2.out; subst e1; subst e2; rfl, by rw [HM.out]; exact HQ.out, HK.out⟩
namespace M
/-- The law's own two boxes. -/
structure LB (w W : World) (s : St) (e : Ev) (v0 v1 : Value) : Prop where
  low : Below w.heap.size w W
  sb : Blk W w.heap.size 6 (sq v0 v1 s) 24
  eb : Blk W (w.heap.size + 1) 4 (ev4 e) 26
theorem LB.down {w W W' : World} {s : St} {e : Ev} {v0 v1 : Value} (h : LB w W s e v0 v1) (hb : Below W.heap.size W W') : LB w W' s e v0 v1 := ⟨h.low.trans (hb.mono h.low.size), h.sb.down hb, h.eb.down hb⟩
theorem LB.new (w : World) (s : St) (e : Ev) (v0 v1 : Value) : LB w ((w.alloc (.cells (sarr v0 v1 s) 24)).alloc (.cells (evarr e) 26)) s e v0 v1 := by
  refine ⟨((Below.refl _ w).alloc (Nat.le_refl _) _).alloc (by simp) _, (new6 w _ _ _ _ _ _ 24).alloc _, ?_⟩
  have := Blk.fresh (w.alloc (.cells (sarr v0 v1 s) 24)) (evarr e) 4 (ev4 e) 26 rfl
  rw [World.size_alloc] at this; exact this
end M
end Go.Proofs.YtglpkikncgdghaaDoor
