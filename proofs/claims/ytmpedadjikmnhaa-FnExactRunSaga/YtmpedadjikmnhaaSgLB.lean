/-
  What the laws keep whose functions answer a saga: the argument, the specification's answer, the program's argument, its answer.
-/
import Derived.Test.YtmpedadjikmnhaaSgU
import Derived.Deep.RegionHeld
import Derived.Deep.Cut
namespace Go.Proofs.Ytmpedadjikmnhaa
open Go.RowKit M
open Clk (upd upd_same upd_other)
namespace M
def LW (w W : World) (v0 v1 : Value) (s : Sg) : Prop := Blk W w.heap.size 4 (p4 v0 v1 (.int .i64 s.dn) (.bool s.un)) 40 ∧ Below w.heap.size w W
theorem LW.down {w W W' : World} {v0 v1 : Value} {s : Sg} (h : LW w W v0 v1 s) (hb : Below W.heap.size W W') : LW w W' v0 v1 s := ⟨h.1.down hb, h.2.trans (hb.mono h.2.size)⟩
def L5 (w A W : World) (v0 v1 : Value) (s : Sg) (gw : Nat) (r0 r1 : Value) (r : Sg) : Prop :=
  LW w W v0 v1 s ∧ Blk W gw 4 (p4 r0 r1 (.int .i64 r.dn) (.bool r.un)) 27 ∧ Below A.heap.size A W ∧ gw < A.heap.size ∧ w.heap.size < A.heap.size
theorem L5.down {w A W W' : World} {v0 v1 : Value} {s : Sg} {gw : Nat} {r0 r1 : Value} {r : Sg} (h : L5 w A W v0 v1 s gw r0 r1 r) (hb : Below W.heap.size W W') : L5 w A W' v0 v1 s gw r0 r1 r := ⟨h.1.down hb, h.2.1.down hb, h.2.2.1.trans (hb.mono h.2.2.1.size), h.2.2.2⟩
theorem L5.kept {w A W W' : World} {v0 v1 : Value} {s : Sg} {gw : Nat} {r0 r1 : Value} {r : Sg} (h : L5 w A W v0 v1 s gw r0 r1 r) {lo hi : Nat} (hk : KeptB lo hi W W') (hl : A.heap.size ≤ lo) : L5 w A W' v0 v1 s gw r0 r1 r := by
  obtain ⟨⟨h1, h2⟩, h3, h4, h5, h6⟩ := h
  exact ⟨⟨hk.blk h1 (by omega), h2.trans (hk.below (by omega) h2.size)⟩, hk.blk h3 (by omega), h4.trans (hk.below hl h4.size), h5, h6⟩
def L7 (w A W : World) (v0 v1 : Value) (s : Sg) (gw : Nat) (r0 r1 : Value) (r : Sg) (H : Nat) (x0 x1 : Value) : Prop :=
  L5 w A W v0 v1 s gw r0 r1 r ∧ Blk W H 4 (p4 x0 x1 (.int .i64 s.dn) (.bool s.un)) 27 ∧ AnsQ W A.heap.size H x0 x1 s.na s.fa s.nm (fl s.fm) ∧ A.heap.size ≤ H
theorem L7.down {w A W W' : World} {v0 v1 : Value} {s : Sg} {gw : Nat} {r0 r1 : Value} {r : Sg} {H : Nat} {x0 x1 : Value} (h : L7 w A W v0 v1 s gw r0 r1 r H x0 x1) (hb : Below W.heap.size W W') : L7 w A W' v0 v1 s gw r0 r1 r H x0 x1 := ⟨h.1.down hb, h.2.1.down hb, h.2.2.1.down hb, h.2.2.2⟩
def LG (W : World) (gg Bg : Nat) (y0 y1 : Value) (na : Nat) (fa : Nat → Int) (nm : Nat) (fq : Nat → Int) (dn : Int) (un : Bool) : Prop :=
  Blk W gg 4 (p4 y0 y1 (.int .i64 dn) (.bool un)) 27 ∧ AnsQ W Bg gg y0 y1 na fa nm fq
theorem LG.down {W W' : World} {gg Bg : Nat} {y0 y1 : Value} {na : Nat} {fa : Nat → Int} {nm : Nat} {fq : Nat → Int} {dn : Int} {un : Bool} (h : LG W gg Bg y0 y1 na fa nm fq dn un) (hb : Below W.heap.size W W') : LG W' gg Bg y0 y1 na fa nm fq dn un := ⟨h.1.down hb, h.2.down hb⟩
def L9 (w A W : World) (v0 v1 : Value) (s : Sg) (gw : Nat) (r0 r1 : Value) (r : Sg) (H : Nat) (x0 x1 : Value) (gg Bg : Nat) (y0 y1 : Value) : Prop :=
  L7 w A W v0 v1 s gw r0 r1 r H x0 x1 ∧ LG W gg Bg y0 y1 r.na r.fa r.nm (fl r.fm) r.dn r.un ∧ H + 1 ≤ Bg ∧ Bg ≤ gg
theorem L9.down {w A W W' : World} {v0 v1 : Value} {s : Sg} {gw : Nat} {r0 r1 : Value} {r : Sg} {H : Nat} {x0 x1 : Value} {gg Bg : Nat} {y0 y1 : Value} (h : L9 w A W v0 v1 s gw r0 r1 r H x0 x1 gg Bg y0 y1) (hb : Below W.heap.size W W') : L9 w A W' v0 v1 s gw r0 r1 r H x0 x1 gg Bg y0 y1 := ⟨h.1.down hb, h.2.1.down hb, h.2.2⟩
def L10 (w A W : World) (v0 v1 : Value) (s : Sg) (gw : Nat) (r0 r1 : Value) (r : Sg) (gg Bg : Nat) (y0 y1 : Value) (fa fq : Nat → Int) : Prop :=
  L5 w A W v0 v1 s gw r0 r1 r ∧ LG W gg Bg y0 y1 r.na fa r.nm fq r.dn r.un ∧ A.heap.size ≤ Bg ∧ gg < W.heap.size
theorem L10.down {w A W W' : World} {v0 v1 : Value} {s : Sg} {gw : Nat} {r0 r1 : Value} {r : Sg} {gg Bg : Nat} {y0 y1 : Value} {fa fq : Nat → Int} (h : L10 w A W v0 v1 s gw r0 r1 r gg Bg y0 y1 fa fq) (hb : Below W.heap.size W W') : L10 w A W' v0 v1 s gw r0 r1 r gg Bg y0 y1 fa fq := ⟨h.1.down hb, h.2.1.down hb, h.2.2.1, Nat.lt_of_lt_of_le h.2.2.2 hb.size⟩
/-- The program's argument is marked. -/
theorem L9.mark {w A W W' : World} {v0 v1 : Value} {s : Sg} {gw : Nat} {r0 r1 : Value} {r : Sg} {H : Nat} {x0 x1 : Value} {gg Bg : Nat} {y0 y1 : Value} (h : L9 w A W v0 v1 s gw r0 r1 r H x0 x1 gg Bg y0 y1) (hk : KeptB A.heap.size H W W') : L10 w A W' v0 v1 s gw r0 r1 r gg Bg y0 y1 r.fa (fl r.fm) := by
  obtain ⟨⟨h5, h6, h7, h8⟩, ⟨h9, h10⟩, h11, h12⟩ := h
  exact ⟨h5.kept hk (Nat.le_refl _), ⟨hk.blk h9 (.inr (by omega)), h10.kept hk (.inl (by omega))⟩, by omega, Nat.lt_of_lt_of_le h9.lt hk.size⟩
/-- The answer is marked. -/
theorem L10.mark {w A W W' : World} {v0 v1 : Value} {s : Sg} {gw : Nat} {r0 r1 : Value} {r : Sg} {gg Bg : Nat} {y0 y1 : Value} {fa fq fa' fq' : Nat → Int} (h : L10 w A W v0 v1 s gw r0 r1 r gg Bg y0 y1 fa fq) (hk : KeptB Bg gg W W') (ha : AnsQ W' Bg gg y0 y1 r.na fa' r.nm fq') : L10 w A W' v0 v1 s gw r0 r1 r gg Bg y0 y1 fa' fq' := by
  obtain ⟨h5, ⟨h9, _⟩, h11, h12⟩ := h
  exact ⟨h5.kept hk h11, ⟨hk.blk h9 (.inr (Nat.le_refl _)), ha⟩, h11, Nat.lt_of_lt_of_le h12 hk.size⟩
def Sh (s : Sg) : Prop := ShortS s.na s.nm
end M
end Go.Proofs.Ytmpedadjikmnhaa
