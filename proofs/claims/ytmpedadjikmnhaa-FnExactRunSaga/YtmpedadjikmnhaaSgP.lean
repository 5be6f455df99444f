/-
  The program's sagas behind a pointer: whether one can be stepped, a move that is undone, the next one that is done or given up.
-/
import Derived.Test.YtmpedadjikmnhaaSgG
import Derived.Deep.RegionHeld
import Derived.Deep.RegionHeld3
import Derived.Deep.Cut
namespace Go.Proofs.Ytmpedadjikmnhaa
open Go.RowKit M
open Clk (upd upd_same upd_other)
open Go.Sort (grow)
namespace M
/-- A saga's four cells, at the head of block g. -/
structure SB (w : World) (g n : Nat) (h : Nat → Value) (t : TypeId) (v0 v1 : Value) (s : Sg) : Prop where
  blk : Blk w g n h t
  n4 : 4 ≤ n
  h0 : h 0 = v0
  h1 : h 1 = v1
  h2 : h 2 = .int .i64 s.dn
  h3 : h 3 = .bool s.un
theorem SB.cells {w : World} {g n : Nat} {h : Nat → Value} {t : TypeId} {v0 v1 : Value} {s : Sg} (H : SB w g n h t v0 v1 s) : (w.cell? ⟨g, 0, none⟩ = some v0 ∧ w.cell? ⟨g, 1, none⟩ = some v1 ∧ w.cell? ⟨g, 2, none⟩ = some (.int .i64 s.dn) ∧ w.cell? ⟨g, 3, none⟩ = some (.bool s.un)) ∧ (w.frozen? ⟨g, 0, none⟩ = false ∧ w.frozen? ⟨g, 1, none⟩ = false ∧ w.frozen? ⟨g, 2, none⟩ = false ∧ w.frozen? ⟨g, 3, none⟩ = false) := by
  have h4 := H.n4
  refine ⟨⟨?_, ?_, ?_, ?_⟩, H.blk.thaw 0, H.blk.thaw 1, H.blk.thaw 2, H.blk.thaw 3⟩
  · rw [← H.h0]; exact H.blk.cell (by omega)
  · rw [← H.h1]; exact H.blk.cell (by omega)
  · rw [← H.h2]; exact H.blk.cell (by omega)
  · rw [← H.h3]; exact H.blk.cell (by omega)
theorem SB.down {w w' : World} {g n : Nat} {h : Nat → Value} {t : TypeId} {v0 v1 : Value} {s : Sg} (H : SB w g n h t v0 v1 s) (hb : Below w.heap.size w w') : SB w' g n h t v0 v1 s := ⟨H.blk.down hb, H.n4, H.h0, H.h1, H.h2, H.h3⟩
/-- Its accounts and moves are the call's own. -/
structure SA (w : World) (g n : Nat) (h : Nat → Value) (t : TypeId) (gl c cp B hi : Nat) (v1 : Value) (s : Sg) : Prop where
  sb : SB w g n h t (.slice (some ⟨gl, 0, none⟩) s.na cp) v1 s
  ti : t ≠ 3
  tm : t ≠ 55
  own : OwnB w gl s.na c s.fa
  mov : OwnV w B hi v1 s.nm (fl s.fm)
theorem SA.down {w w' : World} {g n : Nat} {h : Nat → Value} {t : TypeId} {gl c cp B hi : Nat} {v1 : Value} {s : Sg} (H : SA w g n h t gl c cp B hi v1 s) (hb : Below w.heap.size w w') : SA w' g n h t gl c cp B hi v1 s := ⟨H.sb.down hb, H.ti, H.tm, H.own.down hb, H.mov.down hb⟩
/-- Only the saga's block and its accounts' may have turned. -/
abbrev Tw (g gl : Nat) : World → World → Prop := Kept (fun k => k = g ∨ k = gl)
theorem Kept.refl (S : Nat → Prop) (w : World) : Kept S w w := ⟨rfl, rfl, rfl, Nat.le_refl _, fun _ _ _ => rfl⟩
theorem Kept.trans {S : Nat → Prop} {a b c : World} (h : Kept S a b) (h2 : Kept S b c) : Kept S a c :=
  ⟨h2.os.trans h.os, h2.tape.trans h.tape, h2.output.trans h.output, Nat.le_trans h.size h2.size, fun k hk hs => (h2.block k (Nat.lt_of_lt_of_le hk h.size) hs).trans (h.block k hk hs)⟩
theorem Kept.set {S : Nat → Prop} {w w' : World} (h : Kept S w w') {g : Nat} (hg : S g) (i : Nat) (v : Value) : Kept S w (w'.setCell ⟨g, i, none⟩ v) :=
  have hb := (Below.refl g w').setCell (p := ⟨g, i, none⟩) (Nat.le_refl _) v
  ⟨hb.os.trans h.os, hb.tape.trans h.tape, hb.output.trans h.output, by rw [World.size_setCell]; exact h.size, fun k hk hs => by rw [Below.heap_setCell _ _ _ _ (show k ≠ g from fun e => hs (by rw [e]; exact hg))]; exact h.block k hk hs⟩
theorem KeptB.two {g gl : Nat} {w w' : World} (h : KeptB gl (gl + 1) w w') : Tw g gl w w' := ⟨h.os, h.tape, h.output, h.size, fun k hk hs => h.block k hk (by
  have : k ≠ gl := fun e => hs (.inr e)
  omega)⟩
theorem SA.ne {w : World} {g n : Nat} {h : Nat → Value} {t : TypeId} {gl c cp B hi : Nat} {v1 : Value} {s : Sg} (H : SA w g n h t gl c cp B hi v1 s) : gl ≠ g := by
  obtain ⟨hc, k, hb, he⟩ := H.own
  exact hb.apart H.sb.blk (fun e => H.ti e.symm)
theorem OwnV.set {w : World} {B hi n : Nat} {v : Value} {f : Nat → Int} (h : OwnV w B hi v n f) {g m : Nat} {k : Nat → Value} {t : TypeId} (hg : Blk w g m k t) (ht : t ≠ 55) (i : Nat) (x : Value) : OwnV (w.setCell ⟨g, i, none⟩ x) B hi v n f := by
  obtain ⟨a, cap, rfl, hle, hr⟩ := h
  refine ⟨a, cap, rfl, hle, fun hn => ?_⟩
  obtain ⟨b, c, ha, h1, h2, hc, k', hb, he⟩ := hr hn
  exact ⟨b, c, ha, h1, h2, hc, k', hb.set_other (hb.apart hg (fun e => ht e.symm)) _ _, he⟩
theorem OwnB.set_other {w : World} {b n c : Nat} {f : Nat → Int} (h : OwnB w b n c f) {g : Nat} (hne : b ≠ g) (q : Nat) (v : Value) : OwnB (w.setCell ⟨g, q, none⟩ v) b n c f := by
  obtain ⟨hc, k, hk, he⟩ := h
  exact ⟨hc, k, hk.set_other hne q v, he⟩
/-- Done is set. -/
theorem SA.setDone {w : World} {g n : Nat} {h : Nat → Value} {t : TypeId} {gl c cp B hi : Nat} {v1 : Value} {s : Sg} (H : SA w g n h t gl c cp B hi v1 s) (x : Int) : SA (w.setCell ⟨g, 2, none⟩ (.int .i64 x)) g n (upd h 2 (.int .i64 x)) t gl c cp B hi v1 { s with dn := x } :=
  ⟨⟨H.sb.blk.set _ _, H.sb.n4, by rw [upd_other _ _ _ _ (by decide)]; exact H.sb.h0, by rw [upd_other _ _ _ _ (by decide)]; exact H.sb.h1, upd_same _ _ _, by rw [upd_other _ _ _ _ (by decide)]; exact H.sb.h3⟩, H.ti, H.tm, H.own.set_other H.ne _ _, H.mov.set H.sb.blk H.tm _ _⟩
/-- Undoing is set. -/
theorem SA.setUn {w : World} {g n : Nat} {h : Nat → Value} {t : TypeId} {gl c cp B hi : Nat} {v1 : Value} {s : Sg} (H : SA w g n h t gl c cp B hi v1 s) (x : Bool) : SA (w.setCell ⟨g, 3, none⟩ (.bool x)) g n (upd h 3 (.bool x)) t gl c cp B hi v1 { s with un := x } :=
  ⟨⟨H.sb.blk.set _ _, H.sb.n4, by rw [upd_other _ _ _ _ (by decide)]; exact H.sb.h0, by rw [upd_other _ _ _ _ (by decide)]; exact H.sb.h1, by rw [upd_other _ _ _ _ (by decide)]; exact H.sb.h2, upd_same _ _ _⟩, H.ti, H.tm, H.own.set_other H.ne _ _, H.mov.set H.sb.blk H.tm _ _⟩
/-- The accounts are others. -/
theorem SA.turned {w w' : World} {g n : Nat} {h : Nat → Value} {t : TypeId} {gl c cp B hi : Nat} {v1 : Value} {s : Sg} (H : SA w g n h t gl c cp B hi v1 s) (hk : KeptB gl (gl + 1) w w') {f : Nat → Int} (ho : OwnB w' gl s.na c f) : SA w' g n h t gl c cp B hi v1 { s with fa := f } := by
  have hne := H.ne
  refine ⟨⟨hk.blk H.sb.blk (by omega), H.sb.n4, H.sb.h0, H.sb.h1, H.sb.h2, H.sb.h3⟩, H.ti, H.tm, ho, ?_⟩
  obtain ⟨a, cap, e, hle, hr⟩ := H.mov
  refine ⟨a, cap, e, hle, fun hn => ?_⟩
  obtain ⟨b, c', ha, h1, h2, hc, k', hb, he⟩ := hr hn
  obtain ⟨_, k2, hb2, _⟩ := H.own
  have := hb.apart hb2 (by decide)
  exact ⟨b, c', ha, h1, h2, hc, k', hk.blk hb (by omega), he⟩
end M
set_option maxRecDepth 20000 in
set_option maxHeartbeats 2000000 in
theorem can_do (g n : Nat) (h : Nat → Value) (t : TypeId) (v0 : Value) (a : Option Addr) (cp : Nat) (s : Sg) (b : Bool) (w : World) (H : SB w g n h t v0 (.slice a s.nm cp) s) (hb : decide (canD s) = b) :
    Calls Try.prog 60 #[.pointer (some ⟨g, 0, none⟩)] w fun e w' => e = .returned (.bool b) ∧ Below w.heap.size w w' := by
  obtain ⟨⟨c0, c1, c2, c3⟩, -⟩ := H.cells
  have HB := hide hb
  clear H hb
  obtain ⟨na, fa, nm, fm, dn, un⟩ := s
  simp only at *
  cases un with
  | true =>
    have HF := hide (show b = false by rw [← HB.out, decide_eq_false_iff_not]; exact fun h => by cases h.1)
    go_enter Try.func60, Try.ntmps60
    go_wp2_with fail
    go_big_quiet (fail)
    go_wp2
    go_ret
    exact ⟨by rw [HF.out]; rfl, below_drewN (Below.refl _ _) _⟩
  | false =>
    have HF := hide (show b = decide (dn < (nm : Int)) by rw [← HB.out]; exact decide_eq_decide.2 ⟨fun h => h.2, fun h => ⟨rfl, h⟩⟩)
    go_enter Try.func60, Try.ntmps60
    go_wp2_with fail
    go_big_quiet (fail)
    go_wp2
    go_ret
    exact ⟨by rw [HF.out]; rfl, below_drewN (Below.refl _ _) _⟩
set_option maxRecDepth 20000 in
set_option maxHeartbeats 2000000 in
theorem can_step (g n : Nat) (h : Nat → Value) (t : TypeId) (v0 : Value) (a : Option Addr) (cp : Nat) (s : Sg) (b : Bool) (w : World) (H : SB w g n h t v0 (.slice a s.nm cp) s) (hb : decide (canS s) = b) :
    Calls Try.prog 56 #[.pointer (some ⟨g, 0, none⟩)] w fun e w' => e = .returned (.bool b) ∧ Below w.heap.size w w' := by
  have HS := hide H
  have HB := hide hb
  obtain ⟨b1, hb1⟩ : ∃ x, decide (canD s) = x := ⟨_, rfl⟩
  have HB1 := hide hb1
  clear H hb hb1
  go_enter Try.func56, Try.ntmps56
  go_wp2_with fail
  refine (can_do g n h t v0 a cp s b1 _ HS.out HB1.out).mono ?_
  rintro e w1 ⟨rfl, hb⟩
  obtain ⟨⟨c0, c1, c2, c3⟩, -⟩ := (HS.out.down hb).cells
  cases b1 with
  | true =>
    have HF := hide (show b = true by rw [← HB.out, decide_eq_true_eq]; exact .inl (of_decide_eq_true HB1.out))
    clear HS HB HB1
    go_wp2
    go_ret
    exact ⟨by rw [HF.out]; rfl, hb⟩
  | false =>
    have hnd := of_decide_eq_false HB1.out
    have HF := hide (show b = (s.un && decide (s.dn > 0)) by
      rw [← HB.out, Bool.eq_iff_iff, Bool.and_eq_true, decide_eq_true_eq, decide_eq_true_eq]
      exact ⟨fun h => by rcases h with h | h; exact absurd h hnd; exact h, fun h => .inr h⟩)
    clear HS HB HB1 hnd
    obtain ⟨na, fa, nm, fm, dn, un⟩ := s
    simp only at *
    cases un with
    | true =>
      go_wp2
      go_ret
      exact ⟨by rw [HF.out]; rfl, hb⟩
    | false =>
      go_wp2
      go_ret
      exact ⟨by rw [HF.out]; rfl, hb⟩
end Go.Proofs.Ytmpedadjikmnhaa
