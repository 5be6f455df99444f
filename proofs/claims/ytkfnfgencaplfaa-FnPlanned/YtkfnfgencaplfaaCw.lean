/-
  The reader of choices beside memory that grows and is written (any seat).
-/
import Derived.Test.YtkfnfgencaplfaaCu
namespace Go.Proofs.Ytkfnfgencaplfaa
open Go.RowKit M
namespace M
theorem But.set {cb : Nat} {w W : World} (h : But cb w W) {g : Nat} (hg : w.heap.size ≤ g) (i : Nat) (v : Value) : But cb w (W.setCell ⟨g, i, none⟩ v) :=
  have hb := (Below.refl g W).setCell (p := ⟨g, i, none⟩) (Nat.le_refl _) v
  ⟨hb.os.trans h.os, hb.tape.trans h.tape, hb.output.trans h.output, by rw [World.size_setCell]; exact h.size, fun k hk hne => by rw [Below.heap_setCell _ _ _ _ (show k ≠ g by omega)]; exact h.block k hk hne⟩
theorem CurAt.set {w : World} {B cb N : Nat} (h : CurAt w B cb N) {g : Nat} (hg : g ≠ cb) (hB : B ≤ g) (i : Nat) (v : Value) : CurAt (w.setCell ⟨g, i, none⟩ v) B cb N := by
  obtain ⟨v0, n, f, t, s, ht, hn, hBc, hk, w0, h0, ho, hb0⟩ := h
  exact ⟨v0, n, f, t, s, ht, hn, hBc, hk.set_other (fun e => hg e.symm) _ _, w0, h0, ho, hb0.setCell (p := ⟨g, i, none⟩) hB _⟩
theorem CurAt.base {w : World} {B cb N : Nat} (h : CurAt w B cb N) : B ≤ cb := by
  obtain ⟨v0, n, f, t, s, ht, hn, hBc, r⟩ := h; exact hBc
theorem But.grown {cb : Nat} {w w1 w2 : World} {row : Option Nat} (h : But cb w w1) (hg : w1.grownBy w2 row) (hr : ∀ k, row = some k → w.heap.size ≤ k) : But cb w w2 :=
  ⟨hg.os.trans h.os, hg.tape.trans h.tape, hg.output.trans h.output, Nat.le_trans h.size hg.size, fun k hk hne => by
    rw [hg.block k (Nat.lt_of_lt_of_le hk h.size) (fun e => by have := hr k e.symm; omega)]; exact h.block k hk hne⟩
theorem CurAt.grown {w w' : World} {B cb N B' e s m : Nat} {v : Value} {xs : List Value} (h : CurAt w B cb N) (hown : w.ownsRow B' e s v m xs) (hlt : cb < B') (hg : w.grownBy w' v.ownBlock) : CurAt w' B cb N := by
  obtain ⟨v', n, f, t, s', ht, hn, hBc, hk, w0, h0, h1, hb0⟩ := h
  have hne : ∀ k, k < B' → some k ≠ v.ownBlock := fun k hk' e => by have := (hown.lt k e.symm).1; omega
  refine ⟨v', n, f, t, s', ht, hn, hBc, ?_, w0, h0, h1, hb0.trans ⟨hg.os, hg.tape, hg.output, hg.size, fun k hk' => ?_⟩⟩
  · unfold Blk; rw [hg.block cb hk.lt (hne cb hlt)]; exact hk
  · exact hg.block k (by have := hk.lt; omega) (hne k (by omega))
theorem own_le {w : World} {B e s n c : Nat} {a : Option Addr} {xs : List Value} (h : w.ownsRow B e s (.slice a n c) n xs) : n ≤ c := by
  rcases h.2 with ⟨hv, h0⟩ | ⟨g, cap, cur, hv, hB, hg, hc, hm, hs, ht⟩
  · omega
  · cases hv; exact hc
end M
theorem cur_picks (B cb N m : Nat) (w : World) (h : CurAt w B cb N) (hN : N < 1000000) (hm : m ≤ 65536) :
    Calls Try.prog 76 #[.pointer (some ⟨cb, 0, none⟩), .int .i64 (m : Int)] w fun e w' => (∃ x : Nat, (x < m ∨ x = 0) ∧ e = .returned (.int .i64 (x : Int))) ∧ CurAt w' B cb (N + 2) ∧ But cb w w' := by
  by_cases h2 : m ≤ 200
  · refine (cur_pick B cb N m w h (by omega) h2).mono ?_
    rintro e w' ⟨h1, h2, h3⟩
    exact ⟨h1, h2.more (by omega), h3⟩
  · refine (cur_pick2 B cb N m w h hN (by omega) hm).mono ?_
    rintro e w' ⟨⟨x, hx, he⟩, h2, h3⟩
    exact ⟨⟨x, .inl hx, he⟩, h2, h3⟩
end Go.Proofs.Ytkfnfgencaplfaa
