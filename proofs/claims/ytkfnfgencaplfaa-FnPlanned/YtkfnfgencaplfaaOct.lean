/-
  What came in, read as data, is a slice of bytes in memory.
-/
import Derived.Test.YtkfnfgencaplfaaCu
import Derived.Deep.Slices
import Derived.Deep.SlicePairs
import Derived.Lib.SmallJoins
import Derived.ProofKit
import Derived.OpenShut
namespace Go.Proofs.Ytkfnfgencaplfaa
open Go.ChangeShapes Go.WideShapes Go.ChangeAt Go.RowKit Go.Joins Go.Deep
open M
theorem u8_of {x : Int} (h : (Lit.int .u8 x).wf = true) : 0 ≤ x ∧ x < 256 := by
  simp [Lit.wf] at h
  have h1 : (0 : Int) ≤ x := h.1
  have h2 : x ≤ 255 := h.2
  omega
set_option maxRecDepth 100000 in
theorem open_octets {H : Type} {enc : TypeId × Value → H} {W : World} {b0 : Nat} {v : Value} {d : DataW H} {p : List MemPlace}
    (hv : Value.okWide Try.prog W .any b0 50 v) (h : DataW.Trod enc Try.prog W 0 (fun _ => true) true 50 v d p) :
    ∃ n f, OctetsOf W v n f ∧ ((d = .nil ∧ n = 0) ∨ ∃ es sp, d = .slice es sp ∧ n ≤ es.length) := by
  obtain ⟨a0, len0, cap0, rfl⟩ := okWide_slice Try.underlying50 hv
  obtain ⟨fuel, hf⟩ := h
  rcases open_ints Try.underlying50 Try.underlying5 (by kernel_rfl) hf with ⟨hcs, hd⟩ | ⟨x, l, c, zs, hcs, _, hl, hm, hz, hd, hcell, hwz⟩
  · simp [Value.cells] at hcs
    obtain ⟨rfl, rfl, rfl⟩ := hcs
    exact ⟨0, fun _ => 0, ⟨none, 0, rfl, fun i h => absurd h (by omega), fun h => absurd h (Nat.lt_irrefl _)⟩, .inl ⟨by simp only [Prod.mk.injEq] at hd; exact hd.1, rfl⟩⟩
  · simp [Value.cells] at hcs
    obtain ⟨rfl, rfl, rfl⟩ := hcs
    have hz' : zs.length = cap0 := by simpa using hz
    have hu : ∀ i, i < len0 → 0 ≤ zs.getD i 0 ∧ zs.getD i 0 < 256 := fun i hi => by
      have hlt : i < zs.length := by omega
      rw [show zs.getD i 0 = zs[i] by simp [List.getD, hlt]]
      exact u8_of (hwz _ (List.getElem_mem hlt))
    refine ⟨len0, fun i => (zs.getD i 0).toNat, ⟨some x, cap0, rfl, fun i hi => by have := hu i hi; show (zs.getD i 0).toNat < 256; omega, fun hp => ?_⟩, .inr ⟨lits .u8 (zs.take len0), lits .u8 (zs.drop len0), by simp only [Prod.mk.injEq] at hd; exact hd.1, by simp [lits]; omega⟩⟩
    obtain ⟨b, off, spot⟩ := x
    have h0 := hcell 0 (by omega)
    have hs := World.cell?_spot h0
    have hspot : spot = none := by simpa [Addr.add] using hs
    subst hspot
    have ha : ∀ n, (⟨b, off, none⟩ : Addr).add n = ⟨b, off + n, none⟩ := fun n => by unfold Addr.add; split <;> simp_all
    rw [ha] at h0
    refine ⟨b, off, rfl, World.block_lt_of_cell? W _ h0, fun i hi => ?_⟩
    have hc := hcell i (by omega)
    rw [ha] at hc
    rw [hc, show (((zs.getD i 0).toNat : Nat) : Int) = zs.getD i 0 by have := hu i hi; omega]
end Go.Proofs.Ytkfnfgencaplfaa
