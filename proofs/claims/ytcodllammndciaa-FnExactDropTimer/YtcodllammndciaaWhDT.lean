/-
  The law of DropTimer, walked, at every wheel and Id.
-/
import Derived.Test.YtcodllammndciaaWhLD
import Derived.Test.YtcodllammndciaaWhDS
namespace Go.Proofs.Ytcodllammndciaa
open Go.RowKit M
open Clk (upd upd_same upd_other)
theorem dropRow_le (r : Rw) (id : Int) : (dropRow r id).n ≤ r.n := by
  unfold dropRow
  cases pos r id with
  | none => exact Nat.le_refl _
  | some p => exact Nat.sub_le _ _
theorem tot_drop (rs : Nat → Rw) (id : Int) : ∀ m, tot (dropR rs id) m ≤ tot rs m
  | 0 => Nat.le_refl _
  | m + 1 => Nat.add_le_add (tot_drop rs id m) (dropRow_le _ _)
theorem small_drop {rs : Nat → Rw} {id : Int} (h : Small 24 rs) : Small 24 (dropR rs id) := by
  have h1 := tot_drop rs id 24
  have h2 : 24 + tot rs 24 ≤ 1048576 := h
  show 24 + tot (dropR rs id) 24 ≤ 1048576
  exact Nat.le_trans (Nat.add_le_add_left h1 24) h2
theorem law_drop {P Q : Prop} (x : Int) (v : Value) (k : Nat) (rs : Nat → Rw) (id : Int) (w : World) (_ : P) (hv : RowsOf w v k rs) (hl : Lens k rs) (_ : Q) :
    Calls Try.prog 6 #[.agg #[.int .i64 x, v], .int .i64 id] w fun e w' => e = .returned (.bool true) ∧ Below w.heap.size w w' := by
  refine law_drop_run x v k rs id w hv hl (fun hs => ?_)
  by_cases hg : DropOk x k rs id
  · obtain rfl : k = 24 := hg.1.2.1
    refine ⟨x, 24, dropR rs id, true, small_drop hs, fun v W h => (spec_drop x v 24 rs id W h hs).mono ?_, fun v W h => (impl_drop x v 24 rs id W h hs).mono ?_⟩
    · rintro e w' ⟨⟨-, h⟩ | ⟨hn, -⟩, hb⟩
      · exact ⟨h, hb⟩
      · exact absurd hg hn
    · rintro e w' ⟨⟨-, h⟩ | ⟨hn, -⟩, hb⟩
      · exact ⟨h, hb⟩
      · exact absurd hg hn
  · refine ⟨0, 0, rs, false, by unfold Small; simp [tot], fun v W h => (spec_drop x v k rs id W h hs).mono ?_, fun v W h => (impl_drop x v k rs id W h hs).mono ?_⟩
    · rintro e w' ⟨⟨hy, -⟩ | ⟨-, h⟩, hb⟩
      · exact absurd hy hg
      · exact ⟨⟨_, h, AnsW.k (.inl ⟨rfl, rfl⟩)⟩, hb⟩
    · rintro e w' ⟨⟨hy, -⟩ | ⟨-, h⟩, hb⟩
      · exact absurd hy hg
      · exact ⟨⟨_, h, .inl ⟨rfl, rfl⟩⟩, hb⟩
end Go.Proofs.Ytcodllammndciaa
