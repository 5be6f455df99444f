/-
  The law of SetTimer, walked, at every wheel and timer.
-/
import Derived.Test.YtcodllammndciaaWhLS
namespace Go.Proofs.Ytcodllammndciaa
open Go.RowKit M
open Clk (upd upd_same upd_other)
theorem small_put {now tm id : Int} {k : Nat} {rs : Nat → Rw} (h : SetOk now k rs tm id) : Small 24 (putR rs now tm id) := by
  obtain ⟨hG, -, -, -, hf⟩ := h
  have h1 := hG.2.2.2
  unfold Small putR
  rw [if_pos hf, tot_put]
  split <;> omega
theorem law_set {P Q R : Prop} (x : Int) (v : Value) (k : Nat) (rs : Nat → Rw) (tm id : Int) (w : World) (_ : P) (hv : RowsOf w v k rs) (hl : Lens k rs) (_ : Q) (_ : R) :
    Calls Try.prog 5 #[.agg #[.int .i64 x, v], .agg #[.int .i64 tm, .int .i64 id]] w fun e w' => e = .returned (.bool true) ∧ Below w.heap.size w w' := by
  refine law_set_run x v k rs tm id w hv hl (fun hs => ?_)
  by_cases hg : SetOk x k rs tm id
  · refine ⟨x, 24, putR rs x tm id, true, small_put hg, fun v W h => (spec_set x v k rs tm id W h hs).mono ?_, fun v W h => (impl_set x v k rs tm id W h hs).mono ?_⟩
    · rintro e w' ⟨⟨-, h⟩ | ⟨hn, -⟩, hb⟩
      · exact ⟨h, hb⟩
      · exact absurd hg hn
    · rintro e w' ⟨⟨-, h⟩ | ⟨hn, -⟩, hb⟩
      · exact ⟨h, hb⟩
      · exact absurd hg hn
  · refine ⟨0, 0, rs, false, by unfold Small; simp [tot], fun v W h => (spec_set x v k rs tm id W h hs).mono ?_, fun v W h => (impl_set x v k rs tm id W h hs).mono ?_⟩
    · rintro e w' ⟨⟨hy, -⟩ | ⟨-, h⟩, hb⟩
      · exact absurd hy hg
      · exact ⟨⟨_, h, AnsW.k (.inl ⟨rfl, rfl⟩)⟩, hb⟩
    · rintro e w' ⟨⟨hy, -⟩ | ⟨-, h⟩, hb⟩
      · exact absurd hy hg
      · exact ⟨⟨_, h, .inl ⟨rfl, rfl⟩⟩, hb⟩
end Go.Proofs.Ytcodllammndciaa
