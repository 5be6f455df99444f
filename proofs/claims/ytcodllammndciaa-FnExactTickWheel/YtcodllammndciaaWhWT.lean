/-
  The law of TickWheel, walked, at every wheel.
-/
import Derived.Test.YtcodllammndciaaWhLX
import Derived.Test.YtcodllammndciaaWhTS
namespace Go.Proofs.Ytcodllammndciaa
open Go.RowKit M
open Clk (upd upd_same upd_other)
theorem law_tick {P : Prop} (x : Int) (v : Value) (k : Nat) (rs : Nat → Rw) (w : World) (_ : P) (hv : RowsOf w v k rs) (hl : Lens k rs) :
    Calls Try.prog 7 #[.agg #[.int .i64 x, v]] w fun e w' => e = .returned (.bool true) ∧ Below w.heap.size w w' := by
  refine law_tick_run x v k rs w hv hl (fun hs => ?_)
  by_cases hg : TickOk x k rs
  · obtain rfl : k = 24 := hg.1.2.1
    have h0 := hg.1.1
    have ht : GoodN (x + 1) := by have h2 := hg.2; unfold GoodN at h0 ⊢; omega
    have hL : LiesAll (x + 1 - 1) rs := by rw [show x + 1 - 1 = x by omega]; exact hg.1.lies
    have h3 := (tick_ok ht hL).2
    have h4 := hg.1.2.2.2
    refine ⟨x + 1, 24, (tickR (x + 1) rs).1, (srt (tickR (x + 1) rs).2).length, (fun q => (srt (tickR (x + 1) rs).2).getD q 0), true, Small.of60 (by omega), by rw [srt_len]; omega, fun v W h => (spec_tickw x v 24 rs W h hs).mono ?_, fun v W h => (impl_tickw x v 24 rs W h hs).mono ?_⟩
    · rintro e w' ⟨⟨-, u, r, he, h1, h2⟩ | ⟨hn, -⟩, hb⟩
      · exact ⟨⟨u, r, he, h1, (own_list_ansC h2).ints⟩, hb⟩
      · exact absurd hg hn
    · rintro e w' ⟨⟨-, u, r, he, h1, h2⟩ | ⟨hn, -⟩, hb⟩
      · exact ⟨⟨u, r, he, h1, own_list_ansC h2⟩, hb⟩
      · exact absurd hg hn
  · refine ⟨0, 0, rs, 0, (fun _ => 0), false, by unfold Small; simp [tot], by omega, fun v W h => (spec_tickw x v k rs W h hs).mono ?_, fun v W h => (impl_tickw x v k rs W h hs).mono ?_⟩
    · rintro e w' ⟨⟨hy, -⟩ | ⟨-, h⟩, hb⟩
      · exact absurd hy hg
      · exact ⟨⟨_, _, h, AnsW.k (.inl ⟨rfl, rfl⟩), ⟨none, 0, rfl, fun h => absurd h (Nat.lt_irrefl _)⟩⟩, hb⟩
    · rintro e w' ⟨⟨hy, -⟩ | ⟨-, h⟩, hb⟩
      · exact absurd hy hg
      · exact ⟨⟨_, _, h, .inl ⟨rfl, rfl⟩, .inl ⟨rfl, rfl⟩⟩, hb⟩
end Go.Proofs.Ytcodllammndciaa
