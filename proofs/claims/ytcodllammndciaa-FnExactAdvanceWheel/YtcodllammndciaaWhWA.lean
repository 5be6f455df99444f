/-
  The law of AdvanceWheel, walked, at every wheel and time.
-/
import Derived.Test.YtcodllammndciaaWhLY
import Derived.Test.YtcodllammndciaaWhAS
namespace Go.Proofs.Ytcodllammndciaa
open Go.RowKit M
open Clk (upd upd_same upd_other)
theorem law_adv {P Q : Prop} (x : Int) (v : Value) (k : Nat) (rs : Nat → Rw) (to : Int) (w : World) (_ : P) (hv : RowsOf w v k rs) (hl : Lens k rs) (_ : Q) :
    Calls Try.prog 8 #[.agg #[.int .i64 x, v], .int .i64 to] w fun e w' => e = .returned (.bool true) ∧ Below w.heap.size w w' := by
  refine law_adv_run x v k rs to w hv hl (fun hs => ?_)
  by_cases hg : AdvOk x k rs to
  · obtain rfl : k = 24 := hg.1.2.1
    have h0 := hg.1.1
    have h4 := hg.1.2.2.2
    have h5 := hg.2
    have h3 := (adv_ok (by unfold GoodN at h0; omega) hg.1.lies h4 (to - x).toNat (by omega)).2.1
    refine ⟨to, 24, (advS x rs (to - x).toNat).1, (advS x rs (to - x).toNat).2.1.length, (fun q => (advS x rs (to - x).toNat).2.1.getD q 0), (((advS x rs (to - x).toNat).2.2 : Nat) : Int), true, Small.of60 (by omega), by omega, fun v W h => (spec_adv x v 24 rs to W h hs).mono ?_, fun v W h => (impl_adv x v 24 rs to W h hs).mono ?_⟩
    · rintro e w' ⟨⟨-, u, r, he, h1, h2⟩ | ⟨hn, -⟩, hb⟩
      · exact ⟨⟨u, r, he, h1, (own_list_ansC h2).ints⟩, hb⟩
      · exact absurd hg hn
    · rintro e w' ⟨⟨-, u, r, he, h1, h2⟩ | ⟨hn, -⟩, hb⟩
      · exact ⟨⟨u, r, he, h1, own_list_ansC h2⟩, hb⟩
      · exact absurd hg hn
  · refine ⟨0, 0, rs, 0, (fun _ => 0), 0, false, by unfold Small; simp [tot], by omega, fun v W h => (spec_adv x v k rs to W h hs).mono ?_, fun v W h => (impl_adv x v k rs to W h hs).mono ?_⟩
    · rintro e w' ⟨⟨hy, -⟩ | ⟨-, h⟩, hb⟩
      · exact absurd hy hg
      · exact ⟨⟨_, _, h, AnsW.k (.inl ⟨rfl, rfl⟩), ⟨none, 0, rfl, fun h => absurd h (Nat.lt_irrefl _)⟩⟩, hb⟩
    · rintro e w' ⟨⟨hy, -⟩ | ⟨-, h⟩, hb⟩
      · exact absurd hy hg
      · exact ⟨⟨_, _, h, .inl ⟨rfl, rfl⟩, .inl ⟨rfl, rfl⟩⟩, hb⟩
end Go.Proofs.Ytcodllammndciaa
