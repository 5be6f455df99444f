/-
  The law of TimersIn, walked, at every wheel.
-/
import Derived.Test.YtcodllammndciaaWhUL
import Derived.Test.YtcodllammndciaaWhUJ
import Derived.Test.YtcodllammndciaaWhUS
namespace Go.Proofs.Ytcodllammndciaa
open Go.RowKit M
open Clk (upd upd_same upd_other)
theorem own_ansT {w : World} {B n : Nat} {v : Value} {l : List Int} (hl : l.length = n * 2) (h : w.ownsRow B 40 2 v n (pvi l)) : AnsT w B v n (fun q => l.getD q 0) := by
  rcases h.2 with ⟨hv, h0⟩ | ⟨g, cap, cur, rfl, hB, hg, hc, hm, hs, ht⟩
  · exact .inl ⟨hv, h0⟩
  · refine .inr ⟨g, cap, rfl, hB, hc, fun i => cur.getD i undef, ?_, fun i hi => ?_⟩
    · unfold Blk
      rw [hg]
      congr 2
      apply Array.ext_getElem?
      intro j
      by_cases hj : j < cap * 2
      · rw [cf_get _ hj]
        have : j < cur.size := by omega
        simp [Array.getD, this]
      · rw [Array.getElem?_eq_none (by omega), Array.getElem?_eq_none (by rw [cf_size]; omega)]
    · have hil : i < l.length := by omega
      have h1 : (pvi l)[i]? = some (.int .i64 (l.getD i 0)) := by unfold pvi; rw [List.getElem?_map, List.getElem?_eq_getElem hil]; simp [hil]
      rw [← ht, List.getElem?_take_of_lt (by omega), Array.getElem?_toList] at h1
      have : i < cur.size := by omega
      simp [Array.getD, this] at h1 ⊢
      exact h1
theorem law_timers {P : Prop} (x : Int) (v : Value) (k : Nat) (rs : Nat → Rw) (w : World) (_ : P) (hv : RowsOf w v k rs) (hl : Lens k rs) :
    Calls Try.prog 9 #[.agg #[.int .i64 x, v]] w fun e w' => e = .returned (.bool true) ∧ Below w.heap.size w w' := by
  refine law_timers_run x v k rs w hv hl (fun hs => ?_)
  by_cases hg : GoodW x k rs
  · obtain rfl : k = 24 := hg.2.1
    have h4 := hg.2.2.2
    have hf : (flat (srtT (prs rs 24))).length = (srtT (prs rs 24)).length * 2 := flat_len _
    refine ⟨(srtT (prs rs 24)).length, (fun q => (flat (srtT (prs rs 24))).getD q 0), true, by rw [srtT_len, prs_len]; omega, fun v W h => (spec_timers x v 24 rs W h hs).mono ?_, fun v W h => (impl_timers x v 24 rs W h hs).mono ?_⟩
    · rintro e w' ⟨⟨-, r, he, h2⟩ | ⟨hn, -⟩, hb⟩
      · exact ⟨⟨r, he, (own_ansT hf h2).tims⟩, hb⟩
      · exact absurd hg hn
    · rintro e w' ⟨⟨-, r, he, h2⟩ | ⟨hn, -⟩, hb⟩
      · exact ⟨⟨r, he, own_ansT hf h2⟩, hb⟩
      · exact absurd hg hn
  · refine ⟨0, (fun _ => 0), false, by omega, fun v W h => (spec_timers x v k rs W h hs).mono ?_, fun v W h => (impl_timers x v k rs W h hs).mono ?_⟩
    · rintro e w' ⟨⟨hy, -⟩ | ⟨-, h⟩, hb⟩
      · exact absurd hy hg
      · exact ⟨⟨_, h, ⟨none, 0, rfl, fun h => absurd h (Nat.lt_irrefl _)⟩⟩, hb⟩
    · rintro e w' ⟨⟨hy, -⟩ | ⟨-, h⟩, hb⟩
      · exact absurd hy hg
      · exact ⟨⟨_, h, .inl ⟨rfl, rfl⟩⟩, hb⟩
end Go.Proofs.Ytcodllammndciaa
