/-
  IsSound where the net is not good or has fewer than two places; the law's walk, given what allComeTo tells.
-/
import Derived.Test.YthilapalgakhhaaNetSndI
import Derived.Test.YthilapalgakhhaaNetSndL
namespace Go.Proofs.Ythilapalgakhhaa
open Go.RowKit M
open Clk (upd upd_same upd_other)
set_option maxHeartbeats 1000000 in
theorem spec_sound_no (p : Int) (v : Value) (k : Nat) (st : Nat → Sp) (w : World) (hv : StepsOf w v k st) (hs : Short k st) (h : ¬ (GoodN p k st ∧ 2 ≤ p)) :
    Calls Try.prog 40 #[netV p v] w fun e w' => e = .returned (.tuple #[.bool false, .bool false]) ∧ Below w.heap.size w w' := by
  have HV := hide hv
  have HS := hide hs
  obtain ⟨a, cap, rfl⟩ := hv.form
  have hbA := (Below.refl w.heap.size w).alloc (Nat.le_refl _) (.cells #[.int .i64 p, .slice a k cap] 29)
  have hN := Blk.fresh w _ 2 (p2 (.int .i64 p) (.slice a k cap)) 29 rfl
  by_cases hg : GoodN p k st
  · have hp : decide (p < 2) = true := decide_eq_true (by have : ¬ 2 ≤ p := fun h2 => h ⟨hg, h2⟩; omega)
    have HGood := hide (show decide (GoodN p k st) = true from decide_eq_true hg)
    clear hv hs h hg
    go_enter Try.func40, Try.ntmps40
    go_wp2_with fail
    refine (spec_good _ _ k st _ _ (HV.out.below hbA) HS.out HGood.out).mono ?_
    rintro e w1 ⟨rfl, hb⟩
    have hb1 := hbA.trans (hb.mono hbA.size)
    obtain ⟨d0, d1, -, -⟩ := (hN.down hb).pair
    clear hN hb hbA HGood HV HS
    go_wp2
    go_ret2
    exact ⟨rfl, hb1⟩
  · have HGood := hide (show decide (GoodN p k st) = false from decide_eq_false hg)
    clear hv hs h hg hN
    go_enter Try.func40, Try.ntmps40
    go_wp2_with fail
    refine (spec_good _ _ k st _ _ (HV.out.below hbA) HS.out HGood.out).mono ?_
    rintro e w1 ⟨rfl, hb⟩
    have hb1 := hbA.trans (hb.mono hbA.size)
    clear hb hbA HGood HV HS
    go_wp2
    go_ret2
    exact ⟨rfl, hb1⟩
set_option maxHeartbeats 1000000 in
theorem impl_sound_no (p : Int) (v : Value) (k : Nat) (st : Nat → Sp) (w : World) (hv : StepsOf w v k st) (hs : Short k st) (h : ¬ (GoodN p k st ∧ 2 ≤ p)) :
    Calls Try.prog 41 #[netV p v] w fun e w' => e = .returned (.tuple #[.bool false, .bool false]) ∧ Below w.heap.size w w' := by
  have HV := hide hv
  have HS := hide hs
  obtain ⟨a, cap, rfl⟩ := hv.form
  have hbA := (Below.refl w.heap.size w).alloc (Nat.le_refl _) (.cells #[.int .i64 p, .slice a k cap] 29)
  have hN := Blk.fresh w _ 2 (p2 (.int .i64 p) (.slice a k cap)) 29 rfl
  by_cases hg : GoodN p k st
  · have hp : decide (p < 2) = true := decide_eq_true (by have : ¬ 2 ≤ p := fun h2 => h ⟨hg, h2⟩; omega)
    have HGood := hide (show decide (GoodN p k st) = true from decide_eq_true hg)
    clear hv hs h hg
    go_enter Try.func41, Try.ntmps41
    go_wp2_with fail
    refine (impl_good _ _ k st _ _ (HV.out.below hbA) HS.out HGood.out).mono ?_
    rintro e w1 ⟨rfl, hb⟩
    have hb1 := hbA.trans (hb.mono hbA.size)
    obtain ⟨d0, d1, -, -⟩ := (hN.down hb).pair
    clear hN hb hbA HGood HV HS
    go_wp2
    go_ret2
    exact ⟨rfl, hb1⟩
  · have HGood := hide (show decide (GoodN p k st) = false from decide_eq_false hg)
    clear hv hs h hg hN
    go_enter Try.func41, Try.ntmps41
    go_wp2_with fail
    refine (impl_good _ _ k st _ _ (HV.out.below hbA) HS.out HGood.out).mono ?_
    rintro e w1 ⟨rfl, hb⟩
    have hb1 := hbA.trans (hb.mono hbA.size)
    clear hb hbA HGood HV HS
    go_wp2
    go_ret2
    exact ⟨rfl, hb1⟩
/-- The law, given what allComeTo tells of every net that is good. -/
theorem law_sound_of (hA : ∀ (n : Nat) (k : Nat) (st : Nat → Sp) (s : Bs), Short k st → GoodN (n : Int) k st → 2 ≤ n → foundB st k (tok 0) = some s → AllCome n st k s) {P : Prop} (p : Int) (v : Value) (k : Nat) (st : Nat → Sp) (w : World) (_ : P) (hv : StepsOf w v k st) (hl : Lens k st) :
    Calls Try.prog 11 #[netV p v] w fun e w' => e = .returned (.bool true) ∧ Below w.heap.size w w' := by
  refine law_sound_run p v k st w hv hl (fun hs => ?_)
  by_cases h : GoodN p k st ∧ 2 ≤ p
  · obtain ⟨n, rfl⟩ : ∃ n : Nat, p = (n : Int) := ⟨p.toNat, by omega⟩
    have hn2 : 2 ≤ n := by omega
    cases hr : foundB st k (tok 0) with
    | none =>
      refine ⟨false, false, fun v W hv => (spec_sound n v k st none W hv hs.short h.1 hn2 hr).mono ?_, fun v W hv => (impl_sound n v k st none W hv hs.short h.1 hn2 hr (fun s e => by cases e)).mono ?_⟩
      · rintro e w' ⟨he, hb⟩; exact ⟨he, hb⟩
      · rintro e w' ⟨he, hb⟩; exact ⟨he, hb⟩
    | some s =>
      obtain ⟨z, hz⟩ := bool_of (Snd st k s (n - 1) (one (n - 1)))
      have huq : ∀ z', (z' = true ↔ Snd st k s (n - 1) (one (n - 1))) → z' = z := fun z' h' => by rw [Bool.eq_iff_iff, h', hz]
      refine ⟨z, true, fun v W hv => (spec_sound n v k st (some s) W hv hs.short h.1 hn2 hr).mono ?_, fun v W hv => (impl_sound n v k st (some s) W hv hs.short h.1 hn2 hr (fun s' e => by cases e; exact hA n k st s hs.short h.1 hn2 hr)).mono ?_⟩
      · rintro e w' ⟨⟨z', he, h'⟩, hb⟩; rw [huq z' h'] at he; exact ⟨he, hb⟩
      · rintro e w' ⟨⟨z', he, h'⟩, hb⟩; rw [huq z' h'] at he; exact ⟨he, hb⟩
  · exact ⟨false, false, fun v W hv => spec_sound_no p v k st W hv hs.short h, fun v W hv => impl_sound_no p v k st W hv hs.short h⟩
end Go.Proofs.Ythilapalgakhhaa
