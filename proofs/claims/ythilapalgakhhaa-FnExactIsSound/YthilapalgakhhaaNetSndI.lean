/-
  The program's IsSound, given what allComeTo tells.
-/
import Derived.Test.YthilapalgakhhaaNetSndG
import Derived.Test.YthilapalgakhhaaNetSndS
import Derived.Test.YthilapalgakhhaaNetMarks
import Derived.Lib.QuietBelow
import Derived.BigQuiet
import Derived.Deep.RegionHeld
import Derived.Deep.CutRange
namespace Go.Proofs.Ythilapalgakhhaa
open Go.RowKit M
open Clk (upd upd_same upd_other)
open Go.Sort (grow)
theorem fnd_form {r : Option Bs} {e : Ending} {B : Nat} {w' : World} (h : FndA r e B w') : ∃ o bo, r.isSome = bo ∧ e = .returned (.tuple #[.map o, .bool bo]) := by
  cases r with
  | none => exact ⟨none, false, rfl, h⟩
  | some s => obtain ⟨b, he, -⟩ := h; exact ⟨some b, true, rfl, he⟩
/-- What allComeTo is to tell. -/
def AllCome (n : Nat) (st : Nat → Sp) (k : Nat) (s : Bs) : Prop :=
  ∀ (v : Value) (b : Nat) (za : Bool) (W : World), StepsOf W v k st → MapB W b s.c s.M (arrB s) → (za = true ↔ ∀ i, i < s.c → Rch st k (s.M i) (tok (n - 1))) →
    Calls Try.prog 72 #[netV (n : Int) v, .map (some b), mkV (tok (n - 1))] W fun e w' => e = .returned (.bool za) ∧ Below W.heap.size W w'
theorem bool_of (P : Prop) : ∃ z : Bool, z = true ↔ P := by
  by_cases h : P
  · exact ⟨true, by simp [h]⟩
  · exact ⟨false, by simp [h]⟩
set_option maxRecDepth 20000 in
set_option maxHeartbeats 2000000 in
theorem impl_sound (n : Nat) (v : Value) (k : Nat) (st : Nat → Sp) (r : Option Bs) (w : World) (hv : StepsOf w v k st) (hs : Short k st) (h : GoodN (n : Int) k st) (hn2 : 2 ≤ n) (hr : foundB st k (tok 0) = r) (hA : ∀ s, r = some s → AllCome n st k s) :
    Calls Try.prog 41 #[netV (n : Int) v] w fun e w' => SndA st k n r e ∧ Below w.heap.size w w' := by
  have HV := hide hv
  have HS := hide hs
  have HR := hide hr
  have HA := hide hA
  obtain ⟨a, cap, rfl⟩ := hv.form
  have hk := hs.1
  have hn8 : n ≤ 8 := by have := h.1.2; omega
  have HGood := hide (show decide (GoodN (n : Int) k st) = true by rw [decide_eq_true_eq]; exact h)
  have HG := hide h.2.2
  have HM := hide (show Mk n (tok 0) from one_mk (by omega))
  have hbA := (Below.refl w.heap.size w).alloc (Nat.le_refl _) (.cells #[.int .i64 (n : Int), .slice a k cap] 29)
  have hN := Blk.fresh w _ 2 (p2 (.int .i64 (n : Int)) (.slice a k cap)) 29 rfl
  obtain ⟨l, rfl⟩ : ∃ l, n = l + 1 := ⟨n - 1, by omega⟩
  have hl1 : 1 ≤ l := by omega
  have hl0 : ¬ (((l + 1 : Nat) : Int) < 2) := by omega
  clear hs h hr hv hA
  go_enter Try.func41, Try.ntmps41
  go_wp2_with fail
  refine (impl_good _ _ k st _ _ (HV.out.below hbA) HS.out HGood.out).mono ?_
  rintro e w1 ⟨rfl, hb⟩
  have hb1 := hbA.trans (hb.mono hbA.size)
  have HN1 := hide (hN.down hb)
  obtain ⟨d0, d1, -, -⟩ := HN1.out.pair
  clear hN hb hbA HGood
  go_upto_region 3 with fail
  clear d0 d1
  have hN1d := HN1.out.drew
  have hc1 : w1.drew.cell? ⟨w.heap.size, 0, none⟩ = some (.int .i64 ((l : Int) + 1)) ∧ w1.drew.cell? ⟨w.heap.size, 1, none⟩ = some (.slice a k cap) := ⟨hN1d.pair.1, hN1d.pair.2.1⟩
  go_region_held (fun W => W.cell? ⟨w.heap.size, 0, none⟩ = some (.int .i64 ((l : Int) + 1)) ∧ W.cell? ⟨w.heap.size, 1, none⟩ = some (.slice a k cap)) (first | exact hc4 | exact hc3 | exact hc1) (first
    | (go_at_call 70; refine (token_in 0 _ (by omega)).mono ?_; rintro e w3 ⟨rfl, hb3⟩; have hN3 := hN1d.down hb3; have hc3 : w3.cell? ⟨w.heap.size, 0, none⟩ = some (.int .i64 ((l : Int) + 1)) ∧ w3.cell? ⟨w.heap.size, 1, none⟩ = some (.slice a k cap) := ⟨hN3.pair.1, hN3.pair.2.1⟩; have hbw3 := hb1.drew.trans (hb3.mono hb1.size))
    | (go_at_call 69; refine (spread_is (l + 1) _ k st (tok 0) _ (HV.out.below hbw3) HS.out hn8 HG.out HM.out).mono ?_; rintro e w4 ⟨hF, hb4⟩; obtain ⟨o, bo, hbi, rfl⟩ := fnd_form hF; have hN4 := hN3.down hb4; have hc4 : w4.cell? ⟨w.heap.size, 0, none⟩ = some (.int .i64 ((l : Int) + 1)) ∧ w4.cell? ⟨w.heap.size, 1, none⟩ = some (.slice a k cap) := ⟨hN4.pair.1, hN4.pair.2.1⟩; have hbw4 := hbw3.trans (hb4.mono hbw3.size)))
  have HN4 := hide hN4
  rw [HR.out] at hF hbi
  clear hc1 hc3 hN1d hN3 hN4 hb3 hb4 hbw3 hb1 HN1
  cases r with
  | none =>
    obtain rfl : bo = false := hbi.symm
    clear hF hbi HN4 HV HS HG HM HR HA hc4
    go_wp2
    go_ret2
    exact ⟨rfl, hbw4⟩
  | some s =>
    obtain rfl : bo = true := hbi.symm
    obtain ⟨b, he, -, hMp⟩ := hF
    simp only [Ending.returned.injEq, Value.tuple.injEq, Array.mk.injEq, List.cons.injEq, and_true, Value.map.injEq] at he
    obtain rfl := he
    have hok := allB_ok HG.out HM.out HR.out
    have HOk := hide hok
    have HMp := hide hMp
    have hAB : ∀ j, arrB s j = arrV (j : Int) ((fun j => if j = 0 then z8 else s.M (s.fr j)) j) ((fun j => if j = 0 then 0 else (s.st j : Int)) j) := arrB_arr s
    have HMq := hide (show MapB w4 b s.c s.M (fun i => arrV (i : Int) ((fun j => if j = 0 then z8 else s.M (s.fr j)) i) ((fun j => if j = 0 then 0 else (s.st j : Int)) i)) from hMp.congr (fun j hj => ⟨rfl, hAB j⟩))
    obtain ⟨z1, hz1⟩ := bool_of (∀ i, i < s.c → 0 < s.M i l → s.M i = tok l)
    obtain ⟨z2, hz2⟩ := bool_of (∀ i, i < s.c → Rch st k (s.M i) (tok l))
    obtain ⟨z3, hz3⟩ := bool_of (∀ t, t < k → ∃ i, i < s.c ∧ ∃ c, fire (st t) (s.M i) = some c)
    have HC1 := hide (show ∀ d os, Calls Try.prog 71 #[.map (some b), .int .i64 (l : Int)] (grow (redrawn w4 d) os) fun e w'' => e = .returned (.bool z1) ∧ ∃ p : Regrown, w'' = grow (redrawn w4 p.d) p.os from fun d os => Calls.regrown_of (last_only l (l + 1) b s.c s.M _ _ z1 _ (by omega) hn8 (HMq.out.down (below_regrown w4 d os)) HOk.out.mark hz1))
    have HC2 := hide (show ∀ d os, Calls Try.prog 70 #[.int .i64 (l : Int)] (grow (redrawn w4 d) os) fun e w'' => e = .returned (mkV (tok l)) ∧ ∃ p : Regrown, w'' = grow (redrawn w4 p.d) p.os from fun d os => Calls.regrown_of (token_in l _ (by omega)))
    have HC3 := hide (show ∀ d os, Calls Try.prog 72 #[.agg #[.int .i64 ((l : Int) + 1), .slice a k cap], .map (some b), mkV (tok l)] (grow (redrawn w4 d) os) fun e w'' => e = .returned (.bool z2) ∧ ∃ p : Regrown, w'' = grow (redrawn w4 p.d) p.os from fun d os => Calls.regrown_of (HA.out s rfl _ b z2 _ ((HV.out.below hbw4).below (below_regrown w4 d os)) (HMp.out.down (below_regrown w4 d os)) hz2))
    have HC4 := hide (show ∀ d os, Calls Try.prog 73 #[.agg #[.int .i64 ((l : Int) + 1), .slice a k cap], .map (some b)] (grow (redrawn w4 d) os) fun e w'' => e = .returned (.bool z3) ∧ ∃ p : Regrown, w'' = grow (redrawn w4 p.d) p.os from fun d os => Calls.regrown_of (each_fires _ _ k st (l + 1) b s.c s.M _ _ z3 _ ((HV.out.below hbw4).below (below_regrown w4 d os)) HS.out HG.out hn8 (HMq.out.down (below_regrown w4 d os)) HOk.out.mark hz3))
    have HZ := hide (show (z1 && z2 && z3) = true ↔ Snd st k s l (one l) from by
      rw [Bool.and_eq_true, Bool.and_eq_true, hz1, hz2, hz3]
      exact ⟨fun h => ⟨fun i hi => ⟨h.1.1 i hi, h.1.2 i hi⟩, h.2⟩, fun h => ⟨⟨fun i hi => (h.1 i hi).1, fun i hi => (h.1 i hi).2⟩, h.2⟩⟩)
    have x0 := cell_regrown hc4.1
    have x1 := cell_regrown hc4.2
    have HBz := hide (show ∀ d os, Below w.heap.size w (grow (redrawn w4 d) os) from fun d os => hbw4.trans ((below_regrown w4 d os).mono hbw4.size))
    clear hz1 hz2 hz3 hok hMp hAB HMp HMq HOk HA HG HM HR HS HV hbi HN4 hbw4
    go_upto_region 7 with fail
    clear hc4
    rcases (show z1 = false ∨ (z1 = true ∧ z2 = false) ∨ (z1 = true ∧ z2 = true) by cases z1 <;> cases z2 <;> simp) with rfl | ⟨rfl, rfl⟩ | ⟨rfl, rfl⟩
    all_goals
      refine wp_region_quiet_below (by kernel_rfl) (by kernel_rfl) ?_
      repeat (go_big_quiet_step (first | with_reducible exact HC1.out _ _ | with_reducible exact HC2.out _ _ | with_reducible exact HC3.out _ _ | with_reducible exact HC4.out _ _))
      refine wpQuiet_nil ?_
      intro _ hw'
      obtain ⟨⟨dq, osq⟩, hw''⟩ := hw'
      subst hw''
      go_wp2
      go_ret2
      exact ⟨⟨_, rfl, by simpa using HZ.out⟩, HBz.out _ _⟩
end Go.Proofs.Ythilapalgakhhaa
