/-
  CountSteps: wrong arguments; the specification's text.
-/
import Derived.Test.YthilapalgakhhaaNetCnt
import Derived.Test.YthilapalgakhhaaNetFireS
namespace Go.Proofs.Ythilapalgakhhaa
open Go.RowKit M
open Clk (upd upd_same upd_other)
set_option maxHeartbeats 1000000 in
theorem impl_cnt_no (p : Int) (v : Value) (k : Nat) (st : Nat → Sp) (u : Value) (n : Nat) (f : Nat → Int) (t : Value) (m : Nat) (cs : Nat → Int) (w : World) (hv : StepsOf w v k st) (hu : IntsOf w u n f) (ht : IntsOf w t m cs) (hs : Short k st) (hn : n ≤ 1048576) (hm : m ≤ 1048576) (h : ¬ COk p k st n f m cs) :
    Calls Try.prog 39 #[netV p v, u, t] w fun e w' => e = .returned (.tuple #[.slice none 0 0, .bool false]) ∧ Below w.heap.size w w' := by
  have HV := hide hv
  have HU := hide hu
  have HT := hide ht
  have HS := hide hs
  obtain ⟨a, cap, rfl⟩ := hv.form
  obtain ⟨a2, cap2, rfl⟩ := hu.form
  obtain ⟨a3, cap3, rfl⟩ := ht.form
  have hk := hs.1
  have hbA := (Below.refl w.heap.size w).alloc (Nat.le_refl _) (.cells #[.int .i64 p, .slice a k cap] 29)
  have hN := Blk.fresh w _ 2 (p2 (.int .i64 p) (.slice a k cap)) 29 rfl
  clear hv hu hs ht
  by_cases hok : NOk p k st n f
  · have HN := hide hok
    by_cases hmk : m = k
    · subst hmk
      have HC := hide (show decide (All m cs 0 100) = false by rw [decide_eq_false_iff_not]; exact fun hc => h ⟨hok, rfl, hc⟩)
      have hne : ((m : Int) != (m : Int)) = false := by simp
      clear h hok
      go_enter Try.func39, Try.ntmps39
      go_wp2_with fail
      refine (marking_in p _ m st _ n f _ (HV.out.below hbA) (HU.out.below hbA) HS.out HN.out).mono ?_
      rintro e w1 ⟨rfl, hb⟩
      have hb1 := hbA.trans (hb.mono hbA.size)
      obtain ⟨d0, d1, -, -⟩ := (hN.down hb).pair
      have hs1 := (hN.down hb).lt
      have hb2 := hb1.alloc hb1.size (.cells (cf 8 (iv (pad n f))) 68)
      clear hbA hN hb HV HU HS HN
      go_wp2_with fail
      refine (all_within _ m cs _ _ _ _ (HT.out.below hb2) hm HC.out).mono ?_
      rintro e w3 ⟨rfl, rfl⟩
      clear d0 d1 hb1 HC HT
      go_wp2
      go_ret2
      exact ⟨rfl, hb2⟩
    · have hne : ((m : Int) != (k : Int)) = true := by simp; omega
      clear h hok hmk
      go_enter Try.func39, Try.ntmps39
      go_wp2_with fail
      refine (marking_in p _ k st _ n f _ (HV.out.below hbA) (HU.out.below hbA) HS.out HN.out).mono ?_
      rintro e w1 ⟨rfl, hb⟩
      have hb1 := hbA.trans (hb.mono hbA.size)
      obtain ⟨d0, d1, -, -⟩ := (hN.down hb).pair
      have hs1 := (hN.down hb).lt
      have hb2 := hb1.alloc hb1.size (.cells (cf 8 (iv (pad n f))) 68)
      clear hbA hN hb HV HU HS HN HT hb1
      go_wp2
      go_ret2
      exact ⟨rfl, hb2⟩
  · have HN := hide hok
    clear h hok
    go_enter Try.func39, Try.ntmps39
    go_wp2_with fail
    refine (marking_no p _ k st _ n f _ (HV.out.below hbA) (HU.out.below hbA) HS.out hn HN.out).mono ?_
    rintro e w1 ⟨rfl, hb⟩
    have hb1 := hbA.trans (hb.mono hbA.size)
    clear hbA hN hb HV HU HS HN HT
    go_wp2
    go_ret2
    exact ⟨rfl, hb1.alloc hb1.size _⟩
set_option maxHeartbeats 1000000 in
theorem spec_cnt_no (p : Int) (v : Value) (k : Nat) (st : Nat → Sp) (u : Value) (n : Nat) (f : Nat → Int) (t : Value) (m : Nat) (cs : Nat → Int) (w : World) (hv : StepsOf w v k st) (hu : IntsOf w u n f) (ht : IntsOf w t m cs) (hs : Short k st) (hn : n ≤ 1048576) (_ : m ≤ 1048576) (h : ¬ (NOk p k st n f ∧ m = k)) :
    Calls Try.prog 38 #[netV p v, u, t] w fun e w' => e = .returned (.tuple #[.slice none 0 0, .bool false]) ∧ Below w.heap.size w w' := by
  have HV := hide hv
  have HU := hide hu
  have HS := hide hs
  obtain ⟨a, cap, rfl⟩ := hv.form
  obtain ⟨a2, cap2, rfl⟩ := hu.form
  obtain ⟨a3, cap3, rfl⟩ := ht.form
  have hk := hs.1
  have hbA := (Below.refl w.heap.size w).alloc (Nat.le_refl _) (.cells #[.int .i64 p, .slice a k cap] 29)
  have hN := Blk.fresh w _ 2 (p2 (.int .i64 p) (.slice a k cap)) 29 rfl
  clear hv hu hs ht
  by_cases hg : GoodN p k st
  · have HGood := hide (show decide (GoodN p k st) = true by rw [decide_eq_true_eq]; exact hg)
    by_cases hm' : MOk n f p
    · have HMk := hide (show decide (MOk n f p) = true by rw [decide_eq_true_eq]; exact hm')
      have hne : ((m : Int) != (k : Int)) = true := by simp; intro e; exact h ⟨⟨hg, hm'⟩, by omega⟩
      clear h hg hm'
      go_enter Try.func38, Try.ntmps38
      go_wp2_with fail
      refine (spec_good p _ k st _ _ (HV.out.below hbA) HS.out HGood.out).mono ?_
      rintro e w1 ⟨rfl, hb⟩
      have hb1 := hbA.trans (hb.mono hbA.size)
      have hN1 := hN.down hb
      obtain ⟨d0, d1, -, -⟩ := hN1.pair
      clear hN hb hbA HGood
      go_wp2_with fail
      refine (l3mark_to p _ _ _ _ n f _ _ (HU.out.below hb1) hn HMk.out).mono ?_
      rintro e w2 ⟨rfl, hb⟩
      have hb2 := hb1.trans (hb.mono hb1.size)
      obtain ⟨d0', d1', -, -⟩ := (hN1.down hb).pair
      clear hN1 hb hb1 HMk d0 d1 HV HU HS
      go_wp2
      go_ret2
      exact ⟨rfl, hb2⟩
    · have HMk := hide (show decide (MOk n f p) = false by rw [decide_eq_false_iff_not]; exact hm')
      clear h hg hm'
      go_enter Try.func38, Try.ntmps38
      go_wp2_with fail
      refine (spec_good p _ k st _ _ (HV.out.below hbA) HS.out HGood.out).mono ?_
      rintro e w1 ⟨rfl, hb⟩
      have hb1 := hbA.trans (hb.mono hbA.size)
      obtain ⟨d0, d1, -, -⟩ := (hN.down hb).pair
      clear hN hb hbA HGood
      go_wp2_with fail
      refine (l3mark_to p _ _ _ _ n f _ _ (HU.out.below hb1) hn HMk.out).mono ?_
      rintro e w2 ⟨rfl, hb⟩
      have hb2 := hb1.trans (hb.mono hb1.size)
      clear hb hb1 HMk d0 d1 HV HU HS
      go_wp2
      go_ret2
      exact ⟨rfl, hb2⟩
  · have HGood := hide (show decide (GoodN p k st) = false by rw [decide_eq_false_iff_not]; exact hg)
    clear h hg hN
    go_enter Try.func38, Try.ntmps38
    go_wp2_with fail
    refine (spec_good p _ k st _ _ (HV.out.below hbA) HS.out HGood.out).mono ?_
    rintro e w1 ⟨rfl, hb⟩
    have hb1 := hbA.trans (hb.mono hbA.size)
    clear hb hbA HGood HV HU HS
    go_wp2
    go_ret2
    exact ⟨rfl, hb1⟩
end Go.Proofs.Ythilapalgakhhaa
