/-
  The specification's MarksFrom, at every net and list.
-/
import Derived.Test.YthilapalgakhhaaNetFromB
import Derived.Test.YthilapalgakhhaaNetMark
namespace Go.Proofs.Ythilapalgakhhaa
open Go.RowKit M
namespace M
theorem FrA.form {n : Nat} {r : Option Bs} {e : Ending} {w' : World} (h : FrA n r e w') : ∃ r1 r2, e = .returned (.tuple #[r1, r2, .bool r.isSome]) ∧ (∀ s, r = some s → ∃ pb, IsPath s pb ∧ RowO w' 0 r1 s.c n s.M ∧ RowP w' 0 r2 s.c pb) ∧ (r = none → r1 = .slice none 0 0 ∧ r2 = .slice none 0 0) := by
  cases r with
  | none => exact ⟨_, _, h, fun s hs => (by cases hs), fun _ => ⟨rfl, rfl⟩⟩
  | some s =>
    obtain ⟨r1, r2, pb, he, h1, h2, h3⟩ := h
    exact ⟨r1, r2, he, fun s' hs => (by cases hs; exact ⟨pb, h1, h2, h3⟩), fun hn => (by cases hn)⟩
end M
set_option maxRecDepth 20000 in
set_option maxHeartbeats 1000000 in
theorem spec_marks_r (n : Nat) (v : Value) (k : Nat) (st : Nat → Sp) (u : Value) (f : Nat → Int) (r : Option Bs) (w : World) (hv : StepsOf w v k st) (hu : IntsOf w u n f) (hs : Short k st) (h : NOk (n : Int) k st n f) (hr : foundB st k (pad n f) = r) :
    Calls Try.prog 29 #[netV (n : Int) v, u] w fun e w' => (∃ r1, e = .returned (.tuple #[r1, .bool r.isSome]) ∧ (∀ s, r = some s → IntssOf w' r1 s.c n s.M) ∧ (r = none → r1 = .slice none 0 0)) ∧ Below w.heap.size w w' := by
  have HV := hide hv
  have HU := hide hu
  have HS := hide hs
  have HR := hide hr
  obtain ⟨a, cap, rfl⟩ := hv.form
  obtain ⟨a2, cap2, rfl⟩ := hu.form
  have hk := hs.1
  have hn8 : n ≤ 8 := by have := h.1.1.2; omega
  have hn1 : 1 ≤ n := by have := h.1.1.1; omega
  have HGood := hide (show decide (GoodN (n : Int) k st) = true by rw [decide_eq_true_eq]; exact h.1)
  have HMk := hide (show decide (MOk n f (n : Int)) = true by rw [decide_eq_true_eq]; exact h.2)
  have HG := hide h.1.2.2
  have HM := hide h.mk
  have hbA := (Below.refl w.heap.size w).alloc (Nat.le_refl _) (.cells #[.int .i64 (n : Int), .slice a k cap] 29)
  have hN := Blk.fresh w _ 2 (p2 (.int .i64 (n : Int)) (.slice a k cap)) 29 rfl
  clear hv hu hs h hr
  go_enter Try.func29, Try.ntmps29
  go_wp2_with fail
  refine (spec_good _ _ k st _ _ (HV.out.below hbA) HS.out HGood.out).mono ?_
  rintro e w1 ⟨rfl, hb⟩
  have hb1 := hbA.trans (hb.mono hbA.size)
  have hN1 := hN.down hb
  obtain ⟨d0, d1, -, -⟩ := hN1.pair
  clear hN hb hbA HGood
  go_wp2_with fail
  refine (l3mark_to _ _ _ _ _ n f _ _ (HU.out.below hb1) (by omega) HMk.out).mono ?_
  rintro e w2 ⟨rfl, hb⟩
  have hb2 := hb1.trans (hb.mono hb1.size)
  have hN2 := hN1.down hb
  obtain ⟨d0', d1', -, -⟩ := hN2.pair
  clear hN1 hb hb1 HMk d0 d1
  go_wp2_with fail
  refine (l3from n _ k st _ (pad n f) _ (HV.out.below hb2) ((HU.out.below hb2).ext (fun j hj => (pad_at hj).symm)) HS.out hn1 hn8 HG.out HM.out).mono ?_
  rintro e w3 ⟨hF, hb⟩
  have hb3 := hb2.trans (hb.mono hb2.size)
  rw [HR.out] at hF
  obtain ⟨r1, r2, rfl, hy, hno⟩ := hF.form
  have HY := hide (show (∀ s, r = some s → IntssOf w3 r1 s.c n s.M) ∧ (r = none → r1 = .slice none 0 0) from ⟨fun s hs => by obtain ⟨pb, _, h2, _⟩ := hy s hs; exact h2.intss, fun h => (hno h).1⟩)
  clear hF hy hno hb hb2 hN2 d0' d1' HV HU HS HG HM HR
  go_wp2
  go_ret2
  exact ⟨⟨_, rfl, HY.out.1, HY.out.2⟩, hb3⟩
theorem spec_marks (n : Nat) (v : Value) (k : Nat) (st : Nat → Sp) (u : Value) (f : Nat → Int) (s : Bs) (w : World) (hv : StepsOf w v k st) (hu : IntsOf w u n f) (hs : Short k st) (h : NOk (n : Int) k st n f) (hf : foundB st k (pad n f) = some s) :
    Calls Try.prog 29 #[netV (n : Int) v, u] w fun e w' => (∃ r, e = .returned (.tuple #[r, .bool true]) ∧ IntssOf w' r s.c n s.M) ∧ Below w.heap.size w w' :=
  (spec_marks_r n v k st u f (some s) w hv hu hs h hf).mono fun _ _ ⟨⟨r1, he, h1, _⟩, hb⟩ => ⟨⟨r1, he, h1 s rfl⟩, hb⟩
set_option maxRecDepth 20000 in
set_option maxHeartbeats 1000000 in
theorem spec_marks_no (p : Int) (v : Value) (k : Nat) (st : Nat → Sp) (u : Value) (n : Nat) (f : Nat → Int) (w : World) (hv : StepsOf w v k st) (hu : IntsOf w u n f) (hs : Short k st) (hn : n ≤ 1048576) (h : ¬ NOk p k st n f ∨ (NOk p k st n f ∧ foundB st k (pad n f) = none)) :
    Calls Try.prog 29 #[netV p v, u] w fun e w' => e = .returned (.tuple #[.slice none 0 0, .bool false]) ∧ Below w.heap.size w w' := by
  rcases h with h | ⟨h, hf⟩
  · have HV := hide hv
    have HU := hide hu
    have HS := hide hs
    obtain ⟨a, cap, rfl⟩ := hv.form
    obtain ⟨a2, cap2, rfl⟩ := hu.form
    have hbA := (Below.refl w.heap.size w).alloc (Nat.le_refl _) (.cells #[.int .i64 p, .slice a k cap] 29)
    have hN := Blk.fresh w _ 2 (p2 (.int .i64 p) (.slice a k cap)) 29 rfl
    by_cases hg : GoodN p k st
    · have HGood := hide (show decide (GoodN p k st) = true by rw [decide_eq_true_eq]; exact hg)
      have HMk := hide (show decide (MOk n f p) = false by rw [decide_eq_false_iff_not]; exact fun hm => h ⟨hg, hm⟩)
      clear hv hu hs h hg
      go_enter Try.func29, Try.ntmps29
      go_wp2_with fail
      refine (spec_good _ _ k st _ _ (HV.out.below hbA) HS.out HGood.out).mono ?_
      rintro e w1 ⟨rfl, hb⟩
      have hb1 := hbA.trans (hb.mono hbA.size)
      obtain ⟨d0, d1, -, -⟩ := (hN.down hb).pair
      clear hN hb hbA HGood
      go_wp2_with fail
      refine (l3mark_to _ _ _ _ _ n f _ _ (HU.out.below hb1) hn HMk.out).mono ?_
      rintro e w2 ⟨rfl, hb⟩
      have hb2 := hb1.trans (hb.mono hb1.size)
      clear hb hb1 HMk d0 d1 HV HU HS
      go_wp2
      go_ret2
      exact ⟨rfl, hb2⟩
    · have HGood := hide (show decide (GoodN p k st) = false by rw [decide_eq_false_iff_not]; exact hg)
      clear hv hu hs h hg
      go_enter Try.func29, Try.ntmps29
      go_wp2_with fail
      refine (spec_good _ _ k st _ _ (HV.out.below hbA) HS.out HGood.out).mono ?_
      rintro e w1 ⟨rfl, hb⟩
      have hb1 := hbA.trans (hb.mono hbA.size)
      clear hN hb hbA HGood HV HU HS
      go_wp2
      go_ret2
      exact ⟨rfl, hb1⟩
  · obtain rfl : p = (n : Int) := h.2.2.symm
    refine (spec_marks_r n v k st u f none w hv hu hs h hf).mono ?_
    rintro e w' ⟨⟨r1, he, _, h2⟩, hb⟩
    obtain rfl := h2 rfl
    exact ⟨he, hb⟩
end Go.Proofs.Ythilapalgakhhaa
