/-
  The specification's FinishFrom, at every net and list.
-/
import Derived.Test.YthilapalgakhhaaNetMarksS
import Derived.Test.YthilapalgakhhaaNetFin
namespace Go.Proofs.Ythilapalgakhhaa
open Go.RowKit M
namespace M
def pathF (s : Bs) : Nat → Nat → List Nat
  | 0, _ => []
  | f + 1, j => if j = 0 then [] else pathF s f (s.fr j) ++ [s.st j]
theorem pathF_fuel {p k : Nat} {s : Bs} (hk : BOk p k s) : ∀ j, j < s.c → ∀ f, j ≤ f → pathF s f j = pathF s j j := by
  intro j
  induction j using Nat.strongRecOn with
  | _ j ih =>
    intro hj f hf
    by_cases h0 : j = 0
    · subst h0
      cases f with
      | zero => rfl
      | succ f => simp [pathF]
    · obtain ⟨g, rfl⟩ : ∃ g, f = g + 1 := ⟨f - 1, by omega⟩
      obtain ⟨i, rfl⟩ : ∃ i, j = i + 1 := ⟨j - 1, by omega⟩
      have hb := hk.back (i + 1) (by omega) hj
      simp only [pathF, if_neg h0]
      rw [ih _ hb (by omega) g (by omega), ih _ hb (by omega) i (by omega)]
def pathOf (s : Bs) : Nat → List Nat := fun j => pathF s j j
theorem pathOf_is {p k : Nat} {s : Bs} (hk : BOk p k s) : IsPath s (pathOf s) := by
  refine ⟨rfl, fun j h0 hj => ?_⟩
  obtain ⟨i, rfl⟩ : ∃ i, j = i + 1 := ⟨j - 1, by omega⟩
  have hb := hk.back (i + 1) (by omega) hj
  unfold pathOf
  rw [show pathF s (i + 1) (i + 1) = pathF s i (s.fr (i + 1)) ++ [s.st (i + 1)] by simp [pathF]]
  rw [pathF_fuel hk _ (by omega) i (by omega)]
theorem IsPath.uniq {p k : Nat} {s : Bs} {pb pb' : Nat → List Nat} (hk : BOk p k s) (h : IsPath s pb) (h' : IsPath s pb') : ∀ j, j < s.c → pb j = pb' j := by
  intro j
  induction j using Nat.strongRecOn with
  | _ j ih =>
    intro hj
    by_cases h0 : j = 0
    · subst h0; rw [h.1, h'.1]
    · have hb := hk.back j (by omega) hj
      rw [h.2 j (by omega) hj, h'.2 j (by omega) hj, ih _ hb (by omega)]
/-- What FinishFrom tells of what was found. -/
def FinA (r : Option Bs) (n : Nat) (w' : World) (e : Ending) : Prop :=
  ((r = none ∨ ∃ s, r = some s ∧ NoKey s.c s.M (tok (n - 1))) ∧ e = .returned (.tuple #[.slice none 0 0, .bool false])) ∨
  ∃ s d R, r = some s ∧ d < s.c ∧ NoKey d s.M (tok (n - 1)) ∧ veq8 (tok (n - 1)) (s.M d) = true ∧ e = .returned (.tuple #[R, .bool true]) ∧ IntsOf w' R (pathOf s d).length (lv (pathOf s d))
end M
set_option maxRecDepth 20000 in
set_option maxHeartbeats 1000000 in
theorem spec_fin (n : Nat) (v : Value) (k : Nat) (st : Nat → Sp) (u : Value) (f : Nat → Int) (r : Option Bs) (w : World) (hv : StepsOf w v k st) (hu : IntsOf w u n f) (hs : Short k st) (h : NOk (n : Int) k st n f) (hr : foundB st k (pad n f) = r) :
    Calls Try.prog 42 #[netV (n : Int) v, u] w fun e w' => FinA r n w' e ∧ Below w.heap.size w w' := by
  obtain ⟨i0, hi, hz0, hz1, hz2⟩ := info_parts info_int
  have HV := hide hv
  have HU := hide hu
  have HS := hide hs
  have HR := hide hr
  obtain ⟨a, cap, rfl⟩ := hv.form
  obtain ⟨a2, cap2, rfl⟩ := hu.form
  have hk := hs.1
  have hn8 : n ≤ 8 := by have := h.1.1.2; omega
  have hn1 : 1 ≤ n := by have := h.1.1.1; omega
  have HGood := hide (show decide (GoodN (n : Int) k st) = true by rw [decide_eq_true_eq]; exact h.1)
  have HMk := hide (show decide (MOk n f (n : Int)) = true by rw [decide_eq_true_eq]; exact h.2)
  have HG := hide h.1.2.2
  have HM := hide h.mk
  have HB := hide (show ∀ s, r = some s → BOk n k s from fun s e => allB_ok h.1.2.2 h.mk (by rw [← e]; exact hr))
  have hbA := (Below.refl w.heap.size w).alloc (Nat.le_refl _) (.cells #[.int .i64 (n : Int), .slice a k cap] 29)
  have hN := Blk.fresh w _ 2 (p2 (.int .i64 (n : Int)) (.slice a k cap)) 29 rfl
  clear hv hu hs h hr
  go_enter Try.func42, Try.ntmps42
  go_wp2_with fail
  refine (spec_good _ _ k st _ _ (HV.out.below hbA) HS.out HGood.out).mono ?_
  rintro e w1 ⟨rfl, hb⟩
  have hb1 := hbA.trans (hb.mono hbA.size)
  have hN1 := hN.down hb
  obtain ⟨d0, d1, -, -⟩ := hN1.pair
  clear hN hb hbA HGood
  go_wp2_with fail
  refine (l3mark_to _ _ _ _ _ n f _ _ (HU.out.below hb1) (by omega) HMk.out).mono ?_
  rintro e w2 ⟨rfl, hb⟩
  have hb2 := hb1.trans (hb.mono hb1.size)
  have hN2 := hN1.down hb
  obtain ⟨d0', d1', -, -⟩ := hN2.pair
  clear hN1 hb hb1 HMk d0 d1
  go_wp2_with fail
  refine (l3from n _ k st _ (pad n f) _ (HV.out.below hb2) ((HU.out.below hb2).ext (fun j hj => (pad_at hj).symm)) HS.out hn1 hn8 HG.out HM.out).mono ?_
  rintro e w3 ⟨hF, hb⟩
  have hb3 := hb2.trans (hb.mono hb2.size)
  rw [HR.out] at hF
  have hN3 := hN2.down hb
  obtain ⟨d0, d1, -, -⟩ := hN3.pair
  obtain ⟨m, rfl⟩ : ∃ m, n = m + 1 := ⟨n - 1, by omega⟩
  have hs3 := hb3.size
  clear hb hb2 hN2 d0' d1' HV HU HS HG HM HR hN3
  cases r with
  | none =>
    have hF' : e = _ := hF
    subst hF'
    clear hF
    go_wp2_with fail
    refine (l3one (m + 1) m _ hn8 (by omega)).mono ?_
    rintro e w4 ⟨⟨rfl, hB4⟩, hb⟩
    have hb4 := hb3.trans (hb.mono hs3)
    clear hb d0 d1
    go_wp2_with fail
    refine (l3at _ _ 0 (m + 1) (fun _ _ => 0) (one m) _ ⟨_, _, rfl, fun h => absurd h (Nat.lt_irrefl _)⟩ hB4.ints (by omega) hn8 (fun j hj => absurd hj (by omega)) (one_mk (by omega))).mono ?_
    rintro e w5 ⟨hat, hb⟩
    have hb5 := hb4.trans (hb.mono hb4.size)
    rcases hat with ⟨-, rfl⟩ | ⟨d, hd, -⟩
    · clear hb hB4
      go_wp2
      go_ret2
      exact ⟨.inl ⟨.inl rfl, rfl⟩, hb5⟩
    · omega
  | some s =>
    obtain ⟨r1, r2, pb, rfl, hp, hO, hPp⟩ := hF
    have hok := HB.out s rfl
    have hmost := hok.most
    have HPe := hide (fun j hj => hp.uniq hok (pathOf_is hok) j hj)
    have HLe := hide (fun j hj => (pathOf_is hok).len hok j hj)
    obtain ⟨ao, co, rfl⟩ := hO.form
    obtain ⟨ap, cp, rfl⟩ := hPp.form
    go_wp2_with fail
    refine (l3one (m + 1) m _ hn8 (by omega)).mono ?_
    rintro e w4 ⟨⟨rfl, hB4⟩, hb⟩
    have hb4 := hb3.trans (hb.mono hs3)
    have hO4 := hO.down hb
    have hP4 := hPp.down hb
    clear hb d0 d1 hO hPp
    go_wp2_with fail
    refine (l3at _ _ s.c (m + 1) s.M (one m) _ hO4.intss hB4.ints (by omega) hn8 hok.mark (one_mk (by omega))).mono ?_
    rintro e w5 ⟨hat, hb⟩
    have hb5 := hb4.trans (hb.mono hb4.size)
    have hP5 := hP4.down hb
    clear hb hB4 hO4 hP4
    rcases hat with ⟨hkn, rfl⟩ | ⟨d, hd, hno, hyes, rfl⟩
    · have HN := hide (kn_false.1 hkn)
      clear hP5 hp hkn HPe HLe
      go_wp2
      go_ret2
      exact ⟨.inl ⟨.inr ⟨s, rfl, HN.out⟩, rfl⟩, hb5⟩
    · obtain ⟨bb, cb, rr, he, hbb, hcc, hoo⟩ := hP5.at hd
      obtain ⟨rfl, rfl⟩ : ap = some ⟨bb, 0, none⟩ ∧ cp = cb := by simpa using he
      rw [HPe.out d hd] at hoo
      have hll := HLe.out d hd
      have HX := hide (And.intro hno hyes)
      have hd0 : ¬ ((d : Int) < 0) := by omega
      have hd1 : ((d : Int) < (s.c : Int)) := by omega
      have hd2 : (0 : Int) ≤ (d : Int) := by omega
      have hs5 := hb5.size
      have hbF := (Below.refl w5.heap.size w5).alloc (Nat.le_refl _) (.cells #[] 3)
      have hmade := World.ownsRow_made (base := w5.heap.size) (e := 3) (size := 1) w5 #[] 0 (Nat.le_refl _) (Nat.zero_le _) rfl
      have hpcF := (hbF.cell (p := ⟨bb, d, none⟩) hbb).trans hcc
      have hpoF := owns_below hoo hbF
      rcases hoo.2 with ⟨hpn, hpz⟩ | ⟨gp, cpp, cur, hpn, -, -⟩
      · subst hpn
        have HZ := hide (show IntsOf (w5.alloc (.cells #[] 3)) (.slice (some ⟨w5.heap.size, 0, none⟩) 0 0) (pathOf s d).length (lv (pathOf s d)) from by rw [hpz]; exact ⟨_, _, rfl, fun h => absurd h (Nat.lt_irrefl _)⟩)
        have hbz := hb5.trans (hbF.mono hs5)
        clear hP5 hp HPe HLe hoo hpoF he hcc hpz hno hyes
        go_wp2_with (at_builtin; refine wpList_append_own_none rfl _ _ 33 rfl w5.heap.size 3 i0 1 Try.underlying33 hi _ _ _ rfl hmade rfl ?_)
        go_ret2
        exact ⟨.inr ⟨s, d, _, rfl, hd, HX.out.1, HX.out.2, rfl, HZ.out⟩, hbz⟩
      · subst hpn
        have hnw : ∀ j u, (pv (pathOf s d))[j]? = some u → (w5.alloc (.cells #[] 3)).cell? ((⟨gp, 0, none⟩ : Addr).add j) = some u := fun j u hj => by
          obtain ⟨a', c', ha', hr'⟩ := own_cells hpoF (by rw [pv_len]; omega)
          have hjl := (List.getElem?_eq_some_iff.1 hj).1
          rw [pv_len] at hjl
          obtain ⟨g', e', -, -, hc'⟩ := hr' (by omega)
          subst e'
          simp only [Value.slice.injEq, Option.some.injEq, Addr.mk.injEq, and_true] at ha'
          rw [Addr.add_lit, Nat.zero_add, ha'.1]
          exact hc' j u hj
        clear hP5 hp HPe HLe hoo hpoF he hcc hno hyes
        go_wp2_with (at_builtin; refine wpList_append_own _ rfl _ _ 33 rfl w5.heap.size 3 i0 _ 1 8 Try.underlying33 hi hz0 hz1 hz2 rfl (by decide) _ 0 [] rfl hmade ⟨gp, 0, none⟩ (pathOf s d).length cpp (pv (pathOf s d)) rfl (by rw [pv_len]; omega) hnw (pv_one _) (by unfold maxLen; omega) (by omega) (by simp) ?_)
        intro v7 w7 hown7 hgrow7 _
        have hb7 : Below w5.heap.size w5 w7 := hbF.grown hgrow7 hbF.size (fun j hj => by simp [Value.ownBlock] at hj; omega)
        have hbz := hb5.trans (hb7.mono hs5)
        have HZ := hide (show IntsOf w7 v7 (pathOf s d).length (lv (pathOf s d)) from by
          have h7 : w7.ownsRow w5.heap.size 3 1 v7 (pathOf s d).length (pv (pathOf s d)) := by simpa using hown7
          rw [pv_range] at h7
          exact own_ints h7)
        clear hgrow7 hmade hnw hpcF hbF hown7
        go_wp2
        go_ret2
        exact ⟨.inr ⟨s, d, _, rfl, hd, HX.out.1, HX.out.2, rfl, HZ.out⟩, hbz⟩
set_option maxHeartbeats 1000000 in
theorem spec_fin_no (p : Int) (v : Value) (k : Nat) (st : Nat → Sp) (u : Value) (n : Nat) (f : Nat → Int) (w : World) (hv : StepsOf w v k st) (hu : IntsOf w u n f) (hs : Short k st) (hn : n ≤ 1048576) (h : ¬ NOk p k st n f) :
    Calls Try.prog 42 #[netV p v, u] w fun e w' => e = .returned (.tuple #[.slice none 0 0, .bool false]) ∧ Below w.heap.size w w' := by
  have HV := hide hv
  have HU := hide hu
  have HS := hide hs
  obtain ⟨a, cap, rfl⟩ := hv.form
  obtain ⟨a2, cap2, rfl⟩ := hu.form
  have hbA := (Below.refl w.heap.size w).alloc (Nat.le_refl _) (.cells #[.int .i64 p, .slice a k cap] 29)
  have hN := Blk.fresh w _ 2 (p2 (.int .i64 p) (.slice a k cap)) 29 rfl
  by_cases hg : GoodN p k st
  · have HGood := hide (show decide (GoodN p k st) = true by rw [decide_eq_true_eq]; exact hg)
    have HMk := hide (show decide (MOk n f p) = false by rw [decide_eq_false_iff_not]; exact fun hm => h ⟨hg, hm⟩)
    clear hv hu hs h hg
    go_enter Try.func42, Try.ntmps42
    go_wp2_with fail
    refine (spec_good _ _ k st _ _ (HV.out.below hbA) HS.out HGood.out).mono ?_
    rintro e w1 ⟨rfl, hb⟩
    have hb1 := hbA.trans (hb.mono hbA.size)
    obtain ⟨d0, d1, -, -⟩ := (hN.down hb).pair
    clear hN hb hbA HGood
    go_wp2_with fail
    refine (l3mark_to _ _ _ _ _ n f _ _ (HU.out.below hb1) hn HMk.out).mono ?_
    rintro e w2 ⟨rfl, hb⟩
    have hb2 := hb1.trans (hb.mono hb1.size)
    clear hb hb1 HMk d0 d1 HV HU HS
    go_wp2
    go_ret2
    exact ⟨rfl, hb2⟩
  · have HGood := hide (show decide (GoodN p k st) = false by rw [decide_eq_false_iff_not]; exact hg)
    clear hv hu hs h hg
    go_enter Try.func42, Try.ntmps42
    go_wp2_with fail
    refine (spec_good _ _ k st _ _ (HV.out.below hbA) HS.out HGood.out).mono ?_
    rintro e w1 ⟨rfl, hb⟩
    have hb1 := hbA.trans (hb.mono hbA.size)
    clear hN hb hbA HGood HV HU HS
    go_wp2
    go_ret2
    exact ⟨rfl, hb1⟩
end Go.Proofs.Ythilapalgakhhaa
