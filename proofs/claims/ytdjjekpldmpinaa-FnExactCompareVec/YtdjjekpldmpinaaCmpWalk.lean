/-
  The law of CompareVec, walked: it returns true and turns nothing that was there, at every two lists of numbers.
-/
import Derived.Test.YtdjjekpldmpinaaCmp2
namespace Go.Proofs.Ytdjjekpldmpinaa
open Go.RowKit M
set_option maxHeartbeats 2000000 in
theorem law_cmp_run (v u : Value) (n m : Nat) (f g : Nat → Int) (w : World) (hv : IntsOf w v n f) (hu : IntsOf w u m g) (hn : n ≤ 1048576) (hm : m ≤ 1048576) (c : Int) (ok : Bool)
    (hS : ∀ (v u : Value) (w : World), IntsOf w v n f → IntsOf w u m g → Calls Try.prog 31 #[v, u] w fun e w' => e = .returned (.tuple #[.int .i64 c, .bool ok]) ∧ Below w.heap.size w w')
    (hI : ∀ (v u : Value) (w : World), IntsOf w v n f → IntsOf w u m g → Calls Try.prog 33 #[v, u] w fun e w' => e = .returned (.tuple #[.int .i64 c, .bool ok]) ∧ Below w.heap.size w w') :
    Calls Try.prog 7 #[v, u] w fun e w' => e = .returned (.bool true) ∧ Below w.heap.size w w' := by
  have HV := hide hv
  have HU := hide hu
  have HS := hide hS
  have HI := hide hI
  obtain ⟨a, cap, rfl⟩ := hv.form
  obtain ⟨a2, cap2, rfl⟩ := hu.form
  have hgn : ¬ ((n : Int) > 1048576) := by omega
  have hgm : ¬ ((m : Int) > 1048576) := by omega
  have hcc : (c != c) = false := by simp
  have hok : (ok != ok) = false := by simp
  clear hv hu hS hI
  go_enter Try.func7, Try.ntmps7
  go_wp2_with fail
  refine (to_ints _ n f _ HV.out hn).mono ?_
  rintro e w1 ⟨⟨rfl, hB1⟩, hb1⟩
  have HB1 := hide hB1
  clear hB1
  go_wp2_with fail
  refine (to_ints _ m g _ (HU.out.below hb1) hm).mono ?_
  rintro e w2 ⟨⟨rfl, hB2⟩, hb⟩
  have hb2 := hb1.trans (hb.mono hb1.size)
  have HA1 := hide ((HB1.out.down hb).ints (cap := n))
  have HA2 := hide (hB2.ints (cap := m))
  clear hB2 HB1 hb hb1
  go_wp2_with fail
  refine (HS.out _ _ _ HA1.out HA2.out).mono ?_
  rintro e w3 ⟨rfl, hb⟩
  have hb3 := hb2.trans (hb.mono hb2.size)
  clear HA1 HA2 hb hb2
  go_wp2_with fail
  refine (to_ints _ n f _ (HV.out.below hb3) hn).mono ?_
  rintro e w4 ⟨⟨rfl, hB4⟩, hb⟩
  have hb4 := hb3.trans (hb.mono hb3.size)
  have HB4 := hide hB4
  clear hB4 hb hb3
  go_wp2_with fail
  refine (to_ints _ m g _ (HU.out.below hb4) hm).mono ?_
  rintro e w5 ⟨⟨rfl, hB5⟩, hb⟩
  have hb5 := hb4.trans (hb.mono hb4.size)
  have HA4 := hide ((HB4.out.down hb).ints (cap := n))
  have HA5 := hide (hB5.ints (cap := m))
  clear hB5 HB4 hb hb4
  go_wp2_with fail
  refine (HI.out _ _ _ HA4.out HA5.out).mono ?_
  rintro e w6 ⟨rfl, hb⟩
  have hb6 := hb5.trans (hb.mono hb5.size)
  have HA4 := hide (HA4.out.below hb)
  have HA5 := hide (HA5.out.below hb)
  clear hb hb5
  go_wp2_with fail
  refine (to_ints _ n f _ (HV.out.below hb6) hn).mono ?_
  rintro e w7 ⟨⟨rfl, hB7⟩, hb⟩
  have hb7 := hb6.trans (hb.mono hb6.size)
  have HA7 := hide (hB7.ints (cap := n))
  have HA4 := hide (HA4.out.below hb)
  have HA5 := hide (HA5.out.below hb)
  clear hb hb6 hB7
  go_wp2_with fail
  refine (eq_ints _ _ n f _ HA4.out HA7.out hn).mono ?_
  rintro e w8 ⟨rfl, hb⟩
  have hb8 := hb7.trans (hb.mono hb7.size)
  have HA5 := hide (HA5.out.below hb)
  clear hb hb7 HA4 HA7
  go_wp2_with fail
  refine (to_ints _ m g _ (HU.out.below hb8) hm).mono ?_
  rintro e w9 ⟨⟨rfl, hB9⟩, hb⟩
  have hb9 := hb8.trans (hb.mono hb8.size)
  have HA9 := hide (hB9.ints (cap := m))
  have HA5 := hide (HA5.out.below hb)
  clear hb hb8 hB9
  go_wp2_with fail
  refine (eq_ints _ _ m g _ HA5.out HA9.out hm).mono ?_
  rintro e w10 ⟨rfl, hb⟩
  have hb10 := hb9.trans (hb.mono hb9.size)
  clear hb hb9 HA5 HA9 HS HI HV HU
  go_wp2
  go_ret
  exact ⟨rfl, hb10⟩
theorem law_cmp (v : Value) (n : Nat) (f : Nat → Int) (u : Value) (m : Nat) (g : Nat → Int) (w : World) (hv : IntsOf w v n f) (mn : n ≤ maxLen) (hu : IntsOf w u m g) (mm : m ≤ maxLen) :
    Calls Try.prog 7 #[v, u] w fun e w' => e = .returned (.bool true) ∧ Below w.heap.size w w' := by
  unfold maxLen at mn mm
  by_cases hn : n ≤ 1048576
  · by_cases hm : m ≤ 1048576
    · by_cases hno : n = m ∧ n ≤ 6
      · obtain ⟨rfl, h6⟩ := hno
        exact law_cmp_run v u n n f g w hv hu hn hm _ _ (fun v u w h1 h2 => spec_cmp v u n f g w h1 h2 h6) (fun v u w h1 h2 => impl_cmp v u n f g w h1 h2 h6)
      · exact law_cmp_run v u n m f g w hv hu hn hm _ _ (fun v u w h1 h2 => spec_cmp_no v u n m f g w h1 h2 hn hm hno) (fun v u w h1 h2 => impl_cmp_no v u n m f g w h1 h2 hn hm hno)
    · obtain ⟨a, cap, rfl⟩ := hv.form
      obtain ⟨a2, cap2, rfl⟩ := hu.form
      have hgn : ¬ ((n : Int) > 1048576) := by omega
      have hgm : ((m : Int) > 1048576) := by omega
      clear hv hu
      go_enter Try.func7, Try.ntmps7
      go_wp2
      go_ret
      exact ⟨rfl, Below.refl _ _⟩
  · obtain ⟨a, cap, rfl⟩ := hv.form
    obtain ⟨a2, cap2, rfl⟩ := hu.form
    have hgn : ((n : Int) > 1048576) := by omega
    clear hv hu
    go_enter Try.func7, Try.ntmps7
    go_wp2
    go_ret
    exact ⟨rfl, Below.refl _ _⟩
end Go.Proofs.Ytdjjekpldmpinaa
