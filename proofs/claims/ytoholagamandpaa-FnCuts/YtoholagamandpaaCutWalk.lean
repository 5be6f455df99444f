/-
  The law of CutIsWhole, walked: it returns true and turns nothing that was there, at all arguments.
-/
import Derived.Test.YtoholagamandpaaCutS
import Derived.Test.YtoholagamandpaaGoodWalk2
namespace Go.Proofs.Ytoholagamandpaa
open Go.RowKit M
set_option maxHeartbeats 2000000 in
theorem law_cut_run (p : Int) (v : Value) (n : Nat) (l : Nat → Ac) (u : Value) (m : Nat) (c : Nat → Int) (w : World) (hv : ActsOf w v n l) (hu : IntsOf w u m c) (hn : n ≤ 1048576) (hm : m ≤ 1048576) (b ok : Bool)
    (hS : ∀ (v u : Value) (w : World), ActsOf w v n l → IntsOf w u m c → Calls Try.prog 13 #[.int .i64 p, v, u] w fun e w' => e = .returned (.tuple #[.bool b, .bool ok]) ∧ Below w.heap.size w w')
    (hI : ∀ (v u : Value) (w : World), ActsOf w v n l → IntsOf w u m c → Calls Try.prog 12 #[.int .i64 p, v, u] w fun e w' => e = .returned (.tuple #[.bool b, .bool ok]) ∧ Below w.heap.size w w') :
    Calls Try.prog 10 #[.int .i64 p, v, u] w fun e w' => e = .returned (.bool true) ∧ Below w.heap.size w w' := by
  have HV := hide hv
  have HU := hide hu
  have HS := hide hS
  have HI := hide hI
  obtain ⟨a, cap, rfl⟩ := hv.form
  obtain ⟨a2, cap2, rfl⟩ := hu.form
  have hge : ¬ (1048576 - (n : Int) < 0) := by omega
  have hgm : ¬ ((m : Int) > 1048576) := by omega
  have hbb : (b != b) = false := by simp
  have hok : (ok != ok) = false := by simp
  clear hv hu hS hI
  go_enter Try.func10, Try.ntmps10
  go_wp2_with fail
  refine (sz_acts _ n _ _ hn).mono ?_
  rintro e w1 ⟨rfl, rfl⟩
  go_wp2_with fail
  refine (to_acts _ n l _ HV.out hn).mono ?_
  rintro e w2 ⟨⟨rfl, hB2⟩, hb2⟩
  have HB2 := hide hB2
  clear hB2
  go_wp2_with fail
  refine (to_ints _ m c _ (HU.out.below hb2) hm).mono ?_
  rintro e w3 ⟨⟨rfl, hB3⟩, hb⟩
  have hb3 := hb2.trans (hb.mono hb2.size)
  have HA1 := hide ((HB2.out.down hb).acts (cap := n) rfl)
  have HA2 := hide (hB3.ints (cap := m))
  clear hB3 HB2 hb hb2
  go_wp2_with fail
  refine (HS.out _ _ _ HA1.out HA2.out).mono ?_
  rintro e w4 ⟨rfl, hb⟩
  have hb4 := hb3.trans (hb.mono hb3.size)
  clear HA1 HA2 hb hb3
  go_wp2_with fail
  refine (to_acts _ n l _ (HV.out.below hb4) hn).mono ?_
  rintro e w5 ⟨⟨rfl, hB5⟩, hb⟩
  have hb5 := hb4.trans (hb.mono hb4.size)
  have HB5 := hide hB5
  clear hB5 hb hb4
  go_wp2_with fail
  refine (to_ints _ m c _ (HU.out.below hb5) hm).mono ?_
  rintro e w6 ⟨⟨rfl, hB6⟩, hb⟩
  have hb6 := hb5.trans (hb.mono hb5.size)
  have HA5 := hide ((HB5.out.down hb).acts (cap := n) rfl)
  have HA6 := hide (hB6.ints (cap := m))
  clear hB6 HB5 hb hb5
  go_wp2_with fail
  refine (HI.out _ _ _ HA5.out HA6.out).mono ?_
  rintro e w7 ⟨rfl, hb⟩
  have hb7 := hb6.trans (hb.mono hb6.size)
  have HA5 := hide (HA5.out.below hb)
  have HA6 := hide (HA6.out.below hb)
  clear hb hb6
  go_wp2_with fail
  refine (to_acts _ n l _ (HV.out.below hb7) hn).mono ?_
  rintro e w8 ⟨⟨rfl, hB8⟩, hb⟩
  have hb8 := hb7.trans (hb.mono hb7.size)
  have HA8 := hide (hB8.acts (cap := n) rfl)
  have HA5 := hide (HA5.out.below hb)
  have HA6 := hide (HA6.out.below hb)
  clear hb hb7 hB8
  go_wp2_with fail
  refine (eq_acts _ _ n l _ HA5.out HA8.out hn).mono ?_
  rintro e w9 ⟨rfl, hb⟩
  have hb9 := hb8.trans (hb.mono hb8.size)
  have HA6 := hide (HA6.out.below hb)
  clear hb hb8 HA5 HA8
  go_wp2_with fail
  refine (to_ints _ m c _ (HU.out.below hb9) hm).mono ?_
  rintro e w10 ⟨⟨rfl, hB10⟩, hb⟩
  have hb10 := hb9.trans (hb.mono hb9.size)
  have HA10 := hide (hB10.ints (cap := m))
  have HA6 := hide (HA6.out.below hb)
  clear hb hb9 hB10
  go_wp2_with fail
  refine (eq_ints _ _ m c _ HA6.out HA10.out hm).mono ?_
  rintro e w11 ⟨rfl, hb⟩
  have hb11 := hb10.trans (hb.mono hb10.size)
  clear hb hb10 HA6 HA10 HS HI HV HU
  go_wp2
  go_ret
  exact ⟨rfl, hb11⟩
/-- At fine arguments both texts tell whether the cut is whole. -/
theorem both_cut (p : Int) (n : Nat) (l : Nat → Ac) (m : Nat) (c : Nat → Int) (hn : n ≤ 1048576) (h1 : -9223372036854775808 ≤ p) (h2 : p ≤ 9223372036854775807) : ∃ b ok : Bool,
    (∀ (v u : Value) (w : World), ActsOf w v n l → IntsOf w u m c → Calls Try.prog 13 #[.int .i64 p, v, u] w fun e w' => e = .returned (.tuple #[.bool b, .bool ok]) ∧ Below w.heap.size w w') ∧
    (∀ (v u : Value) (w : World), ActsOf w v n l → IntsOf w u m c → Calls Try.prog 12 #[.int .i64 p, v, u] w fun e w' => e = .returned (.tuple #[.bool b, .bool ok]) ∧ Below w.heap.size w w') ∧
    (ok = true → Fine p m n l c ∧ (b = true ↔ Clk.Whole (P l) (F l) (fun q => (pad m c q).toNat) n)) ∧ (ok = false → b = false ∧ ¬ Fine p m n l c) := by
  by_cases hf : Fine p m n l c
  · obtain ⟨hg, rfl, hc⟩ := hf
    have hw := WS_iff hg rfl hc
    have hi := WI_iff hg rfl hc
    have dec : ∃ b : Bool, b = true ↔ WS n l c := by
      by_cases h : WS n l c
      · exact ⟨true, fun _ => h, fun _ => rfl⟩
      · exact ⟨false, fun h' => (by cases h'), fun h' => absurd h' h⟩
    obtain ⟨b, hb⟩ := dec
    refine ⟨b, true, fun v u w hv hu => spec_cut v u m n l c b true w hv hu hg ⟨fun _ => hc, fun _ => rfl⟩ (fun _ => hb) (fun h => by cases h), fun v u w hv hu => impl_cut v u m n l c b w hv hu ⟨hg, rfl, hc⟩ (hb.trans (hw.trans hi.symm)), fun _ => ⟨⟨hg, rfl, hc⟩, hb.trans hw⟩, fun h => by cases h⟩
  · refine ⟨false, false, fun v u w hv hu => ?_, fun v u w hv hu => impl_cut_no p v u m n l c w hv hu hn hf, fun h => (by cases h), fun _ => ⟨rfl, hf⟩⟩
    by_cases hg : GoodL p n l ∧ p = (m : Int)
    · obtain ⟨hg, rfl⟩ := hg
      exact spec_cut v u m n l c false false w hv hu hg ⟨fun h => (by cases h), fun h => absurd ⟨hg, rfl, h⟩ hf⟩ (fun h => by cases h) (fun _ => rfl)
    · exact spec_cut_no p v u m n l c w hv hu hn hg h1 h2
theorem law_cut (p : Int) (v : Value) (n : Nat) (l : Nat → Ac) (u : Value) (m : Nat) (c : Nat → Int) (w : World) (hp : (Lit.int .i64 p).wf = true) (hv : ActsOf w v n l) (mn : n ≤ maxLen) (hu : IntsOf w u m c) (mm : m ≤ maxLen) :
    Calls Try.prog 10 #[.int .i64 p, v, u] w fun e w' => e = .returned (.bool true) ∧ Below w.heap.size w w' := by
  have mm2 := mm
  unfold maxLen at mm2
  by_cases hm : m ≤ 1048576
  · by_cases hn : n ≤ 1048576
    · obtain ⟨h1, h2⟩ := int64_of hp
      obtain ⟨b, ok, hS, hI, _⟩ := both_cut p n l m c hn h1 h2
      exact law_cut_run p v n l u m c w hv hu hn hm b ok hS hI
    · obtain ⟨a, cap, rfl⟩ := hv.form
      obtain ⟨a2, cap2, rfl⟩ := hu.form
      have hge : ((-1 : Int) < 0) := by omega
      have hgm : ¬ ((m : Int) > 1048576) := by omega
      clear hv hu
      go_enter Try.func10, Try.ntmps10
      go_wp2_with fail
      refine (sz_acts_no _ n _ _ mn hn).mono ?_
      rintro e w1 ⟨rfl, rfl⟩
      go_wp2
      go_ret
      exact ⟨rfl, Below.refl _ _⟩
  · obtain ⟨a, cap, rfl⟩ := hv.form
    obtain ⟨a2, cap2, rfl⟩ := hu.form
    have hgm : ((m : Int) > 1048576) := by omega
    clear hv hu
    go_enter Try.func10, Try.ntmps10
    go_wp2
    go_ret
    exact ⟨rfl, Below.refl _ _⟩
end Go.Proofs.Ytoholagamandpaa
