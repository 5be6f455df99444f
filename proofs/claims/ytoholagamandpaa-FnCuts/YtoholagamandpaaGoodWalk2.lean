/-
  The law of GoodActs, walked: it returns true and turns nothing that was there, at every number of processes and every list of acts.
-/
import Derived.Test.YtoholagamandpaaGoodB
namespace Go.Proofs.Ytoholagamandpaa
open Go.RowKit M
theorem int64_of {p : Int} (h : (Lit.int .i64 p).wf = true) : -9223372036854775808 ≤ p ∧ p ≤ 9223372036854775807 := by
  simp [Lit.wf] at h
  exact ⟨h.1, h.2⟩
set_option maxHeartbeats 2000000 in
theorem law_good_run (p : Int) (v : Value) (n : Nat) (l : Nat → Ac) (w : World) (hv : ActsOf w v n l) (hn : n ≤ 1048576) (b : Bool)
    (hS : ∀ (v : Value) (w : World), ActsOf w v n l → Calls Try.prog 17 #[.int .i64 p, v] w fun e w' => e = .returned (.bool b) ∧ Below w.heap.size w w')
    (hI : ∀ (v : Value) (w : World), ActsOf w v n l → Calls Try.prog 19 #[.int .i64 p, v] w fun e w' => e = .returned (.bool b) ∧ Below w.heap.size w w') :
    Calls Try.prog 4 #[.int .i64 p, v] w fun e w' => e = .returned (.bool true) ∧ Below w.heap.size w w' := by
  have HV := hide hv
  have HS := hide hS
  have HI := hide hI
  obtain ⟨a, cap, rfl⟩ := hv.form
  have hge : ¬ (1048576 - (n : Int) < 0) := by omega
  have hbb : (b != b) = false := by simp
  clear hv hS hI
  go_enter Try.func4, Try.ntmps4
  go_wp2_with fail
  refine (sz_acts _ n _ _ hn).mono ?_
  rintro e w1 ⟨rfl, rfl⟩
  go_wp2_with fail
  refine (to_acts _ n l _ HV.out hn).mono ?_
  rintro e w2 ⟨⟨rfl, hB2⟩, hb2⟩
  have HA2 := hide (hB2.acts (cap := n) rfl)
  clear hB2
  go_wp2_with fail
  refine (HS.out _ _ HA2.out).mono ?_
  rintro e w3 ⟨rfl, hb⟩
  have hb3 := hb2.trans (hb.mono hb2.size)
  clear hb hb2 HA2
  go_wp2_with fail
  refine (to_acts _ n l _ (HV.out.below hb3) hn).mono ?_
  rintro e w4 ⟨⟨rfl, hB4⟩, hb⟩
  have hb4 := hb3.trans (hb.mono hb3.size)
  have HA4 := hide (hB4.acts (cap := n) rfl)
  clear hB4 hb hb3
  go_wp2_with fail
  refine (HI.out _ _ HA4.out).mono ?_
  rintro e w5 ⟨rfl, hb⟩
  have hb5 := hb4.trans (hb.mono hb4.size)
  have HA5 := hide (HA4.out.below hb)
  clear hb hb4 HA4
  go_wp2_with fail
  refine (to_acts _ n l _ (HV.out.below hb5) hn).mono ?_
  rintro e w6 ⟨⟨rfl, hB6⟩, hb⟩
  have hb6 := hb5.trans (hb.mono hb5.size)
  have HA6 := hide (hB6.acts (cap := n) rfl)
  have HA7 := hide (HA5.out.below hb)
  clear hB6 hb hb5 HA5
  go_wp2_with fail
  refine (eq_acts _ _ n l _ HA7.out HA6.out hn).mono ?_
  rintro e w7 ⟨rfl, hb⟩
  have hb7 := hb6.trans (hb.mono hb6.size)
  clear hb hb6 HA6 HA7 HS HI HV
  go_wp2
  go_ret
  exact ⟨rfl, hb7⟩
theorem law_good (p : Int) (v : Value) (n : Nat) (l : Nat → Ac) (w : World) (hp : (Lit.int .i64 p).wf = true) (hv : ActsOf w v n l) (hm : n ≤ maxLen) :
    Calls Try.prog 4 #[.int .i64 p, v] w fun e w' => e = .returned (.bool true) ∧ Below w.heap.size w w' := by
  by_cases hn : n ≤ 1048576
  · by_cases hg : GoodL p n l
    · exact law_good_run p v n l w hv hn true (fun v w h => spec_good_yes p v n l w h hg) (fun v w h => impl_good_yes p v n l w h hg)
    · obtain ⟨h1, h2⟩ := int64_of hp
      exact law_good_run p v n l w hv hn false (fun v w h => spec_good_no p v n l w h hn hg h1 h2) (fun v w h => impl_good_no p v n l w h hn hg)
  · obtain ⟨a, cap, rfl⟩ := hv.form
    have hge : ((-1 : Int) < 0) := by omega
    clear hv
    go_enter Try.func4, Try.ntmps4
    go_wp2_with fail
    refine (sz_acts_no _ n _ _ hm hn).mono ?_
    rintro e w1 ⟨rfl, rfl⟩
    go_wp2
    go_ret
    exact ⟨rfl, Below.refl _ _⟩
end Go.Proofs.Ytoholagamandpaa
