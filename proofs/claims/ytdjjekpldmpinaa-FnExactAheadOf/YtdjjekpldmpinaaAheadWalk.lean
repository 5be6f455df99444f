/-
  The law of AheadOf, walked: it returns true and turns nothing that was there, at all arguments.
-/
import Derived.Test.YtdjjekpldmpinaaAheadB
import Derived.Test.YtdjjekpldmpinaaGoodWalk2
namespace Go.Proofs.Ytdjjekpldmpinaa
open Go.RowKit M
set_option maxHeartbeats 2000000 in
theorem law_ahead_run (p : Int) (v : Value) (n : Nat) (l : Nat → Ac) (x y : Int) (w : World) (hv : ActsOf w v n l) (hn : n ≤ 1048576) (b ok : Bool)
    (hS : ∀ (v : Value) (w : World), ActsOf w v n l → Calls Try.prog 36 #[.int .i64 p, v, .int .i64 x, .int .i64 y] w fun e w' => e = .returned (.tuple #[.bool b, .bool ok]) ∧ Below w.heap.size w w')
    (hI : ∀ (v : Value) (w : World), ActsOf w v n l → Calls Try.prog 37 #[.int .i64 p, v, .int .i64 x, .int .i64 y] w fun e w' => e = .returned (.tuple #[.bool b, .bool ok]) ∧ Below w.heap.size w w') :
    Calls Try.prog 9 #[.int .i64 p, v, .int .i64 x, .int .i64 y] w fun e w' => e = .returned (.bool true) ∧ Below w.heap.size w w' := by
  have HV := hide hv
  have HS := hide hS
  have HI := hide hI
  obtain ⟨a, cap, rfl⟩ := hv.form
  have hge : ¬ (1048576 - (n : Int) < 0) := by omega
  have hbb : (b != b) = false := by simp
  have hok : (ok != ok) = false := by simp
  clear hv hS hI
  go_enter Try.func9, Try.ntmps9
  go_wp2_with fail
  refine (sz_acts _ n _ _ hn).mono ?_
  rintro e w1 ⟨rfl, rfl⟩
  go_wp2_with fail
  refine (to_acts _ n l _ HV.out hn).mono ?_
  rintro e w2 ⟨⟨rfl, hB2⟩, hb2⟩
  have HA2 := hide (hB2.acts (cap := n) rfl)
  clear hB2
  go_wp2_with fail
  refine (HS.out _ _ HA2.out).mono ?_
  rintro e w3 ⟨rfl, hb⟩
  have hb3 := hb2.trans (hb.mono hb2.size)
  clear hb hb2 HA2
  go_wp2_with fail
  refine (to_acts _ n l _ (HV.out.below hb3) hn).mono ?_
  rintro e w4 ⟨⟨rfl, hB4⟩, hb⟩
  have hb4 := hb3.trans (hb.mono hb3.size)
  have HA4 := hide (hB4.acts (cap := n) rfl)
  clear hB4 hb hb3
  go_wp2_with fail
  refine (HI.out _ _ HA4.out).mono ?_
  rintro e w5 ⟨rfl, hb⟩
  have hb5 := hb4.trans (hb.mono hb4.size)
  have HA5 := hide (HA4.out.below hb)
  clear hb hb4 HA4
  go_wp2_with fail
  refine (to_acts _ n l _ (HV.out.below hb5) hn).mono ?_
  rintro e w6 ⟨⟨rfl, hB6⟩, hb⟩
  have hb6 := hb5.trans (hb.mono hb5.size)
  have HA6 := hide (hB6.acts (cap := n) rfl)
  have HA7 := hide (HA5.out.below hb)
  clear hB6 hb hb5 HA5
  go_wp2_with fail
  refine (eq_acts _ _ n l _ HA7.out HA6.out hn).mono ?_
  rintro e w7 ⟨rfl, hb⟩
  have hb7 := hb6.trans (hb.mono hb6.size)
  clear hb hb6 HA6 HA7 HS HI HV
  go_wp2
  go_ret
  exact ⟨rfl, hb7⟩
theorem law_ahead (p : Int) (v : Value) (n : Nat) (l : Nat → Ac) (x y : Int) (w : World) (hp : (Lit.int .i64 p).wf = true) (hv : ActsOf w v n l) (hm : n ≤ maxLen) (_ : (Lit.int .i64 x).wf = true) (_ : (Lit.int .i64 y).wf = true) :
    Calls Try.prog 9 #[.int .i64 p, v, .int .i64 x, .int .i64 y] w fun e w' => e = .returned (.bool true) ∧ Below w.heap.size w w' := by
  by_cases hn : n ≤ 1048576
  · by_cases hg : GoodL p n l ∧ Inn n x ∧ Inn n y
    · obtain ⟨hg, ⟨hx0, hx1⟩, hy0, hy1⟩ := hg
      obtain ⟨a, rfl⟩ := Int.eq_ofNat_of_zero_le hx0
      obtain ⟨b, rfl⟩ := Int.eq_ofNat_of_zero_le hy0
      exact law_ahead_run p v n l _ _ w hv hn (Ab l b a) true (fun v w h => spec_ahead p v n l a b w h hg (by omega) (by omega)) (fun v w h => impl_ahead p v n l a b w h hg (by omega) (by omega))
    · obtain ⟨h1, h2⟩ := int64_of hp
      exact law_ahead_run p v n l x y w hv hn false false (fun v w h => spec_ahead_no p v n l x y w h hn hg h1 h2) (fun v w h => impl_ahead_no p v n l x y w h hn hg)
  · obtain ⟨a, cap, rfl⟩ := hv.form
    have hge : ((-1 : Int) < 0) := by omega
    clear hv
    go_enter Try.func9, Try.ntmps9
    go_wp2_with fail
    refine (sz_acts_no _ n _ _ hm hn).mono ?_
    rintro e w1 ⟨rfl, rfl⟩
    go_wp2
    go_ret
    exact ⟨rfl, Below.refl _ _⟩
end Go.Proofs.Ytdjjekpldmpinaa
