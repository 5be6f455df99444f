/-
  IsAhead and NewerOf in both texts.
-/
import Derived.Test.YtbajiamkgffhkaaItD
namespace Go.Proofs.Ytbajiamkgffhkaa
open Go.RowKit M
open Clk (upd upd_same upd_other)
set_option maxRecDepth 20000 in
set_option maxHeartbeats 2000000 in
theorem impl_isAhead (va vb : Value) (n m : Nat) (a b : Nat → Im) (r ok : Bool) (w : World) (ha : ItemsOf w va n a) (hb : ItemsOf w vb m b) (hn : n ≤ 1048576) (hm : m ≤ 1048576) (hR : RA n a m b r ok) :
    Calls Try.prog 31 #[va, vb] w fun e w' => e = .returned (.tuple #[.bool r, .bool ok]) ∧ Below w.heap.size w w' := by
  have HA := hide ha
  have HB := hide hb
  obtain ⟨aa, ca, rfl⟩ := ha.form
  obtain ⟨ab, cb, rfl⟩ := hb.form
  clear ha hb
  cases hg : decide (GoodI n a)
  · rcases hR with h | ⟨-, rfl, rfl⟩
    · exact absurd h.1 (of_decide_eq_false hg)
    · go_enter Try.func31, Try.ntmps31
      go_wp2_with fail
      refine (impl_goodI _ n a _ HA.out hn).mono ?_
      rintro e w1 ⟨rfl, hb⟩
      rw [hg]
      clear HA HB
      go_wp2
      go_ret2
      exact ⟨rfl, hb⟩
  cases hg2 : decide (GoodI m b)
  · rcases hR with h | ⟨-, rfl, rfl⟩
    · exact absurd h.2.1 (of_decide_eq_false hg2)
    · go_enter Try.func31, Try.ntmps31
      go_wp2_with fail
      refine (impl_goodI _ n a _ HA.out hn).mono ?_
      rintro e w1 ⟨rfl, hb⟩
      rw [hg]
      go_wp2_with fail
      refine (impl_goodI _ m b _ (HB.out.below hb) hm).mono ?_
      rintro e w2 ⟨rfl, hb2⟩
      rw [hg2]
      have hB1 := hb.trans (hb2.mono hb.size)
      clear HA HB hb hb2
      go_wp2
      go_ret2
      exact ⟨rfl, hB1⟩
  · rcases hR with ⟨g1, g2, ⟨c, hc, hr⟩, rfl⟩ | ⟨h, -, -⟩
    · have HC := hide hc
      have hfld : ∀ W : World, (Instr.field 39 (.agg #[.int .i64 (lst a n).u, .int .i64 (lst a n).v]) 0).run Try.prog W = .ok (.int .i64 (ah a n)) W := fun W => by unfold ah; generalize lst a n = y; kernel_rfl
      have hfl2 : ∀ W : World, (Instr.field 39 (.agg #[.int .i64 c.u, .int .i64 c.v]) 0).run Try.prog W = .ok (.int .i64 c.u) W := fun W => by kernel_rfl
      go_enter Try.func31, Try.ntmps31
      go_wp2_with fail
      refine (impl_goodI _ n a _ HA.out hn).mono ?_
      rintro e w1 ⟨rfl, hb⟩
      rw [hg]
      go_wp2_with fail
      refine (impl_goodI _ m b _ (HB.out.below hb) hm).mono ?_
      rintro e w2 ⟨rfl, hb2⟩
      rw [hg2]
      have hB1 := hb.trans (hb2.mono hb.size)
      clear hb hb2
      go_wp2_with fail
      refine (impl_common _ _ n m a b _ (HA.out.below hB1) (HB.out.below hB1) hn hm g1.2 g2.2).mono ?_
      rintro e w3 ⟨⟨c', rfl, hc'⟩, hb3⟩
      obtain rfl : c' = c := hc'.uniq HC.out
      have hB2 := hB1.trans (hb3.mono hB1.size)
      clear hB1 hb3 hc hc' HC g1 g2
      go_wp2_with fail
      refine (impl_last _ n a _ (HA.out.below hB2) hn).mono ?_
      rintro e w4 ⟨rfl, hb4⟩
      have hB3 := hB2.trans (hb4.mono hB2.size)
      have hr2 : (c'.u == ah a n) = r := hr.symm
      clear HA HB hB2 hb4 hr
      go_wp2
      go_ret2
      exact ⟨rfl, hB3⟩
    · exact absurd ⟨of_decide_eq_true hg, of_decide_eq_true hg2⟩ h
set_option maxRecDepth 20000 in
set_option maxHeartbeats 2000000 in
theorem spec_isAhead (va vb : Value) (n m : Nat) (a b : Nat → Im) (r ok : Bool) (w : World) (ha : ItemsOf w va n a) (hb : ItemsOf w vb m b) (hn : n ≤ 1048576) (hm : m ≤ 1048576) (hR : RA n a m b r ok) :
    Calls Try.prog 30 #[va, vb] w fun e w' => e = .returned (.tuple #[.bool r, .bool ok]) ∧ Below w.heap.size w w' := by
  have HA := hide ha
  have HB := hide hb
  obtain ⟨aa, ca, rfl⟩ := ha.form
  obtain ⟨ab, cb, rfl⟩ := hb.form
  clear ha hb
  cases hg : decide (GoodI n a)
  · rcases hR with h | ⟨-, rfl, rfl⟩
    · exact absurd h.1 (of_decide_eq_false hg)
    · go_enter Try.func30, Try.ntmps30
      go_wp2_with fail
      refine (spec_goodI _ n a _ HA.out hn).mono ?_
      rintro e w1 ⟨rfl, hb⟩
      rw [hg]
      clear HA HB
      go_wp2
      go_ret2
      exact ⟨rfl, hb⟩
  cases hg2 : decide (GoodI m b)
  · rcases hR with h | ⟨-, rfl, rfl⟩
    · exact absurd h.2.1 (of_decide_eq_false hg2)
    · go_enter Try.func30, Try.ntmps30
      go_wp2_with fail
      refine (spec_goodI _ n a _ HA.out hn).mono ?_
      rintro e w1 ⟨rfl, hb⟩
      rw [hg]
      go_wp2_with fail
      refine (spec_goodI _ m b _ (HB.out.below hb) hm).mono ?_
      rintro e w2 ⟨rfl, hb2⟩
      rw [hg2]
      have hB1 := hb.trans (hb2.mono hb.size)
      clear HA HB hb hb2
      go_wp2
      go_ret2
      exact ⟨rfl, hB1⟩
  · rcases hR with ⟨g1, g2, ⟨c, hc, hr⟩, rfl⟩ | ⟨h, -, -⟩
    · have HC := hide hc
      go_enter Try.func30, Try.ntmps30
      go_wp2_with fail
      refine (spec_goodI _ n a _ HA.out hn).mono ?_
      rintro e w1 ⟨rfl, hb⟩
      rw [hg]
      go_wp2_with fail
      refine (spec_goodI _ m b _ (HB.out.below hb) hm).mono ?_
      rintro e w2 ⟨rfl, hb2⟩
      rw [hg2]
      have hB1 := hb.trans (hb2.mono hb.size)
      clear hb hb2
      go_wp2_with fail
      refine (spec_lca _ _ n m a b _ (HA.out.below hB1) (HB.out.below hB1) hn hm g1.2 g2.2).mono ?_
      rintro e w3 ⟨⟨q, rfl, hq⟩, hb3⟩
      obtain rfl : q = c.u := hq.uniq HC.out.1
      have hB2 := hB1.trans (hb3.mono hB1.size)
      clear hB1 hb3 hc hq HC g1 g2
      go_wp2_with fail
      refine (spec_last _ n a _ (HA.out.below hB2) hn).mono ?_
      rintro e w4 ⟨rfl, rfl⟩
      have hr2 : (c.u == ah a n) = r := hr.symm
      clear HA HB hr
      go_wp2
      go_ret2
      exact ⟨rfl, hB2⟩
    · exact absurd ⟨of_decide_eq_true hg, of_decide_eq_true hg2⟩ h
namespace M
/-- What NewerOf tells. -/
def RN (n : Nat) (a : Nat → Im) (m : Nat) (b : Nat → Im) (r : Int) (ok : Bool) : Prop :=
  ok = (HasL n a && HasL m b) ∧ r = if HasL n a && HasL m b then nwR n a m b else 0
end M
set_option maxRecDepth 20000 in
set_option maxHeartbeats 2000000 in
theorem impl_newer (va vb : Value) (n m : Nat) (a b : Nat → Im) (r : Int) (ok : Bool) (w : World) (ha : ItemsOf w va n a) (hb : ItemsOf w vb m b) (hn : n ≤ 1048576) (hm : m ≤ 1048576) (hR : RN n a m b r ok) :
    Calls Try.prog 33 #[va, vb] w fun e w' => e = .returned (.tuple #[.int .i64 r, .bool ok]) ∧ Below w.heap.size w w' := by
  have HA := hide ha
  have HB := hide hb
  obtain ⟨aa, ca, rfl⟩ := ha.form
  obtain ⟨ab, cb, rfl⟩ := hb.form
  obtain ⟨hok, hr⟩ := hR
  clear ha hb
  cases h1 : HasL n a
  · rw [h1] at hok hr
    obtain rfl : ok = false := hok
    obtain rfl : r = 0 := hr
    cases h2 : HasL m b
    · go_enter Try.func33, Try.ntmps33
      go_wp2_with fail
      refine (impl_lastOf _ n a _ HA.out hn).mono ?_
      rintro e w1 ⟨rfl, hb⟩
      rw [lastR_no h1]
      go_wp2_with fail
      refine (impl_lastOf _ m b _ (HB.out.below hb) hm).mono ?_
      rintro e w2 ⟨rfl, hb2⟩
      rw [lastR_no h2]
      have hB := hb.trans (hb2.mono hb.size)
      clear HA HB hb hb2
      go_wp2
      go_ret2
      exact ⟨rfl, hB⟩
    · go_enter Try.func33, Try.ntmps33
      go_wp2_with fail
      refine (impl_lastOf _ n a _ HA.out hn).mono ?_
      rintro e w1 ⟨rfl, hb⟩
      rw [lastR_no h1]
      go_wp2_with fail
      refine (impl_lastOf _ m b _ (HB.out.below hb) hm).mono ?_
      rintro e w2 ⟨rfl, hb2⟩
      rw [lastR_yes h2]
      have hB := hb.trans (hb2.mono hb.size)
      clear HA HB hb hb2
      go_wp2
      go_ret2
      exact ⟨rfl, hB⟩
  · cases h2 : HasL m b
    · rw [h1, h2] at hok hr
      obtain rfl : ok = false := hok
      obtain rfl : r = 0 := hr
      go_enter Try.func33, Try.ntmps33
      go_wp2_with fail
      refine (impl_lastOf _ n a _ HA.out hn).mono ?_
      rintro e w1 ⟨rfl, hb⟩
      rw [lastR_yes h1]
      go_wp2_with fail
      refine (impl_lastOf _ m b _ (HB.out.below hb) hm).mono ?_
      rintro e w2 ⟨rfl, hb2⟩
      rw [lastR_no h2]
      have hB := hb.trans (hb2.mono hb.size)
      clear HA HB hb hb2
      go_wp2
      go_ret2
      exact ⟨rfl, hB⟩
    · rw [h1, h2] at hok hr
      obtain rfl : ok = true := hok
      have HR := hide (show r = nwR n a m b from hr)
      clear hr
      unfold nwR at HR
      rcases (show (lst a n).v > (lst b m).v ∨ ((lst b m).v > (lst a n).v ∧ ¬ (lst a n).v > (lst b m).v) ∨ (¬ (lst b m).v > (lst a n).v ∧ ¬ (lst a n).v > (lst b m).v) by omega) with q | ⟨q, q2⟩ | ⟨q, q2⟩
      · obtain rfl : r = 1 := by have := HR.out; rwa [if_pos q] at this
        have t1 : decide ((lst a n).v > (lst b m).v) = true := decide_eq_true q
        clear HR
        go_enter Try.func33, Try.ntmps33
        go_wp2_with fail
        refine (impl_lastOf _ n a _ HA.out hn).mono ?_
        rintro e w1 ⟨rfl, hb⟩
        rw [lastR_yes h1]
        go_wp2_with fail
        refine (impl_lastOf _ m b _ (HB.out.below hb) hm).mono ?_
        rintro e w2 ⟨rfl, hb2⟩
        rw [lastR_yes h2]
        have hB := hb.trans (hb2.mono hb.size)
        clear HA HB hb hb2
        generalize lst a n = y at *
        generalize lst b m = z at *
        go_wp2
        go_ret2
        exact ⟨rfl, hB⟩
      · obtain rfl : r = 2 := by have := HR.out; rwa [if_neg q2, if_pos q] at this
        have t1 : decide ((lst a n).v > (lst b m).v) = false := decide_eq_false q2
        have t2 : decide ((lst b m).v > (lst a n).v) = true := decide_eq_true q
        clear HR
        go_enter Try.func33, Try.ntmps33
        go_wp2_with fail
        refine (impl_lastOf _ n a _ HA.out hn).mono ?_
        rintro e w1 ⟨rfl, hb⟩
        rw [lastR_yes h1]
        go_wp2_with fail
        refine (impl_lastOf _ m b _ (HB.out.below hb) hm).mono ?_
        rintro e w2 ⟨rfl, hb2⟩
        rw [lastR_yes h2]
        have hB := hb.trans (hb2.mono hb.size)
        clear HA HB hb hb2
        generalize lst a n = y at *
        generalize lst b m = z at *
        go_wp2
        go_ret2
        exact ⟨rfl, hB⟩
      · obtain rfl : r = 0 := by have := HR.out; rwa [if_neg q2, if_neg q] at this
        have t1 : decide ((lst a n).v > (lst b m).v) = false := decide_eq_false q2
        have t2 : decide ((lst b m).v > (lst a n).v) = false := decide_eq_false q
        clear HR
        go_enter Try.func33, Try.ntmps33
        go_wp2_with fail
        refine (impl_lastOf _ n a _ HA.out hn).mono ?_
        rintro e w1 ⟨rfl, hb⟩
        rw [lastR_yes h1]
        go_wp2_with fail
        refine (impl_lastOf _ m b _ (HB.out.below hb) hm).mono ?_
        rintro e w2 ⟨rfl, hb2⟩
        rw [lastR_yes h2]
        have hB := hb.trans (hb2.mono hb.size)
        clear HA HB hb hb2
        generalize lst a n = y at *
        generalize lst b m = z at *
        go_wp2
        go_ret2
        exact ⟨rfl, hB⟩
end Go.Proofs.Ytbajiamkgffhkaa
