/-
  IsAhead and NewerOf in both texts.
-/
import Derived.Test.YtbajiamkgffhkaaDoorItD
namespace Go.Proofs.YtbajiamkgffhkaaDoor
open Go.RowKit M
open Clk (upd upd_same upd_other)
set_option maxRecDepth 20000 in
set_option maxHeartbeats 2000000 in
theorem impl_isAhead (va vb : Value) (n m : Nat) (a b : Nat → Im) (r ok : Bool) (w : World) (ha : ItemsOf w va n a) (hb : ItemsOf w vb m b) (hn : n ≤ 1048576) (hm : m ≤ 1048576) (hR : RA n a m b r ok) :
    Calls Tryd.prog 23 #[va, vb] w fun e w' => e = .returned (.tuple #[.bool r, .bool ok]) ∧ Below w.heap.size w w' := by
  have HA := hide ha
  have HB := hide hb
  obtain ⟨aa, ca, rfl⟩ := ha.form
  obtain ⟨ab, cb, rfl⟩ := hb.form
  clear ha hb
  cases hg : decide (GoodI n a)
  · rcases hR with h | ⟨-, rfl, rfl⟩
    · exact absurd h.1 (of_decide_eq_false hg)
    · go_enter Tryd.func23, Tryd.ntmps23
      go_wp2_with fail
      refine (impl_goodI _ n a _ HA.out hn).mono ?_
      rintro e w1 ⟨rfl, hb⟩
      rw [hg]
      clear HA HB
      go_wp2
      go_ret2
      exact ⟨rfl, hb⟩
  cases hg2 : decide (GoodI m b)
  · rcases hR with h | ⟨-, rfl, rfl⟩
    · exact absurd h.2.1 (of_decide_eq_false hg2)
    · go_enter Tryd.func23, Tryd.ntmps23
      go_wp2_with fail
      refine (impl_goodI _ n a _ HA.out hn).mono ?_
      rintro e w1 ⟨rfl, hb⟩
      rw [hg]
      go_wp2_with fail
      refine (impl_goodI _ m b _ (HB.out.below hb) hm).mono ?_
      rintro e w2 ⟨rfl, hb2⟩
      rw [hg2]
      have hB1 := hb.trans (hb2.mono hb.size)
      clear HA HB hb hb2
      go_wp2
      go_ret2
      exact ⟨rfl, hB1⟩
  · rcases hR with ⟨g1, g2, ⟨c, hc, hr⟩, rfl⟩ | ⟨h, -, -⟩
    · have HC := hide hc
      have hfld : ∀ W : World, (Instr.field 57 (.agg #[.int .i64 (lst a n).u, .int .i64 (lst a n).v]) 0).run Tryd.prog W = .ok (.int .i64 (ah a n)) W := fun W => by unfold ah; generalize lst a n = y; kernel_rfl
      have hfl2 : ∀ W : World, (Instr.field 57 (.agg #[.int .i64 c.u, .int .i64 c.v]) 0).run Tryd.prog W = .ok (.int .i64 c.u) W := fun W => by kernel_rfl
      go_enter Tryd.func23, Tryd.ntmps23
      go_wp2_with fail
      refine (impl_goodI _ n a _ HA.out hn).mono ?_
      rintro e w1 ⟨rfl, hb⟩
      rw [hg]
      go_wp2_with fail
      refine (impl_goodI _ m b _ (HB.out.below hb) hm).mono ?_
      rintro e w2 ⟨rfl, hb2⟩
      rw [hg2]
      have hB1 := hb.trans (hb2.mono hb.size)
      clear hb hb2
      go_wp2_with fail
      refine (impl_common _ _ n m a b _ (HA.out.below hB1) (HB.out.below hB1) hn hm g1.2 g2.2).mono ?_
      rintro e w3 ⟨⟨c', rfl, hc'⟩, hb3⟩
      obtain rfl : c' = c := hc'.uniq HC.out
      have hB2 := hB1.trans (hb3.mono hB1.size)
      clear hB1 hb3 hc hc' HC g1 g2
      go_wp2_with fail
      refine (impl_last _ n a _ (HA.out.below hB2) hn).mono ?_
      rintro e w4 ⟨rfl, hb4⟩
      have hB3 := hB2.trans (hb4.mono hB2.size)
      have hr2 : (c'.u == ah a n) = r := hr.symm
      clear HA HB hB2 hb4 hr
      go_wp2
      go_ret2
      exact ⟨rfl, hB3⟩
    · exact absurd ⟨of_decide_eq_true hg, of_decide_eq_true hg2⟩ h
end Go.Proofs.YtbajiamkgffhkaaDoor
