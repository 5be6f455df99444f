/-
  The specification's NewerOf; the laws of NewerOf and IsAhead at every argument.
-/
import Derived.Test.YtbajiamkgffhkaaItE
import Derived.Test.YtbajiamkgffhkaaItL
namespace Go.Proofs.Ytbajiamkgffhkaa
open Go.RowKit M
open Clk (upd upd_same upd_other)
namespace M
theorem HasL_succ {k : Nat} {l : Nat → Im} (h : decide (GoodI (k + 1) l) = true) : HasL (k + 1) l = true := HasL_yes h (by omega)
theorem HasL_zero (l : Nat → Im) : HasL 0 l = false := by unfold HasL; simp
theorem rn_no {n m : Nat} {a b : Nat → Im} {r : Int} {ok : Bool} (h : RN n a m b r ok) (h2 : (HasL n a && HasL m b) = false) : r = 0 ∧ ok = false := by
  obtain ⟨h3, h4⟩ := h
  rw [h2] at h3 h4
  exact ⟨h4, h3⟩
end M
set_option maxRecDepth 20000 in
set_option maxHeartbeats 2000000 in
theorem spec_newer (va vb : Value) (n m : Nat) (a b : Nat → Im) (r : Int) (ok : Bool) (w : World) (ha : ItemsOf w va n a) (hb : ItemsOf w vb m b) (hn : n ≤ 1048576) (hm : m ≤ 1048576) (hR : RN n a m b r ok) :
    Calls Try.prog 32 #[va, vb] w fun e w' => e = .returned (.tuple #[.int .i64 r, .bool ok]) ∧ Below w.heap.size w w' := by
  have HA := hide ha
  have HB := hide hb
  obtain ⟨aa, ca, rfl, hra⟩ := ha
  obtain ⟨ab, cb, rfl, hrb⟩ := hb
  have HRA := hide hra
  have HRB := hide hrb
  clear hra hrb
  cases hg : decide (GoodI n a)
  · obtain ⟨rfl, rfl⟩ := rn_no hR (by rw [HasL_no hg]; rfl)
    go_enter Try.func32, Try.ntmps32
    go_wp2_with fail
    refine (spec_goodI _ n a _ HA.out hn).mono ?_
    rintro e w1 ⟨rfl, hb⟩
    rw [hg]
    clear HA HB HRA HRB hR
    go_wp2
    go_ret2
    exact ⟨rfl, hb⟩
  cases hg2 : decide (GoodI m b)
  · obtain ⟨rfl, rfl⟩ := rn_no hR (by rw [HasL_no hg2, Bool.and_false])
    go_enter Try.func32, Try.ntmps32
    go_wp2_with fail
    refine (spec_goodI _ n a _ HA.out hn).mono ?_
    rintro e w1 ⟨rfl, hb⟩
    rw [hg]
    go_wp2_with fail
    refine (spec_goodI _ m b _ (HB.out.below hb) hm).mono ?_
    rintro e w2 ⟨rfl, hb2⟩
    rw [hg2]
    have hB1 := hb.trans (hb2.mono hb.size)
    clear HA HB hb hb2 HRA HRB hR
    go_wp2
    go_ret2
    exact ⟨rfl, hB1⟩
  cases n with
  | zero =>
    obtain ⟨rfl, rfl⟩ := rn_no hR (by rw [HasL_zero]; rfl)
    go_enter Try.func32, Try.ntmps32
    go_wp2_with fail
    refine (spec_goodI _ 0 a _ HA.out hn).mono ?_
    rintro e w1 ⟨rfl, hb⟩
    rw [hg]
    go_wp2_with fail
    refine (spec_goodI _ m b _ (HB.out.below hb) hm).mono ?_
    rintro e w2 ⟨rfl, hb2⟩
    rw [hg2]
    have hB1 := hb.trans (hb2.mono hb.size)
    clear HA HB hb hb2 HRA HRB hR
    go_wp2
    go_ret2
    exact ⟨rfl, hB1⟩
  | succ n =>
  cases m with
  | zero =>
    obtain ⟨rfl, rfl⟩ := rn_no hR (by rw [HasL_zero, Bool.and_false])
    have hk2 : (((n + 1 : Nat) : Int) == 0) = false := by simp; omega
    go_enter Try.func32, Try.ntmps32
    go_wp2_with fail
    refine (spec_goodI _ (n + 1) a _ HA.out hn).mono ?_
    rintro e w1 ⟨rfl, hb⟩
    rw [hg]
    go_wp2_with fail
    refine (spec_goodI _ 0 b _ (HB.out.below hb) hm).mono ?_
    rintro e w2 ⟨rfl, hb2⟩
    rw [hg2]
    have hB1 := hb.trans (hb2.mono hb.size)
    clear HA HB hb hb2 HRA HRB hR
    go_wp2
    go_ret2
    exact ⟨rfl, hB1⟩
  | succ m =>
    obtain ⟨hok, hr⟩ := hR
    rw [HasL_succ hg, HasL_succ hg2] at hok hr
    obtain rfl : ok = true := hok
    have HR := hide (show r = if (a n).v > (b m).v then 1 else if (b m).v > (a n).v then 2 else 0 from hr)
    clear hr
    have hk2 : (((n + 1 : Nat) : Int) == 0) = false := by simp; omega
    have hk3 : (((m + 1 : Nat) : Int) == 0) = false := by simp; omega
    have hk6 : ((n : Int) + 1 == 0) = false := by simp; omega
    have hk7 : ((m : Int) + 1 == 0) = false := by simp; omega
    have hk4 : ((n + 1 : Nat) : Int) - 1 = (n : Int) := by omega
    have hk5 : ((m + 1 : Nat) : Int) - 1 = (m : Int) := by omega
    obtain ⟨ba, oa, rfl, hba, hrow⟩ := HRA.out (by omega)
    obtain ⟨bb, ob, rfl, hbb, hrow2⟩ := HRB.out (by omega)
    have HCA := hide (hrow n (by omega))
    have HCB := hide (hrow2 m (by omega))
    clear hrow hrow2 HRA HRB
    go_enter Try.func32, Try.ntmps32
    go_wp2_with fail
    refine (spec_goodI _ (n + 1) a _ HA.out hn).mono ?_
    rintro e w1 ⟨rfl, hb⟩
    rw [hg]
    go_wp2_with fail
    refine (spec_goodI _ (m + 1) b _ (HB.out.below hb) hm).mono ?_
    rintro e w2 ⟨rfl, hb2⟩
    rw [hg2]
    have hB1 := hb.trans (hb2.mono hb.size)
    have c1 := (hB1.cell (p := ⟨ba, oa + n * 2 + 1, none⟩) hba).trans HCA.out.2
    have d1 := (hB1.cell (p := ⟨bb, ob + m * 2 + 1, none⟩) hbb).trans HCB.out.2
    clear HA HB hb hb2 HCA HCB
    generalize (a n).v = y at *
    generalize (b m).v = z at *
    rcases (show y > z ∨ (z > y ∧ ¬ y > z) ∨ (¬ z > y ∧ ¬ y > z) by omega) with q | ⟨q, q2⟩ | ⟨q, q2⟩
    · obtain rfl : r = 1 := by have := HR.out; rwa [if_pos q] at this
      have t1 : decide (y > z) = true := decide_eq_true q
      clear HR
      go_wp2
      go_ret2
      exact ⟨rfl, hB1⟩
    · obtain rfl : r = 2 := by have := HR.out; rwa [if_neg q2, if_pos q] at this
      have t1 : decide (y > z) = false := decide_eq_false q2
      have t2 : decide (z > y) = true := decide_eq_true q
      clear HR
      go_wp2
      go_ret2
      exact ⟨rfl, hB1⟩
    · obtain rfl : r = 0 := by have := HR.out; rwa [if_neg q2, if_neg q] at this
      have t1 : decide (y > z) = false := decide_eq_false q2
      have t2 : decide (z > y) = false := decide_eq_false q
      clear HR
      go_wp2
      go_ret2
      exact ⟨rfl, hB1⟩
theorem law_newerOf (v0 : Value) (n0 : Nat) (l0 : Nat → Im) (v1 : Value) (n1 : Nat) (l1 : Nat → Im) (w : World) (hv0 : ItemsOf w v0 n0 l0) (hl0 : n0 ≤ maxLen) (hv1 : ItemsOf w v1 n1 l1) (hl1 : n1 ≤ maxLen) :
    Calls Try.prog 10 #[v0, v1] w fun e w' => e = .returned (.bool true) ∧ Below w.heap.size w w' :=
  law_newerOf_run v0 n0 l0 v1 n1 l1 _ _ w hv0 hl0 hv1 hl1 (fun u0 u1 W h0 i0 h1 i1 => spec_newer u0 u1 n0 n1 l0 l1 _ _ W i0 i1 h0 h1 ⟨rfl, rfl⟩) (fun u0 u1 W h0 i0 h1 i1 => impl_newer u0 u1 n0 n1 l0 l1 _ _ W i0 i1 h0 h1 ⟨rfl, rfl⟩)
theorem law_isAhead (v0 : Value) (n0 : Nat) (l0 : Nat → Im) (v1 : Value) (n1 : Nat) (l1 : Nat → Im) (w : World) (hv0 : ItemsOf w v0 n0 l0) (hl0 : n0 ≤ maxLen) (hv1 : ItemsOf w v1 n1 l1) (hl1 : n1 ≤ maxLen) :
    Calls Try.prog 9 #[v0, v1] w fun e w' => e = .returned (.bool true) ∧ Below w.heap.size w w' := by
  obtain ⟨r, ok, h⟩ := ra_ex n0 l0 n1 l1
  exact law_isAhead_run v0 n0 l0 v1 n1 l1 _ _ w hv0 hl0 hv1 hl1 (fun u0 u1 W h0 i0 h1 i1 => spec_isAhead u0 u1 n0 n1 l0 l1 _ _ W i0 i1 h0 h1 h) (fun u0 u1 W h0 i0 h1 i1 => impl_isAhead u0 u1 n0 n1 l0 l1 _ _ W i0 i1 h0 h1 h)
end Go.Proofs.Ytbajiamkgffhkaa
