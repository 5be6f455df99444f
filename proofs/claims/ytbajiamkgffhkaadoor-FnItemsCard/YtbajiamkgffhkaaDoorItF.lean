/-
  LastOf, NewerOf and VersionAt in both texts.
-/
import Derived.Test.YtbajiamkgffhkaaDoorItG
namespace Go.Proofs.YtbajiamkgffhkaaDoor
open Go.RowKit M
open Clk (upd upd_same upd_other)
namespace M
/-- There are items, and they are good. -/
def HasL (n : Nat) (l : Nat → Im) : Bool := decide (GoodI n l) && decide (0 < n)
def lastR (n : Nat) (l : Nat → Im) : Value := .tuple #[.int .i64 (if HasL n l then (lst l n).u else 0), .int .i64 (if HasL n l then (lst l n).v else 0), .bool (HasL n l)]
theorem HasL_no {n : Nat} {l : Nat → Im} (h : decide (GoodI n l) = false) : HasL n l = false := by unfold HasL; rw [h]; rfl
theorem HasL_yes {n : Nat} {l : Nat → Im} (h : decide (GoodI n l) = true) (hn : 0 < n) : HasL n l = true := by unfold HasL; rw [h, decide_eq_true hn]; rfl
theorem lastR_no {n : Nat} {l : Nat → Im} (h : HasL n l = false) : lastR n l = .tuple #[.int .i64 0, .int .i64 0, .bool false] := by unfold lastR; rw [h]; rfl
theorem lastR_yes {n : Nat} {l : Nat → Im} (h : HasL n l = true) : lastR n l = .tuple #[.int .i64 (lst l n).u, .int .i64 (lst l n).v, .bool true] := by unfold lastR; rw [h]; rfl
end M
set_option maxHeartbeats 1000000 in
theorem impl_lastOf (v : Value) (n : Nat) (l : Nat → Im) (w : World) (hv : ItemsOf w v n l) (hn : n ≤ 1048576) :
    Calls Tryd.prog 22 #[v] w fun e w' => e = .returned (lastR n l) ∧ Below w.heap.size w w' := by
  have HV := hide hv
  obtain ⟨a, cap, rfl, -⟩ := hv
  cases hg : decide (GoodI n l)
  · rw [lastR_no (HasL_no hg)]
    go_enter Tryd.func22, Tryd.ntmps22
    go_wp2_with fail
    refine (impl_goodI _ n l _ HV.out hn).mono ?_
    rintro e w1 ⟨rfl, hb1⟩
    rw [hg]
    clear HV
    go_wp2
    go_ret3
    exact ⟨rfl, hb1⟩
  cases n with
  | zero =>
    rw [lastR_no (by unfold HasL; simp)]
    go_enter Tryd.func22, Tryd.ntmps22
    go_wp2_with fail
    refine (impl_goodI _ 0 l _ HV.out hn).mono ?_
    rintro e w1 ⟨rfl, hb1⟩
    rw [hg]
    clear HV
    go_wp2
    go_ret3
    exact ⟨rfl, hb1⟩
  | succ k =>
    rw [show lastR (k + 1) l = .tuple #[.int .i64 (l k).u, .int .i64 (l k).v, .bool true] from lastR_yes (HasL_yes hg (by omega))]
    have hk2 : (((k + 1 : Nat) : Int) == 0) = false := by simp; omega
    go_enter Tryd.func22, Tryd.ntmps22
    go_wp2_with fail
    refine (impl_goodI _ (k + 1) l _ HV.out hn).mono ?_
    rintro e w1 ⟨rfl, hb1⟩
    rw [hg]
    go_wp2_with fail
    refine (impl_last _ (k + 1) l _ (HV.out.below hb1) hn).mono ?_
    rintro e w2 ⟨rfl, hb2⟩
    simp only [lst]
    have hb3 := hb1.trans (hb2.mono hb1.size)
    have hb4 := hb3.alloc hb3.size (.cells #[.int .i64 (l k).u, .int .i64 (l k).v] 57)
    clear HV hb1 hb2 hb3
    go_wp2
    go_big_quiet (fail)
    go_wp2
    go_ret3
    exact ⟨rfl, belowN hb4 _⟩
namespace M
def atR (n : Nat) (l : Nat → Im) (x : Int) : Value := if GoodI n l ∧ 1 ≤ x ∧ x ≤ ah l n then .tuple #[.int .i64 (vA n l x), .bool true] else .tuple #[.int .i64 0, .bool false]
end M
set_option maxHeartbeats 1000000 in
theorem impl_versionAt (v : Value) (n : Nat) (l : Nat → Im) (x : Int) (w : World) (hv : ItemsOf w v n l) (hn : n ≤ 1048576) :
    Calls Tryd.prog 16 #[v, .int .i64 x] w fun e w' => e = .returned (atR n l x) ∧ Below w.heap.size w w' := by
  have HV := hide hv
  obtain ⟨a, cap, rfl, hr⟩ := hv
  have HR := hide hr
  clear hr
  cases hg : decide (GoodI n l)
  · rw [show atR n l x = .tuple #[.int .i64 0, .bool false] from if_neg (fun h => of_decide_eq_false hg h.1)]
    clear HR
    go_enter Tryd.func16, Tryd.ntmps16
    go_wp2_with fail
    refine (impl_goodI _ n l _ HV.out hn).mono ?_
    rintro e w1 ⟨rfl, hb1⟩
    rw [hg]
    clear HV
    go_wp2
    go_ret2
    exact ⟨rfl, hb1⟩
  · have hfld : ∀ W : World, (Instr.field 57 (.agg #[.int .i64 (lst l n).u, .int .i64 (lst l n).v]) 0).run Tryd.prog W = .ok (.int .i64 (ah l n)) W := fun W => by unfold ah; generalize lst l n = y; kernel_rfl
    cases hi : inB x 1 (ah l n)
    · have hno : ¬ (1 ≤ x ∧ x ≤ ah l n) := fun h => by rw [inB_iff.2 h] at hi; cases hi
      rw [show atR n l x = .tuple #[.int .i64 0, .bool false] from if_neg (fun h => hno h.2)]
      clear HR hno
      go_enter Tryd.func16, Tryd.ntmps16
      go_wp2_with fail
      refine (impl_goodI _ n l _ HV.out hn).mono ?_
      rintro e w1 ⟨rfl, hb1⟩
      rw [hg]
      go_wp2_with fail
      refine (impl_last _ n l _ (HV.out.below hb1) hn).mono ?_
      rintro e w2 ⟨rfl, hb2⟩
      have hb3 := hb1.trans (hb2.mono hb1.size)
      clear HV hb1 hb2
      go_wp2_with fail
      refine (impl_in _ _ _ _).mono ?_
      rintro e w3 ⟨rfl, rfl⟩
      rw [hi]
      go_wp2
      go_ret2
      exact ⟨rfl, hb3⟩
    · have hyes := inB_iff.1 hi
      rw [show atR n l x = .tuple #[.int .i64 (vA n l x), .bool true] from if_pos ⟨of_decide_eq_true hg, hyes⟩]
      have HY := hide hyes
      clear hyes
      go_enter Tryd.func16, Tryd.ntmps16
      go_wp2_with fail
      refine (impl_goodI _ n l _ HV.out hn).mono ?_
      rintro e w1 ⟨rfl, hb1⟩
      rw [hg]
      go_wp2_with fail
      refine (impl_last _ n l _ (HV.out.below hb1) hn).mono ?_
      rintro e w2 ⟨rfl, hb2⟩
      have hb3 := hb1.trans (hb2.mono hb1.size)
      clear hb1 hb2
      go_wp2_with fail
      refine (impl_in _ _ _ _).mono ?_
      rintro e w3 ⟨rfl, rfl⟩
      rw [hi]
      go_wp2_with fail
      refine (impl_begun _ n l x _ (HV.out.below hb3) hn).mono ?_
      rintro e w4 ⟨⟨c, rfl, hc⟩, hb4⟩
      have hc0 := hc.pos HY.out.1 HY.out.2
      obtain ⟨k, rfl⟩ : ∃ k, c = k + 1 := ⟨c - 1, by omega⟩
      have hkn : k < n := by have := hc.1; omega
      have HE := hide (hc.vA HY.out.2)
      obtain ⟨b, off, rfl, hb, hrow⟩ := HR.out (by omega)
      have hb5 := hb3.trans (hb4.mono hb3.size)
      have c1 := (hb5.cell (p := ⟨b, off + k * 2 + 1, none⟩) hb).trans (hrow k hkn).2
      have hk1 : ((k + 1 : Nat) : Int) - 1 = (k : Int) := by omega
      clear HV HR hrow hc hb3 hb4 HY
      go_wp2
      go_ret2
      exact ⟨by rw [HE.out]; rfl, hb5⟩
end Go.Proofs.YtbajiamkgffhkaaDoor
