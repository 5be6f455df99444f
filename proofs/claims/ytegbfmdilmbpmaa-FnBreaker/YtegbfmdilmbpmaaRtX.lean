/-
  The law of WaitsOf, walked, at every policy.
-/
import Derived.Test.YtegbfmdilmbpmaaRtV
namespace Go.Proofs.Ytegbfmdilmbpmaa
open Go.RowKit M
set_option maxRecDepth 20000 in
set_option maxHeartbeats 4000000 in
theorem law_waits_run (p : Po) (q : Nat) (h : Nat → Int) (z : Int) (ok : Bool) (w : World) (hq : q ≤ 1048576)
    (hS : ∀ W, Calls Try.prog 18 #[.agg #[.int .i64 p.f, .int .i64 p.t, .int .i64 p.m, .int .i64 p.n]] W fun e w' => (∃ R, e = .returned (.tuple #[R, .int .i64 z, .bool ok]) ∧ IntsOf w' R q h) ∧ Below W.heap.size W w')
    (hI : ∀ W, Calls Try.prog 19 #[.agg #[.int .i64 p.f, .int .i64 p.t, .int .i64 p.m, .int .i64 p.n]] W fun e w' => (∃ R, e = .returned (.tuple #[R, .int .i64 z, .bool ok]) ∧ AnsC w' W.heap.size R q h) ∧ Below W.heap.size W w') :
    Calls Try.prog 5 #[.agg #[.int .i64 p.f, .int .i64 p.t, .int .i64 p.m, .int .i64 p.n]] w fun e w' => e = .returned (.bool true) ∧ Below w.heap.size w w' := by
  have CS := hide hS
  have CI := hide hI
  have hoo : (ok != ok) = false := by simp
  have hzz : (z != z) = false := by simp
  have hb0 := (Below.refl w.heap.size w).alloc (Nat.le_refl _) (.cells #[.int .i64 p.f, .int .i64 p.t, .int .i64 p.m, .int .i64 p.n] 23)
  have HL0 := hide (new4 w (.int .i64 p.f) (.int .i64 p.t) (.int .i64 p.m) (.int .i64 p.n) 23)
  clear hS hI
  go_enter Try.func5, Try.ntmps5
  go_wp2_with fail
  refine (to_policy p _).mono ?_
  rintro e w2 ⟨rfl, hb⟩
  have hb2 := hb0.trans (hb.mono hb0.size)
  have HL2 := hide (HL0.out.down hb)
  clear hb hb0 HL0
  go_wp2_with fail
  refine (CS.out _).mono ?_
  rintro e w3 ⟨⟨R0, rfl, hR0⟩, hb⟩
  have hb3 := hb2.trans (hb.mono hb2.size)
  have HL3 := hide (HL2.out.down hb)
  obtain ⟨⟨d0, d1, d2, d3⟩, -⟩ := HL3.out.quad
  obtain ⟨ar0, cr0, rfl⟩ := hR0.form
  have HR0 := hide hR0
  clear hb hb2 hR0 HL2
  go_wp2_with fail
  refine (to_policy p _).mono ?_
  rintro e w4 ⟨rfl, s4⟩
  have hb4 := hb3.trans (s4.mono hb3.size)
  have HL4 := hide (HL3.out.down s4)
  clear d0 d1 d2 d3 HL3 hb3
  go_wp2_with fail
  refine (CI.out _).mono ?_
  rintro e w5 ⟨⟨R1, rfl, hR1⟩, hb⟩
  have hb5 := hb4.trans (hb.mono hb4.size)
  have s5 := s4.trans (hb.mono s4.size)
  have hl4 := HL4.out.lt
  have hs4 := s4.size
  have hw4 : w.heap.size ≤ w4.heap.size := by omega
  have HL5 := hide (HL4.out.down hb)
  obtain ⟨ar1, cr1, rfl⟩ := hR1.form
  have HR1 := hide hR1
  clear hb hb4 s4 hR1 HL4
  go_wp2_with fail
  refine (eq_ints _ _ q h _ HR1.out.ints (HR0.out.below s5) hq).mono ?_
  rintro e w10 ⟨rfl, hb⟩
  have hb10 := hb5.trans (hb.mono hb5.size)
  have s10 := s5.trans (hb.mono s5.size)
  have HL10 := hide (HL5.out.down hb)
  have HR1_10 := hide (HR1.out.below hb)
  clear hb hb5 s5 HL5 HR1
  go_wp2_with fail
  refine (mark_ansC w4.heap.size q 1 _ h _ HR1_10.out hq (by omega)).mono ?_
  rintro e w11 ⟨rfl, hr11, hb, hsz⟩
  have hb11 := hb10.trans (hb.mono (by omega))
  have s11 := s10.trans (hb.mono (by omega))
  have HR11 := hide hr11
  have HL11 := hide (HL10.out.below hb (by omega))
  clear hb hb10 s10 HR1_10 hr11 hsz HL10
  go_wp2_with fail
  refine (held_ints _ q 1 _ HR11.out.ints hq (by omega)).mono ?_
  rintro e w12 ⟨rfl, rfl⟩
  have hq1 : ¬ (((1 + q : Nat) : Int) < 0) := by omega
  have hq2 : (((1 + q : Nat) : Int) != ((1 + q : Nat) : Int)) = false := by simp
  obtain ⟨⟨d0, d1, d2, d3⟩, -⟩ := HL11.out.quad
  go_wp2_with fail
  refine (to_policy p _).mono ?_
  rintro e w13 ⟨rfl, hb⟩
  have hb13 := hb11.trans (hb.mono hb11.size)
  have s13 := s11.trans (hb.mono s11.size)
  have HR13 := hide (HR11.out.below hb)
  clear hb hb11 s11 HR11 d0 d1 d2 d3 HL11
  go_wp2_with fail
  refine (CI.out _).mono ?_
  rintro e w14 ⟨⟨R2, rfl, hR2⟩, hb⟩
  have hb14 := hb13.trans (hb.mono hb13.size)
  have s14 := s13.trans (hb.mono s13.size)
  have HR14 := hide (HR13.out.below hb)
  obtain ⟨ar2, cr2, rfl⟩ := hR2.form
  have HR2 := hide hR2
  clear hb hb13 s13 HR13 hR2
  go_wp2_with fail
  refine (eq_ints _ _ q h _ HR2.out.ints (HR0.out.below s14) hq).mono ?_
  rintro e w15 ⟨rfl, hb⟩
  have hb15 := hb14.trans (hb.mono hb14.size)
  have HR15 := hide (HR14.out.below hb)
  clear hb hb14 s14 HR14 HR2
  go_wp2_with fail
  refine (held_ints _ q 1 _ HR15.out.ints hq (by omega)).mono ?_
  rintro e w16 ⟨rfl, rfl⟩
  clear HR15 HR0 CS CI
  go_wp2
  go_ret
  exact ⟨rfl, hb15⟩
theorem law_waits (p : Po) (w : World) :
    Calls Try.prog 5 #[pov p] w fun e w' => e = .returned (.bool true) ∧ Below w.heap.size w w' := by
  by_cases hg : GPo p
  · obtain ⟨f, t, m, n⟩ := p
    obtain ⟨q, hq⟩ : ∃ q : Nat, n = (q : Int) + 1 := ⟨(n - 1).toNat, by have := hg.2.2.2.1; simp only at this; omega⟩
    subst hq
    have hq : q < 40 := by have := hg.2.2.2.2; simp only at this; omega
    exact law_waits_run _ q _ _ true w (by omega) (fun W => spec_waits f t m q W hg) (fun W => impl_waits f t m q W hg)
  · exact law_waits_run p 0 (fun _ => 0) 0 false w (by omega) (fun W => (spec_waits_no p W (decide_eq_false hg)).mono fun _ _ ⟨he, hb⟩ => ⟨⟨_, he, none, 0, rfl, fun h => absurd h (Nat.lt_irrefl _)⟩, hb⟩)
      (fun W => (impl_waits_no p W (decide_eq_false hg)).mono fun _ _ ⟨he, hb⟩ => ⟨⟨_, he, .inl ⟨rfl, rfl⟩⟩, hb⟩)
end Go.Proofs.Ytegbfmdilmbpmaa
