/-
  The law of JoinVec, walked: it returns true and turns nothing that was there, at every two lists of numbers.
-/
import Derived.Test.YtdjjekpldmpinaaCmp2
import Derived.Test.YtdjjekpldmpinaaAns
namespace Go.Proofs.Ytdjjekpldmpinaa
open Go.RowKit M
set_option maxHeartbeats 4000000 in
theorem law_join_run (v u : Value) (n m k : Nat) (f g h : Nat → Int) (w : World) (hv : IntsOf w v n f) (hu : IntsOf w u m g) (hn : n ≤ 1048576) (hm : m ≤ 1048576) (hk : k ≤ 1048576) (ok : Bool)
    (hS : ∀ (v u : Value) (w : World), IntsOf w v n f → IntsOf w u m g → Calls Try.prog 34 #[v, u] w fun e w' => (∃ r, e = .returned (.tuple #[r, .bool ok]) ∧ IntsOf w' r k h) ∧ Below w.heap.size w w')
    (hI : ∀ (v u : Value) (w : World), IntsOf w v n f → IntsOf w u m g → Calls Try.prog 35 #[v, u] w fun e w' => (∃ r, e = .returned (.tuple #[r, .bool ok]) ∧ AnsI w' w.heap.size r k h) ∧ Below w.heap.size w w') :
    Calls Try.prog 8 #[v, u] w fun e w' => e = .returned (.bool true) ∧ Below w.heap.size w w' := by
  have HV := hide hv
  have HU := hide hu
  have HS := hide hS
  have HI := hide hI
  obtain ⟨a, cap, rfl⟩ := hv.form
  obtain ⟨a2, cap2, rfl⟩ := hu.form
  have hgn : ¬ ((n : Int) > 1048576) := by omega
  have hgm : ¬ ((m : Int) > 1048576) := by omega
  have hok : (ok != ok) = false := by simp
  have hone : ((1 : Nat) : Int) = 1 := rfl
  clear hv hu hS hI
  go_enter Try.func8, Try.ntmps8
  go_wp2_with fail
  refine (to_ints _ n f _ HV.out hn).mono ?_
  rintro e w1 ⟨⟨rfl, hB1⟩, hb1⟩
  have HB1 := hide hB1
  clear hB1
  go_wp2_with fail
  refine (to_ints _ m g _ (HU.out.below hb1) hm).mono ?_
  rintro e w2 ⟨⟨rfl, hB2⟩, hb⟩
  have hb2 := hb1.trans (hb.mono hb1.size)
  have HA1 := hide ((HB1.out.down hb).ints (cap := n))
  have HA2 := hide (hB2.ints (cap := m))
  clear hB2 HB1 hb hb1
  go_wp2_with fail
  refine (HS.out _ _ _ HA1.out HA2.out).mono ?_
  rintro e w3 ⟨⟨r0, rfl, hr0⟩, hb⟩
  have hb3 := hb2.trans (hb.mono hb2.size)
  obtain ⟨a0, c0, rfl⟩ := hr0.form
  have HR0 := hide hr0
  clear HA1 HA2 hb hb2 hr0
  go_wp2_with fail
  refine (to_ints _ n f _ (HV.out.below hb3) hn).mono ?_
  rintro e w4 ⟨⟨rfl, hB4⟩, s4⟩
  have hb4 := hb3.trans (s4.mono hb3.size)
  have HX := hide hB4
  clear hB4
  go_wp2_with fail
  refine (to_ints _ m g _ (HU.out.below hb4) hm).mono ?_
  rintro e w5 ⟨⟨rfl, hB5⟩, hb⟩
  have hb5 := hb4.trans (hb.mono hb4.size)
  have s5 := s4.trans (hb.mono s4.size)
  have HX5 := hide (HX.out.down hb)
  have HY5 := hide hB5
  have hg0 : w3.heap.size < w4.heap.size := HX.out.lt
  have hg1 : w4.heap.size < w5.heap.size := hB5.lt
  clear hB5 HX hb hb4 s4
  go_wp2_with fail
  refine (HI.out _ _ _ (HX5.out.ints (cap := n)) (HY5.out.ints (cap := m))).mono ?_
  rintro e w6 ⟨⟨r1, rfl, hr1⟩, hb⟩
  have hb6 := hb5.trans (hb.mono hb5.size)
  have s6 := s5.trans (hb.mono s5.size)
  obtain ⟨a1, c1, rfl⟩ := hr1.form
  have HR1 := hide hr1
  have HX6 := hide (HX5.out.down hb)
  have HY6 := hide (HY5.out.down hb)
  clear hb hb5 s5 HX5 HY5 hr1
  go_wp2_with fail
  refine (eq_ints _ _ k h _ HR1.out.ints (HR0.out.below s6) hk).mono ?_
  rintro e w7 ⟨rfl, hb⟩
  have hb7 := hb6.trans (hb.mono hb6.size)
  have s7 := s6.trans (hb.mono s6.size)
  have HX7 := hide (HX6.out.down hb)
  have HY7 := hide (HY6.out.down hb)
  have HR17 := hide (HR1.out.below hb)
  clear hb hb6 s6 HX6 HY6 HR1
  go_wp2_with fail
  refine (to_ints _ n f _ (HV.out.below hb7) hn).mono ?_
  rintro e w8 ⟨⟨rfl, hB8⟩, hb⟩
  have hb8 := hb7.trans (hb.mono hb7.size)
  have s8 := s7.trans (hb.mono s7.size)
  have HX8 := hide (HX7.out.down hb)
  have HY8 := hide (HY7.out.down hb)
  have HR18 := hide (HR17.out.below hb)
  have HZ := hide hB8
  clear hb hb7 s7 HX7 HY7 HR17 hB8
  go_wp2_with fail
  refine (eq_ints _ _ n f _ HX8.out.ints HZ.out.ints hn).mono ?_
  rintro e w9 ⟨rfl, hb⟩
  have hb9 := hb8.trans (hb.mono hb8.size)
  have s9 := s8.trans (hb.mono s8.size)
  have HX9 := hide (HX8.out.down hb)
  have HY9 := hide (HY8.out.down hb)
  have HR19 := hide (HR18.out.below hb)
  clear hb hb8 s8 HX8 HY8 HR18 HZ
  go_wp2_with fail
  refine (to_ints _ m g _ (HU.out.below hb9) hm).mono ?_
  rintro e w10 ⟨⟨rfl, hB10⟩, hb⟩
  have hb10 := hb9.trans (hb.mono hb9.size)
  have s10 := s9.trans (hb.mono s9.size)
  have HX10 := hide (HX9.out.down hb)
  have HY10 := hide (HY9.out.down hb)
  have HR110 := hide (HR19.out.below hb)
  have HZ := hide hB10
  clear hb hb9 s9 HX9 HY9 HR19 hB10
  go_wp2_with fail
  refine (eq_ints _ _ m g _ HY10.out.ints HZ.out.ints hm).mono ?_
  rintro e w11 ⟨rfl, hb⟩
  have hb11 := hb10.trans (hb.mono hb10.size)
  have s11 := s10.trans (hb.mono s10.size)
  have HX11 := hide (HX10.out.down hb)
  have HY11 := hide (HY10.out.down hb)
  have HR111 := hide (HR110.out.below hb)
  clear hb hb10 s10 HX10 HY10 HR110 HZ
  go_wp2_with fail
  refine (mark_ints w3.heap.size n n 1 f _ HX11.out hn (by omega)).mono ?_
  rintro e w12 ⟨rfl, _, ho⟩
  have hb12 := hb11.trans (ho.below hb3.size)
  have s12 := s11.trans (ho.below (Nat.le_refl _))
  have HY12 := hide (ho.blk HY11.out (by omega))
  have HR112 := hide (HR111.out.only ho (by omega))
  clear ho hb11 s11 HX11 HY11 HR111
  go_wp2_with fail
  refine (mark_ints w4.heap.size m m (1 + n) g _ HY12.out hm (by omega)).mono ?_
  rintro e w13 ⟨rfl, _, ho⟩
  have hb13 := hb12.trans (ho.below (by have := hb3.size; omega))
  have s13 := s12.trans (ho.below (by omega))
  have HR113 := hide (HR112.out.only ho (by omega))
  clear ho hb12 s12 HY12 HR112
  have hknn : ¬ (((1 + n + m : Nat) : Int) < 0) := by omega
  go_wp2_with fail
  refine (eq_ints _ _ k h _ HR113.out.ints (HR0.out.below s13) hk).mono ?_
  rintro e w14 ⟨rfl, hb⟩
  have hb14 := hb13.trans (hb.mono hb13.size)
  have s14 := s13.trans (hb.mono s13.size)
  have HR114 := hide (HR113.out.below hb)
  clear hb hb13 s13 HR113
  go_wp2_with fail
  refine (mark_ans w5.heap.size k 1 _ h _ HR114.out hk (by omega)).mono ?_
  rintro e w15 ⟨rfl, hr15, hb, hsz⟩
  have hb15 := hb14.trans (hb.mono (by have := hb3.size; omega))
  have s15 := s14.trans (hb.mono (by omega))
  have HR15 := hide hr15
  clear hb hb14 s14 HR114 hr15 hsz
  go_wp2_with fail
  refine (held_ints _ k 1 _ HR15.out.ints hk (by omega)).mono ?_
  rintro e w16 ⟨rfl, rfl⟩
  have hq1 : ¬ (((1 + k : Nat) : Int) < 0) := by omega
  have hq2 : (((1 + k : Nat) : Int) != ((1 + k : Nat) : Int)) = false := by simp
  go_wp2_with fail
  refine (to_ints _ n f _ (HV.out.below hb15) hn).mono ?_
  rintro e w17 ⟨⟨rfl, hB17⟩, hb⟩
  have hb17 := hb15.trans (hb.mono hb15.size)
  have s17 := s15.trans (hb.mono s15.size)
  have HR17 := hide (HR15.out.below hb)
  have HX17 := hide hB17
  clear hb hb15 s15 HR15 hB17
  go_wp2_with fail
  refine (to_ints _ m g _ (HU.out.below hb17) hm).mono ?_
  rintro e w18 ⟨⟨rfl, hB18⟩, hb⟩
  have hb18 := hb17.trans (hb.mono hb17.size)
  have s18 := s17.trans (hb.mono s17.size)
  have HR18 := hide (HR17.out.below hb)
  have HX18 := hide (HX17.out.down hb)
  have HY18 := hide hB18
  clear hb hb17 s17 HR17 hB18 HX17
  go_wp2_with fail
  refine (HI.out _ _ _ HX18.out.ints HY18.out.ints).mono ?_
  rintro e w19 ⟨⟨r2, rfl, hr2⟩, hb⟩
  have hb19 := hb18.trans (hb.mono hb18.size)
  have s19 := s18.trans (hb.mono s18.size)
  have HR19 := hide (HR18.out.below hb)
  obtain ⟨a9, c9, rfl⟩ := hr2.form
  have HR2 := hide hr2
  clear hb hb18 s18 HR18 HX18 HY18 hr2
  go_wp2_with fail
  refine (eq_ints _ _ k h _ HR2.out.ints (HR0.out.below s19) hk).mono ?_
  rintro e w20 ⟨rfl, hb⟩
  have hb20 := hb19.trans (hb.mono hb19.size)
  have HR20 := hide (HR19.out.below hb)
  clear hb hb19 s19 HR19 HR2
  go_wp2_with fail
  refine (held_ints _ k 1 _ HR20.out.ints hk (by omega)).mono ?_
  rintro e w21 ⟨rfl, rfl⟩
  clear HR20 HR0 HS HI HV HU
  go_wp2
  go_ret
  exact ⟨rfl, hb20⟩
theorem law_join (v : Value) (n : Nat) (f : Nat → Int) (u : Value) (m : Nat) (g : Nat → Int) (w : World) (hv : IntsOf w v n f) (mn : n ≤ maxLen) (hu : IntsOf w u m g) (mm : m ≤ maxLen) :
    Calls Try.prog 8 #[v, u] w fun e w' => e = .returned (.bool true) ∧ Below w.heap.size w w' := by
  unfold maxLen at mn mm
  by_cases hn : n ≤ 1048576
  · by_cases hm : m ≤ 1048576
    · by_cases hno : n = m ∧ n ≤ 6
      · obtain ⟨rfl, h6⟩ := hno
        refine law_join_run v u n n n f g (mxf f g) w hv hu hn hm hn true (fun v u w h1 h2 => ?_) (fun v u w h1 h2 => ?_)
        · exact (spec_join v u n f g w h1 h2 h6).mono fun e w' ⟨⟨r, he, ho⟩, hb⟩ => ⟨⟨r, he, own_ints ho⟩, hb⟩
        · exact (impl_join v u n f g w h1 h2 h6).mono fun e w' ⟨⟨b, he, hB, hk⟩, hb⟩ => ⟨⟨_, he, .inr ⟨b, n, rfl, hB, hk⟩⟩, hb⟩
      · refine law_join_run v u n m 0 f g (fun _ => 0) w hv hu hn hm (by omega) false (fun v u w h1 h2 => ?_) (fun v u w h1 h2 => ?_)
        · exact (spec_join_no v u n m f g w h1 h2 hn hm hno).mono fun e w' ⟨he, hb⟩ => ⟨⟨_, he, none, 0, rfl, fun h => absurd h (Nat.lt_irrefl _)⟩, hb⟩
        · exact (impl_join_no v u n m f g w h1 h2 hn hm hno).mono fun e w' ⟨he, hb⟩ => ⟨⟨_, he, .inl ⟨rfl, rfl⟩⟩, hb⟩
    · obtain ⟨a, cap, rfl⟩ := hv.form
      obtain ⟨a2, cap2, rfl⟩ := hu.form
      have hgn : ¬ ((n : Int) > 1048576) := by omega
      have hgm : ((m : Int) > 1048576) := by omega
      clear hv hu
      go_enter Try.func8, Try.ntmps8
      go_wp2
      go_ret
      exact ⟨rfl, Below.refl _ _⟩
  · obtain ⟨a, cap, rfl⟩ := hv.form
    obtain ⟨a2, cap2, rfl⟩ := hu.form
    have hgn : ((n : Int) > 1048576) := by omega
    clear hv hu
    go_enter Try.func8, Try.ntmps8
    go_wp2
    go_ret
    exact ⟨rfl, Below.refl _ _⟩
end Go.Proofs.Ytdjjekpldmpinaa
