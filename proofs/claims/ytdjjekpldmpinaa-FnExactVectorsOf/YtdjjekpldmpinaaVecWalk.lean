/-
  The law of VectorsOf, walked: it returns true and turns nothing that was there, at every number of processes and every list of acts.
-/
import Derived.Test.YtdjjekpldmpinaaVecS
import Derived.Test.YtdjjekpldmpinaaGoodWalk2
namespace Go.Proofs.Ytdjjekpldmpinaa
open Go.RowKit M
set_option maxHeartbeats 4000000 in
theorem law_vecs_run (p : Int) (v : Value) (n m k : Nat) (l : Nat → Ac) (h : Nat → Nat → Int) (w : World) (hv : ActsOf w v n l) (hn : n ≤ 1048576) (hm : m ≤ 60) (hk : k ≤ 6) (ok : Bool)
    (hS : ∀ (v : Value) (w : World), ActsOf w v n l → Calls Try.prog 27 #[.int .i64 p, v] w fun e w' => (∃ r, e = .returned (.tuple #[r, .bool ok]) ∧ IntssOf w' r m k h) ∧ Below w.heap.size w w')
    (hI : ∀ (v : Value) (w : World), ActsOf w v n l → Calls Try.prog 14 #[.int .i64 p, v] w fun e w' => (∃ r, e = .returned (.tuple #[r, .bool ok]) ∧ AnsV w' w.heap.size r m k h) ∧ Below w.heap.size w w') :
    Calls Try.prog 6 #[.int .i64 p, v] w fun e w' => e = .returned (.bool true) ∧ Below w.heap.size w w' := by
  have HV := hide hv
  have HS := hide hS
  have HI := hide hI
  obtain ⟨a, cap, rfl⟩ := hv.form
  have hge : ¬ (1048576 - (n : Int) < 0) := by omega
  have hok : (ok != ok) = false := by simp
  clear hv hS hI
  go_enter Try.func6, Try.ntmps6
  go_wp2_with fail
  refine (sz_acts _ n _ _ hn).mono ?_
  rintro e w1 ⟨rfl, rfl⟩
  go_wp2_with fail
  refine (to_acts _ n l _ HV.out hn).mono ?_
  rintro e w2 ⟨⟨rfl, hB2⟩, hb2⟩
  have HA2 := hide (hB2.acts (cap := n) rfl)
  clear hB2
  go_wp2_with fail
  refine (HS.out _ _ HA2.out).mono ?_
  rintro e w3 ⟨⟨r0, rfl, hr0⟩, hb⟩
  have hb3 := hb2.trans (hb.mono hb2.size)
  obtain ⟨a0, c0, rfl⟩ := hr0.form
  have HR0 := hide hr0
  clear HA2 hb hb2 hr0
  go_wp2_with fail
  refine (to_acts _ n l _ (HV.out.below hb3) hn).mono ?_
  rintro e w4 ⟨⟨rfl, hB4⟩, s4⟩
  have hb4 := hb3.trans (s4.mono hb3.size)
  have HX := hide hB4
  have hg0 : w3.heap.size < w4.heap.size := hB4.lt
  clear hB4
  go_wp2_with fail
  refine (HI.out _ _ (HX.out.acts (cap := n) rfl)).mono ?_
  rintro e w6 ⟨⟨r1, rfl, hr1⟩, hb⟩
  have hb6 := hb4.trans (hb.mono hb4.size)
  have s6 := s4.trans (hb.mono s4.size)
  obtain ⟨a1, c1, rfl⟩ := hr1.form
  have HR1 := hide hr1
  have HX6 := hide (HX.out.down hb)
  clear hb hb4 s4 HX hr1
  go_wp2_with fail
  refine (eq_intss _ _ m k h _ HR1.out.reads (HR0.out.below s6) (by omega) (by omega)).mono ?_
  rintro e w7 ⟨rfl, hb⟩
  have hb7 := hb6.trans (hb.mono hb6.size)
  have s7 := s6.trans (hb.mono s6.size)
  have HX7 := hide (HX6.out.down hb)
  have HR17 := hide (HR1.out.below hb)
  clear hb hb6 s6 HX6 HR1
  go_wp2_with fail
  refine (to_acts _ n l _ (HV.out.below hb7) hn).mono ?_
  rintro e w8 ⟨⟨rfl, hB8⟩, hb⟩
  have hb8 := hb7.trans (hb.mono hb7.size)
  have s8 := s7.trans (hb.mono s7.size)
  have HX8 := hide (HX7.out.down hb)
  have HR18 := hide (HR17.out.below hb)
  have HZ := hide hB8
  clear hb hb7 s7 HX7 HR17 hB8
  go_wp2_with fail
  refine (eq_acts _ _ n l _ (HX8.out.acts rfl) (HZ.out.acts rfl) hn).mono ?_
  rintro e w9 ⟨rfl, hb⟩
  have hb9 := hb8.trans (hb.mono hb8.size)
  have s9 := s8.trans (hb.mono s8.size)
  have HX9 := hide (HX8.out.down hb)
  have HR19 := hide (HR18.out.below hb)
  clear hb hb8 s8 HX8 HR18 HZ
  go_wp2_with fail
  refine (mark_acts w3.heap.size n n _ _ HX9.out hn).mono ?_
  rintro e w12 ⟨rfl, ho⟩
  have hb12 := hb9.trans (ho.below hb3.size)
  have s12 := s9.trans (ho.below (Nat.le_refl _))
  have HR112 := hide (HR19.out.only ho (by omega))
  clear ho hb9 s9 HX9 HR19
  have hknn : ¬ (((1 + 2 * n : Nat) : Int) < 0) := by omega
  go_wp2_with fail
  refine (eq_intss _ _ m k h _ HR112.out.reads (HR0.out.below s12) (by omega) (by omega)).mono ?_
  rintro e w14 ⟨rfl, hb⟩
  have hb14 := hb12.trans (hb.mono hb12.size)
  have s14 := s12.trans (hb.mono s12.size)
  have HR114 := hide (HR112.out.below hb)
  clear hb hb12 s12 HR112
  go_wp2_with fail
  refine (mark_intss w4.heap.size m k 1 _ h _ HR114.out hm hk (by omega)).mono ?_
  rintro e w15 ⟨rfl, hr15, hb, hsz⟩
  have hb15 := hb14.trans (hb.mono (by have := hb3.size; omega))
  have s15 := s14.trans (hb.mono (by omega))
  have HR15 := hide hr15
  clear hb hb14 s14 HR114 hr15 hsz
  go_wp2_with fail
  refine (held_intss _ m k 1 _ HR15.out.reads hm hk (by omega)).mono ?_
  rintro e w16 ⟨rfl, rfl⟩
  have hq1 : ¬ (((1 + m * k : Nat) : Int) < 0) := by omega
  have hq2 : (((1 + m * k : Nat) : Int) != ((1 + m * k : Nat) : Int)) = false := by simp
  go_wp2_with fail
  refine (to_acts _ n l _ (HV.out.below hb15) hn).mono ?_
  rintro e w17 ⟨⟨rfl, hB17⟩, hb⟩
  have hb17 := hb15.trans (hb.mono hb15.size)
  have s17 := s15.trans (hb.mono s15.size)
  have HR17 := hide (HR15.out.below hb)
  have HX17 := hide hB17
  clear hb hb15 s15 HR15 hB17
  go_wp2_with fail
  refine (HI.out _ _ (HX17.out.acts rfl)).mono ?_
  rintro e w19 ⟨⟨r2, rfl, hr2⟩, hb⟩
  have hb19 := hb17.trans (hb.mono hb17.size)
  have s19 := s17.trans (hb.mono s17.size)
  have HR19 := hide (HR17.out.below hb)
  obtain ⟨a9, c9, rfl⟩ := hr2.form
  have HR2 := hide hr2
  clear hb hb17 s17 HR17 HX17 hr2
  go_wp2_with fail
  refine (eq_intss _ _ m k h _ HR2.out.reads (HR0.out.below s19) (by omega) (by omega)).mono ?_
  rintro e w20 ⟨rfl, hb⟩
  have hb20 := hb19.trans (hb.mono hb19.size)
  have HR20 := hide (HR19.out.below hb)
  clear hb hb19 s19 HR19 HR2
  go_wp2_with fail
  refine (held_intss _ m k 1 _ HR20.out.reads hm hk (by omega)).mono ?_
  rintro e w21 ⟨rfl, rfl⟩
  clear HR20 HR0 HS HI HV
  go_wp2
  go_ret
  exact ⟨rfl, hb20⟩
theorem law_vecs (p : Int) (v : Value) (n : Nat) (l : Nat → Ac) (w : World) (hp : (Lit.int .i64 p).wf = true) (hv : ActsOf w v n l) (hm : n ≤ maxLen) :
    Calls Try.prog 6 #[.int .i64 p, v] w fun e w' => e = .returned (.bool true) ∧ Below w.heap.size w w' := by
  by_cases hn : n ≤ 1048576
  · by_cases hg : GoodL p n l
    · obtain ⟨k, rfl⟩ := Int.eq_ofNat_of_zero_le (show 0 ≤ p by have := hg.1.1; omega)
      exact law_vecs_run _ v n n k l (Vf l) w hv hn hg.2.1 (by have := hg.1.2; omega) true (fun v w h => spec_vecs k v n l w h hg) (fun v w h => impl_vecs k v n l w h hg)
    · obtain ⟨h1, h2⟩ := int64_of hp
      refine law_vecs_run p v n 0 0 l (fun _ _ => 0) w hv hn (by omega) (by omega) false (fun v w h => ?_) (fun v w h => ?_)
      · exact (spec_vecs_no p v n l w h hn hg h1 h2).mono fun e w' ⟨he, hb⟩ => ⟨⟨_, he, IntssOf.none _ _ _⟩, hb⟩
      · exact (impl_vecs_no p v n l w h hn hg).mono fun e w' ⟨he, hb⟩ => ⟨⟨_, he, .inl ⟨rfl, rfl⟩⟩, hb⟩
  · obtain ⟨a, cap, rfl⟩ := hv.form
    have hge : ((-1 : Int) < 0) := by omega
    clear hv
    go_enter Try.func6, Try.ntmps6
    go_wp2_with fail
    refine (sz_acts_no _ n _ _ hm hn).mono ?_
    rintro e w1 ⟨rfl, rfl⟩
    go_wp2
    go_ret
    exact ⟨rfl, Below.refl _ _⟩
end Go.Proofs.Ytdjjekpldmpinaa
