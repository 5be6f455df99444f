/-
  The law of HasHistory, walked. Condition: the table knownKinds reads as the program's text lays it.
-/
import Derived.Test.YtcbkeabfnldmhaaDoorJoin37
namespace Go.Proofs.YtcbkeabfnldmhaaDoor
open Go.RowKit M
open Go.Sort (grow)
set_option maxRecDepth 20000 in
set_option maxHeartbeats 8000000 in
theorem law_HasHistory_run (v : Value) (bs : Brs) (u : Value) (ys : Evs) (w : World) (hv : BrsOf w v bs) (hf : Fine bs) (hu : SliceOf w u ys) (hlu : ys.length ≤ maxLen) (hnu : ∀ e ∈ ys, e.name.size ≤ maxLen) (hkk : KK w)
    (hC : FineS bs → SmE ys → ∃ (r0 : Bool) (r1 : Bool), (∀ (v u : Value) (w : World), BrsOf w v bs → CapOk v → SliceOf w u ys → Calls Tryd.prog 20 #[.agg #[v], u] w fun e w' => e = .returned (.tuple #[.bool r0, .bool r1]) ∧ Below w.heap.size w w') ∧
      (∀ (v u : Value) (w : World), BrsOf w v bs → SliceOf w u ys → KK w → Calls Tryd.prog 22 #[.agg #[v], u] w fun e w' => e = .returned (.tuple #[.bool r0, .bool r1]) ∧ Below w.heap.size w w')) :
    Calls Tryd.prog 5 #[.agg #[v], u] w fun e w' => e = .returned (.bool true) ∧ Below w.heap.size w w' := by
  obtain ⟨a, c, rfl⟩ := hv.form
  obtain ⟨a2, c2, rfl⟩ := hu.form
  have hb0 := (Below.refl w.heap.size w).alloc (Nat.le_refl _) (.cells #[.slice a bs.length c] 24)
  have HN0 := hide (show M.One (w.alloc (.cells #[.slice a bs.length c] 24)) w.heap.size (.slice a bs.length c) 24 from heap_alloc_new w _)
  have HV := hide hv
  have HF := hide hf
  have HU := hide hu
  have HM := hide hnu
  have HK := hide hkk
  have HC := hide hC
  clear hv hf hu hnu hkk hC
  by_cases hfit : bs.length + wb bs ≤ 1048576
  case neg =>
    have hz := szr_no (left := 1048576) (n := bs.length + wb bs) (by omega)
    have hge : szr 1048576 (bs.length + wb bs) < 0 := by rw [hz]; omega
    clear hz HC HN0
    go_enter Tryd.func5, Tryd.ntmps5
    go_wp2_with fail
    refine (sz_tell _ bs 1048576 _ (HV.out.below hb0) HF.out (by decide) (by decide)).mono ?_
    rintro e w1 ⟨rfl, hb⟩
    have hb1 := hb0.trans (hb.mono hb0.size)
    clear hb
    go_wp2
    go_ret
    exact ⟨rfl, hb1⟩
  obtain ⟨nn, hnn⟩ : ∃ nn, bs.length + wb bs = nn := ⟨_, rfl⟩
  have hz := szr_yes (left := 1048576) (n := nn) (by omega)
  have hge : ¬ ((1048576 : Int) - (nn : Int) < 0) := by omega
  have HZ := hide hz
  have HNN := hide hnn
  have HS := hide (fine_small HF.out hfit)
  have hnl : nn ≤ 1048576 := by omega
  clear hz hnn hfit
  by_cases hfit2 : nn + wt ys ≤ 1048576
  case neg =>
    have hz := szr_no (left := (1048576 : Int) - (nn : Int)) (n := wt ys) (by omega)
    have hge2 : szr ((1048576 : Int) - (nn : Int)) (wt ys) < 0 := by rw [hz]; omega
    clear hz HC HN0
    go_enter Tryd.func5, Tryd.ntmps5
    go_wp2_with fail
    refine (sz_tell _ bs 1048576 _ (HV.out.below hb0) HF.out (by decide) (by decide)).mono ?_
    rw [HNN.out, HZ.out]
    rintro e w1 ⟨rfl, hb⟩
    have hb1 := hb0.trans (hb.mono hb0.size)
    clear hb
    go_wp2_with fail
    refine (sz_evs _ ys _ _ (HU.out.below hb1) hlu HM.out (by omega) (by omega)).mono ?_
    rintro e w2 ⟨rfl, hb⟩
    have hb2 := hb1.trans (hb.mono hb1.size)
    clear hb
    go_wp2
    go_ret
    exact ⟨rfl, hb2⟩
  have hz := szr_yes (left := (1048576 : Int) - (nn : Int)) (n := wt ys) (by omega)
  have hge2 : ¬ ((1048576 : Int) - (nn : Int) - ((wt ys : Nat) : Int) < 0) := by omega
  have HZ2 := hide hz
  clear hz
  have HS2 := hide (sm_e HM.out (show wt ys ≤ 1048576 by omega))
  obtain ⟨r0, r1, hS, hI⟩ := HC.out HS.out HS2.out
  have CS := hide hS
  have CI := hide hI
  have er0 : (r0 != r0) = false := by simp
  have er1 : (r1 != r1) = false := by simp
  clear HC hS hI
  go_enter Tryd.func5, Tryd.ntmps5
  go_wp2_with fail
  refine (sz_tell _ bs 1048576 _ (HV.out.below hb0) HF.out (by decide) (by decide)).mono ?_
  rw [HNN.out, HZ.out]
  rintro e w1 ⟨rfl, hb⟩
  have hb1 := hb0.trans (hb.mono hb0.size)
  have HN1 := hide (HN0.out.down hb)
  clear hb hb0 HN0
  go_wp2_with fail
  refine (sz_evs _ ys _ _ (HU.out.below hb1) hlu HM.out (by omega) (by omega)).mono ?_
  rw [HZ2.out]
  rintro e w2 ⟨rfl, hb⟩
  have hb2 := hb1.trans (hb.mono hb1.size)
  have HN2 := hide (HN1.out.down hb)
  clear hb hb1 HN1 HZ HZ2 HNN hfit2 hnl
  have d0 := HN2.out.cell
  go_wp2_with fail
  refine (to_tell _ bs _ (HV.out.below hb2) HS.out).mono ?_
  rintro e w3 ⟨⟨g3, ps3, rfl, hO, hps⟩, hb⟩
  have hx := hO.brs
  rw [hps] at hx
  have HX3 := hide hx
  have hb3 := hb2.trans (hb.mono hb2.size)
  have HN3 := hide (HN2.out.down hb)
  clear hb hb2 hO hps hx HN2 d0
  go_wp2_with fail
  refine (to_all _ ys _ (HU.out.below hb3) HS2.out.1).mono ?_
  rintro e w4 ⟨⟨x4, rfl, hx⟩, hb⟩
  obtain ⟨q4, k4, rfl⟩ := hx.form
  have HE4 := hide hx
  have hb4 := hb3.trans (hb.mono hb3.size)
  have HX4 := hide (HX3.out.below hb)
  have HN4 := hide (HN3.out.down hb)
  clear hb hb3 hx HX3 HN3
  go_wp2_with fail
  refine (CS.out _ _ _ HX4.out (Nat.le_refl _) HE4.out).mono ?_
  rintro e w5 ⟨rfl, hb⟩
  have hb5 := hb4.trans (hb.mono hb4.size)
  have HN5 := hide (HN4.out.down hb)
  clear hb hb4 HN4 HX4 HE4 CS
  have d0 := HN5.out.cell
  go_wp2_with fail
  refine (to_tell _ bs _ (HV.out.below hb5) HS.out).mono ?_
  rintro e w6 ⟨⟨g6, ps6, rfl, hO, hps⟩, hb⟩
  have hx := hO.brs
  rw [hps] at hx
  have hb6 := hb5.trans (hb.mono hb5.size)
  obtain ⟨wA, hwA⟩ : ∃ wA, w6.alloc (.cells #[.slice (some ⟨g6, 0, none⟩) bs.length bs.length] 29) = wA := ⟨_, rfl⟩
  have hdn : Below w6.heap.size w6 wA := by rw [← hwA]; exact (Below.refl w6.heap.size w6).alloc (Nat.le_refl _) _
  have HYA := hide (show M.One wA w6.heap.size (.slice (some ⟨g6, 0, none⟩) bs.length bs.length) 29 by rw [← hwA]; exact heap_alloc_new _ _)
  have HXA := hide (hx.below hdn)
  have HNA := hide ((HN5.out.down hb).down hdn)
  have hbA := hb6.trans (hdn.mono hb6.size)
  have HwA := hide hwA
  clear hb hb5 hb6 hO hps hx hdn HN5 d0 hwA
  go_wp2_with fail
  rw [HwA.out]
  clear HwA
  refine (to_all _ ys _ (HU.out.below hbA) HS2.out.1).mono ?_
  rintro e w7 ⟨⟨x7, rfl, hx⟩, hb⟩
  obtain ⟨q7, k7, rfl⟩ := hx.form
  have HE7 := hide hx
  have hb7 := hbA.trans (hb.mono hbA.size)
  have HX7 := hide (HXA.out.below hb)
  have HY7 := hide (HYA.out.down hb)
  have HN7 := hide (HNA.out.down hb)
  clear hb hbA hx HXA HYA HNA
  have e0 := HY7.out.cell
  go_wp2_with fail
  refine (CI.out _ _ _ HX7.out HE7.out (HK.out.below hb7)).mono ?_
  rintro e w8 ⟨rfl, hb⟩
  have hb8 := hb7.trans (hb.mono hb7.size)
  have HX8 := hide (HX7.out.below hb)
  have HE8 := hide (HE7.out.below hb)
  have HY8 := hide (HY7.out.down hb)
  have HN8 := hide (HN7.out.down hb)
  clear hb hb7 HX7 HE7 HY7 HN7 e0 CI
  have d0 := HN8.out.cell
  have e0 := HY8.out.cell
  have HMX := hide (show ∀ wx wy : World, wx.heap = w8.heap → Below wx.heap.size wx wy → wy.cell? ⟨w6.heap.size, 0, none⟩ = some (.slice (some ⟨g6, 0, none⟩) bs.length bs.length) from fun wx wy hh hb => by
    have h : M.One wx w6.heap.size (.slice (some ⟨g6, 0, none⟩) bs.length bs.length) 29 := by unfold M.One; rw [hh]; exact HY8.out
    exact (h.down hb).cell)
  go_wp2_with fail
  go_region_with (first | (go_at_call 10; refine (to_tell _ bs _ (HV.out.below (hb8.drew)) HS.out).mono ?_; rintro e w9 ⟨⟨g9, ps9, rfl, hO9, hps9⟩, hb9⟩; have hx9 := hO9.brs; rw [hps9] at hx9; have HX9 := hide hx9; clear hx9 hO9 hps9; have m0 := HMX.out w8.drew w9 rfl hb9) | (go_at_call 12; refine (eq_tell _ _ bs _ ((HX8.out.below ((Below.refl w8.heap.size w8).drew)).below hb9) HX9.out HS.out).mono ?_; rintro e w10 ⟨rfl, hb10⟩))
  all_goals
    have hba : Below w8.heap.size w8 w10 := ((Below.refl w8.heap.size w8).drew.trans hb9).trans (hb10.mono hb9.size)
    have hbz := hb8.trans (hba.mono hb8.size)
    have HEA := hide (HE8.out.below hba)
    clear hb9 hb10 HX9 m0 d0 e0 HMX HX8 HY8 HN8 HV HS hba hb8 HE8
    go_wp2_with fail
    refine (to_all _ ys _ (HU.out.below hbz) HS2.out.1).mono ?_
    rintro e w11 ⟨⟨x11, rfl, hx⟩, hb⟩
    obtain ⟨q11, k11, rfl⟩ := hx.form
    have HE11 := hide hx
    have HEB := hide (HEA.out.below hb)
    have hby := hbz.trans (hb.mono hbz.size)
    clear hb hbz hx HEA
    go_wp2_with fail
    refine (eq_all _ _ ys _ HEB.out HE11.out HS2.out.1 eq_ev).mono ?_
    rintro e w12 ⟨rfl, hb⟩
    have hbx := hby.trans (hb.mono hby.size)
    clear hb hby HEB HE11
    go_wp2
    go_ret
    exact ⟨rfl, hbx⟩
theorem law_hasHistory (v : Value) (bs : Brs) (u : Value) (ys : Evs) (w : World) (hv : BrsOf w v bs) (hf : Fine bs) (hu : SliceOf w u ys) (hlu : ys.length ≤ maxLen) (hnu : ∀ e ∈ ys, e.name.size ≤ maxLen) (hkk : KK w) :
    Calls Tryd.prog 5 #[.agg #[v], u] w fun e w' => e = .returned (.bool true) ∧ Below w.heap.size w w' :=
  law_HasHistory_run v bs u ys w hv hf hu hlu hnu hkk (fun h1 h2 => by
    obtain ⟨b1, hb1⟩ := bp_ex (GdT bs)
    obtain ⟨b2, hb2⟩ := bp_ex (Tl ys)
    exact ⟨_, _, fun v u w hv hc hu => spec_has v u bs ys b1 b2 w hv hu h1 h2 hc hb1 hb2, fun v u w hv hu hk => impl_has v u bs ys b1 b2 w hv hu h1 h2 hk hb1 hb2⟩)
end Go.Proofs.YtcbkeabfnldmhaaDoor
