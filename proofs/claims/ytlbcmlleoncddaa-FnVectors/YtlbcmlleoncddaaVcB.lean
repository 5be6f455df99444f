/-
  The law FnVectors, walked: whatever the bytes, it returns true and turns nothing that was there.
-/
import Derived.Test.YtlbcmlleoncddaaVcA
import Derived.Test.YtlbcmlleoncddaaSaI
namespace Go.Proofs.Ytlbcmlleoncddaa
open Go.RowKit M
open Clk (upd upd_same upd_other)
namespace M
theorem lt_mx (f g : Nat → Int) (n : Nat) : anyLt f (mxf f g) n = anyLt f g n := by
  rw [Bool.eq_iff_iff, anyLt_iff, anyLt_iff]
  constructor
  · rintro ⟨i, hi, h⟩; exact ⟨i, hi, by unfold mxf at h; omega⟩
  · rintro ⟨i, hi, h⟩; exact ⟨i, hi, by unfold mxf; omega⟩
theorem lt_mx2 (f g : Nat → Int) (n : Nat) : anyLt g (mxf f g) n = anyLt g f n := by
  rw [Bool.eq_iff_iff, anyLt_iff, anyLt_iff]
  constructor
  · rintro ⟨i, hi, h⟩; exact ⟨i, hi, by unfold mxf at h; omega⟩
  · rintro ⟨i, hi, h⟩; exact ⟨i, hi, by unfold mxf; omega⟩
theorem mx_lt (f g : Nat → Int) (n : Nat) : anyLt (mxf f g) f n = false := by
  rw [← Bool.not_eq_true, anyLt_iff]
  rintro ⟨i, hi, h⟩
  unfold mxf at h
  omega
theorem mx_lt2 (f g : Nat → Int) (n : Nat) : anyLt (mxf f g) g n = false := by
  rw [← Bool.not_eq_true, anyLt_iff]
  rintro ⟨i, hi, h⟩
  unfold mxf at h
  omega
theorem mx_comm (f g : Nat → Int) : mxf g f = mxf f g := by funext i; unfold mxf; omega
theorem mx_self (f : Nat → Int) : mxf f f = f := by funext i; unfold mxf; omega
theorem mx_le {f g : Nat → Int} {n : Nat} (h : anyLt g f n = false) (i : Nat) (hi : i < n) : mxf f g i = g i := by
  rw [← Bool.not_eq_true, anyLt_iff] at h
  have : ¬ g i < f i := fun q => h ⟨i, hi, q⟩
  unfold mxf
  omega
theorem IntsOf.ext {w : World} {v : Value} {n : Nat} {f f' : Nat → Int} (h : IntsOf w v n f) (he : ∀ i, i < n → f i = f' i) : IntsOf w v n f' := by
  obtain ⟨a, cap, hv, hr⟩ := h
  refine ⟨a, cap, hv, fun hn => ?_⟩
  obtain ⟨b, off, ha, hlt, hrow⟩ := hr hn
  exact ⟨b, off, ha, hlt, fun i hi => by rw [← he i hi]; exact hrow i hi⟩
theorem IntsOf.nil (w : World) (f : Nat → Int) : IntsOf w (.slice none 0 0) 0 f := ⟨none, 0, rfl, fun h => absurd h (Nat.lt_irrefl _)⟩
/-- Both vectors as they were drawn. -/
structure VS (w W : World) (va : Value) (n : Nat) (f : Nat → Int) (vb : Value) (m : Nat) (g : Nat → Int) : Prop where
  low : Below w.heap.size w W
  x : IntsOf W va n f
  y : IntsOf W vb m g
theorem VS.down {w W W' : World} {va : Value} {n : Nat} {f : Nat → Int} {vb : Value} {m : Nat} {g : Nat → Int} (h : VS w W va n f vb m g) (hb : Below W.heap.size W W') : VS w W' va n f vb m g :=
  ⟨h.low.trans (hb.mono h.low.size), h.x.below hb, h.y.below hb⟩
end M
set_option maxRecDepth 20000 in
set_option maxHeartbeats 8000000 in
theorem law_fnVectors (v : Value) (n0 : Nat) (f0 : Nat → Nat) (w : World) (hv : OctetsOf w v n0 f0) (hm : n0 ≤ maxLen) :
    Calls Try.prog 12 #[v] w fun e w' => e = .returned (.bool true) ∧ Below w.heap.size w w' := by
  unfold maxLen at hm
  have HV := hide hv
  obtain ⟨av, cv, rfl⟩ := hv.form
  clear hv
  by_cases hbig : n0 ≤ 1048576
  case neg =>
    have hg : (n0 : Int) > 1048576 := by omega
    clear HV
    go_enter Try.func12, Try.ntmps12
    go_wp2
    go_ret
    exact ⟨rfl, Below.refl _ _⟩
  have hng : ¬ ((n0 : Int) > 1048576) := by omega
  go_enter Try.func12, Try.ntmps12
  go_wp2_with fail
  refine (draw_join _ n0 f0 _ HV.out hbig).mono ?_
  rintro e w1 ⟨⟨a1, c1, n, f, a2, c2, m, g, rfl, hn, hm2, hx, hy⟩, hb1⟩
  have HP1 := hide (show VS w w1 (.slice a1 n c1) n f (.slice a2 m c2) m g from ⟨hb1, hx, hy⟩)
  clear HV hx hy hb1 hm
  by_cases hok : n = m ∧ n ≤ 6
  case neg =>
    go_wp2_with fail
    refine (impl_join_no _ _ n m f g _ HP1.out.x HP1.out.y (by omega) (by omega) hok).mono ?_
    rintro e w2 ⟨rfl, hb⟩
    have HP2 := hide (HP1.out.down hb)
    clear HP1 hb
    go_wp2_with fail
    refine (spec_join_no _ _ n m f g _ HP2.out.x HP2.out.y (by omega) (by omega) hok).mono ?_
    rintro e w3 ⟨rfl, hb⟩
    have HP3 := hide (HP2.out.down hb)
    clear HP2 hb
    go_wp2_with fail
    refine (impl_cmp_no _ _ n m f g _ HP3.out.x HP3.out.y (by omega) (by omega) hok).mono ?_
    rintro e w4 ⟨rfl, hb⟩
    have HP4 := hide (HP3.out.down hb)
    clear HP3 hb
    go_wp2_with fail
    refine (spec_cmp_no _ _ n m f g _ HP4.out.x HP4.out.y (by omega) (by omega) hok).mono ?_
    rintro e w5 ⟨rfl, hb⟩
    have HP5 := hide (HP4.out.down hb)
    clear HP4 hb
    go_wp2_with fail
    refine (same_ints _ _ 0 f _ (.nil _ _) (.nil _ _) (by omega)).mono ?_
    rintro e w6 ⟨rfl, hb⟩
    have hbz := (HP5.out.down hb).low
    clear HP5 hb
    go_wp2
    go_ret
    exact ⟨rfl, hbz⟩
  obtain ⟨rfl, h6⟩ := hok
  obtain ⟨h, hh⟩ : ∃ h, mxf f g = h := ⟨_, rfl⟩
  have HH := hide hh
  clear hh
  go_wp2_with fail
  refine (impl_join _ _ n f g _ HP1.out.x HP1.out.y h6).mono ?_
  rintro e w2 ⟨⟨bj, rfl, -, hJ⟩, hb⟩
  rw [HH.out] at hJ
  have HP2 := hide (HP1.out.down hb)
  have HJ2 := hide (show IntsOf w2 (.slice (some ⟨bj, 0, none⟩) n n) n h from hJ.ints)
  clear HP1 hb hJ
  go_wp2_with fail
  refine (spec_join _ _ n f g _ HP2.out.x HP2.out.y h6).mono ?_
  rintro e w3 ⟨⟨r3, rfl, hO⟩, hb⟩
  rw [HH.out] at hO
  obtain ⟨ar3, cr3, rfl⟩ := own_form hO
  have HP3 := hide (HP2.out.down hb)
  have HJ3 := hide (HJ2.out.below hb)
  have HW3 := hide (own_ints hO)
  clear HP2 hb HJ2 hO
  go_wp2_with fail
  refine (impl_cmp _ _ n f g _ HP3.out.x HP3.out.y h6).mono ?_
  rintro e w4 ⟨rfl, hb⟩
  have HP4 := hide (HP3.out.down hb)
  have HJ4 := hide (HJ3.out.below hb)
  have HW4 := hide (HW3.out.below hb)
  clear HP3 hb HJ3 HW3
  go_wp2_with fail
  refine (spec_cmp _ _ n f g _ HP4.out.x HP4.out.y h6).mono ?_
  rintro e w5 ⟨rfl, hb⟩
  have HP5 := hide (HP4.out.down hb)
  have HJ5 := hide (HJ4.out.below hb)
  have HW5 := hide (HW4.out.below hb)
  clear HP4 hb HJ4 HW4
  obtain ⟨P, hP⟩ : ∃ P : Bool, anyLt f g n = P := ⟨_, rfl⟩
  obtain ⟨Q, hQ⟩ : ∃ Q : Bool, anyLt g f n = Q := ⟨_, rfl⟩
  rw [hP, hQ]
  have HPP := hide hP
  have HQQ := hide hQ
  clear hP hQ
  obtain ⟨cc, hcc⟩ : ∃ cc, cmpB P Q = cc := ⟨_, rfl⟩
  have hcn : (cc != cc) = false := by simp
  rw [hcc]
  have HCC := hide hcc
  clear hcc
  go_wp2_with fail
  refine (same_ints _ _ n h _ HJ5.out HW5.out (by omega)).mono ?_
  rintro e w6 ⟨rfl, hb⟩
  have HP6 := hide (HP5.out.down hb)
  have HJ6 := hide (HJ5.out.below hb)
  clear HP5 hb HJ5 HW5
  go_wp2_with fail
  refine (impl_join _ _ n g f _ HP6.out.y HP6.out.x h6).mono ?_
  rintro e w7 ⟨⟨bk, rfl, -, hK⟩, hb⟩
  rw [mx_comm, HH.out] at hK
  have HP7 := hide (HP6.out.down hb)
  have HJ7 := hide (HJ6.out.below hb)
  have HK7 := hide (show IntsOf w7 (.slice (some ⟨bk, 0, none⟩) n n) n h from hK.ints)
  clear HP6 hb HJ6 hK
  go_wp2_with fail
  refine (impl_cmp _ _ n f h _ HP7.out.x HJ7.out h6).mono ?_
  rintro e w8 ⟨rfl, hb⟩
  rw [show anyLt f h n = P by rw [← HH.out, lt_mx, HPP.out], show anyLt h f n = false by rw [← HH.out]; exact mx_lt f g n]
  have HP8 := hide (HP7.out.down hb)
  have HJ8 := hide (HJ7.out.below hb)
  have HK8 := hide (HK7.out.below hb)
  clear HP7 hb HJ7 HK7
  obtain ⟨xx, hxx⟩ : ∃ xx, cmpB P false = xx := ⟨_, rfl⟩
  have hx0 : xx ≤ 0 := by rw [← hxx]; cases P <;> decide
  have hx1 : decide (xx ≤ 0) = true := decide_eq_true hx0
  rw [hxx]
  clear hxx
  go_wp2_with fail
  refine (impl_cmp _ _ n g h _ HP8.out.y HJ8.out h6).mono ?_
  rintro e w9 ⟨rfl, hb⟩
  rw [show anyLt g h n = Q by rw [← HH.out, lt_mx2, HQQ.out], show anyLt h g n = false by rw [← HH.out]; exact mx_lt2 f g n]
  have HP9 := hide (HP8.out.down hb)
  have HJ9 := hide (HJ8.out.below hb)
  have HK9 := hide (HK8.out.below hb)
  clear HP8 hb HJ8 HK8
  obtain ⟨yy, hyy⟩ : ∃ yy, cmpB Q false = yy := ⟨_, rfl⟩
  have hy0 : yy ≤ 0 := by rw [← hyy]; cases Q <;> decide
  have hy1 : decide (yy ≤ 0) = true := decide_eq_true hy0
  rw [hyy]
  clear hyy
  go_wp2_with fail
  refine (impl_cmp _ _ n g f _ HP9.out.y HP9.out.x h6).mono ?_
  rintro e w10 ⟨rfl, hb⟩
  rw [HPP.out, HQQ.out]
  have HP10 := hide (HP9.out.down hb)
  have HJ10 := hide (HJ9.out.below hb)
  have HK10 := hide (HK9.out.below hb)
  clear HP9 hb HJ9 HK9
  obtain ⟨bk2, hbk2⟩ : ∃ bk2, cmpB Q P = bk2 := ⟨_, rfl⟩
  rw [hbk2]
  have HBK := hide hbk2
  clear hbk2
  go_wp2_with fail
  refine (impl_join _ _ n h h _ HJ10.out HJ10.out h6).mono ?_
  rintro e w11 ⟨⟨bs, rfl, -, hS⟩, hb⟩
  rw [mx_self] at hS
  have HP11 := hide (HP10.out.down hb)
  have HJ11 := hide (HJ10.out.below hb)
  have HK11 := hide (HK10.out.below hb)
  have HS11 := hide (show IntsOf w11 (.slice (some ⟨bs, 0, none⟩) n n) n h from hS.ints)
  clear HP10 hb HJ10 HK10 hS
  go_wp2_with fail
  refine (same_ints _ _ n h _ HK11.out HJ11.out (by omega)).mono ?_
  rintro e w12 ⟨rfl, hb⟩
  have HP12 := hide (HP11.out.down hb)
  have HJ12 := hide (HJ11.out.below hb)
  have HS12 := hide (HS11.out.below hb)
  clear HP11 hb HJ11 HK11 HS11
  go_wp2_with fail
  refine (same_ints _ _ n h _ HS12.out HJ12.out (by omega)).mono ?_
  rintro e w13 ⟨rfl, hb⟩
  have HP13 := hide (HP12.out.down hb)
  have HJ13 := hide (HJ12.out.below hb)
  clear HP12 hb HJ12 HS12
  have hbz := HP13.out.low
  cases P with
  | true =>
    cases Q with
    | true =>
      obtain rfl : cc = 2 := HCC.out.symm
      obtain rfl : bk2 = 2 := HBK.out.symm
      clear HP13 HJ13 HCC HBK HPP HQQ HH
      go_wp2
      go_ret
      exact ⟨rfl, hbz⟩
    | false =>
      obtain rfl : cc = -1 := HCC.out.symm
      obtain rfl : bk2 = 1 := HBK.out.symm
      have HE := hide (HJ13.out.ext (f' := g) (fun i hi => by rw [← HH.out]; exact mx_le HQQ.out i hi))
      clear HJ13 HCC HBK HPP HQQ HH hbz
      go_wp2_with fail
      refine (same_ints _ _ n g _ HE.out HP13.out.y (by omega)).mono ?_
      rintro e w14 ⟨rfl, hb⟩
      have hbz := (HP13.out.down hb).low
      clear HP13 hb HE
      go_wp2
      go_ret
      exact ⟨rfl, hbz⟩
  | false =>
    cases Q with
    | true =>
      obtain rfl : cc = 1 := HCC.out.symm
      obtain rfl : bk2 = -1 := HBK.out.symm
      clear HP13 HJ13 HCC HBK HPP HQQ HH
      go_wp2
      go_ret
      exact ⟨rfl, hbz⟩
    | false =>
      obtain rfl : cc = 0 := HCC.out.symm
      obtain rfl : bk2 = 0 := HBK.out.symm
      clear HP13 HJ13 HCC HBK HPP HQQ HH
      go_wp2
      go_ret
      exact ⟨rfl, hbz⟩
end Go.Proofs.Ytlbcmlleoncddaa
