/-
  The law FnFrames, walked: whatever the bytes, it returns true.
-/
import Derived.Test.YtoelclgpmjecmaaFrF
namespace Go.Proofs.Ytoelclgpmjecmaa
open Go.RowKit M
namespace M
theorem ret_bool {b : Bool} (h : b = true) : Ending.returned (.bool b) = .returned (.bool true) := by rw [h]
end M
theorem sum_changed (s : ByteArray) (k y : Nat) (u : UInt8) (hu : s.data.toList[k]? = some u) (hy : y < 256) (hs : s.size ≤ maxLen) :
    ∃ A : Nat, (∀ W, Calls Try.prog 8 #[.string ⟨(s.data.toList.set k (UInt8.ofNat y)).toArray⟩] W fun e w' => e = .returned (.int .i64 (A : Int)) ∧ w' = W) ∧ (A = sumOf s.data.toList ↔ (u.toNat = y ∨ (u.toNat % 255 = 0 ∧ y % 255 = 0))) := by
  have hz : (⟨(s.data.toList.set k (UInt8.ofNat y)).toArray⟩ : ByteArray).size = s.size := by
    show ((s.data.toList.set k (UInt8.ofNat y)).toArray).size = s.data.size
    simp
  refine ⟨sumOf (s.data.toList.set k (UInt8.ofNat y)), fun W => ?_, ?_⟩
  · have h := impl_sum ⟨(s.data.toList.set k (UInt8.ofNat y)).toArray⟩ W (by rw [hz]; exact hs)
    simpa using h
  · have hy' : (UInt8.ofNat y).toNat = y := by have := u8_of y hy; omega
    rw [sum_set hu, hy', ← UInt8.toNat_inj, hy']
theorem take_back (s : ByteArray) (hs : s.size ≤ 60) (W : World) : Calls Try.prog 12 #[.string (frameB s ++ ⟨#[109, 111, 114, 101]⟩)] W fun e w' => e = .returned (.tuple #[.string s, .int .i64 ((s.size + 3 : Nat) : Int), .bool true]) ∧ Below W.heap.size W w' := by
  obtain ⟨h1, h2⟩ := takeN_frame s ⟨#[109, 111, 114, 101]⟩ hs
  have hz : (frameB s ++ ⟨#[109, 111, 114, 101]⟩).size = s.size + 3 + 4 := by rw [ByteArray.size_append, frameB_size]; rfl
  have h := impl_take_some (frameB s ++ ⟨#[109, 111, 114, 101]⟩) W (by rw [hz]; unfold maxLen; omega) s.size h1
  rw [h2] at h
  exact h
set_option maxRecDepth 20000 in
set_option maxHeartbeats 3000000 in
theorem law_fnFrames (v0 : Value) (n0 : Nat) (f0 : Nat → Nat) (v1 : Value) (n1 : Nat) (f1 : Nat → Nat) (w : World) (hv0 : OctetsOf w v0 n0 f0) (hz0 : n0 < 2 ^ 47) (hv1 : OctetsOf w v1 n1 f1) (hz1 : n1 < 2 ^ 47) :
    Calls Try.prog 6 #[v0, v1] w fun e w' => e = .returned (.bool true) ∧ Below w.heap.size w w' := by
  obtain ⟨a0, cap0, rfl⟩ := hv0.form
  obtain ⟨a1, cap1, rfl⟩ := hv1.form
  have HV0 := hide hv0
  have HV1 := hide hv1
  clear hv0 hv1
  by_cases hn : 1048576 < n0 + n1
  · have hn' : (1048576 : Int) < (n0 : Int) + (n1 : Int) := by omega
    go_enter Try.func6, Try.ntmps6
    go_wp2
    go_ret
    exact ⟨rfl, Below.refl _ _⟩
  have hn' : ¬ (1048576 : Int) < (n0 : Int) + (n1 : Int) := by omega
  go_enter Try.func6, Try.ntmps6
  go_wp2_with fail
  refine (draw_frame _ n0 f0 _ HV0.out (by omega)).mono ?_
  rintro e w1 ⟨⟨s, rfl, hs⟩, hb1⟩
  have hsm : s.size ≤ maxLen := by unfold maxLen; omega
  have HB1 := hide hb1
  have HI := hide (fun W => impl_sum s W hsm)
  have HS := hide (fun W => spec_sum s W hsm)
  clear HV0 hb1
  by_cases h60 : s.size ≤ 60
  · have HF1 := hide (fun W => impl_frame s W h60)
    have HF2 := hide (fun W => spec_frameB s W h60)
    have HT := hide (fun W => take_back s h60 W)
    have hF := frameB_size s
    have HX := hide (fun k y u hu hy => sum_changed s k y u hu hy hsm)
    generalize frameB s = F at *
    generalize sumOf s.data.toList = A at *
    go_wp2_with fail
    refine (HF1.out _).mono ?_
    rintro e w2 ⟨rfl, hb2⟩
    have HB2 := hide (HB1.out.trans (hb2.mono HB1.out.size))
    clear hb2 HB1 HF1
    go_wp2_with fail
    refine (HF2.out _).mono ?_
    rintro e w3 ⟨rfl, hb3⟩
    have HB3 := hide (HB2.out.trans (hb3.mono HB2.out.size))
    clear hb3 HB2 HF2
    go_wp2_with fail
    refine (HI.out _).mono ?_
    rintro e w4 ⟨rfl, hw4⟩
    rw [hw4]
    clear hw4
    go_wp2_with fail
    refine (HS.out _).mono ?_
    rintro e w4 ⟨rfl, hw4⟩
    rw [hw4]
    clear hw4 HS
    have q1 : ¬ (9223372036854775807 < F.size + (⟨#[109, 111, 114, 101]⟩ : ByteArray).size) := by rw [hF]; show ¬ (_ < _ + 4); omega
    go_wp2_with fail
    refine (HT.out _).mono ?_
    rintro e w5 ⟨rfl, hb5⟩
    have HB5 := hide (HB3.out.trans (hb5.mono HB3.out.size))
    clear hb5 HB3 HT q1
    have hF2 : ((s.size + 3 : Nat) : Int) = (F.size : Int) := by omega
    by_cases h0 : 0 < s.size
    · have h0' : (s.size : Int) > 0 := by omega
      obtain ⟨WB, cap, kv, hrow, hbB, hgl⟩ := conv_bytes w5 s
      have HBB := hide (HB5.out.trans (hbB.mono HB5.out.size))
      have hg5 : w.heap.size ≤ w5.heap.size := HB5.out.size
      generalize w5.heap.size = g at *
      have hy0 := nf_lt f1 n1
      have HN := hide (fun W hv => num_of (.slice a1 n1 cap1) n1 f1 W hv (by omega))
      generalize nf f1 n1 = y0 at *
      have hk : y0 % s.size < s.size := Nat.mod_lt _ h0
      have hq : (y0 : Int).tmod (s.size : Int) = ((y0 % s.size : Nat) : Int) := by rw [Int.tmod_eq_emod_of_nonneg (by omega)]; omega
      have hd : (y0 : Int).tdiv (s.size : Int) = ((y0 / s.size : Nat) : Int) := by rw [Int.tdiv_eq_ediv_of_nonneg (by omega)]; omega
      have hd2 : y0 / s.size ≤ y0 := Nat.div_le_self _ _
      have hne0 : (s.size : Int) ≠ 0 := by omega
      generalize y0 % s.size = k at *
      generalize y0 / s.size = d at *
      have hw1 : IntKind.u8.wrap (d : Int) = ((d % 256 : Nat) : Int) := by rw [IntKind.wrap_u8]; omega
      have hw2 : (d : Int) % 256 = ((d % 256 : Nat) : Int) := by omega
      have hy : d % 256 < 256 := Nat.mod_lt _ (by omega)
      generalize d % 256 = y at *
      have hlen : s.data.toList.length = s.size := by simp
      obtain ⟨u, hu⟩ : ∃ u, s.data.toList[k]? = some u := ⟨_, List.getElem?_eq_getElem (by omega)⟩
      have kc := hrow.cell hu
      have kt := hrow.thaw (j := k) (by omega)
      have hrow2 := hrow.set (k := k) (y := y) (by omega) hy
      have kc2 := hrow2.cell (j := k) (u := UInt8.ofNat y) (by rw [List.getElem?_set]; simp; omega)
      rw [u8_of y hy] at kc2
      have kcv := hrow2.conv cap
      rw [List.length_set, hlen] at kcv
      have HB7 := hide (HBB.out.setCell (p := ⟨g, k, none⟩) (by exact hg5) (.int .u8 (y : Int)))
      obtain ⟨A2, hA2, hA3⟩ := HX.out k y u hu hy
      have HA2 := hide hA2
      clear hrow hrow2 hA2 HX hbB hu hlen
      have hux : u.toNat < 256 := u.toNat_lt
      generalize u.toNat = x at *
      generalize (⟨(s.data.toList.set k (UInt8.ofNat y)).toArray⟩ : ByteArray) = T at *
      have tx : (x : Int).tmod 255 = ((x % 255 : Nat) : Int) := by rw [Int.tmod_eq_emod_of_nonneg (by omega)]; omega
      have ty : (y : Int).tmod 255 = ((y % 255 : Nat) : Int) := by rw [Int.tmod_eq_emod_of_nonneg (by omega)]; omega
      generalize x % 255 = p at *
      generalize y % 255 = r at *
      have hi0 : (0 : Int) ≤ (k : Int) := by omega
      have hi1 : (k : Int) < (s.size : Int) := by omega
      go_wp2_with fail
      refine (HN.out _ (HV1.out.below HBB.out)).mono ?_
      rintro e w6 ⟨rfl, hw6⟩
      rw [hw6]
      clear hw6
      go_wp2_with fail
      refine (HN.out _ (HV1.out.below HBB.out)).mono ?_
      rintro e w6 ⟨rfl, hw6⟩
      rw [hw6]
      clear hw6 HN HBB
      rcases (show x = y ∨ (x ≠ y ∧ p = 0 ∧ r = 0) ∨ (x ≠ y ∧ p = 0 ∧ r ≠ 0) ∨ (x ≠ y ∧ p ≠ 0) by omega) with hxy | ⟨hxy, hp, hr⟩ | ⟨hxy, hp, hr⟩ | ⟨hxy, hp⟩
      · have e1 : ((x : Int) == (y : Int)) = true := by rw [beq_iff_eq]; omega
        have hAA : A2 = A := hA3.2 (by omega)
        clear hA3
        subst hAA
        go_wp2_with fail
        refine (HA2.out _).mono ?_
        rintro e w7 ⟨rfl, hw7⟩
        rw [hw7]
        clear hw7
        go_wp2_with fail
        refine (HI.out _).mono ?_
        rintro e w7 ⟨rfl, hw7⟩
        rw [hw7]
        clear hw7 HI HA2
        go_wp2_with fail
        refine (draw_take _ n1 f1 _ (HV1.out.below HB7.out) (by omega)).mono ?_
        rintro e w8 ⟨⟨u8, rfl, hu8⟩, hb8⟩
        obtain ⟨x8, a8, b8, hI8, hS8⟩ := take_both u8 hu8
        have HTI := hide hI8
        have HTS := hide hS8
        have HB8 := hide (HB7.out.trans (hb8.mono HB7.out.size))
        clear hI8 hS8 hb8 HV1 HB7
        go_wp2_with fail
        refine (HTI.out _).mono ?_
        rintro e w9 ⟨rfl, hb9⟩
        have HB9 := hide (HB8.out.trans (hb9.mono HB8.out.size))
        clear hb9 HB8 HTI
        go_wp2_with fail
        refine (HTS.out _).mono ?_
        rintro e w10 ⟨rfl, hb10⟩
        have HB10 := hide (HB9.out.trans (hb10.mono HB9.out.size))
        clear hb10 HB9 HTS
        go_wp2
        go_ret
        exact ⟨ret_bool (by simp), HB10.out⟩
      · have e1 : ((x : Int) == (y : Int)) = false := by rw [beq_eq_false_iff_ne]; omega
        have e2 : ((p : Int) == 0) = true := by rw [beq_iff_eq]; omega
        have e3 : ((r : Int) == 0) = true := by rw [beq_iff_eq]; omega
        have hAA : A2 = A := hA3.2 (by omega)
        clear hA3
        subst hAA
        go_wp2_with fail
        refine (HA2.out _).mono ?_
        rintro e w7 ⟨rfl, hw7⟩
        rw [hw7]
        clear hw7
        go_wp2_with fail
        refine (HI.out _).mono ?_
        rintro e w7 ⟨rfl, hw7⟩
        rw [hw7]
        clear hw7 HI HA2
        go_wp2_with fail
        refine (draw_take _ n1 f1 _ (HV1.out.below HB7.out) (by omega)).mono ?_
        rintro e w8 ⟨⟨u8, rfl, hu8⟩, hb8⟩
        obtain ⟨x8, a8, b8, hI8, hS8⟩ := take_both u8 hu8
        have HTI := hide hI8
        have HTS := hide hS8
        have HB8 := hide (HB7.out.trans (hb8.mono HB7.out.size))
        clear hI8 hS8 hb8 HV1 HB7
        go_wp2_with fail
        refine (HTI.out _).mono ?_
        rintro e w9 ⟨rfl, hb9⟩
        have HB9 := hide (HB8.out.trans (hb9.mono HB8.out.size))
        clear hb9 HB8 HTI
        go_wp2_with fail
        refine (HTS.out _).mono ?_
        rintro e w10 ⟨rfl, hb10⟩
        have HB10 := hide (HB9.out.trans (hb10.mono HB9.out.size))
        clear hb10 HB9 HTS
        go_wp2
        go_ret
        exact ⟨ret_bool (by simp), HB10.out⟩
      · have e1 : ((x : Int) == (y : Int)) = false := by rw [beq_eq_false_iff_ne]; omega
        have e2 : ((p : Int) == 0) = true := by rw [beq_iff_eq]; omega
        have e3 : ((r : Int) == 0) = false := by rw [beq_eq_false_iff_ne]; omega
        have hAA : A2 ≠ A := fun h => by have := hA3.1 h; omega
        clear hA3
        have hAI : ((A2 : Int) == (A : Int)) = false := by rw [beq_eq_false_iff_ne]; omega
        go_wp2_with fail
        refine (HA2.out _).mono ?_
        rintro e w7 ⟨rfl, hw7⟩
        rw [hw7]
        clear hw7
        go_wp2_with fail
        refine (HI.out _).mono ?_
        rintro e w7 ⟨rfl, hw7⟩
        rw [hw7]
        clear hw7 HI HA2
        go_wp2_with fail
        refine (draw_take _ n1 f1 _ (HV1.out.below HB7.out) (by omega)).mono ?_
        rintro e w8 ⟨⟨u8, rfl, hu8⟩, hb8⟩
        obtain ⟨x8, a8, b8, hI8, hS8⟩ := take_both u8 hu8
        have HTI := hide hI8
        have HTS := hide hS8
        have HB8 := hide (HB7.out.trans (hb8.mono HB7.out.size))
        clear hI8 hS8 hb8 HV1 HB7
        go_wp2_with fail
        refine (HTI.out _).mono ?_
        rintro e w9 ⟨rfl, hb9⟩
        have HB9 := hide (HB8.out.trans (hb9.mono HB8.out.size))
        clear hb9 HB8 HTI
        go_wp2_with fail
        refine (HTS.out _).mono ?_
        rintro e w10 ⟨rfl, hb10⟩
        have HB10 := hide (HB9.out.trans (hb10.mono HB9.out.size))
        clear hb10 HB9 HTS
        go_wp2
        go_ret
        exact ⟨ret_bool (by simp), HB10.out⟩
      · have e1 : ((x : Int) == (y : Int)) = false := by rw [beq_eq_false_iff_ne]; omega
        have e2 : ((p : Int) == 0) = false := by rw [beq_eq_false_iff_ne]; omega
        have hAA : A2 ≠ A := fun h => by have := hA3.1 h; omega
        clear hA3
        have hAI : ((A2 : Int) == (A : Int)) = false := by rw [beq_eq_false_iff_ne]; omega
        go_wp2_with fail
        refine (HA2.out _).mono ?_
        rintro e w7 ⟨rfl, hw7⟩
        rw [hw7]
        clear hw7
        go_wp2_with fail
        refine (HI.out _).mono ?_
        rintro e w7 ⟨rfl, hw7⟩
        rw [hw7]
        clear hw7 HI HA2
        go_wp2_with fail
        refine (draw_take _ n1 f1 _ (HV1.out.below HB7.out) (by omega)).mono ?_
        rintro e w8 ⟨⟨u8, rfl, hu8⟩, hb8⟩
        obtain ⟨x8, a8, b8, hI8, hS8⟩ := take_both u8 hu8
        have HTI := hide hI8
        have HTS := hide hS8
        have HB8 := hide (HB7.out.trans (hb8.mono HB7.out.size))
        clear hI8 hS8 hb8 HV1 HB7
        go_wp2_with fail
        refine (HTI.out _).mono ?_
        rintro e w9 ⟨rfl, hb9⟩
        have HB9 := hide (HB8.out.trans (hb9.mono HB8.out.size))
        clear hb9 HB8 HTI
        go_wp2_with fail
        refine (HTS.out _).mono ?_
        rintro e w10 ⟨rfl, hb10⟩
        have HB10 := hide (HB9.out.trans (hb10.mono HB9.out.size))
        clear hb10 HB9 HTS
        go_wp2
        go_ret
        exact ⟨ret_bool (by simp), HB10.out⟩
    · have h0' : ¬ (s.size : Int) > 0 := by omega
      go_wp2_with fail
      refine (draw_take _ n1 f1 _ (HV1.out.below HB5.out) (by omega)).mono ?_
      rintro e w8 ⟨⟨u8, rfl, hu8⟩, hb8⟩
      obtain ⟨x8, a8, b8, hI8, hS8⟩ := take_both u8 hu8
      have HTI := hide hI8
      have HTS := hide hS8
      have HB8 := hide (HB5.out.trans (hb8.mono HB5.out.size))
      clear hI8 hS8 hb8 HV1 HB5
      go_wp2_with fail
      refine (HTI.out _).mono ?_
      rintro e w9 ⟨rfl, hb9⟩
      have HB9 := hide (HB8.out.trans (hb9.mono HB8.out.size))
      clear hb9 HB8 HTI
      go_wp2_with fail
      refine (HTS.out _).mono ?_
      rintro e w10 ⟨rfl, hb10⟩
      have HB10 := hide (HB9.out.trans (hb10.mono HB9.out.size))
      clear hb10 HB9 HTS
      go_wp2
      go_ret
      exact ⟨ret_bool (by simp), HB10.out⟩
  · have HF1 := hide (fun W => impl_frame_no s W hsm (by omega))
    have HF2 := hide (fun W => spec_frameB_no s W hsm (by omega))
    generalize sumOf s.data.toList = A at *
    go_wp2_with fail
    refine (HF1.out _).mono ?_
    rintro e w2 ⟨rfl, hw2⟩
    rw [hw2]
    clear hw2 HF1
    go_wp2_with fail
    refine (HF2.out _).mono ?_
    rintro e w3 ⟨rfl, hw3⟩
    rw [hw3]
    clear hw3 HF2
    go_wp2_with fail
    refine (HI.out _).mono ?_
    rintro e w4 ⟨rfl, hw4⟩
    rw [hw4]
    clear hw4 HI
    go_wp2_with fail
    refine (HS.out _).mono ?_
    rintro e w4 ⟨rfl, hw4⟩
    rw [hw4]
    clear hw4 HS
    go_wp2_with fail
    refine (draw_take _ n1 f1 _ (HV1.out.below HB1.out) (by omega)).mono ?_
    rintro e w8 ⟨⟨u8, rfl, hu8⟩, hb8⟩
    obtain ⟨x8, a8, b8, hI8, hS8⟩ := take_both u8 hu8
    have HTI := hide hI8
    have HTS := hide hS8
    have HB8 := hide (HB1.out.trans (hb8.mono HB1.out.size))
    clear hI8 hS8 hb8 HV1 HB1
    go_wp2_with fail
    refine (HTI.out _).mono ?_
    rintro e w9 ⟨rfl, hb9⟩
    have HB9 := hide (HB8.out.trans (hb9.mono HB8.out.size))
    clear hb9 HB8 HTI
    go_wp2_with fail
    refine (HTS.out _).mono ?_
    rintro e w10 ⟨rfl, hb10⟩
    have HB10 := hide (HB9.out.trans (hb10.mono HB9.out.size))
    clear hb10 HB9 HTS
    go_wp2
    go_ret
    exact ⟨ret_bool (by simp), HB10.out⟩
end Go.Proofs.Ytoelclgpmjecmaa
