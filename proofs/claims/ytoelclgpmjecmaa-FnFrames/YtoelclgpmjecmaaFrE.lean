/-
  A text that is spoilt; a text with a frame ahead, drawn.
-/
import Derived.Test.YtoelclgpmjecmaaFrD
namespace Go.Proofs.Ytoelclgpmjecmaa
open Go.RowKit M
set_option maxHeartbeats 1500000 in
theorem cur_spoilt (B cb N : Nat) (t u : ByteArray) (w : World) (h : CurAt w B cb N) (hN : N ≤ 700000) (ht : t.size ≤ 100) (hu : u.size = 3) :
    Calls Try.prog 22 #[.pointer (some ⟨cb, 0, none⟩), .string t, .string u] w fun e w' => (∃ s : ByteArray, e = .returned (.string s) ∧ s.size ≤ 103) ∧ CurAt w' B cb (N + 20) ∧ But cb w w' := by
  have HC := hide h
  clear h
  have k1 := conv1
  have z1 := strOfNums_size
  go_enter Try.func22, Try.ntmps22
  go_wp2_with fail
  refine (cur_pick B cb N 3 _ HC.out (by omega) (by omega)).mono ?_
  rintro e w1 ⟨⟨x, hx, rfl⟩, hc1, ho1⟩
  have hx4 : x ≤ 2 := by omega
  have H1 := hide (And.intro hc1 ho1)
  clear hc1 HC hx ho1
  go_wp2
  go_loopw [1, 7] (fun p r wr => ∃ (s : ByteArray) (cnt : Nat), s.size + cnt ≤ 102 ∧ cnt ≤ 2 ∧ p = .string s ∧ r = .int .i64 (cnt : Int) ∧ Hid (CurAt wr B cb (N + 1 + 3 * (2 - cnt)) ∧ But cb w wr)) (fun _ r _ => (intOf r).toNat)
  case atStart => exact ⟨t, x, by omega, hx4, rfl, rfl, hide ⟨H1.out.1.more (by omega), H1.out.2⟩⟩
  case round =>
    rename World => wr
    obtain ⟨s, cnt, hs, hc2, rfl, rfl, HW⟩ := hrel
    by_cases hcn : 0 < cnt ∧ 0 < s.size
    · obtain ⟨cn, rfl⟩ : ∃ cn, cnt = cn + 1 := ⟨cnt - 1, by omega⟩
      have hgt : ((cn + 1 : Nat) : Int) > 0 := by omega
      have hgs : (s.size : Int) > 0 := by omega
      go_wp2_with fail
      refine (cur_pick B cb _ s.size _ HW.out.1 (by omega) (by omega)).mono ?_
      rintro e w2 ⟨⟨i, hi, rfl⟩, hc, ho⟩
      have his : i < s.size := by omega
      have H2 := hide (And.intro hc (HW.out.2.trans ho))
      clear hc ho HW hi
      go_wp2_with fail
      refine (cur_pick B cb _ 3 _ H2.out.1 (by omega) (by omega)).mono ?_
      rintro e w3 ⟨⟨j, hj, rfl⟩, hc, ho⟩
      have hju : j < u.size := by omega
      have H3 := hide (And.intro hc (H2.out.2.trans ho))
      clear hc ho H2 hj
      have hal := fun a : Int => (Below.refl w3.heap.size w3).alloc (Nat.le_refl _) (.cells #[.int .u8 a] 5)
      have H4 := hide (fun a : Int => And.intro (H3.out.1.below (hal a)) (H3.out.2.trans (But.of_below (cb := cb) (hal a))))
      clear hal H3
      go_wp2_with fail
      refine (cur_pick B cb _ 3 _ (H4.out _).1 (by omega) (by omega)).mono ?_
      rintro e w5 ⟨⟨q, hq, rfl⟩, hc, ho⟩
      have hq3 : q ≤ 2 := by omega
      have H5 := hide (And.intro (hc.more (show _ ≤ N + 1 + 3 * (2 - cn) by omega)) ((H4.out _).2.trans ho))
      clear hc ho H4 hq
      have HD := hide (show ∀ d, CurAt (w5.drewN d) B cb (N + 1 + 3 * (2 - cn)) ∧ But cb w (w5.drewN d) from fun d => by
        have hd : Below w5.heap.size w5 (w5.drewN d) := ⟨rfl, rfl, rfl, Nat.le_refl _, fun _ _ => rfl⟩
        exact ⟨H5.out.1.below hd, H5.out.2.trans (But.of_below hd)⟩)
      have zz := z1 [(u[j].toNat : Int)]
      generalize strOfNums [(u[j].toNat : Int)] = W at *
      have ka := slice_hi s i (by omega)
      have kb := slice_lo s i (by omega)
      have kc := slice_lo s (i + 1) (by omega)
      rw [show ((i + 1 : Nat) : Int) = (i : Int) + 1 by omega] at kc
      have za := ext_size s 0 i (by omega)
      have zb := ext_size s i s.size (by omega)
      have zc := ext_size s (i + 1) s.size (by omega)
      generalize s.extract 0 i = X at *
      generalize s.extract i s.size = Y at *
      generalize s.extract (i + 1) s.size = Z at *
      have z2 := @ByteArray.size_append
      simp only [List.length_cons, List.length_nil] at zz
      match q, hq3 with
      | 0, _ =>
        have q1 : ¬ (9223372036854775807 < X.size + W.size) := by omega
        have q2 : ¬ (9223372036854775807 < (X ++ W).size + Y.size) := by rw [z2]; omega
        have q3 : (X ++ W ++ Y).size + cn ≤ 102 := by rw [z2, z2]; omega
        go_wp2
        go_big_quiet (fail)
        go_wp2
        exact ⟨⟨X ++ W ++ Y, cn, q3, by omega, rfl, by go_num, hide (HD.out _)⟩, by simp [intOf]⟩
      | 1, _ =>
        have q1 : ¬ (9223372036854775807 < X.size + W.size) := by omega
        have q2 : ¬ (9223372036854775807 < (X ++ W).size + Z.size) := by rw [z2]; omega
        have q3 : (X ++ W ++ Z).size + cn ≤ 102 := by rw [z2, z2]; omega
        go_wp2
        go_big_quiet (fail)
        go_wp2
        exact ⟨⟨X ++ W ++ Z, cn, q3, by omega, rfl, by go_num, hide (HD.out _)⟩, by simp [intOf]⟩
      | 2, _ =>
        have q1 : ¬ (9223372036854775807 < X.size + Z.size) := by omega
        have q3 : (X ++ Z).size + cn ≤ 102 := by rw [z2]; omega
        go_wp2
        go_big_quiet (fail)
        go_wp2
        exact ⟨⟨X ++ Z, cn, q3, by omega, rfl, by go_num, hide (HD.out _)⟩, by simp [intOf]⟩
    · by_cases h0 : 0 < cnt
      · have hgt : (cnt : Int) > 0 := by omega
        have hgs : ¬ (s.size : Int) > 0 := by omega
        go_wp2
        go_ret
        exact ⟨⟨_, rfl, by omega⟩, HW.out.1.more (by omega), HW.out.2⟩
      · obtain rfl : cnt = 0 := by omega
        go_wp2
        go_ret
        exact ⟨⟨_, rfl, by omega⟩, HW.out.1.more (by omega), HW.out.2⟩
end Go.Proofs.Ytoelclgpmjecmaa
