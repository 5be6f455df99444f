/-
  The specification's reader of choices: a set of numbers that climb.
-/
import Derived.Test.YtpabnncfcklnpaaHoCu
namespace Go.Proofs.Ytpabnncfcklnpaa
open Go.RowKit M
namespace M
theorem But.grown {cb : Nat} {w w1 w2 : World} {row : Option Nat} (h : But cb w w1) (hg : w1.grownBy w2 row) (hr : ∀ k, row = some k → w.heap.size ≤ k) : But cb w w2 :=
  ⟨hg.os.trans h.os, hg.tape.trans h.tape, hg.output.trans h.output, Nat.le_trans h.size hg.size, fun k hk hne => by
    rw [hg.block k (Nat.lt_of_lt_of_le hk h.size) (fun e => by have := hr k e.symm; omega)]; exact h.block k hk hne⟩
theorem CurAt.grown {w w' : World} {B cb N B' e s m : Nat} {v : Value} {xs : List Value} (h : CurAt w B cb N) (hown : w.ownsRow B' e s v m xs) (hlt : cb < B') (hg : w.grownBy w' v.ownBlock) : CurAt w' B cb N := by
  obtain ⟨v', n, f, t, s', ht, hn, hBc, hk, w0, h0, h1, hb0⟩ := h
  have hne : ∀ k, k < B' → some k ≠ v.ownBlock := fun k hk' e => by have := (hown.lt k e.symm).1; omega
  refine ⟨v', n, f, t, s', ht, hn, hBc, ?_, w0, h0, h1, hb0.trans ⟨hg.os, hg.tape, hg.output, hg.size, fun k hk' => ?_⟩⟩
  · unfold Blk; rw [hg.block cb hk.lt (hne cb hlt)]; exact hk
  · exact hg.block k (by have := hk.lt; omega) (hne k (by omega))
end M
set_option maxHeartbeats 4000000 in
theorem cur_set (B cb N m : Nat) (w : World) (h : CurAt w B cb N) (hN : N ≤ 800000) (hm : m ≤ 4) :
    Calls Try.prog 66 #[.pointer (some ⟨cb, 0, none⟩), .int .i64 14, .int .i64 (m : Int)] w fun e w' => (∃ r, e = .returned r ∧ ∃ xs : List Nat, xs.length ≤ 4 ∧ w'.ownsRow w.heap.size 3 1 r xs.length (xs.map nv)) ∧ CurAt w' B cb (N + 10) ∧ But cb w w' := by
  obtain ⟨i0, hi, hz0, hz1, hz2⟩ := info_parts info_int
  have hcl := h.lt
  have HC := hide h
  clear h
  go_enter Try.func66, Try.ntmps66
  go_wp2_with fail
  refine (cur_pick B cb N 4 _ HC.out (by omega) (by omega)).mono ?_
  rintro e w1 ⟨⟨x, hx, rfl⟩, hc1, ho1⟩
  have hx4 : x ≤ 3 := by omega
  have HC1 := hide hc1
  clear hc1 HC hx
  go_wp2_with fail
  try rw [show (m : Int) + 1 = ((m + 1 : Nat) : Int) by omega]
  refine (cur_pick B cb (N + 1) (m + 1) _ HC1.out (by omega) (by omega)).mono ?_
  rintro e w2 ⟨⟨y, hy, rfl⟩, hc2, ho⟩
  have hy4 : y ≤ 4 := by omega
  have HB2 := hide (ho1.trans ho)
  have HC2 := hide hc2
  clear hc2 HC1 ho ho1 hy
  go_wp2
  go_loopw [7, 8, 9] (fun p q r wr => ∃ (xs : List Nat) (n : Nat) (ao : Option Addr) (c kk cnt : Nat), Hid (n = xs.length) ∧ n + cnt ≤ 4 ∧ kk ≤ 100 ∧ p = .slice ao n c ∧ q = .int .i64 (kk : Int) ∧ r = .int .i64 (cnt : Int) ∧ Hid (wr.ownsRow w.heap.size 3 1 (.slice ao n c) n (xs.map nv)) ∧ Hid (CurAt wr B cb (N + 6 - cnt)) ∧ Hid (But cb w wr)) (fun _ _ r _ => (intOf r).toNat)
  case atStart => exact ⟨[], 0, none, 0, x, y, hide rfl, by omega, by omega, rfl, rfl, rfl, hide (World.ownsRow_nil _ _ _ _), hide (HC2.out.more (by omega)), HB2⟩
  case round =>
    rename World => wr
    obtain ⟨xs, n, ao, c, kk, cnt, hn, hnc, hkk, rfl, rfl, rfl, HO, HCr, HBr⟩ := hrel
    by_cases hcn : 0 < cnt
    · obtain ⟨cn, rfl⟩ : ∃ cn, cnt = cn + 1 := ⟨cnt - 1, by omega⟩
      have hgt : ((cn + 1 : Nat) : Int) > 0 := by omega
      by_cases hk14 : kk < 14
      · have hlt : (kk : Int) < 14 := by omega
        have hown := HO.out
        have hsz := HBr.out.size
        go_wp2_with (at_builtin; refine wpList_append_own _ rfl _ _ 29 rfl w.heap.size 3 i0 _ 1 8 Try.underlying29 hi hz0 hz1 hz2 rfl (by decide) _ n _ rfl (hown.alloc _) ⟨wr.heap.size, 0, none⟩ 1 1 [.int .i64 (kk : Int)] rfl rfl ?c1 ?c2 ?c3 ?c4 ?c5 ?_)
        try (case c1 => exact news1 wr _ _)
        case c2 => first | rfl | (intro u hu; simp at hu; subst hu; rfl)
        case c3 => unfold maxLen; omega
        case c4 => omega
        case c5 => simp; omega
        intro v' w5 hown5 hgrow _
        have hbt5 : But cb w w5 := (HBr.out.trans (But.of_below ((Below.refl _ _).alloc (Nat.le_refl _) _))).grown hgrow (fun k hk => (hown.lt k hk).1)
        have HC5 := hide ((HCr.out.below ((Below.refl _ _).alloc (Nat.le_refl _) _)).grown (hown.alloc _) hcl hgrow)
        obtain ⟨a5, c5, rfl⟩ := own_form hown5
        have HO5 := hide (show w5.ownsRow w.heap.size 3 1 (.slice a5 (n + 1) c5) (n + 1) ((xs ++ [kk]).map nv) by rw [List.map_append]; exact hown5)
        have HB5 := hide hbt5
        clear hown5 hgrow hown HO HCr HBr hbt5
        go_wp2_with fail
        refine (cur_pick B cb _ 4 _ HC5.out (by omega) (by omega)).mono ?_
        rintro e w6 ⟨⟨z, hz, rfl⟩, hc6, ho6⟩
        have hz4 : z ≤ 3 := by omega
        have HO6 := hide (ho6.owns HO5.out hcl)
        have HC6 := hide (hc6.more (show _ ≤ N + 6 - cn by omega))
        have HB6 := hide (HB5.out.trans ho6)
        clear HO5 HC5 HB5 hc6 ho6 hz
        go_wp2
        exact ⟨⟨xs ++ [kk], n + 1, a5, c5, kk + (1 + z), cn, hide (by simp [hn.out]), by omega, by omega, rfl, by go_num, by go_num, HO6, HC6, HB6⟩, by simp [intOf]⟩
      · have hge : ¬ ((kk : Int) < 14) := by omega
        go_wp2
        go_ret
        exact ⟨⟨_, rfl, xs, by rw [← hn.out]; omega, by rw [← hn.out]; exact HO.out⟩, HCr.out.more (by omega), HBr.out⟩
    · obtain rfl : cnt = 0 := by omega
      go_wp2
      go_ret
      exact ⟨⟨_, rfl, xs, by rw [← hn.out]; omega, by rw [← hn.out]; exact HO.out⟩, HCr.out.more (by omega), HBr.out⟩
end Go.Proofs.Ytpabnncfcklnpaa
