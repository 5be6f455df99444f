/-
  Calls that are drawn.
-/
import Derived.Test.YtegbfmdilmbpmaaRtK
import Derived.Test.YtegbfmdilmbpmaaRtP
namespace Go.Proofs.Ytegbfmdilmbpmaa
open Go.RowKit M
open Clk (upd upd_same upd_other)
namespace M
theorem But.grown {cb : Nat} {w w1 w2 : World} {row : Option Nat} (h : But cb w w1) (hg : w1.grownBy w2 row) (hr : ∀ k, row = some k → w.heap.size ≤ k) : But cb w w2 :=
  ⟨hg.os.trans h.os, hg.tape.trans h.tape, hg.output.trans h.output, Nat.le_trans h.size hg.size, fun k hk hne => by
    rw [hg.block k (Nat.lt_of_lt_of_le hk h.size) (fun e => by have := hr k e.symm; omega)]; exact h.block k hk hne⟩
theorem CurAt.grown {w w' : World} {B cb N B' e s m : Nat} {v : Value} {xs : List Value} (h : CurAt w B cb N) (hown : w.ownsRow B' e s v m xs) (hlt : cb < B') (hg : w.grownBy w' v.ownBlock) : CurAt w' B cb N := by
  obtain ⟨v', n, f, t, s', ht, hn, hBc, hk, w0, h0, h1, hb0⟩ := h
  have hne : ∀ k, k < B' → some k ≠ v.ownBlock := fun k hk' e => by have := (hown.lt k e.symm).1; omega
  refine ⟨v', n, f, t, s', ht, hn, hBc, ?_, w0, h0, h1, hb0.trans ⟨hg.os, hg.tape, hg.output, hg.size, fun k hk' => ?_⟩⟩
  · unfold Blk; rw [hg.block cb hk.lt (hne cb hlt)]; exact hk
  · exact hg.block k (by have := hk.lt; omega) (hne k (by omega))
theorem news2 (w : World) (c0 c1 : Value) (t : TypeId) : ∀ (j : Nat) u, [c0, c1][j]? = some u → (w.alloc (.cells #[c0, c1] t)).cell? ((⟨w.heap.size, 0, none⟩ : Addr).add j) = some u := by
  intro j u hj
  match j, hj with
  | 0, hj => simp at hj; subst hj; simp [Addr.add]
  | 1, hj => simp at hj; subst hj; simp [Addr.add]
def cellsC (l : Nat → Cl) (n : Nat) : List Value := (List.range (n * 2)).map (cv l)
theorem cellsC_len (l : Nat → Cl) (n : Nat) : (cellsC l n).length = n * 2 := by simp [cellsC]
theorem cellsC_snoc (l : Nat → Cl) (n : Nat) (a : Cl) : cellsC (upd l n a) (n + 1) = cellsC l n ++ [.int .i64 a.w, .bool a.y] := by
  unfold cellsC
  rw [show (n + 1) * 2 = n * 2 + 1 + 1 by omega, range_snoc, range_snoc, List.append_assoc]
  have e1 : (List.range (n * 2)).map (cv (upd l n a)) = (List.range (n * 2)).map (cv l) := List.map_congr_left fun j hj => by
    have := List.mem_range.1 hj
    unfold cv; rw [upd_other _ _ _ _ (show j / 2 ≠ n by omega)]
  rw [e1, cv_even, cv_odd, upd_same]
  rfl
theorem own_calls {w : World} {B e n : Nat} {v : Value} {l : Nat → Cl} (h : w.ownsRow B e 2 v n (cellsC l n)) : CallsOf w v n l := by
  obtain ⟨a, cap, hv, hr⟩ := own_cells h (cellsC_len l n)
  refine ⟨a, cap, hv, fun hn => ?_⟩
  obtain ⟨g, ha, _, hlt, hc⟩ := hr hn
  refine ⟨g, 0, ha, hlt, fun i hi => ?_⟩
  rw [Nat.zero_add]
  constructor
  · exact hc _ _ (by unfold cellsC; rw [List.getElem?_map, List.getElem?_range (by omega)]; simp [cv_even])
  · exact hc _ _ (by unfold cellsC; rw [List.getElem?_map, List.getElem?_range (by omega)]; simp [cv_odd])
/-- Calls that were drawn. -/
structure DC (cb : Nat) (w : World) (e : Ending) : Prop where
  h : ∃ a cap n cs, e = .returned (.slice a n cap) ∧ n ≤ 121 ∧ n ≤ cap ∧ ∀ W, But cb w W → CallsOf W (.slice a n cap) n cs
theorem own_le {w : World} {B e s n c : Nat} {a : Option Addr} {xs : List Value} (h : w.ownsRow B e s (.slice a n c) n xs) : n ≤ c := by
  rcases h.2 with ⟨hv, h0⟩ | ⟨g, cap, cur, hv, hB, hg, hc, hm, hs, ht⟩
  · omega
  · cases hv; exact hc
theorem own_blkC {w : World} {B n : Nat} {v : Value} {l : Nat → Cl} (h : w.ownsRow B 50 2 v n (cellsC l n)) (hn : 0 < n) : ∃ g cap m f, v = .slice (some ⟨g, 0, none⟩) n cap ∧ B ≤ g ∧ n * 2 ≤ m ∧ Blk w g m f 50 ∧ ∀ q, q < n * 2 → f q = cv l q := by
  rcases h.2 with ⟨_, h0⟩ | ⟨g, cap, cur, rfl, hB, hg, hc, hm, hs, ht⟩
  · omega
  · refine ⟨g, cap, cur.size, fun i => cur.getD i undef, rfl, hB, by omega, ?_, fun q hq => ?_⟩
    · unfold Blk
      rw [hg]
      congr 2
      apply Array.ext_getElem?
      intro j
      by_cases hj : j < cur.size
      · rw [cf_get _ hj]
        simp [Array.getD, hj]
      · rw [Array.getElem?_eq_none (by omega), Array.getElem?_eq_none (by rw [cf_size]; omega)]
    · have h1 : (cellsC l n)[q]? = some (cv l q) := by unfold cellsC; rw [List.getElem?_map, List.getElem?_range hq]; rfl
      rw [← ht, List.getElem?_take_of_lt (by omega), Array.getElem?_toList] at h1
      have : q < cur.size := by omega
      simp [Array.getD, this] at h1 ⊢
      exact h1
end M
set_option maxRecDepth 20000 in
set_option maxHeartbeats 8000000 in
theorem cur_calls (B cb N : Nat) (w : World) (h : CurAt w B cb N) (hN : N ≤ 900000) :
    Calls Try.prog 62 #[.pointer (some ⟨cb, 0, none⟩)] w fun e w' => DC cb w' e ∧ CurAt w' B cb (N + 400) ∧ But cb w w' := by
  obtain ⟨i0, hi, hz0, hz1, hz2⟩ := info_parts info_call
  have hcl := h.lt
  have HC := hide h
  clear h
  go_enter Try.func62, Try.ntmps62
  go_wp2_with fail
  refine (cur_pick B cb N 5 _ HC.out (by omega) (by omega)).mono ?_
  rintro e w1 ⟨⟨x0, hx0, rfl⟩, hc1, ho1⟩
  have HC1 := hide hc1
  clear HC hc1
  go_wp2_with fail
  refine (cur_pick B cb (N + 1) 20 _ HC1.out (by omega) (by omega)).mono ?_
  rintro e w2 ⟨⟨x1, hx1, rfl⟩, hc2, ho2⟩
  have HC2 := hide hc2
  have hbt2 := ho1.trans ho2
  clear HC1 hc2 ho1 ho2
  go_wp2_with fail
  refine (cur_one B cb (N + 2) 20 _ HC2.out (by omega) (by omega)).mono ?_
  rintro e w3 ⟨⟨b3, rfl⟩, hc3, ho3⟩
  have HC3 := hide hc3
  have hbt3 := hbt2.trans ho3
  clear HC2 hc3 hbt2 ho3
  cases b3 with
  | false =>
    have HC4 := hide (HC3.out.more (show N + 2 + 1 ≤ N + 4 by omega))
    have hbt4 := hbt3
    clear HC3 hbt3
    go_wp2
    go_loopw [3, 4, 5] (fun l nw c wr => ∃ (i cnt nv : Nat) (cs : Nat → Cl) (ao : Option Addr) (cp N' : Nat), i + cnt ≤ 121 ∧ N' + 2 * cnt ≤ N + 300 ∧ nv ≤ 10 + 8 * i ∧ c = .int .i64 (cnt : Int) ∧ nw = .int .i64 (nv : Int) ∧ l = .slice ao i cp ∧ Hid (wr.ownsRow w.heap.size 50 2 (.slice ao i cp) i (cellsC cs i)) ∧ Hid (∀ j, j < i → 0 ≤ (cs j).w ∧ (cs j).w ≤ 2000) ∧ Hid (CurAt wr B cb N') ∧ But cb w wr) (fun _ _ c _ => (intOf c).toNat)
    case atStart => exact ⟨0, x1, x0, fun _ => ⟨0, false⟩, none, 0, N + 4, by omega, by omega, by omega, rfl, rfl, rfl, hide (World.ownsRow_nil _ _ _ _), hide (fun j hj => absurd hj (by omega)), HC4, hbt4⟩
    case round =>
      rename World => wo
      obtain ⟨i, cnt, nv, cs, ao, cp, N', hic, hNc, hnv, rfl, rfl, rfl, HO, HP, HCr, hbt⟩ := hrel
      by_cases hcn : 0 < cnt
      · obtain ⟨cn, rfl⟩ : ∃ cn, cnt = cn + 1 := ⟨cnt - 1, by omega⟩
        have hgt : ((cn + 1 : Nat) : Int) > 0 := by omega
        go_wp2_with fail
        refine (cur_one B cb N' 3 _ HCr.out (by omega) (by omega)).mono ?_
        rintro e w5 ⟨⟨b5, rfl⟩, hc5, ho5⟩
        have hbt5 := hbt.trans ho5
        have hsz5 := hbt5.size
        have hown := ho5.owns HO.out hcl
        have HC5 := hide hc5
        clear HO HCr hc5 ho5 hbt
        go_wp2_with (at_builtin; refine wpList_append_own _ rfl _ _ 58 rfl w.heap.size 50 i0 _ 2 16 Try.underlying58 hi hz0 hz1 hz2 rfl (by decide) _ i _ rfl (hown.alloc _) ⟨w5.heap.size, 0, none⟩ 1 1 [.int .i64 (nv : Int), .bool b5] rfl rfl ?c1 ?c2 ?c3 ?c4 ?c5 ?_)
        try (case c1 => exact news2 w5 _ _ _)
        case c2 => first | (intro u hu; simp at hu; rcases hu with rfl | rfl <;> rfl) | exact ⟨rfl, rfl⟩
        case c3 => unfold maxLen; omega
        case c4 => omega
        case c5 => first | omega | (simp; omega)
        intro v' w6 hown6 hgrow _
        have hbt6 : But cb w w6 := (hbt5.trans (But.of_below ((Below.refl _ _).alloc (Nat.le_refl _) _))).grown hgrow (fun k hk => (hown.lt k hk).1)
        have HC6 := hide ((HC5.out.below ((Below.refl _ _).alloc (Nat.le_refl _) _)).grown (hown.alloc _) hcl hgrow)
        obtain ⟨a6, c6, rfl⟩ := own_form hown6
        have HO6 := hide (show w6.ownsRow w.heap.size 50 2 (.slice a6 (i + 1) c6) (i + 1) (cellsC (upd cs i ⟨(nv : Int), b5⟩) (i + 1)) by rw [cellsC_snoc]; exact hown6)
        have HP6 := hide (show ∀ j, j < i + 1 → 0 ≤ (upd cs i ⟨(nv : Int), b5⟩ j).w ∧ (upd cs i ⟨(nv : Int), b5⟩ j).w ≤ 2000 from fun j hj => by
          by_cases he : j = i
          · subst he; rw [upd_same]; simp only; omega
          · rw [upd_other _ _ _ _ he]; exact HP.out j (by omega))
        clear hown6 hgrow hown HC5 HP hbt5
        go_wp2_with fail
        refine (cur_pick B cb (N' + 1) 8 _ HC6.out (by omega) (by omega)).mono ?_
        rintro e w7 ⟨⟨x7, hx7, rfl⟩, hc7, ho7⟩
        have HO7 := hide (ho7.owns HO6.out hcl)
        have hbt7 := hbt6.trans ho7
        have HC7 := hide hc7
        clear HO6 hbt6 hc7 ho7 HC6
        go_wp2
        exact ⟨⟨i + 1, cn, nv + x7, _, a6, c6, N' + 2, by omega, by omega, by omega, by go_num, by go_num, rfl, HO7, HP6, HC7, hbt7⟩, by simp [intOf]⟩
      · obtain rfl : cnt = 0 := by omega
        by_cases h1 : 1 < i
        · have h1' : (1 : Int) < (i : Int) := by omega
          go_wp2_with fail
          refine (cur_one B cb N' 30 _ HCr.out (by omega) (by omega)).mono ?_
          rintro e w5 ⟨⟨b5, rfl⟩, hc5, ho5⟩
          have hbt5 := hbt.trans ho5
          have hown := ho5.owns HO.out hcl
          have HC5 := hide hc5
          clear HO HCr hc5 ho5 hbt
          cases b5 with
          | false =>
            have hca := fun W (hW : But cb _ W) => own_calls (hW.owns hown hcl)
            have hle := own_le hown
            clear hown
            go_wp2
            go_ret
            exact ⟨⟨⟨_, _, i, cs, rfl, by omega, hle, hca⟩⟩, HC5.out.more (by omega), hbt5⟩
          | true =>
            have hle := own_le hown
            obtain ⟨gg, cp', m, ff, hform, hBg, hm, hblk, hff⟩ := own_blkC hown (by omega)
            cases hform
            have d0 := hblk.cell (show 0 < m by omega)
            have d2 := hblk.cell (show 2 < m by omega)
            rw [hff 0 (by omega), show cv cs 0 = .int .i64 (cs 0).w from cv_even cs 0] at d0
            rw [hff 2 (by omega), show cv cs 2 = .int .i64 (cs 1).w from cv_even cs 1] at d2
            have t0 := hblk.thaw 0
            obtain ⟨p0, p1⟩ := HP.out 1 h1
            have HZ := hide (show (∀ W, But cb (w5.setCell ⟨gg, 0, none⟩ (.int .i64 ((cs 1).w + 1))) W → CallsOf W (.slice (some ⟨gg, 0, none⟩) i cp) i (upd cs 0 ⟨(cs 1).w + 1, (cs 0).y⟩)) ∧ CurAt (w5.setCell ⟨gg, 0, none⟩ (.int .i64 ((cs 1).w + 1))) B cb (N' + 1) ∧ But cb w (w5.setCell ⟨gg, 0, none⟩ (.int .i64 ((cs 1).w + 1))) from by
              have hb2 := hblk.set 0 (.int .i64 ((cs 1).w + 1))
              have hbs := HC5.out.base
              refine ⟨fun W hW => ⟨_, _, rfl, fun _ => ⟨gg, 0, rfl, (hW.blk hb2 (by omega)).lt, fun j hj => ?_⟩⟩, HC5.out.set (by omega) (by omega) _ _, hbt5.set hBg _ _⟩
              rw [Nat.zero_add]
              have q0 := (hW.blk hb2 (by omega)).cell (show j * 2 < m by omega)
              have q1 := (hW.blk hb2 (by omega)).cell (show j * 2 + 1 < m by omega)
              rw [upd_other _ _ _ _ (show j * 2 + 1 ≠ 0 by omega), hff _ (by omega), cv_odd] at q1
              by_cases e : j = 0
              · subst e
                rw [upd_same] at q0 ⊢
                exact ⟨q0, q1⟩
              · rw [upd_other _ _ _ _ (show j * 2 ≠ 0 by omega), hff _ (by omega), cv_even] at q0
                rw [upd_other _ _ _ _ e]
                exact ⟨q0, q1⟩)
            clear hown hblk hff HC5 hbt5
            go_wp2
            go_ret
            exact ⟨⟨⟨_, _, i, _, rfl, by omega, hle, HZ.out.1⟩⟩, HZ.out.2.1.more (by omega), HZ.out.2.2⟩
        · have h1' : ¬ (1 : Int) < (i : Int) := by omega
          have hca := fun W (hW : But cb _ W) => own_calls (hW.owns HO.out hcl)
          have hle := own_le HO.out
          clear HO
          go_wp2
          go_ret
          exact ⟨⟨⟨_, _, i, cs, rfl, by omega, hle, hca⟩⟩, HCr.out.more (by omega), hbt⟩
  | true =>
    go_wp2_with fail
    refine (cur_pick B cb (N + 2 + 1) 2 _ HC3.out (by omega) (by omega)).mono ?_
    rintro e w4 ⟨⟨x4, hx4, rfl⟩, hc4, ho4⟩
    have HC4 := hide hc4
    have hbt4 := hbt3.trans ho4
    clear HC3 hc4 hbt3 ho4
    go_wp2
    go_loopw [3, 4, 5] (fun l nw c wr => ∃ (i cnt nv : Nat) (cs : Nat → Cl) (ao : Option Addr) (cp N' : Nat), i + cnt ≤ 121 ∧ N' + 2 * cnt ≤ N + 300 ∧ nv ≤ 10 + 8 * i ∧ c = .int .i64 (cnt : Int) ∧ nw = .int .i64 (nv : Int) ∧ l = .slice ao i cp ∧ Hid (wr.ownsRow w.heap.size 50 2 (.slice ao i cp) i (cellsC cs i)) ∧ Hid (∀ j, j < i → 0 ≤ (cs j).w ∧ (cs j).w ≤ 2000) ∧ Hid (CurAt wr B cb N') ∧ But cb w wr) (fun _ _ c _ => (intOf c).toNat)
    case atStart => exact ⟨0, 120 + x4, x0, fun _ => ⟨0, false⟩, none, 0, N + 4, by omega, by omega, by omega, by go_num, rfl, rfl, hide (World.ownsRow_nil _ _ _ _), hide (fun j hj => absurd hj (by omega)), HC4, hbt4⟩
    case round =>
      rename World => wo
      obtain ⟨i, cnt, nv, cs, ao, cp, N', hic, hNc, hnv, rfl, rfl, rfl, HO, HP, HCr, hbt⟩ := hrel
      by_cases hcn : 0 < cnt
      · obtain ⟨cn, rfl⟩ : ∃ cn, cnt = cn + 1 := ⟨cnt - 1, by omega⟩
        have hgt : ((cn + 1 : Nat) : Int) > 0 := by omega
        go_wp2_with fail
        refine (cur_one B cb N' 3 _ HCr.out (by omega) (by omega)).mono ?_
        rintro e w5 ⟨⟨b5, rfl⟩, hc5, ho5⟩
        have hbt5 := hbt.trans ho5
        have hsz5 := hbt5.size
        have hown := ho5.owns HO.out hcl
        have HC5 := hide hc5
        clear HO HCr hc5 ho5 hbt
        go_wp2_with (at_builtin; refine wpList_append_own _ rfl _ _ 58 rfl w.heap.size 50 i0 _ 2 16 Try.underlying58 hi hz0 hz1 hz2 rfl (by decide) _ i _ rfl (hown.alloc _) ⟨w5.heap.size, 0, none⟩ 1 1 [.int .i64 (nv : Int), .bool b5] rfl rfl ?c1 ?c2 ?c3 ?c4 ?c5 ?_)
        try (case c1 => exact news2 w5 _ _ _)
        case c2 => first | (intro u hu; simp at hu; rcases hu with rfl | rfl <;> rfl) | exact ⟨rfl, rfl⟩
        case c3 => unfold maxLen; omega
        case c4 => omega
        case c5 => first | omega | (simp; omega)
        intro v' w6 hown6 hgrow _
        have hbt6 : But cb w w6 := (hbt5.trans (But.of_below ((Below.refl _ _).alloc (Nat.le_refl _) _))).grown hgrow (fun k hk => (hown.lt k hk).1)
        have HC6 := hide ((HC5.out.below ((Below.refl _ _).alloc (Nat.le_refl _) _)).grown (hown.alloc _) hcl hgrow)
        obtain ⟨a6, c6, rfl⟩ := own_form hown6
        have HO6 := hide (show w6.ownsRow w.heap.size 50 2 (.slice a6 (i + 1) c6) (i + 1) (cellsC (upd cs i ⟨(nv : Int), b5⟩) (i + 1)) by rw [cellsC_snoc]; exact hown6)
        have HP6 := hide (show ∀ j, j < i + 1 → 0 ≤ (upd cs i ⟨(nv : Int), b5⟩ j).w ∧ (upd cs i ⟨(nv : Int), b5⟩ j).w ≤ 2000 from fun j hj => by
          by_cases he : j = i
          · subst he; rw [upd_same]; simp only; omega
          · rw [upd_other _ _ _ _ he]; exact HP.out j (by omega))
        clear hown6 hgrow hown HC5 HP hbt5
        go_wp2_with fail
        refine (cur_pick B cb (N' + 1) 8 _ HC6.out (by omega) (by omega)).mono ?_
        rintro e w7 ⟨⟨x7, hx7, rfl⟩, hc7, ho7⟩
        have HO7 := hide (ho7.owns HO6.out hcl)
        have hbt7 := hbt6.trans ho7
        have HC7 := hide hc7
        clear HO6 hbt6 hc7 ho7 HC6
        go_wp2
        exact ⟨⟨i + 1, cn, nv + x7, _, a6, c6, N' + 2, by omega, by omega, by omega, by go_num, by go_num, rfl, HO7, HP6, HC7, hbt7⟩, by simp [intOf]⟩
      · obtain rfl : cnt = 0 := by omega
        by_cases h1 : 1 < i
        · have h1' : (1 : Int) < (i : Int) := by omega
          go_wp2_with fail
          refine (cur_one B cb N' 30 _ HCr.out (by omega) (by omega)).mono ?_
          rintro e w5 ⟨⟨b5, rfl⟩, hc5, ho5⟩
          have hbt5 := hbt.trans ho5
          have hown := ho5.owns HO.out hcl
          have HC5 := hide hc5
          clear HO HCr hc5 ho5 hbt
          cases b5 with
          | false =>
            have hca := fun W (hW : But cb _ W) => own_calls (hW.owns hown hcl)
            have hle := own_le hown
            clear hown
            go_wp2
            go_ret
            exact ⟨⟨⟨_, _, i, cs, rfl, by omega, hle, hca⟩⟩, HC5.out.more (by omega), hbt5⟩
          | true =>
            have hle := own_le hown
            obtain ⟨gg, cp', m, ff, hform, hBg, hm, hblk, hff⟩ := own_blkC hown (by omega)
            cases hform
            have d0 := hblk.cell (show 0 < m by omega)
            have d2 := hblk.cell (show 2 < m by omega)
            rw [hff 0 (by omega), show cv cs 0 = .int .i64 (cs 0).w from cv_even cs 0] at d0
            rw [hff 2 (by omega), show cv cs 2 = .int .i64 (cs 1).w from cv_even cs 1] at d2
            have t0 := hblk.thaw 0
            obtain ⟨p0, p1⟩ := HP.out 1 h1
            have HZ := hide (show (∀ W, But cb (w5.setCell ⟨gg, 0, none⟩ (.int .i64 ((cs 1).w + 1))) W → CallsOf W (.slice (some ⟨gg, 0, none⟩) i cp) i (upd cs 0 ⟨(cs 1).w + 1, (cs 0).y⟩)) ∧ CurAt (w5.setCell ⟨gg, 0, none⟩ (.int .i64 ((cs 1).w + 1))) B cb (N' + 1) ∧ But cb w (w5.setCell ⟨gg, 0, none⟩ (.int .i64 ((cs 1).w + 1))) from by
              have hb2 := hblk.set 0 (.int .i64 ((cs 1).w + 1))
              have hbs := HC5.out.base
              refine ⟨fun W hW => ⟨_, _, rfl, fun _ => ⟨gg, 0, rfl, (hW.blk hb2 (by omega)).lt, fun j hj => ?_⟩⟩, HC5.out.set (by omega) (by omega) _ _, hbt5.set hBg _ _⟩
              rw [Nat.zero_add]
              have q0 := (hW.blk hb2 (by omega)).cell (show j * 2 < m by omega)
              have q1 := (hW.blk hb2 (by omega)).cell (show j * 2 + 1 < m by omega)
              rw [upd_other _ _ _ _ (show j * 2 + 1 ≠ 0 by omega), hff _ (by omega), cv_odd] at q1
              by_cases e : j = 0
              · subst e
                rw [upd_same] at q0 ⊢
                exact ⟨q0, q1⟩
              · rw [upd_other _ _ _ _ (show j * 2 ≠ 0 by omega), hff _ (by omega), cv_even] at q0
                rw [upd_other _ _ _ _ e]
                exact ⟨q0, q1⟩)
            clear hown hblk hff HC5 hbt5
            go_wp2
            go_ret
            exact ⟨⟨⟨_, _, i, _, rfl, by omega, hle, HZ.out.1⟩⟩, HZ.out.2.1.more (by omega), HZ.out.2.2⟩
        · have h1' : ¬ (1 : Int) < (i : Int) := by omega
          have hca := fun W (hW : But cb _ W) => own_calls (hW.owns HO.out hcl)
          have hle := own_le HO.out
          clear HO
          go_wp2
          go_ret
          exact ⟨⟨⟨_, _, i, cs, rfl, by omega, hle, hca⟩⟩, HCr.out.more (by omega), hbt⟩
end Go.Proofs.Ytegbfmdilmbpmaa
