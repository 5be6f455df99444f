/-
  The specification's reader of choices: a plan, read.
-/
import Derived.Test.YtkfnfgencaplfaaPlB
import Derived.Deep.CutRange
namespace Go.Proofs.Ytkfnfgencaplfaa
open Go.RowKit M
open Clk (upd upd_same upd_other)
set_option maxRecDepth 20000 in
set_option maxHeartbeats 4000000 in
theorem cur_plan (B cb N : Nat) (w : World) (h : CurAt w B cb N) (hN : N ≤ 700000) :
    Calls Try.prog 75 #[.pointer (some ⟨cb, 0, none⟩)] w fun e w' => (∃ r, e = .returned r ∧ ∃ R : List Rw, R.length ≤ 31 ∧ w'.ownsRow w.heap.size 56 2 r R.length (cellsR R) ∧ Bods w' w.heap.size R) ∧ CurAt w' B cb (N + 2000) ∧ But cb w w' := by
  obtain ⟨i0, hi, hz0, hz1, hz2⟩ := info_parts info_int
  obtain ⟨j0, hj, hy0, hy1, hy2⟩ := info_parts info_task
  have hcl := h.lt
  have HC := hide h
  clear h
  go_enter Try.func75, Try.ntmps75
  go_wp2_with fail
  refine (cur_pick B cb N 9 _ HC.out (by omega) (by omega)).mono ?_
  rintro e w1 ⟨⟨x, hx, rfl⟩, hc1, ho1⟩
  have HC1 := hide hc1
  clear hc1 HC
  go_wp2_with fail
  refine (cur_one B cb (N + 1) 20 _ HC1.out (by omega) (by omega)).mono ?_
  rintro e w2 ⟨⟨b, rfl⟩, hc2, ho⟩
  have HB2 := hide (ho1.trans ho)
  have HC2 := hide hc2
  clear hc2 HC1 ho ho1
  go_upto_if 11 with fail
  go_cut [4] from 12 (fun s wx => ∃ m : Nat, m ≤ 31 ∧ s = .int .i64 (m : Int) ∧ Hid (CurAt wx B cb (N + 3)) ∧ Hid (But cb w wx))
  case first =>
    cases b with
    | false =>
      go_wp2_with fail
      go_meet
      exact ⟨x, by omega, rfl, hide (HC2.out.more (by omega)), HB2⟩
    | true =>
      go_wp2_with fail
      refine (cur_pick B cb (N + 1 + 1) 2 _ HC2.out (by omega) (by omega)).mono ?_
      rintro e w3 ⟨⟨y, hy, rfl⟩, hc3, ho3⟩
      have HC3 := hide (hc3.more (show N + 1 + 1 + 1 ≤ N + 3 by omega))
      have HB3 := hide (HB2.out.trans ho3)
      clear hc3 ho3 HC2 HB2
      go_wp2_with fail
      go_meet
      exact ⟨30 + y, by omega, by go_num, HC3, HB3⟩
  case rest =>
  rename World => w3
  clear HC2 HB2 hx
  obtain ⟨m, hm, rfl, HC3, HB3⟩ := hcut
  go_wp2_with fail
  go_loopw [3, 5] (fun p q wr => ∃ (R : List Rw) (k : Nat) (ao : Option Addr) (c : Nat), Hid (k = R.length) ∧ k ≤ m ∧ p = .slice ao k c ∧ q = .int .i64 (k : Int) ∧ Hid (PD w wr B cb (N + 10 + 40 * k) (.slice ao k c) R)) (fun _ q _ => m - (intOf q).toNat)
  case atStart => exact ⟨[], 0, none, 0, hide rfl, Nat.zero_le _, rfl, rfl, hide ⟨World.ownsRow_nil _ _ _ _, fun r hr => absurd hr (by simp), HC3.out.more (by omega), HB3.out⟩⟩
  case round =>
    rename World => wr
    obtain ⟨R, k, ao, c, hk, hkm, rfl, rfl, HP⟩ := hrel
    by_cases hkl : k < m
    · go_wp2_with fail
      refine (cur_pick B cb _ 9 _ HP.out.c (by omega) (by omega)).mono ?_
      rintro e w4 ⟨⟨y, hy, rfl⟩, hc4, ho4⟩
      have hT := (HP.out.draw hcl hc4 ho4).task (1 + (y : Int))
      clear HP hc4 ho4
      go_upto_region 9 with fail
      obtain ⟨g, hg⟩ : ∃ g, w4.heap.size = g := ⟨_, rfl⟩
      obtain ⟨w5, hW⟩ : ∃ W, w4.alloc (.cells #[.int .i64 (1 + (y : Int)), .slice none 0 0] 56) = W := ⟨_, rfl⟩
      rw [hg] at hT ⊢
      rw [hW] at hT ⊢
      have HT := hide hT
      clear hT hg hW
      go_wp2_with fail
      go_loopw [7] (fun q wi => ∃ (i n : Nat) (au : Option Addr) (cu : Nat) (l : List Int), i ≤ k ∧ q = .int .i64 (i : Int) ∧ n ≤ 4 ∧ Hid (n = l.length) ∧ Hid (PT w wi B cb (N + 10 + 40 * k + 1 + i) g (.slice ao k c) R (1 + (y : Int)) (.slice au n cu) l)) (fun q _ => k - (intOf q).toNat)
      case atStart => exact ⟨0, 0, none, 0, [], Nat.zero_le _, rfl, Nat.zero_le _, hide rfl, HT⟩
      case round =>
        rename World => wi
        obtain ⟨i, n, au, cu, l, hik, rfl, hn4, hnl, HI⟩ := hrel
        by_cases hil : i < k
        · go_wp2_with fail
          refine (cur_one B cb _ 3 _ HI.out.p.c (by omega) (by omega)).mono ?_
          rintro e w6 ⟨⟨b3, rfl⟩, hc6, ho6⟩
          have HI6 := hide ((HI.out.draw hcl hc6 ho6).more (show N + 10 + 40 * k + 1 + i + 1 ≤ N + 10 + 40 * k + 1 + (i + 1) by omega))
          clear HI hc6 ho6
          obtain ⟨⟨m0, m1⟩, f0, f1⟩ := HI6.out.x.duo
          cases b3 with
          | false =>
            go_wp2
            go_roundw
            case rel => exact ⟨i + 1, n, au, cu, l, by omega, by go_num, hn4, hnl, HI6⟩
            case measure => simp [intOf]; omega
          | true =>
            by_cases hn : n < 4
            · have hown := HI6.out.u
              rw [← hnl.out] at hown
              go_wp2_with (at_builtin; refine wpList_append_own _ rfl _ _ 29 rfl (g + 1) 3 i0 _ 1 8 Try.underlying29 hi hz0 hz1 hz2 rfl (by decide) _ n _ rfl (hown.alloc _) ⟨w6.heap.size, 0, none⟩ 1 1 [.int .i64 (i : Int)] rfl rfl ?c1 ?c2 ?c3 ?c4 ?c5 ?_)
              try (case c1 => exact news1 w6 _ _)
              case c2 => first | rfl | (intro u hu; simp at hu; subst hu; rfl)
              case c3 => unfold maxLen; omega
              case c4 => omega
              case c5 => first | omega | (have := HI6.out.x.lt; simp; omega)
              intro v' w7 hown7 hgrow _
              have hal := (Below.refl w6.heap.size w6).alloc (Nat.le_refl _) (.cells #[.int .i64 (i : Int)] 3)
              have hT6 := HI6.out.down hal
              have hx7 := blk_gb hT6.x hgrow (own_ne_blk hT6.u hT6.x (by decide))
              obtain ⟨a7, c7, rfl⟩ := own_form hown7
              have e1 : (l ++ [(i : Int)]).length = n + 1 := by simp [hnl.out]
              have e2 : ivs (l ++ [(i : Int)]) = ivs l ++ [.int .i64 (i : Int)] := by unfold ivs; simp
              have HT7 := hide (hT6.add hgrow (u' := .slice a7 (n + 1) c7) (l' := l ++ [(i : Int)]) (by rw [e1, e2]; exact hown7))
              have HL7 := hide (show n + 1 = (l ++ [(i : Int)]).length from e1.symm)
              clear hown hT6 hown7 hgrow hal e1 e2 m0 m1 f0 f1 HI6
              obtain ⟨⟨m0, m1⟩, f0, f1⟩ := hx7.duo
              clear hx7
              go_wp2
              go_roundw
              case rel => exact ⟨i + 1, n + 1, a7, c7, l ++ [(i : Int)], by omega, by go_num, by omega, HL7, HT7⟩
              case measure => simp [intOf]; omega
            · have hn' : ¬ (n : Int) < 4 := by omega
              go_wp2
              go_roundw
              case rel => exact ⟨i + 1, n, au, cu, l, by omega, by go_num, hn4, hnl, HI6⟩
              case measure => simp [intOf]; omega
        · obtain rfl : i = k := by omega
          obtain ⟨⟨m0, m1⟩, f0, f1⟩ := HI.out.x.duo
          have hown := HI.out.p.o
          rw [← hk.out] at hown
          go_wp2_with (at_builtin; refine wpList_append_own _ rfl _ _ 25 rfl w.heap.size 56 j0 _ 2 32 Try.underlying25 hj hy0 hy1 hy2 rfl (by decide) _ i _ rfl (hown.alloc _) ⟨wi.heap.size, 0, none⟩ 1 1 [.int .i64 (1 + (y : Int)), .slice au n cu] rfl rfl ?c1 ?c2 ?c3 ?c4 ?c5 ?_)
          try (case c1 => exact news2 wi _ _ _)
          case c2 => first | (intro u hu; simp at hu; rcases hu with rfl | rfl <;> rfl) | exact ⟨rfl, rfl⟩
          case c3 => unfold maxLen; omega
          case c4 => omega
          case c5 => first | omega | (have := HI.out.p.b.size; simp; omega)
          intro v' w7 hown7 hgrow _
          have hal := (Below.refl wi.heap.size wi).alloc (Nat.le_refl _) (.cells #[.int .i64 (1 + (y : Int)), .slice au n cu] 56)
          obtain ⟨a7, c7, rfl⟩ := own_form hown7
          have HP7 := hide (((HI.out.down hal).push hcl (by rw [← hnl.out]; exact hn4) hgrow (v' := .slice a7 (i + 1) c7) (by rw [← hk.out]; exact hown7)).more (show _ ≤ N + 10 + 40 * (i + 1) by omega))
          have HK7 := hide (show i + 1 = (R ++ [(⟨1 + (y : Int), .slice au n cu, l⟩ : Rw)]).length from by simp [hk.out])
          clear hown hown7 hgrow hal m0 m1 f0 f1 HI
          go_wp2
          go_roundw
          case rel => exact ⟨_, i + 1, a7, c7, HK7, by omega, rfl, by go_num, HP7⟩
          case measure => simp [intOf]; omega
    · obtain rfl : k = m := by omega
      have HP2 := hide (HP.out.more (show _ ≤ N + 1260 by omega))
      clear HP hkm
      have HK := hide hk.out
      clear hk
      have HP := hide (HP2.out)
      clear HP2
      by_cases h2 : 1 < k
      · have g1 : (k : Int) > 1 := by omega
        go_wp2_with fail
        refine (cur_one B cb _ 12 _ HP.out.c (by omega) (by omega)).mono ?_
        rintro e w6 ⟨⟨b6, rfl⟩, hc6, ho6⟩
        have HP := hide (HP.out.draw hcl hc6 ho6)
        clear hc6 ho6
        cases b6 with
        | false =>
          have hkp : 0 < k := by omega
          have hlen : (k : Int) > 0 := by omega
          go_wp2_with fail
          refine (cur_one B cb _ 40 _ HP.out.c (by omega) (by omega)).mono ?_
          rintro e w8 ⟨⟨b8, rfl⟩, hc8, ho8⟩
          have HP := hide (HP.out.draw hcl hc8 ho8)
          clear hc8 ho8
          cases b8 with
          | false =>
            go_wp2
            go_ret
            exact ⟨⟨_, rfl, R, by rw [← HK.out]; omega, HP.out.o, HP.out.d⟩, HP.out.c.more (by omega), HP.out.b⟩
          | true =>
            obtain ⟨r0, R', hR⟩ : ∃ r0 R', R = r0 :: R' := by
              cases hRR : R with
              | nil => have := HK.out; rw [hRR] at this; simp at this; omega
              | cons a R => exact ⟨a, R, rfl⟩
            rw [hR] at HP HK
            clear hR
            obtain ⟨g0, cap, hgc⟩ : ∃ g cap, (Value.slice ao k c) = .slice (some ⟨g, 0, none⟩) k cap := by
              rcases HP.out.o.2 with ⟨h1, h0⟩ | ⟨g, cap, cur, hv, _⟩
              · simp at h0
              · have := HK.out; rw [← this] at hv; exact ⟨g, cap, hv⟩
            obtain ⟨rfl, rfl⟩ : ao = some ⟨g0, 0, none⟩ ∧ c = cap := by simpa using hgc
            clear hgc
            have hi1 : (0 : Int) < (k : Int) := by omega
            have hlw := HP.out.c.lt
            have hal := (Below.refl w8.heap.size w8).alloc (Nat.le_refl _) (.cells #[.int .i64 0, .int .i64 100, .int .i64 101] 3)
            have HA := hide (show Blk (w8.alloc (.cells #[.int .i64 0, .int .i64 100, .int .i64 101] 3)) w8.heap.size 3 (iv fun i => if i = 0 then 0 else if i = 1 then 100 else 101) 3 from Blk.fresh w8 _ 3 _ _ rfl)
            have HPA := hide (HP.out.down hal)
            clear HP hal
            go_wp2_with fail
            refine (cur_amongn B cb _ w8.heap.size 3 _ _ HPA.out.c (by omega) HA.out (by omega) (by omega) (by omega)).mono ?_
            rintro e w9 ⟨⟨z, hz, rfl⟩, hc9, ho9⟩
            have HP := hide (HPA.out.draw hcl hc9 ho9)
            clear HPA HA hc9 ho9 hlw
            generalize (if z = 0 then (0 : Int) else if z = 1 then 100 else 101) = zz
            have hown := HP.out.o
            rw [← HK.out] at hown
            have t0 := hown.frozenAt 0
            have k0 := hown.cellAt 0 (by omega)
            have k1 := hown.cellAt 1 (by omega)
            simp only [cellsR, List.getElem?_cons_zero, List.getElem?_cons_succ] at k0 k1
            have hst := hown.stored 0 (.int .i64 zz)
            have HE := hide (HP.out.long hcl (z := zz) (by rw [show R'.length + 1 = k from by have := HK.out; simpa using this.symm]; exact hst.1) hst.2)
            clear hst hown HP
            go_wp2
            go_ret
            exact ⟨⟨_, rfl, _ :: R', by have := HK.out; simp at this ⊢; omega, HE.out.o, HE.out.d⟩, HE.out.c.more (by omega), HE.out.b⟩
        | true =>
          obtain ⟨r0, R', hR⟩ : ∃ r0 R', R = r0 :: R' := by
            cases hRR : R with
            | nil => have := HK.out; rw [hRR] at this; simp at this; omega
            | cons a R => exact ⟨a, R, rfl⟩
          rw [hR] at HP HK
          clear hR
          obtain ⟨g0, cap, hgc⟩ : ∃ g cap, (Value.slice ao k c) = .slice (some ⟨g, 0, none⟩) k cap := by
            rcases HP.out.o.2 with ⟨h1, h0⟩ | ⟨g, cap, cur, hv, _⟩
            · simp at h0
            · have := HK.out; rw [← this] at hv; exact ⟨g, cap, hv⟩
          obtain ⟨rfl, rfl⟩ : ao = some ⟨g0, 0, none⟩ ∧ c = cap := by simpa using hgc
          clear hgc
          have hi1 : (0 : Int) < (k : Int) := by omega
          have hal := (Below.refl w6.heap.size w6).alloc (Nat.le_refl _) (.cells #[.int .i64 ((k : Int) - 1)] 3)
          have HPA := hide (HP.out.down hal)
          have HU := hide (own_one w6 ((k : Int) - 1) w.heap.size HP.out.b.size)
          have hown := HPA.out.o
          rw [← HK.out] at hown
          have t1 := hown.frozenAt 1
          have k0 := hown.cellAt 0 (by omega)
          have k1 := hown.cellAt 1 (by omega)
          simp only [cellsR, List.getElem?_cons_zero, List.getElem?_cons_succ] at k0 k1
          have hst := hown.stored 1 (.slice (some ⟨w6.heap.size, 0, none⟩) 1 1)
          have HE := hide (HPA.out.need hcl (l := [(k : Int) - 1]) (by simp) HU.out (by rw [show R'.length + 1 = k from by have := HK.out; simpa using this.symm]; exact hst.1) hst.2)
          clear hst hown HP HPA HU hal
          have HK2 := hide (show k = ((⟨r0.hd, .slice (some ⟨w6.heap.size, 0, none⟩) 1 1, [(k : Int) - 1]⟩ : Rw) :: R').length from by have := HK.out; simpa using this)
          obtain ⟨R2, hR2⟩ : ∃ R2, (⟨r0.hd, .slice (some ⟨w6.heap.size, 0, none⟩) 1 1, [(k : Int) - 1]⟩ : Rw) :: R' = R2 := ⟨_, rfl⟩
          rw [hR2] at HE HK2
          clear HK hR2
          go_upto_region 17 with fail
          obtain ⟨W8, hW8⟩ : ∃ W, (w6.alloc (.cells #[.int .i64 ((k : Int) - 1)] 3)).setCell ⟨g0, 1, none⟩ (.slice (some ⟨w6.heap.size, 0, none⟩) 1 1) = W := ⟨_, rfl⟩
          have HP := hide (hW8 ▸ HE.out)
          have HK := hide HK2.out
          rw [hW8]
          clear HE HK2 t1 k0 k1 hW8
          have hkp : 0 < k := by omega
          have hlen : (k : Int) > 0 := by omega
          go_wp2_with fail
          refine (cur_one B cb _ 40 _ HP.out.c (by omega) (by omega)).mono ?_
          rintro e w8 ⟨⟨b8, rfl⟩, hc8, ho8⟩
          have HP := hide (HP.out.draw hcl hc8 ho8)
          clear hc8 ho8
          cases b8 with
          | false =>
            go_wp2
            go_ret
            exact ⟨⟨_, rfl, R2, by rw [← HK.out]; omega, HP.out.o, HP.out.d⟩, HP.out.c.more (by omega), HP.out.b⟩
          | true =>
            obtain ⟨r0, R', hR⟩ : ∃ r0 R', R2 = r0 :: R' := by
              cases hRR : R2 with
              | nil => have := HK.out; rw [hRR] at this; simp at this; omega
              | cons a R => exact ⟨a, R, rfl⟩
            rw [hR] at HP HK
            clear hR
            have hi1 : (0 : Int) < (k : Int) := by omega
            have hlw := HP.out.c.lt
            have hal := (Below.refl w8.heap.size w8).alloc (Nat.le_refl _) (.cells #[.int .i64 0, .int .i64 100, .int .i64 101] 3)
            have HA := hide (show Blk (w8.alloc (.cells #[.int .i64 0, .int .i64 100, .int .i64 101] 3)) w8.heap.size 3 (iv fun i => if i = 0 then 0 else if i = 1 then 100 else 101) 3 from Blk.fresh w8 _ 3 _ _ rfl)
            have HPA := hide (HP.out.down hal)
            clear HP hal
            go_wp2_with fail
            refine (cur_amongn B cb _ w8.heap.size 3 _ _ HPA.out.c (by omega) HA.out (by omega) (by omega) (by omega)).mono ?_
            rintro e w9 ⟨⟨z, hz, rfl⟩, hc9, ho9⟩
            have HP := hide (HPA.out.draw hcl hc9 ho9)
            clear HPA HA hc9 ho9 hlw
            generalize (if z = 0 then (0 : Int) else if z = 1 then 100 else 101) = zz
            have hown := HP.out.o
            rw [← HK.out] at hown
            have t0 := hown.frozenAt 0
            have k0 := hown.cellAt 0 (by omega)
            have k1 := hown.cellAt 1 (by omega)
            simp only [cellsR, List.getElem?_cons_zero, List.getElem?_cons_succ] at k0 k1
            have hst := hown.stored 0 (.int .i64 zz)
            have HE := hide (HP.out.long hcl (z := zz) (by rw [show R'.length + 1 = k from by have := HK.out; simpa using this.symm]; exact hst.1) hst.2)
            clear hst hown HP
            go_wp2
            go_ret
            exact ⟨⟨_, rfl, _ :: R', by have := HK.out; simp at this ⊢; omega, HE.out.o, HE.out.d⟩, HE.out.c.more (by omega), HE.out.b⟩
      · have g1 : ¬ (k : Int) > 1 := by omega
        clear h2
        go_upto_region 17 with fail
        rcases Nat.eq_zero_or_pos k with hk0 | hkp
        · have hn0 : ¬ (k : Int) > 0 := by omega
          clear hk0
          go_wp2
          go_ret
          exact ⟨⟨_, rfl, R, by rw [← HK.out]; omega, HP.out.o, HP.out.d⟩, HP.out.c.more (by omega), HP.out.b⟩
        · have hlen : (k : Int) > 0 := by omega
          go_wp2_with fail
          refine (cur_one B cb _ 40 _ HP.out.c (by omega) (by omega)).mono ?_
          rintro e w8 ⟨⟨b8, rfl⟩, hc8, ho8⟩
          have HP := hide (HP.out.draw hcl hc8 ho8)
          clear hc8 ho8
          cases b8 with
          | false =>
            go_wp2
            go_ret
            exact ⟨⟨_, rfl, R, by rw [← HK.out]; omega, HP.out.o, HP.out.d⟩, HP.out.c.more (by omega), HP.out.b⟩
          | true =>
            obtain ⟨r0, R', hR⟩ : ∃ r0 R', R = r0 :: R' := by
              cases hRR : R with
              | nil => have := HK.out; rw [hRR] at this; simp at this; omega
              | cons a R => exact ⟨a, R, rfl⟩
            rw [hR] at HP HK
            clear hR
            obtain ⟨g0, cap, hgc⟩ : ∃ g cap, (Value.slice ao k c) = .slice (some ⟨g, 0, none⟩) k cap := by
              rcases HP.out.o.2 with ⟨h1, h0⟩ | ⟨g, cap, cur, hv, _⟩
              · simp at h0
              · have := HK.out; rw [← this] at hv; exact ⟨g, cap, hv⟩
            obtain ⟨rfl, rfl⟩ : ao = some ⟨g0, 0, none⟩ ∧ c = cap := by simpa using hgc
            clear hgc
            have hi1 : (0 : Int) < (k : Int) := by omega
            have hlw := HP.out.c.lt
            have hal := (Below.refl w8.heap.size w8).alloc (Nat.le_refl _) (.cells #[.int .i64 0, .int .i64 100, .int .i64 101] 3)
            have HA := hide (show Blk (w8.alloc (.cells #[.int .i64 0, .int .i64 100, .int .i64 101] 3)) w8.heap.size 3 (iv fun i => if i = 0 then 0 else if i = 1 then 100 else 101) 3 from Blk.fresh w8 _ 3 _ _ rfl)
            have HPA := hide (HP.out.down hal)
            clear HP hal
            go_wp2_with fail
            refine (cur_amongn B cb _ w8.heap.size 3 _ _ HPA.out.c (by omega) HA.out (by omega) (by omega) (by omega)).mono ?_
            rintro e w9 ⟨⟨z, hz, rfl⟩, hc9, ho9⟩
            have HP := hide (HPA.out.draw hcl hc9 ho9)
            clear HPA HA hc9 ho9 hlw
            generalize (if z = 0 then (0 : Int) else if z = 1 then 100 else 101) = zz
            have hown := HP.out.o
            rw [← HK.out] at hown
            have t0 := hown.frozenAt 0
            have k0 := hown.cellAt 0 (by omega)
            have k1 := hown.cellAt 1 (by omega)
            simp only [cellsR, List.getElem?_cons_zero, List.getElem?_cons_succ] at k0 k1
            have hst := hown.stored 0 (.int .i64 zz)
            have HE := hide (HP.out.long hcl (z := zz) (by rw [show R'.length + 1 = k from by have := HK.out; simpa using this.symm]; exact hst.1) hst.2)
            clear hst hown HP
            go_wp2
            go_ret
            exact ⟨⟨_, rfl, _ :: R', by have := HK.out; simp at this ⊢; omega, HE.out.o, HE.out.d⟩, HE.out.c.more (by omega), HE.out.b⟩
end Go.Proofs.Ytkfnfgencaplfaa
