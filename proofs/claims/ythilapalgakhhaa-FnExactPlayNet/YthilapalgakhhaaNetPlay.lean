/-
  The program's PlayNet.
-/
import Derived.Test.YthilapalgakhhaaNetPlayS
import Derived.Test.YthilapalgakhhaaNetCan
import Derived.Test.YthilapalgakhhaaAns
namespace Go.Proofs.Ythilapalgakhhaa
open Go.RowKit M
open Clk (upd upd_same upd_other)
attribute [local go_sem ↓] Go.wp_at_zero Go.wp_at_succ
namespace M
theorem alloc_thaw {w : World} {a : Addr} (o : Obj) (h : w.frozen? a = false) (hl : a.block < w.heap.size) : (w.alloc o).frozen? a = false := (((Below.refl w.heap.size w).alloc (Nat.le_refl _) o).frozen hl).trans h
end M
set_option maxHeartbeats 1000000 in
theorem impl_play_no (p : Int) (v : Value) (k : Nat) (st : Nat → Sp) (u : Value) (n : Nat) (f : Nat → Int) (t : Value) (m : Nat) (l : Nat → Int) (w : World) (hv : StepsOf w v k st) (hu : IntsOf w u n f) (ht : IntsOf w t m l) (hs : Short k st) (hn : n ≤ 1048576) (hm : m ≤ 1048576) (h : ¬ POk p k st n f m l) :
    Calls Try.prog 28 #[netV p v, u, t] w fun e w' => e = .returned (.tuple #[.slice none 0 0, .int .i64 0, .bool false]) ∧ Below w.heap.size w w' := by
  have HV := hide hv
  have HU := hide hu
  have HT := hide ht
  have HS := hide hs
  obtain ⟨a, cap, rfl⟩ := hv.form
  obtain ⟨a2, cap2, rfl⟩ := hu.form
  obtain ⟨a3, cap3, rfl⟩ := ht.form
  have hk := hs.1
  have hbA := (Below.refl w.heap.size w).alloc (Nat.le_refl _) (.cells #[.int .i64 p, .slice a k cap] 29)
  have hN := Blk.fresh w _ 2 (p2 (.int .i64 p) (.slice a k cap)) 29 rfl
  clear hv hu hs ht
  by_cases hok : NOk p k st n f
  · have HN := hide hok
    by_cases hmk : m ≤ 200
    · have HC := hide (show decide (All m l 0 ((k : Int) - 1)) = false by rw [decide_eq_false_iff_not]; exact fun hc => h ⟨⟨hok, hmk⟩, hc⟩)
      have hne : ¬ ((m : Int) > 200) := by omega
      clear h hok hmk
      go_enter Try.func28, Try.ntmps28
      go_wp2_with fail
      refine (marking_in p _ k st _ n f _ (HV.out.below hbA) (HU.out.below hbA) HS.out HN.out).mono ?_
      rintro e w1 ⟨rfl, hb⟩
      have hb1 := hbA.trans (hb.mono hbA.size)
      obtain ⟨d0, d1, -, -⟩ := (hN.down hb).pair
      have hs1 := (hN.down hb).lt
      have hb2 := hb1.alloc hb1.size (.cells (cf 8 (iv (pad n f))) 68)
      clear hbA hN hb HV HU HS HN
      go_wp2_with fail
      refine (all_within _ m l _ _ _ _ (HT.out.below hb2) hm HC.out).mono ?_
      rintro e w3 ⟨rfl, rfl⟩
      clear d0 d1 hb1 HC HT
      go_wp2
      go_ret3
      exact ⟨rfl, hb2⟩
    · have hne : ((m : Int) > 200) := by omega
      clear h hok hmk
      go_enter Try.func28, Try.ntmps28
      go_wp2_with fail
      refine (marking_in p _ k st _ n f _ (HV.out.below hbA) (HU.out.below hbA) HS.out HN.out).mono ?_
      rintro e w1 ⟨rfl, hb⟩
      have hb1 := hbA.trans (hb.mono hbA.size)
      have hb2 := hb1.alloc hb1.size (.cells (cf 8 (iv (pad n f))) 68)
      clear hbA hN hb HV HU HS HN HT hb1
      go_wp2
      go_ret3
      exact ⟨rfl, hb2⟩
  · have HN := hide hok
    clear h hok
    go_enter Try.func28, Try.ntmps28
    go_wp2_with fail
    refine (marking_no p _ k st _ n f _ (HV.out.below hbA) (HU.out.below hbA) HS.out hn HN.out).mono ?_
    rintro e w1 ⟨rfl, hb⟩
    have hb1 := hbA.trans (hb.mono hbA.size)
    clear hbA hN hb HV HU HS HN HT
    go_wp2
    go_ret3
    exact ⟨rfl, hb1.alloc hb1.size _⟩
set_option maxRecDepth 20000 in
set_option maxHeartbeats 8000000 in
theorem impl_play (v : Value) (k : Nat) (st : Nat → Sp) (u : Value) (n : Nat) (f : Nat → Int) (t : Value) (m : Nat) (l : Nat → Int) (w : World) (hv : StepsOf w v k st) (hu : IntsOf w u n f) (ht : IntsOf w t m l) (hs : Short k st) (h : POk (n : Int) k st n f m l) :
    Calls Try.prog 28 #[netV (n : Int) v, u, t] w fun e w' => (∃ R, e = .returned (.tuple #[R, .int .i64 (((play st l (pad n f) m).2 : Nat) : Int), .bool true]) ∧ AnsI w' w.heap.size R n (play st l (pad n f) m).1) ∧ Below w.heap.size w w' := by
  obtain ⟨⟨hok, hm200⟩, hls⟩ := h
  have HV := hide hv
  have HU := hide hu
  have HTt := hide ht
  have HS := hide hs
  have HN := hide hok
  have hk := hs.1
  have hn8 : n ≤ 8 := by have := hok.1.1.2; omega
  have HGk := hide hok.1.2.2
  have HMk := hide hok.mk
  have HC := hide (show decide (All m l 0 ((k : Int) - 1)) = true by rw [decide_eq_true_eq]; exact hls)
  have HLs := hide hls
  have hle : ¬ ((m : Int) > 200) := by omega
  obtain ⟨a, cap, rfl, hrow⟩ := hv
  obtain ⟨a2, cap2, rfl⟩ := hu.form
  obtain ⟨a3, cap3, rfl, hrt⟩ := ht
  have HR := hide hrow
  have HRT := hide hrt
  have hbA := (Below.refl w.heap.size w).alloc (Nat.le_refl _) (.cells #[.int .i64 (n : Int), .slice a k cap] 29)
  have hNb := Blk.fresh w _ 2 (p2 (.int .i64 (n : Int)) (.slice a k cap)) 29 rfl
  clear hs hok hls hrow hrt hu
  go_enter Try.func28, Try.ntmps28
  go_wp2_with fail
  refine (marking_in _ _ k st _ n f _ (HV.out.below hbA) (HU.out.below hbA) HS.out HN.out).mono ?_
  rintro e w1 ⟨rfl, hb⟩
  have hb1 := hbA.trans (hb.mono hbA.size)
  have hN1 := hNb.down hb
  have hbB := (Below.refl w1.heap.size w1).alloc (Nat.le_refl _) (.cells (cf 8 (iv (pad n f))) 68)
  have hc2 := Blk.new w1 8 (iv (pad n f)) 68
  have hN2 := hN1.down hbB
  have hb2 := hb1.trans (hbB.mono hb1.size)
  obtain ⟨d0, d1, -, -⟩ := hN1.pair
  have hs1 := hN1.lt
  have H2 := hide (show ∀ W, W = w1.alloc (.cells #[.int .i64 (pad n f 0), .int .i64 (pad n f 1), .int .i64 (pad n f 2), .int .i64 (pad n f 3), .int .i64 (pad n f 4), .int .i64 (pad n f 5), .int .i64 (pad n f 6), .int .i64 (pad n f 7)] 68) → Blk W w1.heap.size 8 (iv (pad n f)) 68 ∧ Blk W w.heap.size 2 (p2 (.int .i64 (n : Int)) (.slice a k cap)) 29 ∧ Below w.heap.size w W from fun W hW => by subst hW; exact ⟨hc2, hN2, hb2⟩)
  clear hbA hNb hb hbB hc2 hN1 hN2 HV HU HS HN
  go_wp2_with fail
  generalize hW : w1.alloc _ = W
  obtain ⟨hc, hN, hbW⟩ := H2.out W hW.symm
  clear H2 hb2
  refine (all_within _ m l _ _ _ _ (HTt.out.below hbW) (by omega) HC.out).mono ?_
  rintro e w2 ⟨rfl, rfl⟩
  have HB := hide (And.intro hc (And.intro hN hbW))
  clear HC HTt hW hc hN hbW d0 d1 hb1
  go_wp2
  go_loopw [11, 40] (fun xm y wr => ∃ j : Nat, j ≤ m ∧ y = .int .i64 j ∧ xm = .int .i64 (((play st l (pad n f) j).2 : Nat) : Int) ∧ Hid (Blk wr w1.heap.size 8 (iv (play st l (pad n f) j).1) 68 ∧ Blk wr w.heap.size 2 (p2 (.int .i64 (n : Int)) (.slice a k cap)) 29 ∧ Below w.heap.size w wr)) (fun _ y _ => m - (intOf y).toNat)
  case atStart => exact ⟨0, Nat.zero_le _, rfl, rfl, HB⟩
  case round =>
    rename World => w3
    obtain ⟨j, hjm, rfl, rfl, HBo⟩ := hrel
    obtain ⟨hc3, hN3, hb3⟩ := HBo.out
    have hP := play_ok HGk.out HMk.out HLs.out j hjm
    have hP2 : (play st l (pad n f) j).2 ≤ 200 := by omega
    by_cases hlt : j < m
    · obtain ⟨b4, o4, rfl, hb4, hrow4⟩ := HRT.out (by omega)
      have hT := (hb3.cell (p := ⟨b4, o4 + j, none⟩) hb4).trans (hrow4 j hlt)
      have hlj := HLs.out j hlt
      obtain ⟨i, hli⟩ := Int.eq_ofNat_of_zero_le hlj.1
      have hik : i < k := by omega
      have hlt2 : (l j).toNat = i := by omega
      obtain ⟨bb, off, rfl, hbb, hrow⟩ := HR.out (by omega)
      obtain ⟨x, y, q1, q2, i1, i2⟩ := hrow i hik
      obtain ⟨ax, cx, rfl⟩ := i1.form
      obtain ⟨ay, cy, rfl⟩ := i2.form
      have l0 := hN3.pair.2.1
      have l1 := (hb3.cell (p := ⟨bb, off + i * 2, none⟩) hbb).trans q1
      have l2 := (hb3.cell (p := ⟨bb, off + i * 2 + 1, none⟩) hbb).trans q2
      have J1 := hide (i1.below hb3)
      have J2 := hide (i2.below hb3)
      have HGS := hide (HGk.out i hik)
      have HPm := hide hP.1
      have hi0 : (0 : Int) ≤ (i : Int) := by omega
      have hi1 : (i : Int) < (k : Int) := by omega
      rw [hli] at hT
      have HPn := hide (show fire (st i) (play st l (pad n f) j).1 = none → play st l (pad n f) (j + 1) = play st l (pad n f) j from fun h => play_none (by rw [hlt2]; exact h))
      have HPs := hide (show ∀ c, fire (st i) (play st l (pad n f) j).1 = some c → play st l (pad n f) (j + 1) = (c, (play st l (pad n f) j).2 + 1) from fun c h => play_some (by rw [hlt2]; exact h))
      clear hrow hrow4 q1 q2 i1 i2 HR HRT HGk HMk HLs hP HBo HB hli hlt2 hlj
      generalize play st l (pad n f) j = pj at *
      obtain ⟨M0, cnt0⟩ := pj
      simp only at hP2 HPm hc3 HPn HPs
      obtain ⟨l3, l4, l5, l6, l7, l8, l9, l10⟩ := hc3.eight
      have hlt3 := hc3.lt
      have hne3 := World.new_ne w3 _ l3
      have hne0 := World.new_ne w3 _ l0
      have hne1 := World.new_ne w3 _ l1
      have hne3' := hne3.symm
      have hne0' := hne0.symm
      have hne1' := hne1.symm
      simp only at hne0 hne1 hne3 hne0' hne1' hne3'
      have al0 := fun o : Obj => alloc_cell o l0
      have al1 := fun o : Obj => alloc_cell o l1
      have al2 := fun o : Obj => alloc_cell o l2
      have al3 := fun o : Obj => alloc_cell o l3
      have al4 := fun o : Obj => alloc_cell o l4
      have al5 := fun o : Obj => alloc_cell o l5
      have al6 := fun o : Obj => alloc_cell o l6
      have al7 := fun o : Obj => alloc_cell o l7
      have al8 := fun o : Obj => alloc_cell o l8
      have al9 := fun o : Obj => alloc_cell o l9
      have al10 := fun o : Obj => alloc_cell o l10
      have HKp := hide (And.intro hc3 hN3)
      clear hc3 hN3
      cases hr : fire (st i) M0 with
      | none =>
        have HPL := hide (HPn.out hr)
        have HF := hide (show ∀ wx : World, Below w3.heap.size w3 wx → Calls Try.prog 55 #[mkV M0, .agg #[.slice ax (st i).ni cx, .slice ay (st i).no cy]] wx fun e w' => e = .returned (.tuple #[mkV z8, .bool false]) ∧ Below wx.heap.size wx w' from fun wx hbx =>
          fire_is M0 _ _ (st i) n none wx (J1.out.below hbx) (J2.out.below hbx) HGS.out hn8 HPm.out hr)
        clear HPn HPs hr J1 J2 HGS HPm
        go_wp2_with fail
        go_region_with (first | (go_at_call 55; refine (HF.out _ (by first | with_reducible exact (Below.refl _ _).drew | with_reducible exact ((Below.refl _ _).alloc (Nat.le_refl _) _).drew)).mono ?_; rintro e w4 ⟨rfl, hb4⟩; first | (have hbx : Below w3.heap.size w3 w4 := (by with_reducible exact drew_below hb4)) | (have hbx : Below w3.heap.size w3 w4 := (by with_reducible exact allocd_below hb4); obtain ⟨⟨z0, z1, z2, z3, z4, z5, z6, z7⟩, t0, t1, t2, t3, t4, t5, t6, t7⟩ := allocd_zero hb4)))
        all_goals
          have hbz := hb3.trans (hbx.mono hb3.size)
          have hK4 := hide (And.intro (HKp.out.1.down hbx) (HKp.out.2.down hbx))
          have hs3 := hb3.size
          clear al0 al1 al2 al3 al4 al5 al6 al7 al8 al9 al10 l0 l1 l2 l3 l4 l5 l6 l7 l8 l9 l10 HF
          go_wp2
          refine ⟨⟨j + 1, by omega, by go_num, by rw [HPL.out], hide ?_⟩, by simp [intOf]; omega⟩
          rw [HPL.out]
          first | with_reducible exact ⟨hK4.out.1.alloc _, hK4.out.2.alloc _, hbz.alloc hbz.size _⟩ | exact ⟨hK4.out.1.s8_other (by omega) z8, hK4.out.2.s8_other (by omega) z8, below_s8 hbz hb3.size z8⟩
      | some c =>
        have HPL := hide (HPs.out c hr)
        have HF := hide (show ∀ wx : World, Below w3.heap.size w3 wx → Calls Try.prog 55 #[mkV M0, .agg #[.slice ax (st i).ni cx, .slice ay (st i).no cy]] wx fun e w' => e = .returned (.tuple #[mkV c, .bool true]) ∧ Below wx.heap.size wx w' from fun wx hbx =>
          fire_is M0 _ _ (st i) n (some c) wx (J1.out.below hbx) (J2.out.below hbx) HGS.out hn8 HPm.out hr)
        clear HPn HPs hr J1 J2 HGS HPm
        go_wp2_with fail
        go_region_with (first | (go_at_call 55; refine (HF.out _ (by first | with_reducible exact (Below.refl _ _).drew | with_reducible exact ((Below.refl _ _).alloc (Nat.le_refl _) _).drew)).mono ?_; rintro e w4 ⟨rfl, hb4⟩; first | (have hbx : Below w3.heap.size w3 w4 := (by with_reducible exact drew_below hb4)) | (have hbx : Below w3.heap.size w3 w4 := (by with_reducible exact allocd_below hb4); obtain ⟨⟨z0, z1, z2, z3, z4, z5, z6, z7⟩, t0, t1, t2, t3, t4, t5, t6, t7⟩ := allocd_zero hb4)))
        all_goals
          have hbz := hb3.trans (hbx.mono hb3.size)
          have hK4 := hide (And.intro (HKp.out.1.down hbx) (HKp.out.2.down hbx))
          have hs3 := hb3.size
          have hs4 := hbx.size
          obtain ⟨k0, k1, k2, k3, k4, k5, k6, k7⟩ := hK4.out.1.eight
          obtain ⟨y0, y1, y2, y3, y4, y5, y6, y7⟩ := hK4.out.1.thaw8
          have hcl4 := hK4.out.1.lt
          have ak0 := fun o : Obj => alloc_cell o k0
          have ak1 := fun o : Obj => alloc_cell o k1
          have ak2 := fun o : Obj => alloc_cell o k2
          have ak3 := fun o : Obj => alloc_cell o k3
          have ak4 := fun o : Obj => alloc_cell o k4
          have ak5 := fun o : Obj => alloc_cell o k5
          have ak6 := fun o : Obj => alloc_cell o k6
          have ak7 := fun o : Obj => alloc_cell o k7
          have ay0 := fun o : Obj => alloc_thaw o y0 hcl4
          have ay1 := fun o : Obj => alloc_thaw o y1 hcl4
          have ay2 := fun o : Obj => alloc_thaw o y2 hcl4
          have ay3 := fun o : Obj => alloc_thaw o y3 hcl4
          have ay4 := fun o : Obj => alloc_thaw o y4 hcl4
          have ay5 := fun o : Obj => alloc_thaw o y5 hcl4
          have ay6 := fun o : Obj => alloc_thaw o y6 hcl4
          have ay7 := fun o : Obj => alloc_thaw o y7 hcl4
          have nq1 : w4.heap.size ≠ w1.heap.size := by omega
          have nq2 : w1.heap.size ≠ w4.heap.size := by omega
          clear al0 al1 al2 al3 al4 al5 al6 al7 al8 al9 al10 l0 l1 l2 l3 l4 l5 l6 l7 l8 l9 l10 HF
          go_wp2
          refine ⟨⟨j + 1, by omega, by go_num, by rw [HPL.out]; go_num, hide ?_⟩, by simp [intOf]; omega⟩
          rw [HPL.out]
          first | (clear z0; exact ⟨(hK4.out.1.s8_other (by omega) c).s8_own c, (hK4.out.2.s8_other (by omega) c).s8_other (by omega) c, below_s8 (below_s8 hbz hb3.size c) (by omega) c⟩) | exact ⟨(hK4.out.1.s8_own c).alloc _, (hK4.out.2.s8_other (by omega) c).alloc _, (below_s8 hbz (by omega) c).alloc (below_s8 hbz (by omega) c).size _⟩
    · obtain rfl : j = m := by omega
      obtain ⟨e0, e1, -, -⟩ := hN3.pair
      obtain ⟨r0, r1, r2, r3, r4, r5, r6, r7⟩ := hc3.eight
      have hsz := hb3.size
      clear hc3 hN3 HBo HB HR HRT HGk HMk HLs hP
      go_wp2_with fail
      refine (list_mark _ n _ hn8).mono ?_
      rintro e w5 ⟨⟨rfl, hB⟩, hb⟩
      have hb5 := hb3.trans (hb.mono hb3.size)
      have HBl := hide hB
      clear hb hB r0 r1 r2 r3 r4 r5 r6 r7 e0 e1
      go_wp2
      go_ret3
      exact ⟨⟨_, rfl, .inr ⟨_, n, rfl, by omega, HBl.out⟩⟩, hb5⟩
end Go.Proofs.Ythilapalgakhhaa
