/-
  A breaker that is open lets nothing through till it has cooled, and none opens but behind as many faults in a row as its limit, or one when it was half open: FnBreaker, walked.
-/
import Derived.Test.YtegbfmdilmbpmaaRtCd
import Derived.Test.YtegbfmdilmbpmaaRtE
import Derived.Deep.CutRange
namespace Go.Proofs.Ytegbfmdilmbpmaa
open Go.RowKit M
set_option maxRecDepth 20000 in
set_option maxHeartbeats 4000000 in
theorem law_fnBreaker (v0 : Value) (n0 : Nat) (f0 : Nat → Nat) (v1 : Value) (n1 : Nat) (f1 : Nat → Nat) (w : World) (hv0 : OctetsOf w v0 n0 f0) (_hz0 : n0 < 2 ^ 47) (hv1 : OctetsOf w v1 n1 f1) (_hz1 : n1 < 2 ^ 47) :
    Calls Try.prog 12 #[v0, v1] w fun e w' => e = .returned (.bool true) ∧ Below w.heap.size w w' := by
  obtain ⟨a0, cap0, rfl⟩ := hv0.form
  obtain ⟨a1, cap1, rfl⟩ := hv1.form
  have HV0 := hide hv0
  have HV1 := hide hv1
  clear hv0 hv1
  by_cases hn : 1048576 < n0 + n1
  · have hn' : (1048576 : Int) < (n0 : Int) + (n1 : Int) := by omega
    go_enter Try.func12, Try.ntmps12
    go_wp2
    go_ret
    exact ⟨rfl, Below.refl _ _⟩
  have hn' : ¬ (1048576 : Int) < (n0 : Int) + (n1 : Int) := by omega
  go_enter Try.func12, Try.ntmps12
  go_wp2_with fail
  refine (draw_play _ n0 f0 _ HV0.out (by omega)).mono ?_
  rintro e w1 ⟨⟨x0, c, a, cap, n, cs, rfl, hm, hcs⟩, hb1⟩
  obtain ⟨L, hL⟩ : ∃ L : Int, 1 + (x0 : Int) = L := ⟨_, rfl⟩
  rw [hL]
  obtain ⟨r, q, h, ok, hq, hok, hS, hI⟩ := both_play L (c : Int) n cs (by omega)
  have HCS := hide hcs
  have HS := hide hS
  have HI := hide hI
  have HOK := hide hok
  have HB1 := hide hb1
  have hoo : (ok != ok) = false := by simp
  have HNB := hide (fun W => eq_br .neq false (.inl ⟨rfl, rfl⟩) r W)
  have hG := fun a b W => guard_br .neq a b #[.int .i64 r.l, .int .i64 r.c, .int .i64 r.s, .int .i64 r.k, .int .i64 r.o] #[.int .i64 r.l, .int .i64 r.c, .int .i64 r.s, .int .i64 r.k, .int .i64 r.o] W
  clear hcs hS hI hok hb1 HV0 hL
  go_wp2_with fail
  refine (HI.out _ _ HCS.out).mono ?_
  rintro e w2 ⟨⟨R0, rfl, hR⟩, hb⟩
  obtain ⟨aR, cR, rfl⟩ := hR.form
  have hd := (Below.refl w2.heap.size w2).alloc (Nat.le_refl _) (.cells #[.int .i64 r.l, .int .i64 r.c, .int .i64 r.s, .int .i64 r.k, .int .i64 r.o] 37)
  have hR2 := hR.below hd
  have hC2 := (HCS.out.below hb).below hd
  have hP := new5 w2 (.int .i64 r.l) (.int .i64 r.c) (.int .i64 r.s) (.int .i64 r.k) (.int .i64 r.o) 37
  have hbl := HB1.out.trans ((hb.trans (hd.mono hb.size)).mono HB1.out.size)
  clear hR hb hd HCS HB1
  go_upto_region 5 with fail
  obtain ⟨g, hg⟩ : ∃ g, w2.heap.size = g := ⟨_, rfl⟩
  obtain ⟨w3, hW⟩ : ∃ W, w2.alloc (.cells #[.int .i64 r.l, .int .i64 r.c, .int .i64 r.s, .int .i64 r.k, .int .i64 r.o] 37) = W := ⟨_, rfl⟩
  rw [hg] at hP ⊢
  rw [hW] at hP hR2 hC2 hbl ⊢
  have HP := hide hP
  have HR := hide hR2
  have HCS := hide hC2
  have HB := hide hbl
  clear hg hW hP hR2 hC2 hbl
  go_wp2_with fail
  refine (HS.out _ _ HCS.out).mono ?_
  rintro e w4 ⟨⟨R1, rfl, hR⟩, hb⟩
  obtain ⟨aQ, cQ, rfl⟩ := hR.form
  have hd := (Below.refl w4.heap.size w4).alloc (Nat.le_refl _) (.cells #[.int .i64 r.l, .int .i64 r.c, .int .i64 r.s, .int .i64 r.k, .int .i64 r.o] 37)
  have hQ2 := hR.below hd
  have hR2 := (HR.out.below hb).below hd
  have hC2 := (HCS.out.below hb).below hd
  have hP2 := (HP.out.down hb).down hd
  have hP := new5 w4 (.int .i64 r.l) (.int .i64 r.c) (.int .i64 r.s) (.int .i64 r.k) (.int .i64 r.o) 37
  have hbl := HB.out.trans ((hb.trans (hd.mono hb.size)).mono HB.out.size)
  clear hR hb hd HCS HB HR HP
  go_upto_region 6 with fail
  obtain ⟨g2, hg⟩ : ∃ g, w4.heap.size = g := ⟨_, rfl⟩
  obtain ⟨w5, hW⟩ : ∃ W, w4.alloc (.cells #[.int .i64 r.l, .int .i64 r.c, .int .i64 r.s, .int .i64 r.k, .int .i64 r.o] 37) = W := ⟨_, rfl⟩
  rw [hg] at hP ⊢
  rw [hW] at hP hP2 hR2 hQ2 hC2 hbl ⊢
  have HP := hide hP2
  have HR := hide hR2
  have HCS := hide hC2
  have HB := hide hbl
  obtain ⟨⟨y0, y1, y2, y3, y4⟩, -⟩ := hP2.five
  obtain ⟨⟨z0, z1, z2, z3, z4⟩, -⟩ := hP.five
  have HQ := hide hQ2
  clear hg hW hP hP2 hR2 hQ2 hC2 hbl
  have hN := HNB.out
  go_wp2_with fail
  clear hN hG HNB
  refine (same_bools _ _ q h _ HR.out HQ.out hq).mono ?_
  rintro e w6 ⟨rfl, hb⟩
  have HP6 := hide (HP.out.down hb)
  have HR6 := hide (HR.out.below hb)
  have HC6 := hide (HCS.out.below hb)
  have HB6 := hide (HB.out.trans (hb.mono HB.out.size))
  clear hb HP HR HCS HB HQ y0 y1 y2 y3 y4 z0 z1 z2 z3 z4
  go_upto_region 8 with fail
  go_upto_if 71 with fail
  go_cut [14, 15, 16, 17, 18] from 72 (fun _ _ _ _ _ wx => Hid (Below w.heap.size w wx))
  case first =>
    cases ok with
    | false =>
      go_wp2_with fail
      go_meet
      exact HB6
    | true =>
      obtain ⟨hqn, hrp, hth, hgd, hgc⟩ := HOK.out rfl
      subst hqn
      subst hth
      have HGC := hide hgc
      have HRP := hide hrp
      have HGD := hide hgd
      clear hgc hrp hgd HOK HI HS HV1
      go_wp2_with fail
      go_loopw [14, 15, 74] (fun rw op i wr => ∃ (k : Nat) (row o : Int), k ≤ q ∧ rw = .int .i64 row ∧ op = .int .i64 o ∧ i = .int .i64 k ∧ Hid (RwB (ply L (c : Int) cs k) L (c : Int) row o) ∧ Below w6.heap.size w6 wr) (fun _ _ i _ => q - (intOf i).toNat)
      case atStart => exact ⟨0, 0, -1, Nat.zero_le _, rfl, rfl, rfl, hide (RwB.zero HGD.out), Below.refl _ _⟩
      case round =>
        obtain ⟨k, row, o, hk, rfl, rfl, rfl, HW, hbw⟩ := hrel
        by_cases hlt : k < q
        · obtain ⟨n1', n2', n3', n4', n5', n6', n7', n8', n9'⟩ := HW.out.nums
          obtain ⟨a', c', he, hr⟩ := HC6.out
          simp only [Value.slice.injEq, true_and] at he
          obtain ⟨rfl, rfl⟩ := he
          obtain ⟨b, off, rfl, hb, hrow⟩ := hr (by omega)
          obtain ⟨c0, c1⟩ := hrow k hlt
          obtain ⟨a2, cc2, he2, hr2⟩ := HR6.out
          simp only [Value.slice.injEq, true_and] at he2
          obtain ⟨rfl, rfl⟩ := he2
          obtain ⟨b2, off2, rfl, hb2, hrow2⟩ := hr2 (by omega)
          obtain ⟨⟨xw, xy⟩, hx⟩ : ∃ x, cs k = x := ⟨_, rfl⟩
          obtain ⟨t, ht⟩ : ∃ t, thr L (c : Int) cs k = t := ⟨_, rfl⟩
          have c0 : wr.cell? ⟨b, off + k * 2, none⟩ = some (.int .i64 xw) := by rw [hx] at c0; exact (hbw.cell (p := ⟨b, off + k * 2, none⟩) hb).trans c0
          have c1 : wr.cell? ⟨b, off + k * 2 + 1, none⟩ = some (.bool xy) := by rw [hx] at c1; exact (hbw.cell (p := ⟨b, off + k * 2 + 1, none⟩) hb).trans c1
          have d0 := (hbw.cell (p := ⟨b2, off2 + k, none⟩) hb2).trans (hrow2 k hlt)
          rw [ht] at d0
          have hwx : 0 ≤ xw ∧ xw ≤ 1000000 := by have := HGC.out.gt k hlt; rw [hx] at this; exact this
          have hltt : lt (ply L (c : Int) cs k) xw = t := by rw [← ht]; unfold thr; rw [hx]
          have hlets := HW.out.lets xw
          rw [hltt] at hlets
          have HCAL := hide (show ply L (c : Int) cs (k + 1) = cal (ply L (c : Int) cs k) ⟨xw, xy⟩ from by rw [← hx]; rfl)
          have HLT := hide hltt
          have HXW := hide (show GT xw from hwx)
          have hi0 : (0 : Int) ≤ (k : Int) := by omega
          have hi1 : (k : Int) < (q : Int) := by omega
          clear hrow hrow2 hr hr2 hx ht hltt
          cases t with
          | false =>
            have ho : ¬ o < 0 := fun h => by have := hlets.2 (.inl h); cases this
            have hoc : ¬ o + (c : Int) ≤ xw := fun h => by have := hlets.2 (.inr h); cases this
            have e2 : decide (o + (c : Int) ≤ xw) = false := decide_eq_false hoc
            have hal := (Below.refl wr.heap.size wr).alloc (Nat.le_refl _) (.cells #[.int .i64 xw, .bool xy] 50)
            have hbw2 := hbw.trans (hal.mono hbw.size)
            have d1 := (hal.cell (p := ⟨b2, off2 + k, none⟩) (Nat.lt_of_lt_of_le hb2 hbw.size)).trans d0
            obtain ⟨⟨s0, s1⟩, -⟩ := (new2 wr (.int .i64 xw) (.bool xy) 50).duo
            have HN := hide (HW.out.no (x := ⟨xw, xy⟩) HLT.out)
            clear hlets HLT HW hal
            have e1 : decide (o < 0) = false := decide_eq_false ho
            have e5 : decide (0 ≤ o) = true := decide_eq_true (by omega)
            clear HXW HGC HC6 HR6 HRP HGD
            go_wp2
            go_roundw
            case rel => exact ⟨k + 1, row, o, by omega, rfl, rfl, by go_num, hide (by rw [HCAL.out]; exact HN.out), hbw2⟩
            case measure => simp [intOf]; omega
          | true =>
            have hor := hlets.1 rfl
            clear hlets
            cases xy with
            | true =>
              have hal := (Below.refl wr.heap.size wr).alloc (Nat.le_refl _) (.cells #[.int .i64 xw, .bool true] 50)
              have hbw2 := hbw.trans (hal.mono hbw.size)
              have d1 := (hal.cell (p := ⟨b2, off2 + k, none⟩) (Nat.lt_of_lt_of_le hb2 hbw.size)).trans d0
              obtain ⟨⟨s0, s1⟩, -⟩ := (new2 wr (.int .i64 xw) (.bool true) 50).duo
              have HN := hide (HW.out.fine (x := ⟨xw, true⟩) HLT.out rfl)
              clear HLT HW hal
              by_cases ho : o < 0
              · clear hor
                have e1 : decide (o < 0) = true := decide_eq_true ho
                have e5 : decide (0 ≤ o) = false := decide_eq_false (by omega)
                clear HXW HGC HC6 HR6 HRP HGD
                go_wp2
                go_roundw
                case rel => exact ⟨k + 1, 0, -1, by omega, rfl, rfl, by go_num, hide (by rw [HCAL.out]; exact HN.out), hbw2⟩
                case measure => simp [intOf]; omega
              · have e2 : decide (o + (c : Int) ≤ xw) = true := decide_eq_true (by omega)
                clear hor
                have e1 : decide (o < 0) = false := decide_eq_false ho
                have e5 : decide (0 ≤ o) = true := decide_eq_true (by omega)
                clear HXW HGC HC6 HR6 HRP HGD
                go_wp2
                go_roundw
                case rel => exact ⟨k + 1, 0, -1, by omega, rfl, rfl, by go_num, hide (by rw [HCAL.out]; exact HN.out), hbw2⟩
                case measure => simp [intOf]; omega
            | false =>
              have hal := (Below.refl wr.heap.size wr).alloc (Nat.le_refl _) (.cells #[.int .i64 xw, .bool false] 50)
              have hbw2 := hbw.trans (hal.mono hbw.size)
              have d1 := (hal.cell (p := ⟨b2, off2 + k, none⟩) (Nat.lt_of_lt_of_le hb2 hbw.size)).trans d0
              obtain ⟨⟨s0, s1⟩, -⟩ := (new2 wr (.int .i64 xw) (.bool false) 50).duo
              obtain ⟨hf1, hf2⟩ := HW.out.fault (x := ⟨xw, false⟩) HLT.out rfl HXW.out
              clear HLT HW hal
              by_cases ho : o < 0
              · by_cases hrl : row + 1 = L
                · have e6 : (row + 1 == L) = true := by simp [hrl]
                  have HN := hide (hf1 (.inr hrl))
                  clear hor hf1 hf2 hrl
                  have e1 : decide (o < 0) = true := decide_eq_true ho
                  have e5 : decide (0 ≤ o) = false := decide_eq_false (by omega)
                  clear HXW HGC HC6 HR6 HRP HGD
                  go_wp2
                  go_roundw
                  case rel => exact ⟨k + 1, L, xw, by omega, rfl, rfl, by go_num, hide (by rw [HCAL.out]; exact HN.out), hbw2⟩
                  case measure => simp [intOf]; omega
                · have e6 : (row + 1 == L) = false := by simp [hrl]
                  have HN := hide (hf2 (by omega))
                  clear hor hf1 hf2 hrl
                  have e1 : decide (o < 0) = true := decide_eq_true ho
                  have e5 : decide (0 ≤ o) = false := decide_eq_false (by omega)
                  clear HXW HGC HC6 HR6 HRP HGD
                  go_wp2
                  go_roundw
                  case rel => exact ⟨k + 1, row + 1, o, by omega, rfl, rfl, by go_num, hide (by rw [HCAL.out]; exact HN.out), hbw2⟩
                  case measure => simp [intOf]; omega
              · have e2 : decide (o + (c : Int) ≤ xw) = true := decide_eq_true (by omega)
                have HN := hide (hf1 (.inl (by omega)))
                clear hor hf1 hf2
                have e1 : decide (o < 0) = false := decide_eq_false ho
                have e5 : decide (0 ≤ o) = true := decide_eq_true (by omega)
                clear HXW HGC HC6 HR6 HRP HGD
                go_wp2
                go_roundw
                case rel => exact ⟨k + 1, L, xw, by omega, rfl, rfl, by go_num, hide (by rw [HCAL.out]; exact HN.out), hbw2⟩
                case measure => simp [intOf]; omega
        · have hkq : k = q := by omega
          subst hkq
          have hW := HW.out
          rw [← HRP.out] at hW
          have hgr := hW.g
          have hs := hW.hs
          have HPr := hide (HP6.out.down hbw)
          have HBr := hide (HB6.out.trans (hbw.mono HB6.out.size))
          obtain ⟨⟨y0, y1, y2, y3, y4⟩, -⟩ := HPr.out.five
          obtain ⟨bs, hbs⟩ : ∃ b : Bool, decide (r.s = 1) = b := ⟨_, rfl⟩
          have hso : (r.s == 1) = bs := by rw [← hbs]; rfl
          have hoo2 : decide (0 ≤ o) = bs := by
            rw [← hbs]
            rcases hs with ⟨h1, h2⟩ | ⟨h1, h2, h3, h4⟩
            · rw [h1, h2]; decide
            · rw [h1]; simp; exact h3
          have hbb : (bs != bs) = false := by simp
          have HGR := hide hgr
          clear HW hW hgr hs HP6 HB6 HC6 HR6 hbw HGC HGD HRP hbs
          go_wp2_with fail
          refine (impl_breaker r true _ (decide_eq_true HGR.out)).mono ?_
          rintro e wi ⟨rfl, hb⟩
          have HZ := hide (HBr.out.trans (hb.mono HBr.out.size))
          clear hb HBr HPr HGR y0 y1 y2 y3 y4
          go_wp2_with fail
          go_meet
          exact HZ
  case rest =>
  rename World => w7
  have HL := hcut
  clear hcut HB6 HC6 HR6 HP6 HOK HI HS
  go_wp2_with fail
  refine (draw_call _ n1 f1 _ (HV1.out.below HL.out) (by omega)).mono ?_
  rintro e wa ⟨⟨x, y, rfl⟩, hb⟩
  have hd1 := (Below.refl wa.heap.size wa).alloc (Nat.le_refl _) (.cells #[.int .i64 x.l, .int .i64 x.c, .int .i64 x.s, .int .i64 x.k, .int .i64 x.o] 37)
  have hd2 := (Below.refl (wa.alloc (.cells #[.int .i64 x.l, .int .i64 x.c, .int .i64 x.s, .int .i64 x.k, .int .i64 x.o] 37)).heap.size (wa.alloc (.cells #[.int .i64 x.l, .int .i64 x.c, .int .i64 x.s, .int .i64 x.k, .int .i64 x.o] 37))).alloc (Nat.le_refl _) (.cells #[.int .i64 y.w, .bool y.y] 50)
  have hP := (new5 wa (.int .i64 x.l) (.int .i64 x.c) (.int .i64 x.s) (.int .i64 x.k) (.int .i64 x.o) 37).down hd2
  have hC := new2 (wa.alloc (.cells #[.int .i64 x.l, .int .i64 x.c, .int .i64 x.s, .int .i64 x.k, .int .i64 x.o] 37)) (.int .i64 y.w) (.bool y.y) 50
  rw [World.size_alloc] at hC
  have hbl := HL.out.trans ((hb.trans ((hd1.trans (hd2.mono hd1.size)).mono hb.size)).mono HL.out.size)
  obtain ⟨b, hbd⟩ : ∃ b, decide (GBr x ∧ GT y.w) = b := ⟨_, rfl⟩
  obtain ⟨r2, hr2⟩ : ∃ r2, (if b = true then cal x y else ⟨0, 0, 0, 0, 0⟩) = r2 := ⟨_, rfl⟩
  obtain ⟨t, ht⟩ : ∃ t, (if b = true then lt x y.w else false) = t := ⟨_, rfl⟩
  have HBD := hide hbd
  have HR2 := hide hr2
  have HT := hide ht
  have hb2 : (b != b) = false := by simp
  have ht2 : (t != t) = false := by simp
  have ht3 : (t == t) = true := by simp
  clear hb hd1 hd2 hbd hr2 ht HL HV1
  go_upto_region 29 with fail
  obtain ⟨g3, hg3⟩ : ∃ g, wa.heap.size = g := ⟨_, rfl⟩
  obtain ⟨g4, hg4⟩ : ∃ g, wa.heap.size + 1 = g := ⟨_, rfl⟩
  obtain ⟨wB, hW⟩ : ∃ W, (wa.alloc (.cells #[.int .i64 x.l, .int .i64 x.c, .int .i64 x.s, .int .i64 x.k, .int .i64 x.o] 37)).alloc (.cells #[.int .i64 y.w, .bool y.y] 50) = W := ⟨_, rfl⟩
  rw [hg4] at hC ⊢
  rw [hg3] at hP ⊢
  rw [hW] at hP hC hbl ⊢
  have HP := hide hP
  have HC := hide hC
  have HB := hide hbl
  clear hg3 hg4 hW hbl
  obtain ⟨⟨y0, y1, y2, y3, y4⟩, -⟩ := hP.five
  obtain ⟨⟨z0, z1⟩, -⟩ := hC.duo
  clear hP hC
  go_wp2_with fail
  refine (impl_callBreaker x y b t r2 _ HBD.out HR2.out HT.out).mono ?_
  rintro e wc ⟨rfl, hb⟩
  have hd := (Below.refl wc.heap.size wc).alloc (Nat.le_refl _) (.cells #[.int .i64 r2.l, .int .i64 r2.c, .int .i64 r2.s, .int .i64 r2.k, .int .i64 r2.o] 37)
  have hN := new5 wc (.int .i64 r2.l) (.int .i64 r2.c) (.int .i64 r2.s) (.int .i64 r2.k) (.int .i64 r2.o) 37
  have hP := (HP.out.down hb).down hd
  have hC := (HC.out.down hb).down hd
  have hbl := HB.out.trans ((hb.trans (hd.mono hb.size)).mono HB.out.size)
  clear hb hd HP HC HB y0 y1 y2 y3 y4 z0 z1
  go_upto_region 30 with fail
  obtain ⟨g5, hg5⟩ : ∃ g, wc.heap.size = g := ⟨_, rfl⟩
  obtain ⟨wD, hW⟩ : ∃ W, wc.alloc (.cells #[.int .i64 r2.l, .int .i64 r2.c, .int .i64 r2.s, .int .i64 r2.k, .int .i64 r2.o] 37) = W := ⟨_, rfl⟩
  rw [hg5] at hN ⊢
  rw [hW] at hP hC hN hbl ⊢
  have HN := hide hN
  have HP := hide hP
  have HC := hide hC
  have HB := hide hbl
  clear hg5 hW hbl hN
  obtain ⟨⟨y0, y1, y2, y3, y4⟩, -⟩ := hP.five
  obtain ⟨⟨z0, z1⟩, -⟩ := hC.duo
  clear hP hC
  go_wp2_with fail
  refine (spec_callBreaker x y b t r2 _ HBD.out HR2.out HT.out).mono ?_
  rintro e we ⟨rfl, hb⟩
  have hd := (Below.refl we.heap.size we).alloc (Nat.le_refl _) (.cells #[.int .i64 r2.l, .int .i64 r2.c, .int .i64 r2.s, .int .i64 r2.k, .int .i64 r2.o] 37)
  have hM := new5 we (.int .i64 r2.l) (.int .i64 r2.c) (.int .i64 r2.s) (.int .i64 r2.k) (.int .i64 r2.o) 37
  have hN := (HN.out.down hb).down hd
  have hP := (HP.out.down hb).down hd
  have hC := (HC.out.down hb).down hd
  have hbl := HB.out.trans ((hb.trans (hd.mono hb.size)).mono HB.out.size)
  clear hb hd HP HC HB HN y0 y1 y2 y3 y4 z0 z1
  go_upto_region 31 with fail
  obtain ⟨g6, hg6⟩ : ∃ g, we.heap.size = g := ⟨_, rfl⟩
  obtain ⟨wF, hW⟩ : ∃ W, we.alloc (.cells #[.int .i64 r2.l, .int .i64 r2.c, .int .i64 r2.s, .int .i64 r2.k, .int .i64 r2.o] 37) = W := ⟨_, rfl⟩
  rw [hg6] at hM ⊢
  rw [hW] at hP hC hN hM hbl ⊢
  have HM := hide hM
  have HN := hide hN
  have HP := hide hP
  have HB := hide hbl
  clear hg6 hW hbl hN hM
  obtain ⟨⟨y0, y1, y2, y3, y4⟩, -⟩ := hP.five
  obtain ⟨⟨z0, z1⟩, -⟩ := hC.duo
  clear hP hC
  go_wp2_with fail
  refine (impl_allows x y.w b t _ HBD.out HT.out).mono ?_
  rintro e wg ⟨rfl, hb⟩
  have HM2 := hide (HM.out.down hb)
  have HN2 := hide (HN.out.down hb)
  have HP2 := hide (HP.out.down hb)
  have HB2 := hide (HB.out.trans (hb.mono HB.out.size))
  clear hb HM HN HP HB y0 y1 y2 y3 y4 z0 z1
  obtain ⟨⟨m0, m1, m2, m3, m4⟩, -⟩ := HM2.out.five
  obtain ⟨⟨n0', n1', n2', n3', n4'⟩, -⟩ := HN2.out.five
  obtain ⟨⟨y0, y1, y2, y3, y4⟩, -⟩ := HP2.out.five
  have hNeq := fun W => eq_br .neq false (.inl ⟨rfl, rfl⟩) r2 W
  have hGn := fun a b W => guard_br .neq a b #[.int .i64 r2.l, .int .i64 r2.c, .int .i64 r2.s, .int .i64 r2.k, .int .i64 r2.o] #[.int .i64 r2.l, .int .i64 r2.c, .int .i64 r2.s, .int .i64 r2.k, .int .i64 r2.o] W
  cases b with
  | false =>
    clear HM2 HN2 HP2 HBD HR2 HT
    go_wp2
    go_ret
    exact ⟨rfl, HB2.out⟩
  | true =>
    rw [if_pos rfl] at HR2 HT
    have hg := of_decide_eq_true HBD.out
    have HGR := hide (show GBr r2 from by rw [← HR2.out]; exact cal_good hg.1 hg.2)
    clear HBD hg
    cases t with
    | true =>
      clear HR2 HT
      go_wp2_with fail
      refine (impl_breaker r2 true _ (decide_eq_true HGR.out)).mono ?_
      rintro e wi ⟨rfl, hb⟩
      have HZ := hide (HB2.out.trans (hb.mono HB2.out.size))
      clear hb HGR HB2 HM2 HN2 HP2 m0 m1 m2 m3 m4 n0' n1' n2' n3' n4' y0 y1 y2 y3 y4 hNeq hGn
      go_wp2
      go_ret
      exact ⟨rfl, HZ.out⟩
    | false =>
      have hxr : r2 = x := by rw [← HR2.out]; unfold cal; rw [if_neg (by rw [HT.out]; decide)]
      subst hxr
      clear HR2 HT
      have hEq := fun W => eq_br .eql true (.inr ⟨rfl, rfl⟩) r2 W
      have hGe := fun a b W => guard_br .eql a b #[.int .i64 r2.l, .int .i64 r2.c, .int .i64 r2.s, .int .i64 r2.k, .int .i64 r2.o] #[.int .i64 r2.l, .int .i64 r2.c, .int .i64 r2.s, .int .i64 r2.k, .int .i64 r2.o] W
      go_wp2_with fail
      refine (impl_breaker r2 true _ (decide_eq_true HGR.out)).mono ?_
      rintro e wi ⟨rfl, hb⟩
      have HZ := hide (HB2.out.trans (hb.mono HB2.out.size))
      have HN3 := hide (HN2.out.down hb)
      have HP3 := hide (HP2.out.down hb)
      clear hb HGR HB2 HM2 HN2 HP2 m0 m1 m2 m3 m4 n0' n1' n2' n3' n4' y0 y1 y2 y3 y4 hNeq hGn
      obtain ⟨⟨n0', n1', n2', n3', n4'⟩, -⟩ := HN3.out.five
      obtain ⟨⟨y0, y1, y2, y3, y4⟩, -⟩ := HP3.out.five
      go_wp2
      go_ret
      exact ⟨rfl, HZ.out⟩
end Go.Proofs.Ytegbfmdilmbpmaa
