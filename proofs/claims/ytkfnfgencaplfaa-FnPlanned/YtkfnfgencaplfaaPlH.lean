/-
  FnPlanned, walked.
-/
import Derived.Test.YtkfnfgencaplfaaPlG
namespace Go.Proofs.Ytkfnfgencaplfaa
open Go.RowKit M
open Clk (upd upd_same upd_other)
open Go.Sort (grow)
set_option maxRecDepth 20000 in
set_option maxHeartbeats 4000000 in
theorem law_fnPlanned (v0 : Value) (n0 : Nat) (f0 : Nat → Nat) (w : World) (hv0 : OctetsOf w v0 n0 f0) (_hz0 : n0 < 2 ^ 47) :
    Calls Try.prog 13 #[v0] w fun e w' => e = .returned (.bool true) ∧ Below w.heap.size w w' := by
  obtain ⟨a0, cap0, rfl⟩ := hv0.form
  have HV0 := hide hv0
  clear hv0
  by_cases hn : 1048576 < n0
  · have hn' : (1048576 : Int) < (n0 : Int) := by omega
    go_enter Try.func13, Try.ntmps13
    go_wp2
    go_ret
    exact ⟨rfl, Below.refl _ _⟩
  have hn' : ¬ (1048576 : Int) < (n0 : Int) := by omega
  go_enter Try.func13, Try.ntmps13
  go_wp2_with fail
  refine (draw_crit _ n0 f0 _ HV0.out (by omega)).mono ?_
  rintro e w1 ⟨⟨r, k, ts, rfl, hD⟩, hb1⟩
  obtain ⟨ar, cr, rfl, -⟩ := hD.2.2
  obtain ⟨n, E, L, S, all, W, ok, hPA⟩ := plan_all k ts hD.short hD.1
  have hk31 := hD.1
  have hn31 := hPA.n31
  have hw31 := hPA.w31
  have HPA := hide hPA
  have HSH := hide hD.short
  have HT := hide hD.2.2
  have HB := hide hb1
  have hoo : (ok != ok) = false := by simp
  have haa : (all != all) = false := by simp
  clear hPA hD hb1 HV0
  go_wp2_with fail
  refine (HPA.out.eI _ _ HT.out).mono ?_
  rintro e w2 ⟨⟨R0, rfl, hR⟩, hb⟩
  obtain ⟨aE, cE, rfl⟩ := hR.form
  have HT2 := hide (HT.out.below hb)
  have HE2 := hide hR
  have HB2 := hide (HB.out.trans (hb.mono HB.out.size))
  clear hR hb HT HB
  go_wp2_with fail
  refine (HPA.out.eS _ _ HT2.out).mono ?_
  rintro e w3 ⟨⟨R0, rfl, hR⟩, hb⟩
  obtain ⟨aE', cE', rfl⟩ := hR.form
  have HT3 := hide (HT2.out.below hb)
  have HE3 := hide (HE2.out.below hb)
  have HF3 := hide hR
  have HB3 := hide (HB2.out.trans (hb.mono HB2.out.size))
  clear hR hb HT2 HE2 HB2
  go_wp2_with fail
  refine (HPA.out.lI _ _ HT3.out).mono ?_
  rintro e w4 ⟨⟨R0, rfl, hR⟩, hb⟩
  obtain ⟨aL, cL, rfl⟩ := hR.form
  have HT4 := hide (HT3.out.below hb)
  have HE4 := hide (HE3.out.below hb)
  have HF4 := hide (HF3.out.below hb)
  have HL4 := hide hR
  have HB4 := hide (HB3.out.trans (hb.mono HB3.out.size))
  clear hR hb HT3 HE3 HF3 HB3
  go_wp2_with fail
  refine (HPA.out.sI _ _ HT4.out).mono ?_
  rintro e w5 ⟨⟨R0, rfl, hR⟩, hb⟩
  obtain ⟨aS, cS, rfl⟩ := hR.form
  have HT5 := hide (HT4.out.below hb)
  have HE5 := hide (HE4.out.below hb)
  have HF5 := hide (HF4.out.below hb)
  have HL5 := hide (HL4.out.below hb)
  have HS5 := hide hR
  have HB5 := hide (HB4.out.trans (hb.mono HB4.out.size))
  clear hR hb HT4 HE4 HF4 HL4 HB4
  go_wp2_with fail
  refine (HPA.out.cI _ _ HT5.out).mono ?_
  rintro e w6 ⟨⟨R0, rfl, hR⟩, hb⟩
  obtain ⟨aW, cW, rfl⟩ := hR.form
  have HT6 := hide (HT5.out.below hb)
  have HE6 := hide (HE5.out.below hb)
  have HF6 := hide (HF5.out.below hb)
  have HL6 := hide (HL5.out.below hb)
  have HS6 := hide (HS5.out.below hb)
  have HW6 := hide hR
  have HB6 := hide (HB5.out.trans (hb.mono HB5.out.size))
  clear hR hb HT5 HE5 HF5 HL5 HS5 HB5
  go_wp2_with fail
  refine (HPA.out.cS _ _ HT6.out).mono ?_
  rintro e w7 ⟨⟨R0, rfl, hR⟩, hb⟩
  obtain ⟨aX, cX, rfl⟩ := hR.form
  have HT7 := hide (HT6.out.below hb)
  have HE7 := hide (HE6.out.below hb)
  have HF7 := hide (HF6.out.below hb)
  have HL7 := hide (HL6.out.below hb)
  have HS7 := hide (HS6.out.below hb)
  have HW7 := hide (HW6.out.below hb)
  have HX7 := hide hR
  have HB7 := hide (HB6.out.trans (hb.mono HB6.out.size))
  clear hR hb HT6 HE6 HF6 HL6 HS6 HW6 HB6
  go_wp2_with fail
  refine (same_ints _ _ n E _ HE7.out HF7.out (by omega)).mono ?_
  rintro e w8 ⟨rfl, hb⟩
  have HT8 := hide (HT7.out.below hb)
  have HE8 := hide (HE7.out.below hb)
  have HL8 := hide (HL7.out.below hb)
  have HS8 := hide (HS7.out.below hb)
  have HW8 := hide (HW7.out.below hb)
  have HX8 := hide (HX7.out.below hb)
  have HB8 := hide (HB7.out.trans (hb.mono HB7.out.size))
  clear hb HT7 HE7 HF7 HL7 HS7 HW7 HX7 HB7
  go_wp2_with fail
  refine (same_ints _ _ W.length (lv W) _ HW8.out HX8.out (by omega)).mono ?_
  rintro e w9 ⟨rfl, hb⟩
  have HT9 := hide (HT8.out.below hb)
  have HE9 := hide (HE8.out.below hb)
  have HL9 := hide (HL8.out.below hb)
  have HS9 := hide (HS8.out.below hb)
  have HW9 := hide (HW8.out.below hb)
  have HB9 := hide (HB8.out.trans (hb.mono HB8.out.size))
  clear hb HT8 HE8 HL8 HS8 HW8 HX8 HB8
  go_wp2_with fail
  refine (impl_good _ k ts ok _ HT9.out HSH.out HPA.out.gd).mono ?_
  rintro e wA ⟨rfl, hb⟩
  have HTA := hide (HT9.out.below hb)
  have HEA := hide (HE9.out.below hb)
  have HLA := hide (HL9.out.below hb)
  have HSA := hide (HS9.out.below hb)
  have HWA := hide (HW9.out.below hb)
  have HBA := hide (HB9.out.trans (hb.mono HB9.out.size))
  clear hb HT9 HE9 HL9 HS9 HW9 HB9 HSH
  cases ok with
  | false =>
    have hn0 := HPA.out.bad rfl
    subst hn0
    clear HPA HTA HEA HLA HSA HWA
    go_wp2
    go_ret
    exact ⟨rfl, HBA.out⟩
  | true =>
    obtain ⟨hg, hnk, -, htm, hcw, hse, hre, hrl, ha0, ha1⟩ := HPA.out.good rfl
    subst hnk
    have HG := hide hg
    have HTM := hide htm
    have HCW := hide hcw
    have HSE := hide hse
    have HRE := hide hre
    have HRL := hide hrl
    clear hg htm hcw hse hre hrl HPA hoo haa
    go_wp2_with fail
    go_loopw [113] (fun q wr => ∃ i : Nat, i ≤ n ∧ q = .int .i64 (i : Int) ∧ Hid (Below wA.heap.size wA wr)) (fun q _ => n - (intOf q).toNat)
    case atStart => exact ⟨0, Nat.zero_le _, rfl, hide (Below.refl _ _)⟩
    case round =>
      rename World => wr
      obtain ⟨i, hin, rfl, hbw⟩ := hrel
      by_cases hil : i < n
      · obtain ⟨bT, oT, rfl, hbT, hT⟩ := HTA.out.spot (by omega)
        obtain ⟨bE, oE, rfl, hbE, hE⟩ := HEA.out.spot (by omega)
        obtain ⟨bL, oL, rfl, hbL, hL⟩ := HLA.out.spot (by omega)
        obtain ⟨bS, oS, rfl, hbS, hS⟩ := HSA.out.spot (by omega)
        obtain ⟨y, t0, t1, hy⟩ := hT i hil
        obtain ⟨ay, cy, rfl⟩ := hy.form
        have HY := hide hy
        have hnn := HG.out.1.len hil
        obtain ⟨m, hm⟩ : ∃ m, (ts i).nn = m := ⟨_, rfl⟩
        have HM := hide hm
        rw [hm] at t1 hnn
        obtain ⟨gx, hgx⟩ : ∃ z, (ts i).long = z := ⟨_, rfl⟩
        obtain ⟨ex, hex⟩ : ∃ z, E i = z := ⟨_, rfl⟩
        obtain ⟨lx, hlx⟩ : ∃ z, L i = z := ⟨_, rfl⟩
        have HX := hide (And.intro hgx (And.intro hex hlx))
        have r1 : -93000 ≤ lx ∧ lx ≤ 93000 := by rw [← hlx]; exact HRL.out i hil
        have r2 : 0 ≤ ex ∧ ex ≤ 93000 := by rw [← hex]; exact HRE.out i
        have r3 : 1 ≤ gx ∧ gx ≤ 100 := by rw [← hgx]; exact (HG.out.1.2 i hil).1
        have q1 : ex ≤ lx := by rw [← hlx, ← hex]; exact HTM.out.le _ i hil (Nat.le_refl _)
        have q2 : lx + gx ≤ all := by rw [← hlx, ← hgx]; have := HTM.out.l2 i; omega
        have p0 := (hbw.out.cell (p := ⟨bT, oT + i * 2, none⟩) hbT).trans t0
        have p1 := (hbw.out.cell (p := ⟨bT, oT + i * 2 + 1, none⟩) hbT).trans t1
        rw [hgx] at p0
        have hi0 : (0 : Int) ≤ (i : Int) := by omega
        have hi1 : (i : Int) < (n : Int) := by omega
        have hal := (Below.refl wr.heap.size wr).alloc (Nat.le_refl _) (.cells #[.int .i64 gx, .slice ay m cy] 56)
        have hbw2 := hbw.out.trans (hal.mono hbw.out.size)
        have s0 := (hbw2.cell (p := ⟨bE, oE + i, none⟩) hbE).trans (hE i hil)
        have s1 := (hbw2.cell (p := ⟨bL, oL + i, none⟩) hbL).trans (hL i hil)
        have s2 := (hbw2.cell (p := ⟨bS, oS + i, none⟩) hbS).trans (hS i hil)
        rw [HSE.out i, hlx, hex] at s2
        rw [hex] at s0
        rw [hlx] at s1
        have HBX := hide (Blk.duo (new2 wr (.int .i64 gx) (.slice ay m cy) 56)).1
        have HBXL := hide (show wr.heap.size < (wr.alloc (.cells #[.int .i64 gx, .slice ay m cy] 56)).heap.size from by simp)
        have HBW2 := hide hbw2
        clear t0 t1 hy hm hgx hex hlx hal hbw2 hbw hT
        go_upto_region 17 with fail
        obtain ⟨gb, hgb⟩ : ∃ g, wr.heap.size = g := ⟨_, rfl⟩
        obtain ⟨ws, hws⟩ : ∃ W, wr.alloc (.cells #[.int .i64 gx, .slice ay m cy] 56) = W := ⟨_, rfl⟩
        rw [hgb] at HBX HBXL ⊢
        rw [hws] at HBX HBXL HBW2 s0 s1 s2 ⊢
        clear hgb hws p0 p1
        obtain ⟨x0, x1⟩ := HBX.out
        have s0 := cell_regrown s0
        have s1 := cell_regrown s1
        have s2 := cell_regrown s2
        have x0 := cell_regrown x0
        have hd1 : decide (lx < ex) = false := decide_eq_false (by omega)
        have hd2 : ((lx - ex) != (lx - ex)) = false := by simp
        have hd3 : decide (all < lx + gx) = false := decide_eq_false (by omega)
        clear x1
        refine wp_region_quiet_below (by kernel_rfl) (by kernel_rfl) ?_
        repeat (go_big_quiet_step (fail))
        refine wpQuiet_nil ?_
        intro _ hw'
        obtain ⟨⟨dq, osq⟩, hw''⟩ := hw'
        subst hw''
        have hrg := below_regrown ws dq osq
        obtain ⟨wt, hwt⟩ : ∃ W, grow (redrawn ws dq) osq = W := ⟨_, rfl⟩
        rw [hwt] at hrg ⊢
        have HBT := hide (HBW2.out.trans (hrg.mono HBW2.out.size))
        have x0 := (hrg.cell (p := ⟨gb, 0, none⟩) HBXL.out).trans HBX.out.1
        have x1 := (hrg.cell (p := ⟨gb, 1, none⟩) HBXL.out).trans HBX.out.2
        clear hrg hwt HBX HBXL HBW2 s0 s1 s2 hd1 hd2 hd3
        go_wp2_with fail
        clear x0 x1
        go_loopw [157] (fun q wx => ∃ j : Nat, j ≤ m ∧ q = .int .i64 (j : Int) ∧ Hid (Below wt.heap.size wt wx)) (fun q _ => m - (intOf q).toNat)
        case atStart => exact ⟨0, Nat.zero_le _, rfl, hide (Below.refl _ _)⟩
        case round =>
          rename World => wx
          obtain ⟨j, hjm, rfl, hbx⟩ := hrel
          have HBX := hide (HBT.out.trans (hbx.out.mono HBT.out.size))
          by_cases hjl : j < m
          · have hjn : j < (ts i).nn := by rw [HM.out]; exact hjl
            obtain ⟨z, hz, hzn, hzt⟩ := HG.out.1.need hil hjn
            have HY2 := HY.out
            rw [HM.out] at HY2
            obtain ⟨bY, oY, rfl, hbY, hYr⟩ := HY2.spot (by omega)
            have c0 := (HBX.out.cell (p := ⟨bY, oY + j, none⟩) hbY).trans (hYr j hjl)
            rw [hz] at c0
            obtain ⟨bT', oT', he, hbT', hT'⟩ := HTA.out.spot (by omega)
            simp only [Option.some.injEq, Addr.mk.injEq, and_true] at he
            obtain ⟨rfl, rfl⟩ := he
            obtain ⟨y', t0, -, -⟩ := hT' z hzn
            have t0 := (HBX.out.cell (p := ⟨bT, oT + z * 2, none⟩) hbT).trans t0
            have s0 := (HBX.out.cell (p := ⟨bE, oE + z, none⟩) hbE).trans (hE z hzn)
            have s1 := (HBX.out.cell (p := ⟨bL, oL + z, none⟩) hbL).trans (hL z hzn)
            have u0 := (HBX.out.cell (p := ⟨bE, oE + i, none⟩) hbE).trans (hE i hil)
            have u1 := (HBX.out.cell (p := ⟨bL, oL + i, none⟩) hbL).trans (hL i hil)
            rw [HX.out.2.1] at u0
            rw [HX.out.2.2] at u1
            have k1 := HTM.out.e1 i hil j hjn
            have k2 := HTM.out.l1 i hil j hjn
            unfold need at k1 k2
            rw [hzt, HX.out.2.1] at k1
            rw [hzt, HX.out.2.2] at k2
            have r4 := HRL.out z hzn
            have r5 := HRE.out z
            have r6 := (HG.out.1.2 z hzn).1
            generalize (ts z).long = gz at *
            generalize E z = ez at *
            generalize L z = lz at *
            have hd1 : decide (ex < ez + gz) = false := decide_eq_false (by omega)
            have hd2 : decide (lx < lz + gz) = false := decide_eq_false (by omega)
            have hj0 : (0 : Int) ≤ (j : Int) := by omega
            have hj1 : (j : Int) < (m : Int) := by omega
            have hz0 : (0 : Int) ≤ (z : Int) := by omega
            have hz1 : (z : Int) < (n : Int) := by omega
            clear hYr hz hzt k1 k2 HY2 hT'
            go_upto_region 22 with fail
            clear c0
            have t0 := cell_regrown t0
            have s0 := cell_regrown s0
            have s1 := cell_regrown s1
            have u0 := cell_regrown u0
            have u1 := cell_regrown u1
            refine wp_region_quiet_below (by kernel_rfl) (by kernel_rfl) ?_
            repeat (go_big_quiet_step (fail))
            refine wpQuiet_nil ?_
            intro _ hw'
            obtain ⟨⟨dq, osq⟩, hw''⟩ := hw'
            subst hw''
            have HBz := hide (hbx.out.trans ((below_regrown wx dq osq).mono hbx.out.size))
            clear hbx HBX t0 s0 s1 u0 u1 hd1 hd2
            go_wp2
            go_roundw
            case rel => exact ⟨j + 1, by omega, by go_num, HBz⟩
            case measure => simp [intOf]; omega
          · clear hbx
            go_wp2
            go_roundw
            case rel => exact ⟨i + 1, by omega, by go_num, HBX⟩
            case measure => simp [intOf]; omega
      · have HBr := hide (HBA.out.trans (hbw.out.mono HBA.out.size))
        go_wp2_with fail
        clear hil hin
        go_loopw [22, 197] (fun sm q ws => ∃ m : Nat, m ≤ W.length ∧ sm = .int .i64 (ls ts (W.take m)) ∧ q = .int .i64 (m : Int) ∧ Hid (Below wr.heap.size wr ws)) (fun _ q _ => W.length - (intOf q).toNat)
        case atStart => exact ⟨0, Nat.zero_le _, rfl, rfl, hide (Below.refl _ _)⟩
        case round =>
          rename World => ws
          obtain ⟨m, hmW, rfl, rfl, hbs⟩ := hrel
          by_cases hml : m < W.length
          · obtain ⟨x, hx⟩ : ∃ x, W[m]? = some x := ⟨W[m], List.getElem?_eq_getElem hml⟩
            obtain ⟨hxn, hxe, hxl, hgo⟩ := HCW.out.each m x hx
            obtain ⟨hs0, hs1⟩ := ls_le HTM.out HCW.out m hml
            have hxx : W[m] = x := by rw [List.getElem?_eq_getElem hml] at hx; simpa using hx
            rw [hxx] at hs1
            have hlsn : ls ts (W.take (m + 1)) = ls ts (W.take m) + (ts x).long := by rw [List.take_add_one, hx]; exact ls_snoc ts (W.take m) x
            obtain ⟨bT, oT, rfl, hbT, hT⟩ := HTA.out.spot (by omega)
            obtain ⟨bE, oE, rfl, hbE, hE⟩ := HEA.out.spot (by omega)
            obtain ⟨bS, oS, rfl, hbS, hS⟩ := HSA.out.spot (by omega)
            obtain ⟨bW, oW, rfl, hbW, hW⟩ := HWA.out.spot (by omega)
            obtain ⟨y, t0, t1, hy⟩ := hT x hxn
            obtain ⟨ay, cy, rfl⟩ := hy.form
            have HBs := hide (hbw.out.trans (hbs.out.mono hbw.out.size))
            have hlvx : lv W m = (x : Int) := by unfold lv; rw [List.getD_eq_getElem?_getD, hx]; rfl
            have c0 := (HBs.out.cell (p := ⟨bW, oW + m, none⟩) hbW).trans (hW m hml)
            rw [hlvx] at c0
            have s0 := (HBs.out.cell (p := ⟨bE, oE + x, none⟩) hbE).trans (hE x hxn)
            have s2 := (HBs.out.cell (p := ⟨bS, oS + x, none⟩) hbS).trans (hS x hxn)
            rw [HSE.out x, hxl, Int.sub_self] at s2
            rw [hxe] at s0
            have p0 := (HBs.out.cell (p := ⟨bT, oT + x * 2, none⟩) hbT).trans t0
            have p1 := (HBs.out.cell (p := ⟨bT, oT + x * 2 + 1, none⟩) hbT).trans t1
            obtain ⟨gx, hgx⟩ : ∃ z, (ts x).long = z := ⟨_, rfl⟩
            obtain ⟨sm, hsm⟩ : ∃ z, ls ts (W.take m) = z := ⟨_, rfl⟩
            rw [hgx] at p0 hs1 hlsn
            rw [hsm] at s0 hs0 hs1 hlsn ⊢
            have r3 : 1 ≤ gx ∧ gx ≤ 100 := by rw [← hgx]; exact (HG.out.1.2 x hxn).1
            have HLS := hide hlsn
            have hnn := HG.out.1.len hxn
            have HY := hide hy
            have HWR := hide hW
            have hss : (sm != sm) = false := by simp
            have hm0 : (0 : Int) ≤ (m : Int) := by omega
            have hm1 : (m : Int) < (W.length : Int) := by omega
            have hx0 : (0 : Int) ≤ (x : Int) := by omega
            have hx1 : (x : Int) < (n : Int) := by omega
            obtain ⟨k2, hk2⟩ : ∃ z, (ts x).nn = z := ⟨_, rfl⟩
            have HK2 := hide hk2
            rw [hk2] at p1 hnn
            have HGO := hide hgo
            have HBS := hide hbs.out
            clear hT hE hS hW t0 t1 hy hlvx hxe hxl hgx hsm hlsn hxx hk2 hbs hgo
            rcases Nat.eq_zero_or_pos m with hmz | hmp
            · have hme : ((m : Int) == 0) = true := by simp [hmz]
              clear hmz
              go_wp2_with fail
              go_loopw [25, 223] (fun nd q wx => ∃ j : Nat, j ≤ k2 ∧ nd = .bool true ∧ q = .int .i64 (j : Int) ∧ Hid (Below ws.heap.size ws wx)) (fun _ q _ => k2 - (intOf q).toNat)
              case atStart => exact ⟨0, Nat.zero_le _, rfl, rfl, hide (Below.refl _ _)⟩
              case round =>
                rename World => wx
                obtain ⟨j, hjk, rfl, rfl, hbx⟩ := hrel
                have HBX := hide (HBs.out.trans (hbx.out.mono HBs.out.size))
                have p0 := (hbx.out.cell (p := ⟨bT, oT + x * 2, none⟩) (Nat.lt_of_lt_of_le hbT HBs.out.size)).trans p0
                by_cases hjl : j < k2
                · have HY2 := HY.out
                  rw [HK2.out] at HY2
                  obtain ⟨bY, oY, rfl, hbY, hYr⟩ := HY2.spot (by omega)
                  have d0 := (HBX.out.cell (p := ⟨bY, oY + j, none⟩) hbY).trans (hYr j hjl)
                  have hj0 : (0 : Int) ≤ (j : Int) := by omega
                  have hj1 : (j : Int) < (k2 : Int) := by omega
                  clear hYr HY2
                  go_wp2
                  go_roundw
                  case rel => exact ⟨j + 1, by omega, rfl, by go_num, hbx⟩
                  case measure => simp [intOf]; omega
                · skip
                  have HBz := hide (HBS.out.trans (hbx.out.mono HBS.out.size))
                  clear hbx HBX HBs HBS
                  go_wp2
                  go_roundw
                  case rel => exact ⟨m + 1, by omega, by rw [HLS.out], by go_num, HBz⟩
                  case measure => simp [intOf]; omega
            · have hme : ((m : Int) == 0) = false := by simp; omega
              obtain ⟨y, hy, j0, hj0, hjy⟩ := HGO.out hmp
              obtain ⟨pm, rfl⟩ : ∃ pm, m = pm + 1 := ⟨m - 1, by omega⟩
              rw [Nat.add_sub_cancel] at hy
              have hlvy : lv W pm = (y : Int) := by unfold lv; rw [List.getD_eq_getElem?_getD, hy]; rfl
              have HHAS := hide (show hasF (ts x).fn (y : Int) k2 = true from (hasF_iff _ _ _).2 ⟨j0, by rw [← HK2.out]; exact hj0, by
                obtain ⟨z, hz, _, e⟩ := HG.out.1.need hxn hj0
                unfold need at hjy; omega⟩)
              have HLV := hide hlvy
              clear hy hj0 hjy hlvy
              go_wp2_with fail
              go_loopw [25, 223] (fun nd q wx => ∃ (j : Nat) (b : Bool), j ≤ k2 ∧ nd = .bool b ∧ q = .int .i64 (j : Int) ∧ Hid (hasF (ts x).fn (y : Int) j = b) ∧ Hid (Below ws.heap.size ws wx)) (fun _ q _ => k2 - (intOf q).toNat)
              case atStart => exact ⟨0, false, Nat.zero_le _, rfl, rfl, hide rfl, hide (Below.refl _ _)⟩
              case round =>
                rename World => wx
                obtain ⟨j, b, hjk, rfl, rfl, hbj, hbx⟩ := hrel
                have HBX := hide (HBs.out.trans (hbx.out.mono HBs.out.size))
                have p0 := (hbx.out.cell (p := ⟨bT, oT + x * 2, none⟩) (Nat.lt_of_lt_of_le hbT HBs.out.size)).trans p0
                by_cases hjl : j < k2
                · have HY2 := HY.out
                  rw [HK2.out] at HY2
                  obtain ⟨bY, oY, rfl, hbY, hYr⟩ := HY2.spot (by omega)
                  have d0 := (HBX.out.cell (p := ⟨bY, oY + j, none⟩) hbY).trans (hYr j hjl)
                  have d1 := (HBX.out.cell (p := ⟨bW, oW + pm, none⟩) hbW).trans (HWR.out pm (by omega))
                  rw [HLV.out] at d1
                  have hjx0 : (0 : Int) ≤ (j : Int) := by omega
                  have hjx1 : (j : Int) < (k2 : Int) := by omega
                  obtain ⟨z, hz⟩ : ∃ z, (ts x).fn j = z := ⟨_, rfl⟩
                  rw [hz] at d0
                  have HZ := hide hz
                  clear hYr HY2 hz
                  cases b with
                  | true =>
                    go_wp2
                    go_roundw
                    case rel => exact ⟨j + 1, true, by omega, rfl, by go_num, hide (by simp only [hasF, hbj.out, Bool.true_or]), hbx⟩
                    case measure => simp [intOf]; omega
                  | false =>
                    by_cases hzy : z = (y : Int)
                    · have hzb : (z == (y : Int)) = true := by simp [hzy]
                      have HN := hide (show hasF (ts x).fn (y : Int) (j + 1) = true from by simp only [hasF, hbj.out, HZ.out]; simp [hzy])
                      clear hzy
                      go_wp2
                      go_roundw
                      case rel => exact ⟨j + 1, true, by omega, rfl, by go_num, HN, hbx⟩
                      case measure => simp [intOf]; omega
                    · have hzb : (z == (y : Int)) = false := by simp [hzy]
                      have HN := hide (show hasF (ts x).fn (y : Int) (j + 1) = false from by simp only [hasF, hbj.out, HZ.out]; simp [hzy])
                      clear hzy
                      go_wp2
                      go_roundw
                      case rel => exact ⟨j + 1, false, by omega, rfl, by go_num, HN, hbx⟩
                      case measure => simp [intOf]; omega
                · obtain rfl : j = k2 := by omega
                  obtain rfl : b = true := hbj.out.symm.trans HHAS.out
                  have HBz := hide (HBS.out.trans (hbx.out.mono HBS.out.size))
                  clear hbx HBX HBs HBS
                  go_wp2
                  go_roundw
                  case rel => exact ⟨pm + 1 + 1, by omega, by rw [HLS.out], by go_num, HBz⟩
                  case measure => simp [intOf]; omega
          · have hWt : ls ts (W.take m) = all := by
              obtain rfl : m = W.length := by omega
              rw [List.take_length]; exact HCW.out.sum
            have HZ := hide (HBr.out.trans (hbs.out.mono HBr.out.size))
            rw [hWt]
            have hee : (all == all) = true := by simp
            clear hbs HBr hWt
            go_wp2
            go_ret
            exact ⟨rfl, HZ.out⟩
end Go.Proofs.Ytkfnfgencaplfaa
