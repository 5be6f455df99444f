/-
  The specification's GoodSaga.
-/
import Derived.Test.YtmpedadjikmnhaaSgG
namespace Go.Proofs.Ytmpedadjikmnhaa
open Go.RowKit M
open Clk (upd upd_same upd_other)
open Go.Sort (grow)
open Classical in
set_option maxRecDepth 20000 in
set_option maxHeartbeats 4000000 in
theorem spec_good (v0 v1 : Value) (s : Sg) (b : Bool) (w : World) (hv : SagQ w v0 v1 s.na s.fa s.nm (fl s.fm)) (hs : ShortS s.na s.nm) (hb : b = true ↔ GoodS s) :
    Calls Try.prog 24 #[sgv v0 v1 s] w fun e w' => e = .returned (.bool b) ∧ Below w.heap.size w w' := by
  rw [good_parts] at hb
  obtain ⟨b0, hb0⟩ : ∃ x, decide (Good1 s) = x := ⟨_, rfl⟩
  obtain ⟨b2, hb2⟩ : ∃ x, decide (0 ≤ s.dn ∧ s.dn ≤ (s.nm : Int)) = x := ⟨_, rfl⟩
  obtain ⟨hI, hM⟩ := hv
  obtain ⟨a0, c0, rfl⟩ := hI.form
  obtain ⟨a1, c1, e, hr⟩ := hM.row
  subst e
  have hbA := (Below.refl w.heap.size w).alloc (Nat.le_refl _) (.cells #[.slice a0 s.na c0, .slice a1 s.nm c1, .int .i64 s.dn, .bool s.un] 27)
  have HN := hide (new4 w (.slice a0 s.na c0) (.slice a1 s.nm c1) (.int .i64 s.dn) (.bool s.un) 27)
  have HI := hide hI
  have HR := hide hr
  have HG1 := hide (show b0 = true ↔ Good1 s by rw [← hb0, decide_eq_true_eq])
  have H2 := hide hb2
  have HB := hide hb
  have hn1 : s.nm ≤ 1048576 := hs.2
  have hn0 : s.na ≤ 1048576 := hs.1
  clear hb hb0 hb2 hI hM hr hs
  go_enter Try.func24, Try.ntmps24
  go_wp2_with fail
  refine (l9accounts _ s.na s.fa b0 _ (HI.out.below hbA) hn0 (by rw [HG1.out]; exact Iff.rfl)).mono ?_
  rintro e w1 ⟨rfl, rfl⟩
  cases b0 with
  | false =>
    have HF := hide (show b = false by rw [Bool.eq_false_iff]; intro h; have := HG1.out.2 (HB.out.1 h).1; cases this)
    clear HB HI HR HG1 H2 HN
    go_wp2
    go_ret
    exact ⟨by rw [HF.out]; rfl, hbA⟩
  | true =>
    by_cases h20 : (s.nm : Int) > 20
    · have HF := hide (show b = false by rw [Bool.eq_false_iff]; intro h; have := (HB.out.1 h).2.1.1; omega)
      clear HB HI HR HG1 H2 HN
      go_wp2
      go_ret
      exact ⟨by rw [HF.out]; rfl, hbA⟩
    · go_wp2_with fail
      refine (l1in_to _ _ _ b2 _ H2.out).mono ?_
      rintro e w2 ⟨rfl, rfl⟩
      cases b2 with
      | false =>
        have HF := hide (show b = false by
          rw [Bool.eq_false_iff]; intro h
          have h1 := (HB.out.1 h).2.2.1
          have h2 := H2.out
          rw [decide_eq_false_iff_not] at h2
          exact h2 h1)
        clear HB HI HR HG1 H2 HN
        go_wp2
        go_ret
        exact ⟨by rw [HF.out]; rfl, hbA⟩
      | true =>
        obtain ⟨d, hd, hdn⟩ : ∃ d : Nat, s.dn = (d : Int) ∧ d ≤ s.nm := by
          have h2 := H2.out
          rw [decide_eq_true_eq] at h2
          exact ⟨s.dn.toNat, by omega, by omega⟩
        have HG := hide (HG1.out.1 (by trivial))
        have hna1 : 1 ≤ s.na := by have := HG.out.1.1; omega
        have hna8 : s.na ≤ 8 := by have := HG.out.1.2; omega
        have HBd := hide (show b = true ↔ Good2 s ∧ Und s.fm d s.fa by
          rw [HB.out, hd, Int.toNat_natCast]; exact ⟨fun h => ⟨h.2.1, h.2.2.2⟩, fun h => ⟨HG.out, h.1, ⟨by omega, by omega⟩, h.2⟩⟩)
        rw [hd]
        rw [hd] at HN hbA
        clear HB H2 HG1 hd
        obtain ⟨na, fa, nm, fm, dn, un⟩ := s
        simp only at *
        obtain ⟨⟨x0, x1, x2, -⟩, -⟩ := HN.out.quad
        obtain ⟨W, hW⟩ : ∃ W, w.alloc (.cells #[.slice a0 na c0, .slice a1 nm c1, .int .i64 (d : Int), .bool un] 27) = W := ⟨_, rfl⟩
        rw [hW] at HN hbA ⊢
        clear x0 x1 x2 hW
        obtain ⟨⟨x0, x1, x2, -⟩, -⟩ := HN.out.quad
        go_wp2_with fail
        go_loopw [4, 31] (fun _ i wr => ∃ k : Nat, k ≤ nm ∧ i = .int .i64 k ∧ Hid (∀ q, q < k → GMz (na : Int) (fm q)) ∧ Hid (Below W.heap.size W wr)) (fun _ i _ => nm - (intOf i).toNat)
        case atStart => exact ⟨0, Nat.zero_le _, rfl, hide fun q hq => absurd hq (by omega), hide (Below.refl _ _)⟩
        case round =>
          rename World => wo
          obtain ⟨k, hk, rfl, HP, HW⟩ := hrel
          obtain ⟨⟨y0, y1, y2, -⟩, -⟩ := (HN.out.down HW.out).quad
          have hbw := hbA.trans (HW.out.mono hbA.size)
          by_cases hlt : k < nm
          · obtain ⟨bb, off, rfl, hbb, hrow⟩ := HR.out (by omega)
            obtain ⟨q0, q1, q2⟩ := hrow k hlt
            have z0 := (hbw.cell (p := ⟨bb, off + k * 3, none⟩) hbb).trans q0
            have z1 := (hbw.cell (p := ⟨bb, off + k * 3 + 1, none⟩) hbb).trans q1
            have z2 := (hbw.cell (p := ⟨bb, off + k * 3 + 2, none⟩) hbb).trans q2
            have hbx := (Below.refl wo.heap.size wo).alloc (Nat.le_refl _) (.cells #[.int .i64 (fm k).f, .int .i64 (fm k).t, .int .i64 (fm k).m] 55)
            obtain ⟨b1, hb1⟩ : ∃ x, decide (GMz (na : Int) (fm k)) = x := ⟨_, rfl⟩
            have HP2 := hide (show b1 = true → ∀ q, q < k + 1 → GMz (na : Int) (fm q) from fun h q hq => by
              by_cases e : q = k
              · rw [e]; rw [← hb1, decide_eq_true_eq] at h; exact h
              · exact HP.out q (by omega))
            have HF := hide (show b1 = false → b = false from fun h => by
                rw [Bool.eq_false_iff]; intro h2; rw [← hb1, decide_eq_false_iff_not] at h; exact h ((HBd.out.1 h2).1.2 k hlt))
            have HC := hide (show ∀ W : World, Calls Try.prog 48 #[.agg #[.int .i64 (fm k).f, .int .i64 (fm k).t, .int .i64 (fm k).m], .int .i64 (na : Int)] W fun e w' => e = .returned (.bool b1) ∧ Below W.heap.size W w' from fun W => l9Move_to (fm k) (na : Int) b1 W (by omega) (by omega) hb1)
            have hlW : w.heap.size < wo.heap.size := Nat.lt_of_lt_of_le HN.out.lt HW.out.size
            have hlN : w.heap.size ≠ wo.heap.size := by omega
            clear HR hrow HP HBd q0 q1 q2 hb1 HI HG
            generalize (fm k).f = r0 at *
            generalize (fm k).t = r1 at *
            generalize (fm k).m = r2 at *
            go_wp2_with fail
            refine (HC.out _).mono ?_
            rintro e w1 ⟨rfl, hb⟩
            have hbz := HW.out.trans ((hbx.trans (hb.mono hbx.size)).mono HW.out.size)
            have HBz := hide hbz
            clear hb HC hbx
            cases b1 with
            | true =>
              have HP3 := hide (HP2.out rfl)
              clear HP2 HF hbz
              go_wp2
              go_roundw
              case rel => exact ⟨k + 1, by omega, by go_num, HP3, HBz⟩
              case measure => simp [intOf]; omega
            | false =>
              have HF3 := hide (HF.out rfl)
              have hbf := hbA.trans (hbz.mono hbA.size)
              clear HP2 HF hbz
              go_wp2
              go_ret
              exact ⟨by rw [HF3.out]; rfl, hbf⟩
          · obtain rfl : nm = k := by omega
            have HG2 := hide (show Good2 ⟨na, fa, nm, fm, dn, un⟩ from ⟨show nm ≤ 20 by omega, HP.out⟩)
            have HU := hide (show b = true ↔ Und fm d fa by rw [HBd.out]; exact ⟨fun h => h.2, fun h => ⟨HG2.out, h⟩⟩)
            have HNo := hide (HN.out.down HW.out)
            have HIo := hide (HI.out.below hbw)
            have HBo := hide hbw
            have hd20 : (d : Int) ≤ 20 := by omega
            clear HBd HP HW HN HI hbA x0 x1 x2 hbw
            go_wp2_with fail
            go_loopw [5, 6, 7, 8] (fun vl i _ _ wr => ∃ (k : Nat) (a : Option Addr) (cp : Nat), k ≤ d ∧ i = .int .i64 ((d : Int) - 1 - k) ∧ vl = .slice a na cp ∧ Hid (Below wo.heap.size wo wr) ∧ Hid (∃ fx, IntsOf wr (.slice a na cp) na fx ∧ Acc na fx ∧ (Und fm d fa ↔ Und fm (d - k) fx))) (fun _ i _ _ _ => (intOf i + 1).toNat)
            case atStart => exact ⟨0, a0, c0, Nat.zero_le _, by go_num, rfl, hide (Below.refl _ _), hide ⟨fa, HIo.out, HG.out.2, Iff.rfl⟩⟩
            case round =>
              rename World => wq
              obtain ⟨k, a, cp, hk, rfl, rfl, HW, HX⟩ := hrel
              obtain ⟨⟨g0, g1, g2, -⟩, -⟩ := (HNo.out.down HW.out).quad
              have hbw := HBo.out.trans (HW.out.mono HBo.out.size)
              by_cases hlt : k < d
              · obtain ⟨fx, hx1, hx2, hx3⟩ := HX.out
                obtain ⟨bb, off, rfl, hbb, hrow⟩ := HR.out (by omega)
                obtain ⟨q0, q1, q2⟩ := hrow (d - 1 - k) (by omega)
                have z0 := (hbw.cell (p := ⟨bb, off + (d - 1 - k) * 3, none⟩) hbb).trans q0
                have z1 := (hbw.cell (p := ⟨bb, off + (d - 1 - k) * 3 + 1, none⟩) hbb).trans q1
                have z2 := (hbw.cell (p := ⟨bb, off + (d - 1 - k) * 3 + 2, none⟩) hbb).trans q2
                have hm : GM na (fm (d - 1 - k)) := HG2.out.2 (d - 1 - k) (show d - 1 - k < nm by omega)
                have hnat : ((d : Int) - 1 - k) = ((d - 1 - k : Nat) : Int) := by omega
                have hp0 : (0 : Int) ≤ ((d - 1 - k : Nat) : Int) := by omega
                have hp1 : ((d - 1 - k : Nat) : Int) < (nm : Int) := by omega
                have HMe := hide (show ((d - 1 - k : Nat) : Int) - 1 = (d : Int) - 1 - ((k + 1 : Nat) : Int) by omega)
                have hUn : Und fm (d - k) fx ↔ fit fx (bk (fm (d - 1 - k))) ∧ Und fm (d - (k + 1)) (shf fx (bk (fm (d - 1 - k)))) := by
                  rw [show d - k = (d - 1 - k) + 1 by omega, show d - (k + 1) = d - 1 - k by omega]; exact Iff.rfl
                obtain ⟨b1, hb1⟩ : ∃ x, decide (fit fx (bk (fm (d - 1 - k)))) = x := ⟨_, rfl⟩
                have HE1 := hide (show ∀ W : World, Calls Try.prog 50 #[.agg #[.int .i64 (fm (d - 1 - k)).f, .int .i64 (fm (d - 1 - k)).t, .int .i64 (fm (d - 1 - k)).m]] W fun e w' => e = .returned (mvv (bk (fm (d - 1 - k)))) ∧ Below W.heap.size W w' from fun W => l9back_is _ W)
                have HE2 := hide (show ∀ W : World, Below wq.heap.size wq W → Calls Try.prog 49 #[.slice a na cp, mvv (bk (fm (d - 1 - k)))] W fun e w' => (∃ u, e = .returned (.tuple #[u, .bool b1]) ∧ OwnI w' W.heap.size w'.heap.size u na (shf fx (bk (fm (d - 1 - k))))) ∧ Below W.heap.size W w' from fun W hW => l9do_is (bk (fm (d - 1 - k))) _ na fx b1 W (GM.back hm) (hx1.below hW) hx2 hna8 hb1)
                have HU1 := hide (show b1 = true → Acc na (shf fx (bk (fm (d - 1 - k)))) ∧ (Und fm d fa ↔ Und fm (d - (k + 1)) (shf fx (bk (fm (d - 1 - k))))) from fun h => by
                  rw [← hb1, decide_eq_true_eq] at h
                  refine ⟨acc_shf (GM.back hm) hx2 h, ?_⟩
                  rw [hx3, hUn]; exact ⟨fun h => h.2, fun h' => ⟨h, h'⟩⟩)
                have HU2 := hide (show b1 = false → b = false from fun h => by
                  rw [← hb1, decide_eq_false_iff_not] at h
                  rw [Bool.eq_false_iff]; intro h2
                  have := HU.out.1 h2
                  rw [hx3, hUn] at this
                  exact h this.1)
                rw [hnat]
                generalize shf fx (bk (fm (d - 1 - k))) = fy at *
                generalize bk (fm (d - 1 - k)) = mb at *
                generalize fm (d - 1 - k) = m at *
                generalize d - 1 - k = p at *
                clear hrow q0 q1 q2 hm hUn hb1 hx1 hx2 hx3 HX HR HIo HG HG2
                go_wp2_with fail
                refine (HE1.out _).mono ?_
                rintro e w5 ⟨rfl, hb5⟩
                go_wp2_with fail
                refine (HE2.out _ hb5).mono ?_
                rintro e w6 ⟨⟨u, rfl, hu⟩, hb6⟩
                obtain ⟨a6, c6, rfl⟩ := hu.ints.form
                have HI6 := hide hu.ints
                have hbz := HW.out.trans ((hb5.trans (hb6.mono hb5.size)).mono HW.out.size)
                have HBz := hide hbz
                clear HE1 HE2 hb5 hb6 hu
                cases b1 with
                | true =>
                  obtain ⟨p1, p2⟩ := HU1.out rfl
                  have HX3 := hide (show ∃ fx, IntsOf w6 (.slice a6 na c6) na fx ∧ Acc na fx ∧ (Und fm d fa ↔ Und fm (d - (k + 1)) fx) from ⟨fy, HI6.out, p1, p2⟩)
                  clear HU1 HU2 HI6 p1 p2 hbz
                  go_wp2
                  go_roundw
                  case rel => exact ⟨k + 1, a6, c6, by omega, by rw [← HMe.out], rfl, HBz, HX3⟩
                  case measure => simp [intOf]
                | false =>
                  have HF3 := hide (HU2.out rfl)
                  have hbf := HBo.out.trans (hbz.mono HBo.out.size)
                  clear HU1 HU2 HI6 hbz
                  go_wp2
                  go_ret
                  exact ⟨by rw [HF3.out]; rfl, hbf⟩
              · obtain rfl : k = d := by omega
                have HF := hide (show b = true by
                  obtain ⟨fx, hx1, hx2, hx3⟩ := HX.out
                  rw [HU.out, hx3, Nat.sub_self]; trivial)
                have hne : ¬ ((k : Int) - 1 - k ≥ 0) := by omega
                clear HX HR HU HG2 HNo HIo HG
                go_wp2
                go_ret
                exact ⟨by rw [HF.out]; rfl, hbw⟩
end Go.Proofs.Ytmpedadjikmnhaa
