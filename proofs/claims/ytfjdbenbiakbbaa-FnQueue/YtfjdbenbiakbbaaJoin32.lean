/-
  Which queues are good: the specification's text.
-/
import Derived.Test.YtfjdbenbiakbbaaJoin14
namespace Go.Proofs.Ytfjdbenbiakbbaa
open Go.RowKit M
open Go.Sort (grow)
namespace M
theorem neS (a b : ByteArray) : (a.toList != b.toList) = decide (a ≠ b) := by
  unfold bne; rw [eqS]; simp
end M
set_option maxRecDepth 20000 in
set_option maxHeartbeats 4000000 in
theorem spec_goodQ (v1 v3 v4 : Value) (q : Qu) (b : Bool) (w : World) (hv : QuQ w v1 v3 v4 q) (hs : ShortQ q) (hn : ∀ x ∈ q.sent, x.size ≤ maxLen) (hb : BP b (GoodQ q)) :
    Calls Try.prog 40 #[qv v1 v3 v4 q] w fun e w' => e = .returned (.bool b) ∧ Below w.heap.size w w' := by
  have HY := hide hv
  have HS := hide hs
  have HN := hide hn
  have HB := hide hb
  obtain ⟨a1, c1, rfl⟩ := hv.s.form
  obtain ⟨a3, c3, rfl⟩ := hv.g.form
  obtain ⟨a4, c4, rfl⟩ := hv.l.form
  clear hv hs hn hb
  have hbA := (Below.refl w.heap.size w).alloc (Nat.le_refl _) (.cells (qarr (.slice a1 q.sent.length c1) (.slice a3 q.got.length c3) (.slice a4 q.line.length c4) q) 32)
  have HX0 := hide (show Blk (w.alloc (.cells (qarr (.slice a1 q.sent.length c1) (.slice a3 q.got.length c3) (.slice a4 q.line.length c4) q) 32)) w.heap.size 5 (qf (.slice a1 q.sent.length c1) (.slice a3 q.got.length c3) (.slice a4 q.line.length c4) q) 32 from newW5 w _ _ _ _ _ 32)
  have ks := HS.out.s
  have kg := HS.out.g
  have kl := HS.out.l
  cases h1 : inB q.win 1 10 with
  | false =>
    have HF := hide (BP.no HB.out (fun h => by have h2 := (inB_iff q.win 1 10).2 ⟨h.w0, h.w1⟩; rw [h1] at h2; cases h2))
    go_enter Try.func40, Try.ntmps40
    go_wp2_with (go_at_call 68; refine (spec_in _ _ _ _).mono ?_; rintro e w' ⟨rfl, rfl⟩; first | rw [h1])
    go_ret
    exact ⟨ret_bool HF.out.symm, hbA⟩
  | true =>
  by_cases h2 : q.sent.length ≤ 40
  case neg =>
    have HF := hide (BP.no HB.out (fun h => h2 h.s40))
    go_enter Try.func40, Try.ntmps40
    go_wp2_with (go_at_call 68; refine (spec_in _ _ _ _).mono ?_; rintro e w' ⟨rfl, rfl⟩; first | rw [h1])
    go_ret
    exact ⟨ret_bool HF.out.symm, hbA⟩
  by_cases h3 : q.got.length ≤ q.sent.length
  case neg =>
    have HF := hide (BP.no HB.out (fun h => h3 h.gs))
    go_enter Try.func40, Try.ntmps40
    go_wp2_with (go_at_call 68; refine (spec_in _ _ _ _).mono ?_; rintro e w' ⟨rfl, rfl⟩; first | rw [h1])
    go_ret
    exact ⟨ret_bool HF.out.symm, hbA⟩
  cases h4 : inB q.base 0 (q.got.length : Int) with
  | false =>
    have HF := hide (BP.no HB.out (fun h => by have h5 := (inB_iff q.base 0 (q.got.length : Int)).2 ⟨h.b0, h.bg⟩; rw [h4] at h5; cases h5))
    go_enter Try.func40, Try.ntmps40
    go_wp2_with (go_at_call 68; refine (spec_in _ _ _ _).mono ?_; rintro e w' ⟨rfl, rfl⟩; first | rw [h1] | rw [h4])
    go_ret
    exact ⟨ret_bool HF.out.symm, hbA⟩
  | true =>
  by_cases h5 : q.line.length ≤ 40
  case neg =>
    have HF := hide (BP.no HB.out (fun h => h5 h.l40))
    go_enter Try.func40, Try.ntmps40
    go_wp2_with (go_at_call 68; refine (spec_in _ _ _ _).mono ?_; rintro e w' ⟨rfl, rfl⟩; first | rw [h1] | rw [h4])
    go_ret
    exact ⟨ret_bool HF.out.symm, hbA⟩
  have hD : Head q := ⟨((inB_iff _ _ _).1 h1).1, ((inB_iff _ _ _).1 h1).2, h2, h3, ((inB_iff _ _ _).1 h4).1, ((inB_iff _ _ _).1 h4).2, h5⟩
  have HD := hide hD
  have d2 : decide ((40 : Int) < (q.sent.length : Int)) = false := decide_eq_false (by omega)
  have d3 : decide (q.sent.length < q.got.length) = false := decide_eq_false (by omega)
  have d4 : decide ((q.sent.length : Int) < (q.got.length : Int)) = false := decide_eq_false (by omega)
  have d5 : decide ((40 : Int) < (q.line.length : Int)) = false := decide_eq_false (by omega)
  go_enter Try.func40, Try.ntmps40
  go_wp2_with (go_at_call 68; refine (spec_in _ _ _ _).mono ?_; rintro e w' ⟨rfl, rfl⟩; first | rw [h1] | rw [h4])
  clear h1 h4 hD d2 d3 d4 d5
  go_loopw [44] (fun i wr => ∃ k : Nat, k ≤ q.sent.length ∧ i = .int .i64 k ∧ Hid (∀ j, j < k → TxAt q j) ∧ Hid (Blk wr w.heap.size 5 (qf (.slice a1 q.sent.length c1) (.slice a3 q.got.length c3) (.slice a4 q.line.length c4) q) 32) ∧ Below w.heap.size w wr) (fun i _ => q.sent.length - (intOf i).toNat)
  case atStart => exact ⟨0, Nat.zero_le _, rfl, hide (fun j hj => absurd hj (Nat.not_lt_zero _)), HX0, hbA⟩
  case round =>
    rename World => wo
    obtain ⟨k, hk, rfl, HU, HXo, hbo⟩ := hrel
    clear HX0 hbA
    obtain ⟨⟨y0, y1, y2, y3, y4⟩, -⟩ := HXo.out.pen
    by_cases hlt : k < q.sent.length
    · obtain ⟨a, c, hv1, hr⟩ := HY.out.s
      simp only [Value.slice.injEq, true_and] at hv1
      obtain ⟨rfl, rfl⟩ := hv1
      obtain ⟨b1, o1, rfl, hb1, hrow⟩ := hr (by omega)
      obtain ⟨x, hx⟩ : ∃ x, q.sent[k]? = some x := ⟨_, List.getElem?_eq_getElem hlt⟩
      have z0 := (hbo.cell (p := ⟨b1, o1 + k, none⟩) hb1).trans (hrow k x hx)
      have hxs : x.size ≤ 9223372036854775807 := by have := HN.out x (List.mem_of_getElem? hx); unfold maxLen at this; omega
      have HX := hide hx
      clear hr hrow hx
      by_cases hx12 : x.size ≤ 12
      case neg =>
        have HF := hide (BP.no HB.out (fun h => hx12 (h.tx k x HX.out)))
        go_wp2
        go_ret
        exact ⟨ret_bool HF.out.symm, hbo⟩
      by_cases hkg : k < q.got.length
      case neg =>
        have HU2 := hide (show ∀ j, j < k + 1 → TxAt q j from fun j hj => by
          rcases (show j < k ∨ j = k by omega) with h | h
          · exact HU.out j h
          · subst h
            intro y hy
            rw [HX.out] at hy
            simp only [Option.some.injEq] at hy
            subst hy; exact ⟨hx12, fun h => absurd h hkg⟩)
        clear HU
        go_wp2
        go_roundw
        case rel => exact ⟨k + 1, by omega, by go_num, HU2, HXo, hbo⟩
        case measure => simp [intOf]; omega
      obtain ⟨a', c', hv3, hr⟩ := HY.out.g
      simp only [Value.slice.injEq, true_and] at hv3
      obtain ⟨rfl, rfl⟩ := hv3
      obtain ⟨b3, o3, rfl, hb3, hrow⟩ := hr (by omega)
      obtain ⟨y, hy⟩ : ∃ y, q.got[k]? = some y := ⟨_, List.getElem?_eq_getElem hkg⟩
      have z1 := (hbo.cell (p := ⟨b3, o3 + k, none⟩) hb3).trans (hrow k y hy)
      have HY2 := hide hy
      clear hr hrow hy
      by_cases hxy : y = x
      · have HU2 := hide (show ∀ j, j < k + 1 → TxAt q j from fun j hj => by
          rcases (show j < k ∨ j = k by omega) with h | h
          · exact HU.out j h
          · subst h
            intro u hu
            rw [HX.out] at hu
            simp only [Option.some.injEq] at hu
            subst hu; exact ⟨hx12, fun _ => by rw [HY2.out, hxy]⟩)
        subst hxy
        have hx12' : decide (12 < (y.size : Int)) = false := decide_eq_false (by omega)
        have hkg' : decide (k < q.got.length) = true := decide_eq_true hkg
        clear HU
        go_wp2
        go_roundw
        case rel => exact ⟨k + 1, by omega, by go_num, HU2, HXo, hbo⟩
        case measure => simp [intOf]; omega
      · have HF := hide (BP.no HB.out (fun h => hxy (by
          have h6 := h.beg k x hkg HX.out
          have h7 := HY2.out
          rw [h6] at h7
          simpa using h7.symm)))
        have hd : (y.toList == x.toList) = false := by rw [eqS]; exact decide_eq_false hxy
        have hx12' : decide (12 < (x.size : Int)) = false := decide_eq_false (by omega)
        have hkg' : decide (k < q.got.length) = true := decide_eq_true hkg
        clear HU hxy
        go_wp2
        go_ret
        exact ⟨ret_bool HF.out.symm, hbo⟩
    · have HT := hide (show ∀ i, i < q.sent.length → TxAt q i from fun j hj => HU.out j (by omega))
      clear HU HN
      go_wp2
      clear y0 y1 y2 y3 y4
      go_loopw [72] (fun i wr => ∃ k : Nat, k ≤ q.line.length ∧ i = .int .i64 k ∧ Hid (∀ j, j < k → PkAt q j) ∧ Hid (Blk wr w.heap.size 5 (qf (.slice a1 q.sent.length c1) (.slice a3 q.got.length c3) (.slice a4 q.line.length c4) q) 32) ∧ Below w.heap.size w wr) (fun i _ => q.line.length - (intOf i).toNat)
      case atStart => exact ⟨0, Nat.zero_le _, rfl, hide (fun j hj => absurd hj (Nat.not_lt_zero _)), HXo, hbo⟩
      case round =>
        rename World => wr
        obtain ⟨m, hm, rfl, HU, HX, hbw⟩ := hrel
        clear HXo hbo
        by_cases hlt2 : m < q.line.length
        · obtain ⟨a, c, hv4, hr⟩ := HY.out.l
          simp only [Value.slice.injEq, true_and] at hv4
          obtain ⟨rfl, rfl⟩ := hv4
          obtain ⟨b4, o4, rfl, hb4, hrow⟩ := hr (by omega)
          obtain ⟨p, hp⟩ : ∃ p, q.line[m]? = some p := ⟨_, List.getElem?_eq_getElem hlt2⟩
          obtain ⟨z0, z1, z2⟩ := (hrow m p hp).below hbw hb4
          have HP := hide hp
          have hbw2 := hbw.alloc hbw.size (.cells #[.bool p.ack, .int .i64 p.no, .string p.tx] 88)
          have HX3 := hide (HX.out.alloc (.cells #[.bool p.ack, .int .i64 p.no, .string p.tx] 88))
          obtain ⟨⟨y0, y1, y2, y3, y4⟩, -⟩ := HX3.out.pen
          have HW0 := hide (HU.out)
          have HNo := hide (fun h : ¬ PkOk q p => BP.no HB.out (fun h2 => h (h2.pk m p HP.out)))
          have HYes := hide (fun h : PkOk q p => (show ∀ j, j < m + 1 → PkAt q j from fun j hj => by
            rcases (show j < m ∨ j = m by omega) with h6 | h6
            · exact HW0.out j h6
            · subst h6
              intro x hx
              rw [HP.out] at hx
              simp only [Option.some.injEq] at hx
              subst hx; exact h))
          clear hr hrow hp HX HU
          obtain ⟨ack, no, tx⟩ := p
          cases ack with
          | true =>
            have HK := hide ((ok_ack (q := q) (p := ⟨true, no, tx⟩) rfl))
            cases h1 : inB no 0 (q.got.length : Int) with
            | false =>
              have HF := hide (HNo.out (fun h => by
                have h7 := (HK.out.1 h).1
                have h8 := (inB_iff no 0 (q.got.length : Int)).2 h7
                rw [h1] at h8; cases h8))
              go_wp2_with (go_at_call 68; refine (spec_in _ _ _ _).mono ?_; rintro e w' ⟨rfl, rfl⟩; first | rw [h1])
              go_ret
              exact ⟨ret_bool HF.out.symm, hbw2⟩
            | true =>
              by_cases hx : tx = ⟨#[]⟩
              · subst hx
                have HU2 := hide (HYes.out (HK.out.2 ⟨(inB_iff _ _ _).1 h1, rfl⟩))
                go_wp2_with (go_at_call 68; refine (spec_in _ _ _ _).mono ?_; rintro e w' ⟨rfl, rfl⟩; first | rw [h1])
                go_roundw
                case rel => exact ⟨m + 1, by omega, by go_num, HU2, HX3, hbw2⟩
                case measure => simp [intOf]; omega
              · have HF := hide (HNo.out (fun h => hx (HK.out.1 h).2))
                have hx1 : tx.toList ≠ [] := tx_nil hx
                have hx2 : (tx.toList == (⟨#[]⟩ : ByteArray).toList) = false := by rw [eqS]; exact decide_eq_false hx
                have hx3 : (tx.toList == []) = false := by simpa using hx1
                clear hx
                go_wp2_with (go_at_call 68; refine (spec_in _ _ _ _).mono ?_; rintro e w' ⟨rfl, rfl⟩; first | rw [h1])
                go_ret
                exact ⟨ret_bool HF.out.symm, hbw2⟩
          | false =>
            have HK := hide ((ok_text (q := q) (p := ⟨false, no, tx⟩) rfl))
            obtain ⟨W1, hW1⟩ : ∃ W1, wr.alloc (.cells #[.bool false, .int .i64 no, .string tx] 88) = W1 := ⟨_, rfl⟩
            have hq2 : Blk W1 wr.heap.size 3 (qp ⟨false, no, tx⟩) 88 := by rw [← hW1]; exact newT3 wr _ _ _ 88
            have hy0 : W1.cell? ⟨w.heap.size, 0, none⟩ = some (.int .i64 q.win) := by rw [← hW1]; exact y0
            have hy1 : W1.cell? ⟨w.heap.size, 1, none⟩ = some (.slice a1 q.sent.length c1) := by rw [← hW1]; exact y1
            have hy2 : W1.cell? ⟨w.heap.size, 2, none⟩ = some (.int .i64 q.base) := by rw [← hW1]; exact y2
            obtain ⟨⟨t0, t1, t2⟩, -⟩ := hq2.trp
            have r0 := cell_regrown hy0
            have r1 := cell_regrown hy1
            have r2 := cell_regrown hy2
            have s1 := cell_regrown t1
            have s2 := cell_regrown t2
            have HX4 := HX3
            rw [hW1] at HX4
            have hbw3 : Below w.heap.size w W1 := by rw [← hW1]; exact hbw2
            have HW := hide hW1
            have HE := hide (show ∀ d os, Calls Try.prog 68 #[.int .i64 no, .int .i64 0, .int .i64 ((q.sent.length : Int) - 1)] (grow (redrawn W1 d) os) fun e w'' => e = .returned (.bool (inB no 0 ((q.sent.length : Int) - 1))) ∧ ∃ p : Regrown, w'' = grow (redrawn W1 p.d) p.os from fun d os => Calls.regrown_of ((spec_in _ _ _ _).mono fun e w' h => ⟨h.1, by rw [h.2]; exact Below.refl _ _⟩))
            have e0 := HD.out.w0
            have e1 := HD.out.w1
            have e2 := HD.out.b0
            have e3 : q.base ≤ 40 := by have := HD.out.bg; omega
            clear hW1 hq2 hy0 hy1 hy2 t0 t1 t2 y0 y1 y2 y3 y4 HX3 hbw2
            have hQ : ∀ (g : Bool), True := fun _ => trivial
            clear hQ
            cases h1 : inB no 0 ((q.sent.length : Int) - 1) with
            | false =>
              have HF := hide (HNo.out (fun h => by
                have h7 : 0 ≤ no ∧ no ≤ eow q - 1 := (HK.out.1 h).1
                rw [eow_iff] at h7
                have h8 := (inB_iff no 0 ((q.sent.length : Int) - 1)).2 ⟨h7.1, by omega⟩
                rw [h1] at h8; cases h8))
              rw [h1] at HE
              go_wp2
              rw [HW.out]
              refine wp_region_quiet_below (by kernel_rfl) (by kernel_rfl) ?_
              repeat (go_big_quiet_step (exact HE.out _ _))
              refine wpQuiet_nil ?_
              intro _ hw'
              obtain ⟨⟨dq, osq⟩, hw''⟩ := hw'
              subst hw''
              have hbw4 := hbw3.trans ((below_regrown W1 dq osq).mono hbw3.size)
              clear HE
              go_wp2
              go_ret
              exact ⟨ret_bool HF.out.symm, hbw4⟩
            | true =>
              have h7 := (inB_iff _ _ _).1 h1
              rw [h1] at HE
              by_cases h8 : no < q.base + q.win
              case neg =>
                have HF := hide (HNo.out (fun h => by
                  have h9 : 0 ≤ no ∧ no ≤ eow q - 1 := (HK.out.1 h).1
                  rw [eow_iff] at h9; omega))
                have hd1 : decide (no ≥ q.base + q.win) = true := decide_eq_true (by omega)
                have hd2 : decide (q.base + q.win ≤ no) = true := decide_eq_true (by omega)
                go_wp2
                rw [HW.out]
                refine wp_region_quiet_below (by kernel_rfl) (by kernel_rfl) ?_
                repeat (go_big_quiet_step (exact HE.out _ _))
                refine wpQuiet_nil ?_
                intro _ hw'
                obtain ⟨⟨dq, osq⟩, hw''⟩ := hw'
                subst hw''
                have hbw4 := hbw3.trans ((below_regrown W1 dq osq).mono hbw3.size)
                clear HE
                go_wp2
                go_ret
                exact ⟨ret_bool HF.out.symm, hbw4⟩
              have hd1 : decide (no ≥ q.base + q.win) = false := decide_eq_false (by omega)
              have hd2 : decide (q.base + q.win ≤ no) = false := decide_eq_false (by omega)
              have i0 : 0 ≤ no := h7.1
              have i1 : no < (q.sent.length : Int) := by omega
              obtain ⟨a, cc, hv1, hr⟩ := HY.out.s
              simp only [Value.slice.injEq, true_and] at hv1
              obtain ⟨rfl, rfl⟩ := hv1
              obtain ⟨b1, o1, rfl, hb1, hrow⟩ := hr (by omega)
              obtain ⟨y, hy⟩ : ∃ y, q.sent[no.toNat]? = some y := ⟨_, List.getElem?_eq_getElem (by omega)⟩
              have u1 := cell_regrown ((hbw3.cell (p := ⟨b1, o1 + no.toNat, none⟩) hb1).trans (hrow _ y hy))
              have HYY := hide hy
              have HI := hide (show (0 ≤ no ∧ no ≤ eow q - 1) from ⟨i0, (eow_iff q no).2 ⟨i1, h8⟩⟩)
              clear hr hrow hy h7 h8
              by_cases hxy : tx = y
              · have HU2 := hide (HYes.out (HK.out.2 ⟨HI.out, by rw [HYY.out, hxy]⟩))
                have hd : (tx.toList == y.toList) = true := by rw [eqS]; exact decide_eq_true hxy
                clear hxy
                go_wp2
                rw [HW.out]
                refine wp_region_quiet_below (by kernel_rfl) (by kernel_rfl) ?_
                repeat (go_big_quiet_step (exact HE.out _ _))
                refine wpQuiet_nil ?_
                intro _ hw'
                obtain ⟨⟨dq, osq⟩, hw''⟩ := hw'
                subst hw''
                have hbw4 := hbw3.trans ((below_regrown W1 dq osq).mono hbw3.size)
                have HX5 := hide (HX4.out.down (below_regrown W1 dq osq))
                clear HE
                go_wp2
                go_roundw
                case rel => exact ⟨m + 1, by omega, by go_num, HU2, HX5, hbw4⟩
                case measure => simp [intOf]; omega
              · have HF := hide (HNo.out (fun h => hxy (by
                  have h4 := (HK.out.1 h).2
                  have h5 := HYY.out
                  rw [h4] at h5
                  simpa using h5)))
                have hd : (tx.toList == y.toList) = false := by rw [eqS]; exact decide_eq_false hxy
                clear hxy
                go_wp2
                rw [HW.out]
                refine wp_region_quiet_below (by kernel_rfl) (by kernel_rfl) ?_
                repeat (go_big_quiet_step (exact HE.out _ _))
                refine wpQuiet_nil ?_
                intro _ hw'
                obtain ⟨⟨dq, osq⟩, hw''⟩ := hw'
                subst hw''
                have hbw4 := hbw3.trans ((below_regrown W1 dq osq).mono hbw3.size)
                clear HE
                go_wp2
                go_ret
                exact ⟨ret_bool HF.out.symm, hbw4⟩
        · have HF := hide (BP.yes HB.out ((goodQ_iff q).2 ⟨HD.out, HT.out, fun j hj => HU.out j (by omega)⟩))
          clear HU HX HY
          go_wp2
          go_ret
          exact ⟨ret_bool HF.out.symm, hbw⟩
set_option maxHeartbeats 1000000 in
theorem spec_waiting (v1 v3 v4 : Value) (q : Qu) (b : Bool) (w : World) (hv : QuQ w v1 v3 v4 q) (hs : ShortQ q) (hn : ∀ x ∈ q.sent, x.size ≤ maxLen) (hb : BP b (GoodQ q)) :
    Calls Try.prog 27 #[qv v1 v3 v4 q] w fun e w' => e = .returned (.tuple #[.int .i64 (if b = true then (q.sent.length : Int) - q.got.length else 0), .bool b]) ∧ Below w.heap.size w w' := by
  have HY := hide hv
  have HS := hide hs
  have HN := hide hn
  have HB := hide hb
  obtain ⟨a1, c1, rfl⟩ := hv.s.form
  obtain ⟨a3, c3, rfl⟩ := hv.g.form
  obtain ⟨a4, c4, rfl⟩ := hv.l.form
  clear hv hs hn hb
  have hbA := (Below.refl w.heap.size w).alloc (Nat.le_refl _) (.cells (qarr (.slice a1 q.sent.length c1) (.slice a3 q.got.length c3) (.slice a4 q.line.length c4) q) 32)
  have HX0 := hide (show Blk (w.alloc (.cells (qarr (.slice a1 q.sent.length c1) (.slice a3 q.got.length c3) (.slice a4 q.line.length c4) q) 32)) w.heap.size 5 (qf (.slice a1 q.sent.length c1) (.slice a3 q.got.length c3) (.slice a4 q.line.length c4) q) 32 from newW5 w _ _ _ _ _ 32)
  go_enter Try.func27, Try.ntmps27
  go_wp2_with fail
  refine (spec_goodQ _ _ _ q b _ (HY.out.below hbA) HS.out HN.out HB.out).mono ?_
  rintro e w2 ⟨rfl, hb2⟩
  have hbB := hbA.trans (hb2.mono hbA.size)
  obtain ⟨⟨y0, y1, y2, y3, y4⟩, -⟩ := (HX0.out.down hb2).pen
  have k1 := HS.out.s
  have k2 := HS.out.g
  clear hb2 hbA HX0
  cases b with
  | false =>
    go_wp2
    exact bodyPost_ret (v := .tuple #[.int .i64 0, .bool false]) (by simp [results, Try.results27, go_sem]) rfl ⟨rfl, hbB⟩
  | true =>
    go_wp2
    exact bodyPost_ret (v := .tuple #[.int .i64 ((q.sent.length : Int) - q.got.length), .bool true]) (by simp [results, Try.results27, go_sem]) rfl ⟨rfl, hbB⟩
end Go.Proofs.Ytfjdbenbiakbbaa
