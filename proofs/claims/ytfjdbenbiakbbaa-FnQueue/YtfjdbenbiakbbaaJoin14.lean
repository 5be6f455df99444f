/-
  Which queues are good: packets, and the program's GoodQueue, WaitingIn.
-/
import Derived.Test.YtfjdbenbiakbbaaJoin13
namespace Go.Proofs.Ytfjdbenbiakbbaa
open Go.RowKit M
open Go.Sort (grow)
namespace M
theorem eow_iff (q : Qu) (n : Int) : n ≤ eow q - 1 ↔ n < q.sent.length ∧ n < q.base + q.win := by
  unfold eow; split <;> omega
theorem ok_ack {q : Qu} {p : Pk} (h : p.ack = true) : PkOk q p ↔ (0 ≤ p.no ∧ p.no ≤ q.got.length) ∧ p.tx = ⟨#[]⟩ := by
  unfold PkOk
  rw [h]
  constructor
  · rintro (⟨-, a, b, c⟩ | ⟨a, -⟩)
    · exact ⟨⟨a, b⟩, c⟩
    · cases a
  · rintro ⟨⟨a, b⟩, c⟩
    exact .inl ⟨rfl, a, b, c⟩
theorem ok_text {q : Qu} {p : Pk} (h : p.ack = false) : PkOk q p ↔ (0 ≤ p.no ∧ p.no ≤ eow q - 1) ∧ q.sent[p.no.toNat]? = some p.tx := by
  unfold PkOk
  rw [h, eow_iff]
  constructor
  · rintro (⟨a, -⟩ | ⟨-, a, b, c, d⟩)
    · cases a
    · exact ⟨⟨a, b, c⟩, d⟩
  · rintro ⟨⟨a, b, c⟩, d⟩
    exact .inr ⟨rfl, a, b, c, d⟩
theorem inB_iff (n lo hi : Int) : inB n lo hi = true ↔ lo ≤ n ∧ n ≤ hi := by simp [inB]
theorem tx_nil {x : ByteArray} (h : x ≠ ⟨#[]⟩) : x.toList ≠ [] := fun e => h (toL_inj (by rw [e, toL]))
end M
set_option maxRecDepth 20000 in
set_option maxHeartbeats 2000000 in
theorem impl_pk (v1 v3 v4 : Value) (q : Qu) (p : Pk) (b : Bool) (w : World) (hv : QuQ w v1 v3 v4 q) (h0 : Head q) (hb : BP b (PkOk q p)) :
    Calls Try.prog 64 #[qv v1 v3 v4 q, p.v] w fun e w' => e = .returned (.bool b) ∧ Below w.heap.size w w' := by
  have HY := hide hv
  have HB := hide hb
  have HD := hide h0
  obtain ⟨a1, c1, rfl⟩ := hv.s.form
  obtain ⟨a3, c3, rfl⟩ := hv.g.form
  obtain ⟨a4, c4, rfl⟩ := hv.l.form
  clear hb h0
  have hg40 : q.got.length ≤ 40 := by have := HD.out.gs; have := HD.out.s; omega
  obtain ⟨ack, no, tx⟩ := p
  have hbA := ((Below.refl w.heap.size w).alloc (Nat.le_refl _) (.cells (qarr (.slice a1 q.sent.length c1) (.slice a3 q.got.length c3) (.slice a4 q.line.length c4) q) 32)).alloc (by simp) (.cells #[.bool ack, .int .i64 no, .string tx] 88)
  cases ack with
  | true =>
    have HK := hide ((ok_ack (q := q) (p := ⟨true, no, tx⟩) rfl))
    clear hv
    cases h1 : inB no 0 (q.got.length : Int) with
    | false =>
      have HF := hide (BP.no HB.out (fun h => by
        have h2 := (HK.out.1 h).1
        have h3 := (inB_iff no 0 (q.got.length : Int)).2 h2
        rw [h1] at h3; cases h3))
      go_enter Try.func64, Try.ntmps64
      go_wp2_with (go_at_call 63; refine (impl_in _ _ _ _).mono ?_; rintro e w' ⟨rfl, rfl⟩; rw [h1])
      go_ret
      exact ⟨ret_bool HF.out.symm, hbA⟩
    | true =>
      by_cases hx : tx = ⟨#[]⟩
      · subst hx
        have HF := hide (BP.yes HB.out (HK.out.2 ⟨(inB_iff _ _ _).1 h1, rfl⟩))
        go_enter Try.func64, Try.ntmps64
        go_wp2_with (go_at_call 63; refine (impl_in _ _ _ _).mono ?_; rintro e w' ⟨rfl, rfl⟩; rw [h1])
        go_ret
        exact ⟨ret_bool (by rw [HF.out]), hbA⟩
      · have HF := hide (BP.no HB.out (fun h => hx (HK.out.1 h).2))
        have hx1 : tx.toList ≠ [] := tx_nil hx
        have hx2 : (tx.toList == (⟨#[]⟩ : ByteArray).toList) = false := by rw [eqS]; exact decide_eq_false hx
        have hx3 : (tx.toList == []) = false := by simpa using hx1
        clear hx
        go_enter Try.func64, Try.ntmps64
        go_wp2_with (go_at_call 63; refine (impl_in _ _ _ _).mono ?_; rintro e w' ⟨rfl, rfl⟩; rw [h1])
        go_ret
        exact ⟨ret_bool (by rw [HF.out]), hbA⟩
  | false =>
    have HK := hide ((ok_text (q := q) (p := ⟨false, no, tx⟩) rfl))
    obtain ⟨W1, hW1⟩ : ∃ W1, (w.alloc (.cells (qarr (.slice a1 q.sent.length c1) (.slice a3 q.got.length c3) (.slice a4 q.line.length c4) q) 32)).alloc (.cells #[.bool false, .int .i64 no, .string tx] 88) = W1 := ⟨_, rfl⟩
    have hq1 : Blk W1 w.heap.size 5 (qf (.slice a1 q.sent.length c1) (.slice a3 q.got.length c3) (.slice a4 q.line.length c4) q) 32 := by
      rw [← hW1]; exact (newW5 w _ _ _ _ _ 32).alloc _
    have hq2 : Blk W1 (w.heap.size + 1) 3 (qp ⟨false, no, tx⟩) 88 := by
      have := newT3 (w.alloc (.cells (qarr (.slice a1 q.sent.length c1) (.slice a3 q.got.length c3) (.slice a4 q.line.length c4) q) 32)) (.bool false) (.int .i64 no) (.string tx) 88
      rw [World.size_alloc] at this
      rw [← hW1]; exact this
    rw [hW1] at hbA
    have HW := hide hW1
    obtain ⟨⟨y0, y1, y2, y3, y4⟩, -⟩ := hq1.pen
    obtain ⟨⟨z0, z1, z2⟩, -⟩ := hq2.trp
    have r0 := cell_regrown y0
    have r1 := cell_regrown y1
    have r2 := cell_regrown y2
    have r3 := cell_regrown y3
    have r4 := cell_regrown y4
    have t1 := cell_regrown z1
    have t2 := cell_regrown z2
    have HE1 := hide (show ∀ d os, Calls Try.prog 87 #[qv (.slice a1 q.sent.length c1) (.slice a3 q.got.length c3) (.slice a4 q.line.length c4) q] (grow (redrawn W1 d) os) fun e w'' => e = .returned (.int .i64 (eow q)) ∧ ∃ p : Regrown, w'' = grow (redrawn W1 p.d) p.os from fun d os => Calls.regrown_of (impl_eow _ _ _ q _ ((HY.out.below hbA).below (below_regrown W1 d os)) HD.out))
    have HE2 := hide (show ∀ d os, Calls Try.prog 63 #[.int .i64 no, .int .i64 0, .int .i64 (eow q - 1)] (grow (redrawn W1 d) os) fun e w'' => e = .returned (.bool (inB no 0 (eow q - 1))) ∧ ∃ p : Regrown, w'' = grow (redrawn W1 p.d) p.os from fun d os => Calls.regrown_of ((impl_in _ _ _ _).mono fun e w' h => ⟨h.1, by rw [h.2]; exact Below.refl _ _⟩))
    have he0 : -1 ≤ eow q := by have := HD.out.w0; have := HD.out.b0; unfold eow; split <;> omega
    have he1 : eow q ≤ 50 := by have := HD.out.s; unfold eow; split <;> omega
    have HG := hide hv.s
    clear hW1 hq1 hq2 y0 y1 y2 y3 y4 z0 z1 z2 hv
    cases h1 : inB no 0 (eow q - 1) with
    | false =>
      have HF := hide (BP.no HB.out (fun h => by
        have h2 := (HK.out.1 h).1
        have h3 := (inB_iff no 0 (eow q - 1)).2 h2
        rw [h1] at h3; cases h3))
      rw [h1] at HE2
      go_enter Try.func64, Try.ntmps64
      go_wp2
      rw [HW.out]
      refine wp_region_quiet_below (by kernel_rfl) (by kernel_rfl) ?_
      repeat (go_big_quiet_step (first | exact HE1.out _ _ | exact HE2.out _ _))
      refine wpQuiet_nil ?_
      intro _ hw'
      obtain ⟨⟨dq, osq⟩, hw''⟩ := hw'
      subst hw''
      have hbw2 := hbA.trans ((below_regrown W1 dq osq).mono hbA.size)
      clear HE1 HE2
      go_wp2
      go_ret
      exact ⟨ret_bool HF.out.symm, hbw2⟩
    | true =>
      have h2 := (inB_iff _ _ _).1 h1
      have h3 : no < (q.sent.length : Int) ∧ no < q.base + q.win := (eow_iff q no).1 h2.2
      have i0 : 0 ≤ no := h2.1
      have i1 : no < (q.sent.length : Int) := h3.1
      obtain ⟨a, c, hv1, hr⟩ := HG.out
      simp only [Value.slice.injEq, true_and] at hv1
      obtain ⟨rfl, rfl⟩ := hv1
      obtain ⟨b1, o1, rfl, hb1, hrow⟩ := hr (by omega)
      obtain ⟨y, hy⟩ : ∃ y, q.sent[no.toNat]? = some y := ⟨_, List.getElem?_eq_getElem (by omega)⟩
      have u1 := cell_regrown ((hbA.cell (p := ⟨b1, o1 + no.toNat, none⟩) hb1).trans (hrow _ y hy))
      have HYY := hide hy
      rw [h1] at HE2
      clear hr hrow hy HG
      by_cases hxy : tx = y
      · have HF := hide (BP.yes HB.out (HK.out.2 ⟨h2, by rw [HYY.out, hxy]⟩))
        have hd : (tx.toList == y.toList) = true := by rw [eqS]; exact decide_eq_true hxy
        clear h2 h3 hxy
        go_enter Try.func64, Try.ntmps64
        go_wp2
        rw [HW.out]
        refine wp_region_quiet_below (by kernel_rfl) (by kernel_rfl) ?_
        repeat (go_big_quiet_step (first | exact HE1.out _ _ | exact HE2.out _ _))
        refine wpQuiet_nil ?_
        intro _ hw'
        obtain ⟨⟨dq, osq⟩, hw''⟩ := hw'
        subst hw''
        have hbw2 := hbA.trans ((below_regrown W1 dq osq).mono hbA.size)
        clear HE1 HE2
        go_wp2
        go_ret
        exact ⟨ret_bool HF.out.symm, hbw2⟩
      · have HF := hide (BP.no HB.out (fun h => hxy (by
          have h4 := (HK.out.1 h).2
          have h5 := HYY.out
          rw [h4] at h5
          simpa using h5)))
        have hd : (tx.toList == y.toList) = false := by rw [eqS]; exact decide_eq_false hxy
        clear h2 h3 hxy
        go_enter Try.func64, Try.ntmps64
        go_wp2
        rw [HW.out]
        refine wp_region_quiet_below (by kernel_rfl) (by kernel_rfl) ?_
        repeat (go_big_quiet_step (first | exact HE1.out _ _ | exact HE2.out _ _))
        refine wpQuiet_nil ?_
        intro _ hw'
        obtain ⟨⟨dq, osq⟩, hw''⟩ := hw'
        subst hw''
        have hbw2 := hbA.trans ((below_regrown W1 dq osq).mono hbA.size)
        clear HE1 HE2
        go_wp2
        go_ret
        exact ⟨ret_bool HF.out.symm, hbw2⟩
set_option maxRecDepth 20000 in
set_option maxHeartbeats 2000000 in
theorem impl_goodQ (v1 v3 v4 : Value) (q : Qu) (b : Bool) (w : World) (hv : QuQ w v1 v3 v4 q) (hc : TxC w v1 q.sent) (hs : ShortQ q) (hn : ∀ x ∈ q.sent, x.size ≤ maxLen) (hb : BP b (GoodQ q)) :
    Calls Try.prog 35 #[qv v1 v3 v4 q] w fun e w' => e = .returned (.bool b) ∧ Below w.heap.size w w' := by
  have HY := hide hv
  have HC := hide hc
  have HS := hide hs
  have HN := hide hn
  have HB := hide hb
  obtain ⟨a1, c1, rfl⟩ := hv.s.form
  obtain ⟨a3, c3, rfl⟩ := hv.g.form
  obtain ⟨a4, c4, rfl⟩ := hv.l.form
  clear hv hc hs hn hb
  have hbA := (Below.refl w.heap.size w).alloc (Nat.le_refl _) (.cells (qarr (.slice a1 q.sent.length c1) (.slice a3 q.got.length c3) (.slice a4 q.line.length c4) q) 32)
  have HX0 := hide (show Blk (w.alloc (.cells (qarr (.slice a1 q.sent.length c1) (.slice a3 q.got.length c3) (.slice a4 q.line.length c4) q) 32)) w.heap.size 5 (qf (.slice a1 q.sent.length c1) (.slice a3 q.got.length c3) (.slice a4 q.line.length c4) q) 32 from newW5 w _ _ _ _ _ 32)
  obtain ⟨bs, hbs⟩ := bp_ex (q.sent.length ≤ 40 ∧ ∀ x ∈ q.sent, x.size ≤ 12)
  obtain ⟨bc, hbc⟩ := bp_ex (q.got.length ≤ q.sent.length ∧ q.got = q.sent.take q.got.length)
  have HBS := hide hbs
  have HBC := hide hbc
  clear hbs hbc
  go_enter Try.func35, Try.ntmps35
  go_wp2_with fail
  refine (impl_window _ _).mono ?_
  rintro e w' ⟨rfl, rfl⟩
  cases h1 : inB q.win 1 10 with
  | false =>
    have HF := hide (BP.no HB.out (fun h => by have h2 := (inB_iff q.win 1 10).2 ⟨h.w0, h.w1⟩; rw [h1] at h2; cases h2))
    go_wp2
    go_ret
    exact ⟨ret_bool HF.out.symm, hbA⟩
  | true =>
  go_wp2_with fail
  refine (impl_sent _ q.sent bs _ (HY.out.s.below hbA) HS.out.s HN.out HBS.out).mono ?_
  rintro e w' ⟨rfl, rfl⟩
  cases bs with
  | false =>
    have HF := hide (BP.no HB.out (fun h => by
      have h2 := HBS.out.2 ⟨h.s40, fun x hx => by obtain ⟨i, hi⟩ := List.getElem?_of_mem hx; exact h.tx i x hi⟩
      cases h2))
    go_wp2
    go_ret
    exact ⟨ret_bool HF.out.symm, hbA⟩
  | true =>
  go_wp2_with fail
  refine (impl_come _ _ q.got q.sent bc _ (HY.out.g.below hbA) (HC.out.below hbA) HS.out.g HS.out.s HBC.out).mono ?_
  rintro e w2 ⟨rfl, hb2⟩
  have HX2 := hide (HX0.out.down hb2)
  have hbB := hbA.trans (hb2.mono hbA.size)
  obtain ⟨⟨y0, y1, y2, y3, y4⟩, -⟩ := HX2.out.pen
  clear hb2 hbA HX0
  cases bc with
  | false =>
    have HF := hide (BP.no HB.out (fun h => by
      have h2 := HBC.out.2 ⟨h.gs, (come_iff q h.gs).2 (fun i hi s hs => h.beg i s hi hs)⟩
      cases h2))
    go_wp2
    go_ret
    exact ⟨ret_bool HF.out.symm, hbB⟩
  | true =>
  have k1 := HBS.out.1 rfl
  have k2 := HBC.out.1 rfl
  have HK1 := hide k1
  have HK2 := hide k2
  have hg40 : q.got.length ≤ 40 := by have := k1.1; have := k2.1; omega
  clear k1 k2
  cases h4 : inB q.base 0 (q.got.length : Int) with
  | false =>
    have HF := hide (BP.no HB.out (fun h => by have h2 := (inB_iff q.base 0 (q.got.length : Int)).2 ⟨h.b0, h.bg⟩; rw [h4] at h2; cases h2))
    go_wp2_with (go_at_call 63; refine (impl_in _ _ _ _).mono ?_; rintro e w' ⟨rfl, rfl⟩; rw [h4])
    go_ret
    exact ⟨ret_bool HF.out.symm, hbB⟩
  | true =>
  by_cases h5 : q.line.length ≤ 40
  case neg =>
    have HF := hide (BP.no HB.out (fun h => h5 h.l40))
    go_wp2_with (go_at_call 63; refine (impl_in _ _ _ _).mono ?_; rintro e w' ⟨rfl, rfl⟩; rw [h4])
    go_ret
    exact ⟨ret_bool HF.out.symm, hbB⟩
  have HD := hide (show Head q from ⟨((inB_iff _ _ _).1 h1).1, ((inB_iff _ _ _).1 h1).2, HK1.out.1, HK2.out.1, ((inB_iff _ _ _).1 h4).1, ((inB_iff _ _ _).1 h4).2, h5⟩)
  have HT := hide (show ∀ i, i < q.sent.length → TxAt q i from fun i _ s hs => ⟨HK1.out.2 s (List.mem_of_getElem? hs), fun hg => (come_iff q HK2.out.1).1 HK2.out.2 i hg s hs⟩)
  go_wp2_with (go_at_call 63; refine (impl_in _ _ _ _).mono ?_; rintro e w' ⟨rfl, rfl⟩; rw [h4])
  clear y0 y1 y2 y3 y4 HK1 HK2 HBS HBC HN HC h1 h4 hg40
  go_loopw [41] (fun i wr => ∃ k : Nat, k ≤ q.line.length ∧ i = .int .i64 k ∧ Hid (∀ j, j < k → PkAt q j) ∧ Hid (Blk wr w.heap.size 5 (qf (.slice a1 q.sent.length c1) (.slice a3 q.got.length c3) (.slice a4 q.line.length c4) q) 32) ∧ Below w.heap.size w wr) (fun i _ => q.line.length - (intOf i).toNat)
  case atStart => exact ⟨0, Nat.zero_le _, rfl, hide (fun j hj => absurd hj (Nat.not_lt_zero _)), HX2, hbB⟩
  case round =>
    obtain ⟨k, hk, rfl, HU, HX, hbw⟩ := hrel
    clear HX2 hbB
    by_cases hlt : k < q.line.length
    · obtain ⟨a, c, hv4, hr⟩ := HY.out.l
      simp only [Value.slice.injEq, true_and] at hv4
      obtain ⟨rfl, rfl⟩ := hv4
      obtain ⟨b4, o4, rfl, hb4, hrow⟩ := hr (by omega)
      obtain ⟨p, hp⟩ : ∃ p, q.line[k]? = some p := ⟨_, List.getElem?_eq_getElem hlt⟩
      obtain ⟨z0, z1, z2⟩ := (hrow k p hp).below hbw hb4
      have HP := hide hp
      have hbw2 := hbw.alloc hbw.size (.cells #[.bool p.ack, .int .i64 p.no, .string p.tx] 88)
      have HX3 := hide (HX.out.alloc (.cells #[.bool p.ack, .int .i64 p.no, .string p.tx] 88))
      obtain ⟨⟨y0, y1, y2, y3, y4⟩, -⟩ := HX3.out.pen
      have HQ3 := hide (HY.out.below hbw2)
      obtain ⟨bp, hbp⟩ := bp_ex (PkOk q p)
      have HBP := hide hbp
      clear hr hrow hp hbp HX HY
      go_wp2_with fail
      refine (impl_pk _ _ _ q p bp _ HQ3.out HD.out HBP.out).mono ?_
      rintro e w3 ⟨rfl, hb3⟩
      have hbw3 := hbw2.trans (hb3.mono hbw2.size)
      have HX4 := hide (HX3.out.down hb3)
      clear hb3 y0 y1 y2 y3 y4 z0 z1 z2 HX3 HQ3 hbw2
      cases bp with
      | false =>
        have HF := hide (BP.no HB.out (fun h => by have h2 := HBP.out.2 (h.pk k p HP.out); cases h2))
        go_wp2
        go_ret
        exact ⟨ret_bool HF.out.symm, hbw3⟩
      | true =>
        have HU2 := hide (show ∀ j, j < k + 1 → PkAt q j from fun j hj => by
          rcases (show j < k ∨ j = k by omega) with h | h
          · exact HU.out j h
          · subst h
            intro x hx
            rw [HP.out] at hx
            simp only [Option.some.injEq] at hx
            subst hx; exact HBP.out.1 rfl)
        clear HU
        go_wp2
        go_roundw
        case rel => exact ⟨k + 1, by omega, by go_num, HU2, HX4, hbw3⟩
        case measure => simp [intOf]; omega
    · have HF := hide (BP.yes HB.out ((goodQ_iff q).2 ⟨HD.out, HT.out, fun j hj => HU.out j (by omega)⟩))
      clear HU HX HY
      go_wp2
      go_ret
      exact ⟨ret_bool HF.out.symm, hbw⟩
set_option maxHeartbeats 1000000 in
theorem impl_waiting (v1 v3 v4 : Value) (q : Qu) (b : Bool) (w : World) (hv : QuQ w v1 v3 v4 q) (hc : TxC w v1 q.sent) (hs : ShortQ q) (hn : ∀ x ∈ q.sent, x.size ≤ maxLen) (hb : BP b (GoodQ q)) :
    Calls Try.prog 28 #[qv v1 v3 v4 q] w fun e w' => e = .returned (.tuple #[.int .i64 (if b = true then (q.sent.length : Int) - q.got.length else 0), .bool b]) ∧ Below w.heap.size w w' := by
  have HY := hide hv
  have HC := hide hc
  have HS := hide hs
  have HN := hide hn
  have HB := hide hb
  obtain ⟨a1, c1, rfl⟩ := hv.s.form
  obtain ⟨a3, c3, rfl⟩ := hv.g.form
  obtain ⟨a4, c4, rfl⟩ := hv.l.form
  clear hv hc hs hn hb
  have hbA := (Below.refl w.heap.size w).alloc (Nat.le_refl _) (.cells (qarr (.slice a1 q.sent.length c1) (.slice a3 q.got.length c3) (.slice a4 q.line.length c4) q) 32)
  have HX0 := hide (show Blk (w.alloc (.cells (qarr (.slice a1 q.sent.length c1) (.slice a3 q.got.length c3) (.slice a4 q.line.length c4) q) 32)) w.heap.size 5 (qf (.slice a1 q.sent.length c1) (.slice a3 q.got.length c3) (.slice a4 q.line.length c4) q) 32 from newW5 w _ _ _ _ _ 32)
  go_enter Try.func28, Try.ntmps28
  go_wp2_with fail
  refine (impl_goodQ _ _ _ q b _ (HY.out.below hbA) (HC.out.below hbA) HS.out HN.out HB.out).mono ?_
  rintro e w2 ⟨rfl, hb2⟩
  have hbB := hbA.trans (hb2.mono hbA.size)
  obtain ⟨⟨y0, y1, y2, y3, y4⟩, -⟩ := (HX0.out.down hb2).pen
  have k1 := HS.out.s
  have k2 := HS.out.g
  clear hb2 hbA HX0
  cases b with
  | false =>
    go_wp2
    exact bodyPost_ret (v := .tuple #[.int .i64 0, .bool false]) (by simp [results, Try.results28, go_sem]) rfl ⟨rfl, hbB⟩
  | true =>
    go_wp2
    exact bodyPost_ret (v := .tuple #[.int .i64 ((q.sent.length : Int) - q.got.length), .bool true]) (by simp [results, Try.results28, go_sem]) rfl ⟨rfl, hbB⟩
end Go.Proofs.Ytfjdbenbiakbbaa
