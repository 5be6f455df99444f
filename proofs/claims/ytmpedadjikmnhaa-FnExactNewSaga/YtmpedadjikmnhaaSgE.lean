/-
  The specification's l9Do; accounts and moves that are good, one by one, in both texts.
-/
import Derived.Test.YtmpedadjikmnhaaSgD
namespace Go.Proofs.Ytmpedadjikmnhaa
open Go.RowKit M
open Clk (upd upd_same upd_other)
open Go.Sort (grow)
namespace M
theorem MovesOf.row {w : World} {v : Value} {n : Nat} {l : Nat → Mv} (h : MovesOf w v n (fl l)) : ∃ a cap, v = .slice a n cap ∧ (0 < n → ∃ b off, a = some ⟨b, off, none⟩ ∧ b < w.heap.size ∧ ∀ i, i < n → w.cell? ⟨b, off + i * 3, none⟩ = some (.int .i64 (l i).f) ∧ w.cell? ⟨b, off + i * 3 + 1, none⟩ = some (.int .i64 (l i).t) ∧ w.cell? ⟨b, off + i * 3 + 2, none⟩ = some (.int .i64 (l i).m)) := by
  obtain ⟨a, cap, rfl, hr⟩ := h
  refine ⟨a, cap, rfl, fun hn => ?_⟩
  obtain ⟨b, off, rfl, hb, hrow⟩ := hr hn
  refine ⟨b, off, rfl, hb, fun i hi => ⟨?_, ?_, ?_⟩⟩
  · rw [hrow (i * 3) (by omega), fl0]
  · rw [Nat.add_assoc, hrow (i * 3 + 1) (by omega), fl1]
  · rw [Nat.add_assoc, hrow (i * 3 + 2) (by omega), fl2]
theorem OwnI.blk {w : World} {B hi n : Nat} {v : Value} {f : Nat → Int} (h : OwnI w B hi v n f) (hn : 0 < n) : ∃ b c cap, v = .slice (some ⟨b, 0, none⟩) n cap ∧ B ≤ b ∧ b < hi ∧ OwnB w b n c f := by
  obtain ⟨a, cap, rfl, hr⟩ := h
  obtain ⟨b, c, rfl, h1, h2, h3⟩ := hr hn
  exact ⟨b, c, cap, rfl, h1, h2, h3⟩
end M
set_option maxRecDepth 20000 in
set_option maxHeartbeats 4000000 in
theorem l9do_is (m : Mv) (v : Value) (na : Nat) (fa : Nat → Int) (b : Bool) (w : World) (hm : GM na m) (hv : IntsOf w v na fa) (ha : Acc na fa) (hn : na ≤ 8) (hb : decide (fit fa m) = b) :
    Calls Try.prog 49 #[v, mvv m] w fun e w' => (∃ u, e = .returned (.tuple #[u, .bool b]) ∧ OwnI w' w.heap.size w'.heap.size u na (shf fa m)) ∧ Below w.heap.size w w' := by
  obtain ⟨i0, hi, hz0, hz1, hz2⟩ := info_parts info_int
  have hfa := (fit_acc (a := fa) hm)
  obtain ⟨i, j, e1, e2, hii, hjj, hij⟩ := hm.nat
  have hmm := hm
  obtain ⟨_, _, _, hq⟩ := hm
  obtain ⟨f, t, n⟩ := m
  simp only at e1 e2 hq ⊢
  subst e1; subst e2
  obtain ⟨a, cap, rfl, hr⟩ := hv
  obtain ⟨bb, off, rfl, hbb, hrow⟩ := hr (by omega)
  have hbA := ((Below.refl w.heap.size w).alloc (Nat.le_refl _) (.cells #[.int .i64 (i : Int), .int .i64 (j : Int), .int .i64 n] 55)).alloc (by simp) (.cells #[] 3)
  have hO := own_empty (w.alloc (.cells #[.int .i64 (i : Int), .int .i64 (j : Int), .int .i64 n] 55)) 3 1
  have hx := (Blk.fresh w #[.int .i64 (i : Int), .int .i64 (j : Int), .int .i64 n] 3 (fun q => if q = 0 then .int .i64 (i : Int) else if q = 1 then .int .i64 (j : Int) else .int .i64 n) 55 rfl).alloc (.cells #[] 3)
  have hnews : ∀ q u, (tv1 na fa)[q]? = some u → ((w.alloc (.cells #[.int .i64 (i : Int), .int .i64 (j : Int), .int .i64 n] 55)).alloc (.cells #[] 3)).cell? ((⟨bb, off, none⟩ : Addr).add q) = some u := by
    intro q u hj
    have hjn : q < na := by have := (List.getElem?_eq_some_iff.1 hj).1; rwa [tv1_len] at this
    rw [tv1_get hjn] at hj
    cases hj
    rw [show (⟨bb, off, none⟩ : Addr).add q = ⟨bb, off + q, none⟩ by unfold Addr.add; split <;> simp_all]
    exact (hbA.cell (p := ⟨bb, off + q, none⟩) hbb).trans (hrow q hjn)
  have hai := ha i hii
  have haj := ha j hjj
  have hi0 : (0 : Int) ≤ (i : Int) := by omega
  have hi1 : (i : Int) < (na : Int) := by omega
  have hj0 : (0 : Int) ≤ (j : Int) := by omega
  have hj1 : (j : Int) < (na : Int) := by omega
  have HNw := hide hnews
  have HTv := hide (show (tv1 na fa).length = na * 1 by rw [tv1_len, Nat.mul_one])
  have hbb' : decide (n ≤ fa i ∧ fa j + n ≤ 1000000) = b := hb
  have HB := hide hbb'
  rw [World.size_alloc] at hO
  clear hr hnews hrow ha hb hbb' hfa hmm
  go_enter Try.func49, Try.ntmps49
  go_wp2_with (at_builtin; refine wpList_append_own _ rfl _ _ 22 rfl (w.heap.size + 1) 3 i0 _ 1 8 Try.underlying22 hi hz0 hz1 hz2 rfl (by decide) _ 0 _ rfl hO ⟨bb, off, none⟩ na cap (tv1 na fa) rfl HTv.out HNw.out tv1_one (by unfold maxLen; omega) (by omega) (by simp) ?_)
  intro v7 w7 hown7 hgrow7 _
  have hx7 := hx.grown hO (by decide) hgrow7
  have hb7 : Below w.heap.size w w7 := hbA.grown hgrow7 (by simp; omega) (fun q hq => by have := (hO.lt q hq).1; omega)
  have hI7 : OwnI w7 (w.heap.size + 1) w7.heap.size v7 na fa := own_I hown7
  obtain ⟨g, c, cp, rfl, h1, h2, h3⟩ := hI7.blk (by omega)
  have d0 : w7.cell? ⟨w.heap.size, 0, none⟩ = some (.int .i64 (i : Int)) := hx7.cell (show 0 < 3 by omega)
  have d1 : w7.cell? ⟨w.heap.size, 1, none⟩ = some (.int .i64 (j : Int)) := hx7.cell (show 1 < 3 by omega)
  have d2 : w7.cell? ⟨w.heap.size, 2, none⟩ = some (.int .i64 n) := hx7.cell (show 2 < 3 by omega)
  have c0 := h3.cell hii
  have t0 := h3.thaw i
  have c1 := h3.cell hjj
  have t1 := h3.thaw j
  have n1 : g ≠ w.heap.size := by omega
  have n2 : w.heap.size ≠ g := by omega
  have HE := hide (show ∀ W, Below w7.heap.size ((w7.setCell ⟨g, i, none⟩ (.int .i64 (fa i - n))).setCell ⟨g, j, none⟩ (.int .i64 (fa j + n))) W → OwnI W w.heap.size W.heap.size (.slice (some ⟨g, 0, none⟩) na cp) na (shf fa ⟨(i : Int), (j : Int), n⟩) ∧ Below w.heap.size w W from fun W hW => by
    have e : shf fa ⟨(i : Int), (j : Int), n⟩ = upd (upd fa i (fa i - n)) j (fa j + n) := by
      unfold shf tk; simp only [Int.toNat_natCast]; rw [upd_other _ _ _ _ (fun e => hij e.symm)]
    have h4 := ((h3.set i (fa i - n)).set j (fa j + n)).down (hW.mono (by simp))
    refine ⟨⟨_, _, rfl, fun _ => ⟨g, c, rfl, by omega, h4.lt, by rw [e]; exact h4⟩⟩, ?_⟩
    have h5 := (hb7.setCell (p := ⟨g, i, none⟩) (by simp; omega) (.int .i64 (fa i - n))).setCell (p := ⟨g, j, none⟩) (by simp; omega) (.int .i64 (fa j + n))
    exact h5.trans (hW.mono (by omega)))
  clear hgrow7 hown7 hO HNw HTv hx hx7 h3 hI7 hb7 hbA
  generalize fa i = x at *
  generalize fa j = y at *
  go_wp2
  go_region
  go_wp2
  go_region
  generalize hX : x - n = x1 at *
  generalize hY : y + n = y1 at *
  have hX1 : -1000 ≤ x1 ∧ x1 ≤ 1000000 := by omega
  have hY1 : 0 ≤ y1 ∧ y1 ≤ 1001000 := by omega
  have HX := hide hX
  clear hX hY
  by_cases hge : x1 ≥ 0
  · have hg : decide (x1 ≥ 0) = true := by simp [hge]
    go_wp2_with fail
    go_big_quiet (fail)
    go_wp2
    have hB : decide (y1 ≤ 1000000) = b := by
      rw [← HB.out]; exact decide_eq_decide.2 ⟨fun h => ⟨by have := HX.out; omega, h⟩, fun h => h.2⟩
    subst hB
    have hf := HE.out _ (show Below w7.heap.size _ ((((w7.setCell ⟨g, i, none⟩ (.int .i64 x1)).setCell ⟨g, j, none⟩ (.int .i64 y1)).drew.drew).drewN nq) from ⟨rfl, rfl, rfl, Nat.le_refl _, fun _ _ => rfl⟩)
    go_ret2
    exact ⟨⟨_, rfl, hf.1⟩, hf.2⟩
  · have hg : decide (x1 ≥ 0) = false := by simp; omega
    go_wp2_with fail
    go_big_quiet (fail)
    go_wp2
    have hB : b = false := by
      rw [← HB.out]; exact decide_eq_false_iff_not.2 fun h => by have := HX.out; omega
    subst hB
    have hf := HE.out _ (show Below w7.heap.size _ ((((w7.setCell ⟨g, i, none⟩ (.int .i64 x1)).setCell ⟨g, j, none⟩ (.int .i64 y1)).drew.drew).drewN nq) from ⟨rfl, rfl, rfl, Nat.le_refl _, fun _ _ => rfl⟩)
    go_ret2
    exact ⟨⟨_, rfl, hf.1⟩, hf.2⟩
set_option maxHeartbeats 1000000 in
theorem good_accounts (v : Value) (n : Nat) (f : Nat → Int) (b : Bool) (w : World) (hv : IntsOf w v n f) (hn : n ≤ 1048576) (hb : b = true ↔ (1 ≤ (n : Int) ∧ (n : Int) ≤ 8) ∧ Acc n f) :
    Calls Try.prog 51 #[v] w fun e w' => e = .returned (.bool b) ∧ w' = w := by
  obtain ⟨a, cap, rfl, hr⟩ := hv
  have HR := hide hr
  have HB := hide hb
  clear hr hb
  by_cases hl : 1 ≤ (n : Int) ∧ (n : Int) ≤ 8
  · have HW := hide (show decide (1 ≤ (n : Int) ∧ (n : Int) ≤ 8) = true by rw [decide_eq_true_eq]; exact hl)
    have HL := hide hl
    clear hl
    go_enter Try.func51, Try.ntmps51
    go_wp2_with fail
    refine (within_to _ _ _ _ _ HW.out).mono ?_
    rintro e w1 ⟨rfl, rfl⟩
    go_wp2_with fail
    go_loop [4, 11] (fun _ i => ∃ k : Nat, k ≤ n ∧ i = .int .i64 k ∧ Hid (∀ q, q < k → 0 ≤ f q ∧ f q ≤ 1000000)) (fun _ i => n - (intOf i).toNat)
    case atStart => exact ⟨0, Nat.zero_le _, rfl, hide fun q hq => absurd hq (by omega)⟩
    case round =>
      obtain ⟨k, hk, rfl, HP⟩ := hrel
      by_cases hlt : k < n
      · obtain ⟨bb, off, rfl, hbb, hrow⟩ := HR.out (by omega)
        have c0 := hrow k hlt
        by_cases hg : 0 ≤ f k ∧ f k ≤ 1000000
        · have HP2 := hide (show ∀ q, q < k + 1 → 0 ≤ f q ∧ f q ≤ 1000000 from fun q hq => by
            by_cases e : q = k
            · rw [e]; exact hg
            · exact HP.out q (by omega))
          have HG := hide (show decide (0 ≤ f k ∧ f k ≤ 1000000) = true by rw [decide_eq_true_eq]; exact hg)
          clear HR hrow HP hg HB HL
          generalize f k = x at *
          go_wp2_with fail
          refine (within_to _ _ _ _ _ HG.out).mono ?_
          rintro e w1 ⟨rfl, rfl⟩
          go_wp2
          go_round
          case rel => exact ⟨k + 1, by omega, by go_num, HP2⟩
          case measure => simp [intOf]; omega
        · have HG := hide (show decide (0 ≤ f k ∧ f k ≤ 1000000) = false by rw [decide_eq_false_iff_not]; exact hg)
          have HF := hide (show b = false by
            rw [Bool.eq_false_iff]; exact fun h => hg ((HB.out.1 h).2 k hlt))
          clear HR hrow HP hg HB HL
          generalize f k = x at *
          go_wp2_with fail
          refine (within_to _ _ _ _ _ HG.out).mono ?_
          rintro e w1 ⟨rfl, rfl⟩
          go_wp2
          go_ret
          exact ⟨by rw [HF.out]; rfl, rfl⟩
      · obtain rfl : k = n := by omega
        have HF := hide (show b = true from HB.out.2 ⟨HL.out, HP.out⟩)
        clear HR HP HB HL
        go_wp2
        go_ret
        exact ⟨by rw [HF.out]; rfl, rfl⟩
  · have HW := hide (show decide (1 ≤ (n : Int) ∧ (n : Int) ≤ 8) = false by rw [decide_eq_false_iff_not]; exact hl)
    have HF := hide (show b = false by
      rw [Bool.eq_false_iff]; exact fun h => hl (HB.out.1 h).1)
    clear hl HR HB
    go_enter Try.func51, Try.ntmps51
    go_wp2_with fail
    refine (within_to _ _ _ _ _ HW.out).mono ?_
    rintro e w1 ⟨rfl, rfl⟩
    go_wp2
    go_ret
    exact ⟨by rw [HF.out]; rfl, rfl⟩
set_option maxHeartbeats 1000000 in
theorem l9accounts (v : Value) (n : Nat) (f : Nat → Int) (b : Bool) (w : World) (hv : IntsOf w v n f) (hn : n ≤ 1048576) (hb : b = true ↔ (1 ≤ (n : Int) ∧ (n : Int) ≤ 8) ∧ Acc n f) :
    Calls Try.prog 46 #[v] w fun e w' => e = .returned (.bool b) ∧ w' = w := by
  obtain ⟨a, cap, rfl, hr⟩ := hv
  have HR := hide hr
  have HB := hide hb
  clear hr hb
  go_enter Try.func46, Try.ntmps46
  go_wp2
  go_loop [4, 7] (fun _ i => ∃ k : Nat, k ≤ n ∧ i = .int .i64 k ∧ Hid (∀ q, q < k → 0 ≤ f q ∧ f q ≤ 1000000)) (fun _ i => n - (intOf i).toNat)
  case atStart => exact ⟨0, Nat.zero_le _, rfl, hide fun q hq => absurd hq (by omega)⟩
  case round =>
    obtain ⟨k, hk, rfl, HP⟩ := hrel
    by_cases hlt : k < n
    · obtain ⟨bb, off, rfl, hbb, hrow⟩ := HR.out (by omega)
      have c0 := hrow k hlt
      by_cases hg : 0 ≤ f k ∧ f k ≤ 1000000
      · have HP2 := hide (show ∀ q, q < k + 1 → 0 ≤ f q ∧ f q ≤ 1000000 from fun q hq => by
          by_cases e : q = k
          · rw [e]; exact hg
          · exact HP.out q (by omega))
        have HG := hide (show decide (0 ≤ f k ∧ f k ≤ 1000000) = true by rw [decide_eq_true_eq]; exact hg)
        clear HR hrow HP hg HB
        generalize f k = x at *
        go_wp2_with fail
        refine (l1in_to _ _ _ _ _ HG.out).mono ?_
        rintro e w1 ⟨rfl, rfl⟩
        go_wp2
        go_round
        case rel => exact ⟨k + 1, by omega, by go_num, HP2⟩
        case measure => simp [intOf]; omega
      · have HG := hide (show decide (0 ≤ f k ∧ f k ≤ 1000000) = false by rw [decide_eq_false_iff_not]; exact hg)
        have HF := hide (show b = false by
          rw [Bool.eq_false_iff]; exact fun h => hg ((HB.out.1 h).2 k hlt))
        clear HR hrow HP hg HB
        generalize f k = x at *
        go_wp2_with fail
        refine (l1in_to _ _ _ _ _ HG.out).mono ?_
        rintro e w1 ⟨rfl, rfl⟩
        go_wp2
        go_ret
        exact ⟨by rw [HF.out]; rfl, rfl⟩
    · obtain rfl : k = n := by omega
      have HF := hide (show decide (1 ≤ (k : Int) ∧ (k : Int) ≤ 8) = b from by
        rw [Bool.eq_iff_iff, decide_eq_true_eq, HB.out]; exact ⟨fun h => ⟨h, HP.out⟩, fun h => h.1⟩)
      clear HR HP HB
      go_wp2_with fail
      refine (l1in_to _ _ _ _ _ HF.out).mono ?_
      rintro e w1 ⟨rfl, rfl⟩
      go_wp2
      go_ret
      exact ⟨rfl, rfl⟩
set_option maxHeartbeats 1000000 in
theorem good_moves (v : Value) (n : Nat) (l : Nat → Mv) (z : Int) (b : Bool) (w : World) (hv : MovesOf w v n (fl l)) (hn : n ≤ 1048576) (hz0 : 0 ≤ z) (hz1 : z ≤ 1048576) (hb : b = true ↔ n ≤ 20 ∧ ∀ i, i < n → GMz z (l i)) :
    Calls Try.prog 52 #[v, .int .i64 z] w fun e w' => e = .returned (.bool b) ∧ Below w.heap.size w w' := by
  obtain ⟨a, cap, rfl, hr⟩ := hv.row
  have HR := hide hr
  have HB := hide hb
  clear hr hb hv
  by_cases hl : (n : Int) > 20
  · have HF := hide (show b = false by
      rw [Bool.eq_false_iff]; exact fun h => by have := (HB.out.1 h).1; omega)
    clear HR HB
    go_enter Try.func52, Try.ntmps52
    go_wp2
    go_ret
    exact ⟨by rw [HF.out]; rfl, Below.refl _ _⟩
  · go_enter Try.func52, Try.ntmps52
    go_wp2_with fail
    go_loopw [6, 12] (fun _ i wr => ∃ k : Nat, k ≤ n ∧ i = .int .i64 k ∧ Hid (∀ q, q < k → GMz z (l q)) ∧ Below w.heap.size w wr) (fun _ i _ => n - (intOf i).toNat)
    case atStart => exact ⟨0, Nat.zero_le _, rfl, hide fun q hq => absurd hq (by omega), Below.refl _ _⟩
    case round =>
      obtain ⟨k, hk, rfl, HP, hbw⟩ := hrel
      by_cases hlt : k < n
      · obtain ⟨bb, off, rfl, hbb, hrow⟩ := HR.out (by omega)
        obtain ⟨q0, q1, q2⟩ := hrow k hlt
        have c0 := (hbw.cell (p := ⟨bb, off + k * 3, none⟩) hbb).trans q0
        have c1 := (hbw.cell (p := ⟨bb, off + k * 3 + 1, none⟩) hbb).trans q1
        have c2 := (hbw.cell (p := ⟨bb, off + k * 3 + 2, none⟩) hbb).trans q2
        have hbx := hbw.alloc hbw.size (.cells #[.int .i64 (l k).f, .int .i64 (l k).t, .int .i64 (l k).m] 55)
        obtain ⟨b1, hb1⟩ : ∃ x, decide (GMz z (l k)) = x := ⟨_, rfl⟩
        have HP2 := hide (show b1 = true → ∀ q, q < k + 1 → GMz z (l q) from fun h q hq => by
          by_cases e : q = k
          · rw [e]; rw [← hb1, decide_eq_true_eq] at h; exact h
          · exact HP.out q (by omega))
        have HF := hide (show b1 = false → b = false from fun h => by
            rw [Bool.eq_false_iff]; intro h2; rw [← hb1, decide_eq_false_iff_not] at h; exact h ((HB.out.1 h2).2 k hlt))
        have HC := hide (show ∀ W : World, Calls Try.prog 62 #[.agg #[.int .i64 (l k).f, .int .i64 (l k).t, .int .i64 (l k).m], .int .i64 z] W fun e w' => e = .returned (.bool b1) ∧ Below W.heap.size W w' from fun W => goodMove_to (l k) z b1 W hz0 hz1 hb1)
        clear HR hrow HP HB q0 q1 q2 hb1
        generalize (l k).f = x0 at *
        generalize (l k).t = x1 at *
        generalize (l k).m = x2 at *
        go_wp2_with fail
        refine (HC.out _).mono ?_
        rintro e w1 ⟨rfl, hb⟩
        have hbz := hbx.trans (hb.mono hbx.size)
        clear hb HC
        cases b1 with
        | true =>
          have HP3 := hide (HP2.out rfl)
          clear HP2 HF
          go_wp2
          go_roundw
          case rel => exact ⟨k + 1, by omega, by go_num, HP3, hbz⟩
          case measure => simp [intOf]; omega
        | false =>
          have HF3 := hide (HF.out rfl)
          clear HP2 HF
          go_wp2
          go_ret
          exact ⟨by rw [HF3.out]; rfl, hbz⟩
      · obtain rfl : k = n := by omega
        have HF := hide (show b = true from HB.out.2 ⟨by omega, HP.out⟩)
        clear HR HP HB
        go_wp2
        go_ret
        exact ⟨by rw [HF.out]; rfl, hbw⟩
end Go.Proofs.Ytmpedadjikmnhaa
