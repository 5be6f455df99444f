/-
  The specification's AdvanceWheel.
-/
import Derived.Test.YtcodllammndciaaWhST
import Derived.Test.YtcodllammndciaaWhTI
namespace Go.Proofs.Ytcodllammndciaa
open Go.RowKit M
open Clk (upd upd_same upd_other)
open Go.Sort (grow)
namespace M
/-- The number in the first cell of a block. -/
def nowOf (b : Nat) (w : World) : Int := match w.cell? ⟨b, 0, none⟩ with | some v => intOf v | none => 0
/-- What is there between two ticks. -/
structure AvI (B gH cH : Nat) (w wr : World) (t : Int) (rs : Nat → Rw) (all : List Int) (X : Nat → Value) (v : Value) : Prop where
  ow : OW 24 wr B (.slice (some ⟨gH, 0, none⟩) 24 cH) rs X
  all : wr.ownsRow B 3 1 v all.length (pvi all)
  by' : By w wr t (.slice (some ⟨gH, 0, none⟩) 24 cH)
  sz : B ≤ wr.heap.size
  ge : w.heap.size + 2 ≤ B
theorem AvI.now {B gH cH : Nat} {w wr : World} {t : Int} {rs : Nat → Rw} {all : List Int} {X : Nat → Value} {v : Value} (h : AvI B gH cH w wr t rs all X v) : nowOf w.heap.size wr = t := by
  unfold nowOf
  rw [h.by'.1.pair.1]
  rfl
theorem By.now2 {w W : World} {now t : Int} {v u : Value} (h : By w W now v) : By w ((W.setCell ⟨w.heap.size, 0, none⟩ (.int .i64 t)).setCell ⟨w.heap.size, 1, none⟩ u) t u :=
  ⟨((h.1.set 0 _).set 1 _).ext (fun q hq => by
    match q, hq with
    | 0, _ => rfl
    | 1, _ => rfl), (h.2.1.set_other (by omega) _ _).set_other (by omega) _ _, (h.2.2.1.setCell (Nat.le_refl _) _).setCell (Nat.le_refl _) _, by rw [World.size_setCell, World.size_setCell]; exact h.2.2.2⟩
end M
set_option maxRecDepth 20000 in
set_option maxHeartbeats 8000000 in
theorem spec_adv (now : Int) (v : Value) (k : Nat) (rs : Nat → Rw) (to : Int) (w : World) (hv : RowsOf w v k rs) (hs : Small k rs) :
    Calls Try.prog 30 #[.agg #[.int .i64 now, v], .int .i64 to] w fun e w' => ((AdvOk now k rs to ∧ ∃ u r, e = .returned (.tuple #[.agg #[.int .i64 to, u], r, .int .i64 ((advS now rs (to - now).toNat).2.2 : Nat), .bool true]) ∧ RowsK w.heap.size w' u 24 (advS now rs (to - now).toNat).1 ∧ w'.ownsRow w.heap.size 3 1 r (advS now rs (to - now).toNat).2.1.length (pvi (advS now rs (to - now).toNat).2.1)) ∨ (¬ AdvOk now k rs to ∧ e = .returned (.tuple #[.agg #[.int .i64 0, .slice none 0 0], .slice none 0 0, .int .i64 0, .bool false]))) ∧ Below w.heap.size w w' := by
  obtain ⟨i0, hi, hz0, hz1, hz2⟩ := info_parts info_int
  have HV := hide hv
  have HS := hide hs
  obtain ⟨a, cap, rfl⟩ := hv.form
  clear hv hs
  obtain ⟨bg, hbg⟩ : ∃ b, decide (GoodW now k rs) = b := ⟨_, rfl⟩
  have HBg := hide hbg
  have hX0 : By w ((w.alloc (.cells #[.int .i64 now, .slice a k cap] 24)).alloc (.cells #[.int .i64 0, .slice none 0 0] 24)) now (.slice a k cap) := by
    have h2 := Blk.fresh (w.alloc (.cells #[.int .i64 now, .slice a k cap] 24)) #[.int .i64 0, .slice none 0 0] 2 (p2 (.int .i64 0) (.slice none 0 0)) 24 rfl
    rw [World.size_alloc] at h2
    exact ⟨(Blk.fresh w #[.int .i64 now, .slice a k cap] 2 (p2 (.int .i64 now) (.slice a k cap)) 24 rfl).alloc _, h2, ((Below.refl w.heap.size w).alloc (Nat.le_refl _) _).alloc (by simp) _, by simp⟩
  go_enter Try.func30, Try.ntmps30
  go_wp2_with fail
  refine (spec_good now _ k rs bg _ (HV.out.below hX0.2.2.1) HS.out HBg.out).mono ?_
  rintro e w1 ⟨rfl, hb⟩
  have hX1 := hX0.down hb hX0.2.2.2
  clear hb hX0
  cases bg with
  | false =>
    obtain ⟨y0, y1, y2, y3⟩ := hX1.2.1.pair
    have hbf := (hX1.2.2.1.setCell (p := ⟨w.heap.size + 1, 0, none⟩) (show w.heap.size ≤ w.heap.size + 1 by omega) (.int .i64 0)).setCell (p := ⟨w.heap.size + 1, 1, none⟩) (show w.heap.size ≤ w.heap.size + 1 by omega) (.slice none 0 0)
    have HNo := hide (show ¬ AdvOk now k rs to from fun h => of_decide_eq_false hbg h.1)
    clear HV HS HBg hX1 hbg
    go_wp2
    exact bodyPost_ret (v := .tuple #[.agg #[.int .i64 0, .slice none 0 0], .slice none 0 0, .int .i64 0, .bool false]) (by simp [results, Try.results30, go_sem, y0, y1]) rfl ⟨.inr ⟨HNo.out, rfl⟩, hbf⟩
  | true =>
    have hG := of_decide_eq_true hbg
    obtain rfl : k = 24 := hG.2.1
    have HG := hide hG
    have hn0 : 0 ≤ now ∧ now ≤ 100000 := hG.1
    have hnw : IntKind.i64.wrap (now + 1000) = now + 1000 := by rw [IntKind.wrap_i64]; omega
    clear hbg HBg hG
    obtain ⟨x0, x1, x2, x3⟩ := hX1.1.pair
    obtain ⟨bt, hbt⟩ : ∃ b, decide (now ≤ to ∧ to ≤ now + 1000) = b := ⟨_, rfl⟩
    have HBt := hide hbt
    go_wp2_with fail
    refine (l1in_to _ _ _ _ _ HBt.out).mono ?_
    rintro e w2 ⟨rfl, rfl⟩
    obtain ⟨y0, y1, y2, y3⟩ := hX1.2.1.pair
    have hbf := (hX1.2.2.1.setCell (p := ⟨w.heap.size + 1, 0, none⟩) (show w.heap.size ≤ w.heap.size + 1 by omega) (.int .i64 0)).setCell (p := ⟨w.heap.size + 1, 1, none⟩) (show w.heap.size ≤ w.heap.size + 1 by omega) (.slice none 0 0)
    cases bt with
    | false =>
      have HNo := hide (show ¬ AdvOk now 24 rs to from fun h => of_decide_eq_false hbt ⟨h.2.1, h.2.2.1⟩)
      clear HV HS hX1 hbt HBt x0 x1 x2 x3
      go_wp2
      exact bodyPost_ret (v := .tuple #[.agg #[.int .i64 0, .slice none 0 0], .slice none 0 0, .int .i64 0, .bool false]) (by simp [results, Try.results30, go_sem, y0, y1]) rfl ⟨.inr ⟨HNo.out, rfl⟩, hbf⟩
    | true =>
      by_cases hgt : to > 100000
      · have hgd : decide (to > 100000) = true := decide_eq_true hgt
        have HNo := hide (show ¬ AdvOk now 24 rs to from fun h => by have := h.2.2.2; omega)
        clear HV HS hX1 hbt HBt x0 x1 x2 x3
        go_wp2
        exact bodyPost_ret (v := .tuple #[.agg #[.int .i64 0, .slice none 0 0], .slice none 0 0, .int .i64 0, .bool false]) (by simp [results, Try.results30, go_sem, y0, y1]) rfl ⟨.inr ⟨HNo.out, rfl⟩, hbf⟩
      · have hgd : decide (to > 100000) = false := decide_eq_false hgt
        have hto2 := of_decide_eq_true hbt
        have HOk := hide (show AdvOk now 24 rs to from ⟨HG.out, hto2.1, hto2.2, by omega⟩)
        obtain ⟨n, hn⟩ : ∃ n : Nat, to = now + (n : Int) := ⟨(to - now).toNat, by omega⟩
        have hnn : (to - now).toNat = n := by omega
        have hn1 : n ≤ 1000 := by omega
        have hto1 : now + (n : Int) ≤ 100000 := by omega
        subst hn
        have HNN := hide hnn
        have HSh := hide HS.out.short
        have h60 : tot rs 24 ≤ 60 := HG.out.2.2.2
        have HAo := hide (fun k hk => adv_ok (rs := rs) hn0.1 HG.out.lies h60 k hk)
        clear hbt HBt hto2 hnn hbf y0 y1 y2 y3
        go_wp2_with fail
        refine (l5_own now _ rs _ (HV.out.below hX1.2.2.1) HSh.out).mono ?_
        rintro e w5 ⟨⟨u, X, rfl, hO5⟩, hb⟩
        have hX5 := hX1.down hb hX1.2.2.2
        have hs5 := hb.size
        have hs2 := hX1.2.2.2
        obtain ⟨gH, cH, rfl⟩ := ow_form hO5
        obtain ⟨B, hB⟩ : ∃ B, w2.heap.size = B := ⟨_, rfl⟩
        rw [hB] at hO5 hs5 hs2
        have HI0 := hide (show AvI B gH cH w ((w5.setCell ⟨w.heap.size, 0, none⟩ (.int .i64 now)).setCell ⟨w.heap.size, 1, none⟩ (.slice (some ⟨gH, 0, none⟩) 24 cH)) (now + ((0 : Nat) : Int)) (advS now rs 0).1 (advS now rs 0).2.1 X (.slice none 0 0) from by
          have e : now + ((0 : Nat) : Int) = now := by omega
          rw [e]
          exact ⟨(hO5.kept hX5.1 0 _).kept (hX5.1.set 0 _) 1 _, World.ownsRow_nil _ _ _ _, hX5.now2, by rw [World.size_setCell, World.size_setCell]; exact hs5, hs2⟩)
        clear x0 x1 x2 x3 hb hX1 hB hO5
        obtain ⟨x0, x1, x2, x3⟩ := hX5.1.pair
        clear hX5
        go_wp2_with fail
        clear x0 x1 x2 x3
        generalize (w5.setCell ⟨w.heap.size, 0, none⟩ (.int .i64 now)).setCell ⟨w.heap.size, 1, none⟩ (.slice (some ⟨gH, 0, none⟩) 24 cH) = W6 at *
        go_loopw [8, 9] (fun x y wr => ∃ (k m : Nat) (X : Nat → Value), k ≤ n ∧ y = .int .i64 (m : Int) ∧ Hid (m = (advS now rs k).2.2) ∧ m ≤ 180 * k ∧ Hid (AvI B gH cH w wr (now + (k : Int)) (advS now rs k).1 (advS now rs k).2.1 X x)) (fun _ _ wr => (now + (n : Int) - nowOf w.heap.size wr).toNat)
        case atStart => exact ⟨0, 0, X, by omega, rfl, hide rfl, by omega, HI0⟩
        case round =>
          rename World => wo
          obtain ⟨k, m, X1, hkn, rfl, HM, hm, HI⟩ := hrel
          have HNo := hide HI.out.now
          obtain ⟨D, hD⟩ : ∃ D, (advS now rs k).2.1.length = D := ⟨_, rfl⟩
          obtain ⟨a8, c8, hx8⟩ := own_form HI.out.all
          rw [hD] at hx8
          subst hx8
          have HD := hide hD
          clear hD
          obtain ⟨x0, x1, x2, x3⟩ := HI.out.by'.1.pair
          by_cases hlt : k < n
          · obtain ⟨hL, ht, hw⟩ := HAo.out k (by omega)
            have hgt : GoodN (now + (k : Int) + 1) := by unfold GoodN; omega
            have hLt : LiesAll (now + (k : Int) + 1 - 1) (advS now rs k).1 := by rw [show now + (k : Int) + 1 - 1 = now + k by omega]; exact hL
            have hto3 := (tick_ok hgt hLt).2
            have hwk := wkL_le hgt hLt (by omega) 3 (by omega)
            rw [wkL_three] at hwk
            have hltd : now + (k : Int) < now + (n : Int) := by omega
            have HTk := hide (l5_tick B gH cH (advS now rs k).1 X1 (now + (k : Int)) wo HI.out.ow hL (by omega) (by omega) HI.out.sz)
            clear hL hLt hgt
            go_wp2_with fail
            refine HTk.out.mono ?_
            rintro e w6 ⟨r6, X6, rfl, hO6, hR6, hK6, hb6⟩
            have HAll := hide (hK6 _ _ _ _ HI.out.all)
            rw [HD.out] at HAll
            have hX6 := HI.out.by'.down hb6 HI.out.ge
            have hge := HI.out.ge
            have hsz6 := Nat.le_trans HI.out.sz hb6.size
            obtain ⟨E, hE⟩ : ∃ E, (tickR (now + (k : Int) + 1) (advS now rs k).1).2.length = E := ⟨_, rfl⟩
            obtain ⟨a6, c6, hr6⟩ := own_form hR6
            rw [hE] at hr6
            subst hr6
            have hDE : D + E ≤ 60 := by have := HD.out; omega
            obtain ⟨Wk, hWk⟩ : ∃ Wk, tickW (now + (k : Int) + 1) (advS now rs k).1 = Wk := ⟨_, rfl⟩
            have HMs := hide (show m + Wk = (advS now rs (k + 1)).2.2 from by
              show _ = (advS now rs k).2.2 + tickW (now + k + 1) (advS now rs k).1
              rw [← HM.out, hWk])
            have hWkb : Wk ≤ 180 := by omega
            obtain ⟨L6, hL6⟩ : ∃ L6, srt (tickR (now + (k : Int) + 1) (advS now rs k).1).2 = L6 := ⟨_, rfl⟩
            have HL6 := hide (show L6.length = E from by rw [← hL6, srt_len]; exact hE)
            rw [hL6, hE] at hR6
            have HNl := hide (show (advS now rs (k + 1)).2.1 = (advS now rs k).2.1 ++ L6 ∧ (advS now rs (k + 1)).1 = (tickR (now + (k : Int) + 1) (advS now rs k).1).1 from ⟨by rw [← hL6]; rfl, rfl⟩)
            have hbA := (Below.refl w6.heap.size w6).alloc (Nat.le_refl _) (.cells #[.int .i64 (now + (k : Int) + 1), .slice (some ⟨gH, 0, none⟩) 24 cH] 24)
            have hXA := hX6.alloc (.cells #[.int .i64 (now + (k : Int) + 1), .slice (some ⟨gH, 0, none⟩) 24 cH] 24)
            obtain ⟨W9, hW9⟩ : ∃ W9, ((w6.alloc (.cells #[.int .i64 (now + (k : Int) + 1), .slice (some ⟨gH, 0, none⟩) 24 cH] 24)).setCell ⟨w.heap.size, 0, none⟩ (.int .i64 (now + (k : Int) + 1))).setCell ⟨w.heap.size, 1, none⟩ (.slice (some ⟨gH, 0, none⟩) 24 cH) = W9 := ⟨_, rfl⟩
            have H9 := hide (show By w W9 (now + (k : Int) + 1) (.slice (some ⟨gH, 0, none⟩) 24 cH) ∧ OW 24 W9 B (.slice (some ⟨gH, 0, none⟩) 24 cH) (advS now rs (k + 1)).1 X6 ∧ W9.ownsRow B 3 1 (.slice a8 D c8) D (pvi (advS now rs k).2.1) ∧ W9.ownsRow wo.heap.size 3 1 (.slice a6 E c6) E (pvi L6) ∧ B ≤ W9.heap.size from by
              subst hW9
              have key : ∀ {B' n : Nat} {u : Value} {xs : List Value}, w6.ownsRow B' 3 1 u n xs → (((w6.alloc (.cells #[.int .i64 (now + (k : Int) + 1), .slice (some ⟨gH, 0, none⟩) 24 cH] 24)).setCell ⟨w.heap.size, 0, none⟩ (.int .i64 (now + (k : Int) + 1))).setCell ⟨w.heap.size, 1, none⟩ (.slice (some ⟨gH, 0, none⟩) 24 cH)).ownsRow B' 3 1 u n xs := fun hu => owns_set (owns_set (owns_below hu hbA) hXA.1 (by decide) _ _) (hXA.1.set 0 _) (by decide) _ _
              refine ⟨hXA.now2, ?_, key HAll.out, key hR6, by rw [World.size_setCell, World.size_setCell, World.size_alloc]; omega⟩
              rw [HNl.out.2]
              exact ((hO6.down hbA).kept hXA.1 0 _).kept (hXA.1.set 0 _) 1 _)
            have HW9 := hide hW9
            obtain ⟨xa0, xa1, xa2, xa3⟩ := hX6.1.pair
            obtain ⟨xb0, xb1, xb2, xb3⟩ := hXA.1.pair
            rw [hWk]
            have HE6 := hide hE
            clear HTk hto3 hO6 hR6 hK6 hb6 HAll hX6 hE hWk hL6 hbA hXA hW9 ht hw hwk HM x0 x1 x2 x3 HI HI0
            go_upto_region 9 with fail
            rw [HW9.out]
            clear HW9 xa0 xa1 xa2 xa3 xb0 xb1 xb2 xb3
            have hNext : now + (k : Int) + 1 = now + ((k + 1 : Nat) : Int) := by omega
            have HMe := hide (show (now + (n : Int) - (now + (k : Int) + 1)).toNat < (now + (n : Int) - nowOf w.heap.size wo).toNat from by rw [HNo.out]; omega)
            obtain ⟨h91, h92, h93, h94, h95⟩ := H9.out
            rcases (show a6 = none ∨ ∃ ad, a6 = some ad from by cases a6 with | none => exact .inl rfl | some ad => exact .inr ⟨ad, rfl⟩) with rfl | ⟨ad, rfl⟩
            · have hE0 : E = 0 := by
                rcases h94.2 with ⟨_, h⟩ | ⟨_, _, _, h, _⟩
                · exact h
                · simp at h
              subst hE0
              have hL0 : L6 = [] := List.length_eq_zero_iff.1 HL6.out
              have HI2 := hide (show AvI B gH cH w W9 (now + ((k + 1 : Nat) : Int)) (advS now rs (k + 1)).1 (advS now rs (k + 1)).2.1 X6 (.slice a8 D c8) from by
                rw [← hNext]
                refine ⟨h92, ?_, h91, h95, hge⟩
                rw [HNl.out.1, hL0, List.append_nil, HD.out]; exact h93)
              have HN9 := hide HI2.out.now
              have hcx : D ≤ c8 := own_le1 h93
              clear H9 h91 h92 h93 h94 h95 HNl HL6 HD hL0 HNo
              cases a8 with
              | none =>
                go_wp2
                exact ⟨⟨k + 1, m + Wk, X6, by omega, by first | rfl | (congr 1; omega), HMs, by omega, HI2⟩, by rw [HN9.out, ← hNext]; exact HMe.out⟩
              | some ay =>
                go_wp2
                exact ⟨⟨k + 1, m + Wk, X6, by omega, by first | rfl | (congr 1; omega), HMs, by omega, HI2⟩, by rw [HN9.out, ← hNext]; exact HMe.out⟩
            · obtain ⟨g6, hg6⟩ : ∃ g6, ad = ⟨g6, 0, none⟩ := by
                rcases h94.2 with ⟨h, _⟩ | ⟨g6, _, _, h, _⟩
                · simp at h
                · simp only [Value.slice.injEq, Option.some.injEq] at h
                  exact ⟨g6, h.1⟩
              subst hg6
              have HNw := hide (own_news h94)
              have HOne := hide (pvi_one L6)
              have HPE := hide (show (pvi L6).length = E * 1 from by rw [pvi_len, HL6.out, Nat.mul_one])
              have HAp := hide (show ∀ (w7 : World) (v7 : Value), W9.grownBy w7 (Value.slice a8 D c8).ownBlock → w7.ownsRow B 3 1 v7 (D + E) (pvi (advS now rs k).2.1 ++ pvi L6) → AvI B gH cH w w7 (now + ((k + 1 : Nat) : Int)) (advS now rs (k + 1)).1 (advS now rs (k + 1)).2.1 X6 v7 from fun w7 v7 hg7 ho7 => by
                rw [← hNext]
                have hb7 : Below B W9 w7 := (Below.refl B W9).grown hg7 h95 (fun q hq => (h93.lt q hq).1)
                refine ⟨⟨owns_other h92.hd hg7 (fun q hq e => owns_type h92.hd h93 (by decide) q hq e.symm), fun i hi => owns_other (h92.row i hi) hg7 (fun q hq e => owns_type (h92.row i hi) h93 (by decide) q hq e.symm), h92.apart⟩, ?_, h91.down hb7 hge, Nat.le_trans h95 hg7.size, hge⟩
                rw [HNl.out.1, pvi_app, List.length_append, HD.out, HL6.out]
                exact ho7)
              have HAl := hide h93
              clear H9 h91 h92 h93 h94 HNl HL6 HD HNo
              go_wp2_with (at_builtin; refine wpList_append_own _ rfl _ _ 45 rfl B 3 i0 _ 1 8 Try.underlying45 hi hz0 hz1 hz2 rfl (by decide) _ D _ rfl HAl.out ⟨g6, 0, none⟩ E c6 (pvi L6) rfl HPE.out HNw.out HOne.out (by unfold maxLen; omega) (by omega) (by omega) ?_)
              intro v7 w7 hown7 hgrow7 _
              obtain ⟨a9, c9, rfl⟩ := own_form hown7
              have HI2 := hide (HAp.out w7 _ hgrow7 hown7)
              have HN9 := hide HI2.out.now
              clear hown7 hgrow7 HAp HAl HNw HOne HPE
              go_wp2
              exact ⟨⟨k + 1, m + Wk, X6, by omega, by first | rfl | (congr 1; omega), HMs, by omega, HI2⟩, by rw [HN9.out, ← hNext]; exact HMe.out⟩
          · obtain rfl : k = n := by omega
            have hltd : ¬ (now + (k : Int) < now + (k : Int)) := by omega
            obtain ⟨y0, y1, y2, y3⟩ := HI.out.by'.2.1.pair
            have hX7 := HI.out.by'
            have hbf := (hX7.2.2.1.setCell (p := ⟨w.heap.size + 1, 0, none⟩) (show w.heap.size ≤ w.heap.size + 1 by omega) (.int .i64 (now + (k : Int)))).setCell (p := ⟨w.heap.size + 1, 1, none⟩) (show w.heap.size ≤ w.heap.size + 1 by omega) (.slice (some ⟨gH, 0, none⟩) 24 cH)
            have HRk := hide (((HI.out.ow.kept hX7.2.1 0 (.int .i64 (now + (k : Int)))).kept (hX7.2.1.set 0 _) 1 (.slice (some ⟨gH, 0, none⟩) 24 cH)).k (L := w.heap.size) (by have := HI.out.ge; omega))
            have HRi := hide (owns_mono (owns_set (owns_set HI.out.all hX7.2.1 (by decide) 0 (.int .i64 (now + (k : Int)))) (hX7.2.1.set 0 _) (by decide) 1 (.slice (some ⟨gH, 0, none⟩) 24 cH)) (show w.heap.size ≤ B by have := HI.out.ge; omega))
            clear HI hX7 HI0 HNo HAo HV HS
            go_wp2
            refine bodyPost_ret (v := .tuple #[.agg #[.int .i64 (now + (k : Int)), .slice (some ⟨gH, 0, none⟩) 24 cH], .slice a8 D c8, .int .i64 (m : Int), .bool true]) (by simp [results, Try.results30, go_sem, y0, y1]) rfl ⟨.inl ⟨HOk.out, .slice (some ⟨gH, 0, none⟩) 24 cH, .slice a8 D c8, ?_, ?_, ?_⟩, hbf⟩
            · rw [HNN.out, HM.out]
            · rw [HNN.out]; exact HRk.out
            · rw [HNN.out]; exact HRi.out
end Go.Proofs.Ytcodllammndciaa
