/-
  The program's AdvanceWheel: ticks one by one.
-/
import Derived.Test.YtcodllammndciaaWhR
import Derived.Test.YtcodllammndciaaWhDI
namespace Go.Proofs.Ytcodllammndciaa
open Go.RowKit M
open Clk (upd upd_same upd_other)
open Go.Sort (grow)
namespace M
/-- k ticks behind time now: the rows, what was due, and how often a timer was moved or due. -/
def advS (now : Int) (rs : Nat → Rw) : Nat → (Nat → Rw) × List Int × Nat
  | 0 => (rs, [], 0)
  | k + 1 => ((tickR (now + k + 1) (advS now rs k).1).1, (advS now rs k).2.1 ++ srt (tickR (now + k + 1) (advS now rs k).1).2, (advS now rs k).2.2 + tickW (now + k + 1) (advS now rs k).1)
theorem wkL_le {t : Int} {rs : Nat → Rw} (ht : GoodN t) (h : LiesAll (t - 1) rs) (h60 : tot rs 24 ≤ 60) : ∀ d, d ≤ 3 → wkL t rs d ≤ 60 * d
  | 0, _ => Nat.le_refl _
  | d + 1, hd => by
    have ih := wkL_le ht h h60 d (by omega)
    have h1 := (stL_ok ht h d (by omega)).2
    have h2 : wk t (2 - d) (stL t rs d) ≤ 60 := by
      unfold wk
      split
      · have := row_tot (stL t rs d).1 (kOf_lt (2 - d) t (by omega)); omega
      · omega
    show wkL t rs d + wk t (2 - d) (stL t rs d) ≤ _
    omega
theorem adv_ok {now : Int} {rs : Nat → Rw} (h0 : 0 ≤ now) (h : LiesAll now rs) (h60 : tot rs 24 ≤ 60) : ∀ k : Nat, now + k ≤ 100000 → LiesAll (now + k) (advS now rs k).1 ∧ tot (advS now rs k).1 24 + (advS now rs k).2.1.length = tot rs 24 ∧ (advS now rs k).2.2 ≤ 180 * k
  | 0, _ => ⟨by rw [show now + ((0 : Nat) : Int) = now by omega]; exact h, rfl, Nat.le_refl _⟩
  | k + 1, hk => by
    obtain ⟨h1, h2, h3⟩ := adv_ok h0 h h60 k (by omega)
    have hL : LiesAll (now + k + 1 - 1) (advS now rs k).1 := by rw [show now + (k : Int) + 1 - 1 = now + k by omega]; exact h1
    have hg : GoodN (now + k + 1) := by unfold GoodN; omega
    obtain ⟨h4, h5⟩ := tick_ok hg hL
    have h6 := wkL_le hg hL (by omega) 3 (by omega)
    rw [wkL_three] at h6
    refine ⟨?_, ?_, ?_⟩
    · rw [show now + ((k + 1 : Nat) : Int) = now + k + 1 by omega]; exact h4
    · show tot (tickR (now + k + 1) (advS now rs k).1).1 24 + ((advS now rs k).2.1 ++ srt (tickR (now + k + 1) (advS now rs k).1).2).length = _
      rw [List.length_append, srt_len]
      omega
    · show (advS now rs k).2.2 + tickW (now + k + 1) (advS now rs k).1 ≤ _
      omega
def AdvOk (now : Int) (k : Nat) (rs : Nat → Rw) (to : Int) : Prop := GoodW now k rs ∧ now ≤ to ∧ to ≤ now + 1000 ∧ to ≤ 100000
theorem pvi_app (l l' : List Int) : pvi (l ++ l') = pvi l ++ pvi l' := by simp [pvi]
theorem pvi_len (l : List Int) : (pvi l).length = l.length := by simp [pvi]
theorem pvi_one (l : List Int) : ∀ u ∈ pvi l, u.oneCell' = true := fun u hu => by
  unfold pvi at hu
  obtain ⟨x, _, rfl⟩ := List.mem_map.1 hu
  rfl
theorem own_news {w : World} {B e n g c : Nat} {xs : List Value} (h : w.ownsRow B e 1 (.slice (some ⟨g, 0, none⟩) n c) n xs) : ∀ j u, xs[j]? = some u → w.cell? ((⟨g, 0, none⟩ : Addr).add j) = some u := fun j u hj => by
  rcases h.2 with ⟨e1, _⟩ | ⟨g', cap, cur, e1, _, hg, _, _, _, ht⟩
  · cases e1
  · cases e1
    have hjl : j < xs.length := (List.getElem?_eq_some_iff.1 hj).1
    have hn := h.1
    rw [show (⟨g, 0, none⟩ : Addr).add j = ⟨g, j, none⟩ by unfold Addr.add; split <;> simp_all]
    rw [← ht, List.getElem?_take_of_lt (by omega), Array.getElem?_toList] at hj
    simp [World.cell?, hg, hj]
theorem own_le1 {w : World} {B e s n c : Nat} {a : Option Addr} {xs : List Value} (h : w.ownsRow B e s (.slice a n c) n xs) : n ≤ c := by
  rcases h.2 with ⟨e1, h0⟩ | ⟨g, cp, cur, e1, _, _, h1, _⟩
  · omega
  · simp only [Value.slice.injEq] at e1; omega
end M
set_option maxRecDepth 20000 in
set_option maxHeartbeats 8000000 in
theorem impl_adv (now : Int) (v : Value) (k : Nat) (rs : Nat → Rw) (to : Int) (w : World) (hv : RowsOf w v k rs) (hs : Small k rs) :
    Calls Try.prog 31 #[.agg #[.int .i64 now, v], .int .i64 to] w fun e w' => ((AdvOk now k rs to ∧ ∃ u r, e = .returned (.tuple #[.agg #[.int .i64 to, u], r, .int .i64 ((advS now rs (to - now).toNat).2.2 : Nat), .bool true]) ∧ AnsW w' w.heap.size u 24 (advS now rs (to - now).toNat).1 ∧ w'.ownsRow w.heap.size 3 1 r (advS now rs (to - now).toNat).2.1.length (pvi (advS now rs (to - now).toNat).2.1)) ∨ (¬ AdvOk now k rs to ∧ e = .returned (.tuple #[.agg #[.int .i64 0, .slice none 0 0], .slice none 0 0, .int .i64 0, .bool false]))) ∧ Below w.heap.size w w' := by
  obtain ⟨i0, hi, hz0, hz1, hz2⟩ := info_parts info_int
  have HV := hide hv
  have HS := hide hs
  obtain ⟨a, cap, rfl⟩ := hv.form
  clear hv hs
  obtain ⟨bg, hbg⟩ : ∃ b, decide (GoodW now k rs) = b := ⟨_, rfl⟩
  have HBg := hide hbg
  have hX0 : By w ((w.alloc (.cells #[.int .i64 now, .slice a k cap] 24)).alloc (.cells #[.int .i64 0, .slice none 0 0] 24)) now (.slice a k cap) := by
    have h2 := Blk.fresh (w.alloc (.cells #[.int .i64 now, .slice a k cap] 24)) #[.int .i64 0, .slice none 0 0] 2 (p2 (.int .i64 0) (.slice none 0 0)) 24 rfl
    rw [World.size_alloc] at h2
    exact ⟨(Blk.fresh w #[.int .i64 now, .slice a k cap] 2 (p2 (.int .i64 now) (.slice a k cap)) 24 rfl).alloc _, h2, ((Below.refl w.heap.size w).alloc (Nat.le_refl _) _).alloc (by simp) _, by simp⟩
  go_enter Try.func31, Try.ntmps31
  go_wp2_with fail
  refine (impl_good now _ k rs bg _ (HV.out.below hX0.2.2.1) HS.out HBg.out).mono ?_
  rintro e w1 ⟨rfl, hb⟩
  have hX1 := hX0.down hb hX0.2.2.2
  clear hb hX0
  cases bg with
  | false =>
    obtain ⟨y0, y1, y2, y3⟩ := hX1.2.1.pair
    have hbf := (hX1.2.2.1.setCell (p := ⟨w.heap.size + 1, 0, none⟩) (show w.heap.size ≤ w.heap.size + 1 by omega) (.int .i64 0)).setCell (p := ⟨w.heap.size + 1, 1, none⟩) (show w.heap.size ≤ w.heap.size + 1 by omega) (.slice none 0 0)
    have HNo := hide (show ¬ AdvOk now k rs to from fun h => of_decide_eq_false hbg h.1)
    clear HV HS HBg hX1 hbg
    go_wp2
    exact bodyPost_ret (v := .tuple #[.agg #[.int .i64 0, .slice none 0 0], .slice none 0 0, .int .i64 0, .bool false]) (by simp [results, Try.results31, go_sem, y0, y1]) rfl ⟨.inr ⟨HNo.out, rfl⟩, hbf⟩
  | true =>
    have hG := of_decide_eq_true hbg
    obtain rfl : k = 24 := hG.2.1
    have HG := hide hG
    have hn0 : 0 ≤ now ∧ now ≤ 100000 := hG.1
    have hnw : IntKind.i64.wrap (now + 1000) = now + 1000 := by rw [IntKind.wrap_i64]; omega
    clear hbg HBg hG
    obtain ⟨x0, x1, x2, x3⟩ := hX1.1.pair
    obtain ⟨bt, hbt⟩ : ∃ b, decide (now ≤ to ∧ to ≤ min (now + 1000) 100000) = b := ⟨_, rfl⟩
    have HBt := hide hbt
    go_wp2_with fail
    refine (within_to _ _ _ _ _ HBt.out).mono ?_
    rintro e w2 ⟨rfl, rfl⟩
    cases bt with
    | false =>
      obtain ⟨y0, y1, y2, y3⟩ := hX1.2.1.pair
      have hbf := (hX1.2.2.1.setCell (p := ⟨w.heap.size + 1, 0, none⟩) (show w.heap.size ≤ w.heap.size + 1 by omega) (.int .i64 0)).setCell (p := ⟨w.heap.size + 1, 1, none⟩) (show w.heap.size ≤ w.heap.size + 1 by omega) (.slice none 0 0)
      have HNo := hide (show ¬ AdvOk now 24 rs to from fun h => of_decide_eq_false hbt ⟨h.2.1, by have := h.2.2; omega⟩)
      clear HV HS hX1 hbt HBt x0 x1 x2 x3
      go_wp2
      exact bodyPost_ret (v := .tuple #[.agg #[.int .i64 0, .slice none 0 0], .slice none 0 0, .int .i64 0, .bool false]) (by simp [results, Try.results31, go_sem, y0, y1]) rfl ⟨.inr ⟨HNo.out, rfl⟩, hbf⟩
    | true =>
      have hto2 := of_decide_eq_true hbt
      have HOk := hide (show AdvOk now 24 rs to from ⟨HG.out, hto2.1, by omega, by omega⟩)
      obtain ⟨n, hn⟩ : ∃ n : Nat, to = now + (n : Int) := ⟨(to - now).toNat, by omega⟩
      have hnn : (to - now).toNat = n := by omega
      have hn1 : n ≤ 1000 := by omega
      have hto1 : now + (n : Int) ≤ 100000 := by omega
      subst hn
      have HNN := hide hnn
      have HSh := hide HS.out.short
      have h60 : tot rs 24 ≤ 60 := HG.out.2.2.2
      have HAo := hide (fun k hk => adv_ok (rs := rs) hn0.1 HG.out.lies h60 k hk)
      clear hbt HBt hto2 hnn
      go_wp2_with fail
      refine (turning_of now _ rs _ (HV.out.below hX1.2.2.1) HSh.out).mono ?_
      rintro e w5 ⟨⟨g, X, rfl, hT5⟩, hb⟩
      have hX5 := hX1.down hb hX1.2.2.2
      have hs5 := hb.size
      have hs2 := hX1.2.2.2
      obtain ⟨B, hB⟩ : ∃ B, w2.heap.size = B := ⟨_, rfl⟩
      rw [hB] at hT5 hs5 hs2
      have HI0 := hide (show (TW w5 B g (advS now rs 0).1 X ∧ w5.ownsRow B 3 1 (.slice none 0 0) (advS now rs 0).2.1.length (pvi (advS now rs 0).2.1)) ∧ By w w5 now (.slice a 24 cap) ∧ B ≤ w5.heap.size from ⟨⟨hT5, World.ownsRow_nil _ _ _ _⟩, hX5, hs5⟩)
      have hw1 : IntKind.i64.wrap (now + 1) = now + 1 := by rw [IntKind.wrap_i64]; omega
      clear x0 x1 x2 x3 hT5 hb hX1 hB
      obtain ⟨x0, x1, x2, x3⟩ := hX5.1.pair
      clear hX5
      go_wp2_with fail
      clear x0 x1 x2 x3
      go_loopw [9, 10, 11] (fun x y z wr => ∃ (k m : Nat) (X : Nat → Value), k ≤ n ∧ z = .int .i64 (now + (k : Int) + 1) ∧ y = .int .i64 (m : Int) ∧ Hid (m = (advS now rs k).2.2) ∧ m ≤ 180 * k ∧ Hid ((TW wr B g (advS now rs k).1 X ∧ wr.ownsRow B 3 1 x (advS now rs k).2.1.length (pvi (advS now rs k).2.1)) ∧ By w wr now (.slice a 24 cap) ∧ B ≤ wr.heap.size)) (fun _ _ z _ => (now + (n : Int) + 1 - intOf z).toNat)
      case atStart => exact ⟨0, 0, X, by omega, by first | (congr 1; done) | (congr 1; omega), rfl, hide rfl, by omega, HI0⟩
      case round =>
        rename World => wo
        obtain ⟨k, m, X1, hkn, rfl, rfl, HM, hm, HI⟩ := hrel
        obtain ⟨a9, c9, rfl⟩ := own_form HI.out.1.2
        obtain ⟨D, hD⟩ : ∃ D, (advS now rs k).2.1.length = D := ⟨_, rfl⟩
        rw [hD]
        have HD := hide hD
        clear hD
        by_cases hlt : k < n
        · obtain ⟨hL, ht, hw⟩ := HAo.out k (by omega)
          have hle : now + (k : Int) + 1 ≤ now + (n : Int) := by omega
          have hLt : LiesAll (now + (k : Int) + 1 - 1) (advS now rs k).1 := by rw [show now + (k : Int) + 1 - 1 = now + k by omega]; exact hL
          have hgt : GoodN (now + (k : Int) + 1) := by unfold GoodN; omega
          have HTk := hide (turn_tick B g (advS now rs k).1 X1 (now + (k : Int) + 1) wo HI.out.1.1 hLt (by omega) hgt HI.out.2.2)
          have hto3 := (tick_ok hgt hLt).2
          have hwk := wkL_le hgt hLt (by omega) 3 (by omega)
          rw [wkL_three] at hwk
          clear hL hLt hgt
          go_wp2_with fail
          refine HTk.out.mono ?_
          rintro e w6 ⟨v6, X6, m6, rfl, hm6, hT6⟩
          obtain ⟨a6, c6, rfl⟩ := own_form hT6.due
          have HAll := hide (hT6.kp _ _ _ _ HI.out.1.2)
          rw [HD.out] at HAll
          have hX6 := HI.out.2.1.down hT6.bel hs2
          have hsz6 := hT6.sz
          obtain ⟨E, hE⟩ : ∃ E, (srt (tickR (now + (k : Int) + 1) (advS now rs k).1).2).length = E := ⟨_, rfl⟩
          have hE2 : (tickR (now + (k : Int) + 1) (advS now rs k).1).2.length = E := by rw [← hE, srt_len]
          have hDE : D + E ≤ 60 := by have := HD.out; omega
          have HMs := hide (show m + (E + m6) = (advS now rs (k + 1)).2.2 from by
            show _ = (advS now rs k).2.2 + tickW (now + k + 1) (advS now rs k).1
            rw [← HM.out, ← hm6, hE2]; omega)
          have hm6b : E + m6 ≤ 180 := by omega
          have HDu := hide hT6.due
          have HTw := hide hT6.tw
          have hfirst : (srt (tickR (now + (k : Int) + 1) (advS now rs k).1).2).length = E := hE
          have HNl := hide (show (advS now rs (k + 1)).2.1.length = D + E ∧ pvi (advS now rs (k + 1)).2.1 = pvi (advS now rs k).2.1 ++ pvi (srt (tickR (now + (k : Int) + 1) (advS now rs k).1).2) from by
            refine ⟨?_, pvi_app _ _⟩
            show ((advS now rs k).2.1 ++ srt (tickR (now + k + 1) (advS now rs k).1).2).length = _
            rw [List.length_append, HD.out, hE])
          have HPl := hide (pvi_len (srt (tickR (now + (k : Int) + 1) (advS now rs k).1).2))
          have HLn := hide hE
          obtain ⟨L6, hL6⟩ : ∃ L6, srt (tickR (now + (k : Int) + 1) (advS now rs k).1).2 = L6 := ⟨_, rfl⟩
          have HDu' : Hid (w6.ownsRow wo.heap.size 3 1 (.slice a6 E c6) E (pvi L6)) := by
            have h := HDu.out
            simp only at h
            rw [hL6] at h hE
            rw [hE] at h
            exact h
          rw [hL6] at HNl HPl HLn
          have hval : (Value.slice a6 (srt (tickR (now + (k : Int) + 1) (advS now rs k).1).2).length c6) = .slice a6 E c6 := by rw [hE]
          simp only
          rw [hval]
          have hso : w6.ownsRow wo.heap.size 3 1 (.slice a6 E c6) E (pvi L6) := HDu'.out
          clear HTk hm6 hT6 hE hE2 hto3 HDu hfirst hL6 hval ht hw hwk HM
          rcases (show a6 = none ∨ ∃ ad, a6 = some ad from by cases a6 with | none => exact .inl rfl | some ad => exact .inr ⟨ad, rfl⟩) with rfl | ⟨ad, rfl⟩
          · have hE0 : E = 0 := by
              rcases hso.2 with ⟨_, h⟩ | ⟨_, _, _, h, _⟩
              · exact h
              · simp at h
            subst hE0
            have hL0 : L6 = [] := List.length_eq_zero_iff.1 HLn.out
            have HI2 := hide (show (TW w6 B g (advS now rs (k + 1)).1 X6 ∧ w6.ownsRow B 3 1 (.slice a9 D c9) (advS now rs (k + 1)).2.1.length (pvi (advS now rs (k + 1)).2.1)) ∧ By w w6 now (.slice a 24 cap) ∧ B ≤ w6.heap.size from by
              refine ⟨⟨HTw.out, ?_⟩, hX6, hsz6⟩
              rw [HNl.out.1, HNl.out.2, hL0]
              simpa [pvi] using HAll.out)
            have hcx : D ≤ c9 := own_le1 HAll.out
            clear hso HDu' HAll HTw HNl HPl HLn hX6 HI HD hL0
            cases a9 with
            | none =>
              go_wp2
              exact ⟨⟨k + 1, m + (0 + m6), X6, by omega, by first | (congr 1; done) | (congr 1; omega), by first | (congr 1; done) | (congr 1; omega), HMs, by omega, HI2⟩, by simp [intOf]; omega⟩
            | some ay =>
              go_wp2
              exact ⟨⟨k + 1, m + (0 + m6), X6, by omega, by first | (congr 1; done) | (congr 1; omega), by first | (congr 1; done) | (congr 1; omega), HMs, by omega, HI2⟩, by simp [intOf]; omega⟩
          · obtain ⟨g6, hg6⟩ : ∃ g6, ad = ⟨g6, 0, none⟩ := by
              rcases hso.2 with ⟨h, _⟩ | ⟨g6, _, _, h, _⟩
              · simp at h
              · simp only [Value.slice.injEq, Option.some.injEq] at h
                exact ⟨g6, h.1⟩
            subst hg6
            have HNw := hide (own_news hso)
            have HOne := hide (pvi_one L6)
            have HAp := hide (show ∀ (w7 : World) (v7 : Value), w6.grownBy w7 (Value.slice a9 D c9).ownBlock → w7.ownsRow B 3 1 v7 (D + E) (pvi (advS now rs k).2.1 ++ pvi L6) → (TW w7 B g (advS now rs (k + 1)).1 X6 ∧ w7.ownsRow B 3 1 v7 (advS now rs (k + 1)).2.1.length (pvi (advS now rs (k + 1)).2.1)) ∧ By w w7 now (.slice a 24 cap) ∧ B ≤ w7.heap.size from fun w7 v7 hg7 ho7 => by
              refine ⟨⟨tw_int HTw.out HAll.out hg7, ?_⟩, ?_, Nat.le_trans hsz6 hg7.size⟩
              · rw [HNl.out.1, HNl.out.2]; exact ho7
              · exact hX6.down ((Below.refl B w6).grown hg7 hsz6 (fun q hq => (HAll.out.lt q hq).1)) hs2)
            have HPE := hide (show (pvi L6).length = E * 1 from by rw [HPl.out, HLn.out, Nat.mul_one])
            clear hso HDu' HTw HNl HPl HLn hX6 HI HD
            go_wp2_with (at_builtin; refine wpList_append_own _ rfl _ _ 45 rfl B 3 i0 _ 1 8 Try.underlying45 hi hz0 hz1 hz2 rfl (by decide) _ D _ rfl HAll.out ⟨g6, 0, none⟩ E c6 (pvi L6) rfl HPE.out HNw.out HOne.out (by unfold maxLen; omega) (by omega) (by omega) ?_)
            intro v7 w7 hown7 hgrow7 _
            obtain ⟨a8, c8, rfl⟩ := own_form hown7
            have HI2 := hide (HAp.out w7 _ hgrow7 hown7)
            clear hown7 hgrow7 HAp HAll HNw HOne HPE
            go_wp2
            exact ⟨⟨k + 1, m + (E + m6), X6, by omega, by first | (congr 1; done) | (congr 1; omega), by first | (congr 1; done) | (congr 1; omega), HMs, by omega, HI2⟩, by simp [intOf]; omega⟩
        · obtain rfl : k = n := by omega
          have hgt : ¬ (now + (k : Int) + 1 ≤ now + (k : Int)) := by omega
          have HW := hide (wheel_at B g (advS now rs k).1 X1 (now + (k : Int)) wo HI.out.1.1 HI.out.2.2)
          go_wp2_with fail
          refine HW.out.mono ?_
          rintro e w7 ⟨⟨u, rfl, hA7⟩, hb⟩
          obtain ⟨au, cu, rfl⟩ := hA7.rows.form
          have hR7 := owns_below HI.out.1.2 hb
          rw [HD.out] at hR7
          have hX7 := HI.out.2.1.down hb HI.out.2.1.2.2.2
          obtain ⟨y0, y1, y2, y3⟩ := hX7.2.1.pair
          have hbf := (hX7.2.2.1.setCell (p := ⟨w.heap.size + 1, 0, none⟩) (show w.heap.size ≤ w.heap.size + 1 by omega) (.int .i64 (now + (k : Int)))).setCell (p := ⟨w.heap.size + 1, 1, none⟩) (show w.heap.size ≤ w.heap.size + 1 by omega) (.slice au 24 cu)
          have HA := hide (((hA7.set_low (b := w.heap.size + 1) (by omega) 0 (.int .i64 (now + (k : Int)))).set_low (b := w.heap.size + 1) (by omega) 1 (.slice au 24 cu)).mono (B' := w.heap.size) (by omega))
          have HR := hide (owns_mono (owns_set (owns_set hR7 hX7.2.1 (by decide) 0 (.int .i64 (now + (k : Int)))) (hX7.2.1.set 0 _) (by decide) 1 (.slice au 24 cu)) (show w.heap.size ≤ B by omega))
          clear hb hA7 hX7 HW HI hR7
          go_wp2
          refine bodyPost_ret (v := .tuple #[.agg #[.int .i64 (now + (k : Int)), .slice au 24 cu], .slice a9 D c9, .int .i64 (m : Int), .bool true]) (by simp [results, Try.results31, go_sem, y0, y1]) rfl ⟨.inl ⟨HOk.out, .slice au 24 cu, .slice a9 D c9, ?_, ?_, ?_⟩, hbf⟩
          · rw [HNN.out, HM.out]
          · rw [HNN.out]; exact HA.out
          · rw [HNN.out, HD.out]; exact HR.out
end Go.Proofs.Ytcodllammndciaa
