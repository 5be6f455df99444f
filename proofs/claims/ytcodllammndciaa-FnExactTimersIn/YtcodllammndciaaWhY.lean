/-
  SetTimer: the program's text.
-/
import Derived.Test.YtcodllammndciaaWhX
import Derived.Test.YtcodllammndciaaWhGI
namespace Go.Proofs.Ytcodllammndciaa
open Go.RowKit M
open Clk (upd upd_same upd_other)
open Go.Sort (grow)
namespace M
theorem AnsW.set_low {w : World} {B k : Nat} {v : Value} {rs : Nat → Rw} (h : AnsW w B v k rs) {b : Nat} (hb : b < B) (q : Nat) (x : Value) : AnsW (w.setCell ⟨b, q, none⟩ x) B v k rs := by
  rcases h with h | ⟨g, cap, cap', β, X, hv, h⟩
  · exact .inl h
  · exact .inr ⟨g, cap, cap', β, X, hv, h.set_low hb q x⟩
/-- A timer may be set. -/
def SetOk (now : Int) (k : Nat) (rs : Nat → Rw) (tm id : Int) : Prop := GoodW now k rs ∧ GoodI id ∧ tot rs 24 ≠ 60 ∧ id ∉ idsTo rs 24 ∧ (slotA now tm).2 = true
instance (now : Int) (k : Nat) (rs : Nat → Rw) (tm id : Int) : Decidable (SetOk now k rs tm id) := by unfold SetOk; infer_instance
theorem three2 (w : World) (c1 c2 c3 : Array Value) (t1 t2 t3 : TypeId) (f1 f2 f3 : Nat → Value) (h1 : c1 = cf 2 f1) (h2 : c2 = cf 2 f2) (h3 : c3 = cf 2 f3) : ∀ W, W = ((w.alloc (.cells c1 t1)).alloc (.cells c2 t2)).alloc (.cells c3 t3) →
    Blk W w.heap.size 2 f1 t1 ∧ Blk W (w.heap.size + 1) 2 f2 t2 ∧ Blk W (w.heap.size + 2) 2 f3 t3 ∧ Below w.heap.size w W ∧ W.heap.size = w.heap.size + 3 := two2 w c1 c2 c3 t1 t2 t3 f1 f2 f3 h1 h2 h3
/-- The three blocks of the call: the wheel, the timer, the answer. -/
def Bx (w W : World) (now : Int) (v : Value) (tm id : Int) : Prop := Blk W w.heap.size 2 (p2 (.int .i64 now) v) 24 ∧ Blk W (w.heap.size + 1) 2 (p2 (.int .i64 tm) (.int .i64 id)) 40 ∧ Blk W (w.heap.size + 1 + 1) 2 (p2 (.int .i64 0) (.slice none 0 0)) 24 ∧ Below w.heap.size w W ∧ w.heap.size + 3 ≤ W.heap.size
theorem Bx.down {w W W' : World} {now : Int} {v : Value} {tm id : Int} (h : Bx w W now v tm id) {B : Nat} (hb : Below B W W') (hB : w.heap.size + 3 ≤ B) : Bx w W' now v tm id :=
  ⟨h.1.below hb (by omega), h.2.1.below hb (by omega), h.2.2.1.below hb (by omega), h.2.2.2.1.trans (hb.mono (by omega)), Nat.le_trans h.2.2.2.2 hb.size⟩
end M
set_option maxRecDepth 20000 in
set_option maxHeartbeats 8000000 in
theorem impl_set (now : Int) (v : Value) (k : Nat) (rs : Nat → Rw) (tm id : Int) (w : World) (hv : RowsOf w v k rs) (hs : Small k rs) :
    Calls Try.prog 22 #[.agg #[.int .i64 now, v], .agg #[.int .i64 tm, .int .i64 id]] w fun e w' => ((SetOk now k rs tm id ∧ ∃ u, e = .returned (.tuple #[.agg #[.int .i64 now, u], .bool true]) ∧ AnsW w' w.heap.size u 24 (putR rs now tm id)) ∨ (¬ SetOk now k rs tm id ∧ e = .returned (.tuple #[.agg #[.int .i64 0, .slice none 0 0], .bool false]))) ∧ Below w.heap.size w w' := by
  have HV := hide hv
  have HS := hide hs
  obtain ⟨a, cap, rfl⟩ := hv.form
  clear hv hs
  obtain ⟨bg, hbg⟩ : ∃ b, decide (GoodW now k rs) = b := ⟨_, rfl⟩
  have HBg := hide hbg
  go_enter Try.func22, Try.ntmps22
  go_wp2_with fail
  generalize hW : ((w.alloc _).alloc _).alloc _ = W0
  obtain ⟨m0, m1, m2, hbW, hsW⟩ := three2 w _ _ _ _ _ _ (p2 _ _) (p2 _ _) (p2 _ _) rfl rfl rfl W0 hW.symm
  have hX0 : Bx w W0 now (.slice a k cap) tm id := ⟨m0, m1, m2, hbW, by omega⟩
  clear hW m0 m1 m2 hbW hsW
  refine (impl_good now _ k rs bg _ (HV.out.below hX0.2.2.2.1) HS.out HBg.out).mono ?_
  rintro e w1 ⟨rfl, hb⟩
  have hX1 := hX0.down hb hX0.2.2.2.2
  clear hb hX0
  cases bg with
  | false =>
    obtain ⟨_, _, y2, y3⟩ := hX1.2.2.1.pair
    have y0 := hX1.2.2.1.pair.1
    have y1 := hX1.2.2.1.pair.2.1
    have hbf := (hX1.2.2.2.1.setCell (p := ⟨w.heap.size + 1 + 1, 0, none⟩) (show w.heap.size ≤ w.heap.size + 1 + 1 by omega) (.int .i64 0)).setCell (p := ⟨w.heap.size + 1 + 1, 1, none⟩) (show w.heap.size ≤ w.heap.size + 1 + 1 by omega) (.slice none 0 0)
    have HNo := hide (show ¬ SetOk now k rs tm id from fun h => of_decide_eq_false hbg h.1)
    clear HV HS HBg hX1 hbg
    go_wp2
    exact bodyPost_ret (v := .tuple #[.agg #[.int .i64 0, .slice none 0 0], .bool false]) (by simp [results, Try.results22, go_sem, y0, y1]) rfl ⟨.inr ⟨HNo.out, rfl⟩, hbf⟩
  | true =>
    have hG := of_decide_eq_true hbg
    obtain rfl : k = 24 := hG.2.1
    have hn0 : 0 ≤ now ∧ now ≤ 100000 := hG.1
    have HG := hide hG
    have ht60 : tot rs 24 ≤ 60 := hG.2.2.2
    clear hbg HBg
    have HSh := hide HS.out.short
    obtain ⟨x0, x1, -, -⟩ := hX1.1.pair
    obtain ⟨t0, t1, -, -⟩ := hX1.2.1.pair
    obtain ⟨bi, hbi⟩ : ∃ b, decide (GoodI id) = b := ⟨_, rfl⟩
    have HBi := hide hbi
    go_wp2_with fail
    refine (good_id id bi _ HBi.out).mono ?_
    rintro e w1' ⟨rfl, rfl⟩
    cases bi with
    | false =>
      obtain ⟨_, _, y2, y3⟩ := hX1.2.2.1.pair
      have y0 := hX1.2.2.1.pair.1
      have y1 := hX1.2.2.1.pair.2.1
      have hbf := (hX1.2.2.2.1.setCell (p := ⟨w.heap.size + 1 + 1, 0, none⟩) (show w.heap.size ≤ w.heap.size + 1 + 1 by omega) (.int .i64 0)).setCell (p := ⟨w.heap.size + 1 + 1, 1, none⟩) (show w.heap.size ≤ w.heap.size + 1 + 1 by omega) (.slice none 0 0)
      have HNo := hide (show ¬ SetOk now 24 rs tm id from fun h => of_decide_eq_false hbi h.2.1)
      clear HV HS hX1 hbi
      go_wp2
      exact bodyPost_ret (v := .tuple #[.agg #[.int .i64 0, .slice none 0 0], .bool false]) (by simp [results, Try.results22, go_sem, y0, y1]) rfl ⟨.inr ⟨HNo.out, rfl⟩, hbf⟩
    | true =>
      have hI := of_decide_eq_true hbi
      clear hbi HBi
      go_wp2_with fail
      refine (concat_rows _ rs _ (HV.out.below hX1.2.2.2.1) ht60).mono ?_
      rintro e w2 ⟨⟨R, rfl, hO⟩, hb⟩
      have hX2 := hX1.down hb hX1.2.2.2.2
      have hTm := own_timers (fl_len rs 24) hO
      obtain ⟨aR, cR, rfl⟩ := own_form hO
      have HTm := hide hTm
      obtain ⟨nT, hnT⟩ : ∃ n, tot rs 24 = n := ⟨_, rfl⟩
      have HnT := hide hnT
      rw [hnT] at HTm ht60 ⊢
      clear hb hX1 hO hTm x0 x1 t0 t1 hnT
      by_cases h60 : nT = 60
      · have hd : ((nT : Int) == 60) = true := by simp [h60]
        have HH60 := hide h60
        clear h60
        obtain ⟨_, _, y2, y3⟩ := hX2.2.2.1.pair
        have y0 := hX2.2.2.1.pair.1
        have y1 := hX2.2.2.1.pair.2.1
        have hbf := (hX2.2.2.2.1.setCell (p := ⟨w.heap.size + 1 + 1, 0, none⟩) (show w.heap.size ≤ w.heap.size + 1 + 1 by omega) (.int .i64 0)).setCell (p := ⟨w.heap.size + 1 + 1, 1, none⟩) (show w.heap.size ≤ w.heap.size + 1 + 1 by omega) (.slice none 0 0)
        have HNo := hide (show ¬ SetOk now 24 rs tm id from fun h => h.2.2.1 (HnT.out.trans HH60.out))
        clear HV HS hX2 HTm
        go_wp2
        exact bodyPost_ret (v := .tuple #[.agg #[.int .i64 0, .slice none 0 0], .bool false]) (by simp [results, Try.results22, go_sem, y0, y1]) rfl ⟨.inr ⟨HNo.out, rfl⟩, hbf⟩
      · have hd : ((nT : Int) == 60) = false := by simp; omega
        have HH60 := hide h60
        clear h60
        obtain ⟨x0, x1, -, -⟩ := hX2.1.pair
        obtain ⟨t0, t1, -, -⟩ := hX2.2.1.pair
        go_wp2_with fail
        refine (has_id id _).mono ?_
        rintro e w3 ⟨⟨rfl, hc3, hl3⟩, hb⟩
        have hX3 := hX2.down hb hX2.2.2.2.2
        have HTm3 := hide (HTm.out.below hb)
        have HC3 := hide hc3
        clear hb hc3 x0 x1 t0 t1
        obtain ⟨bc, hbc⟩ : ∃ b, decide (id ∈ idsTo rs 24) = b := ⟨_, rfl⟩
        have HMe := hide (show (∃ p, p < nT ∧ (fl rs 24).getD (p * 2 + 1) 0 = id) ↔ bc = true by rw [← hbc, decide_eq_true_eq, ← mem_fl, HnT.out])
        go_wp2_with fail
        refine (contains_func _ nT (fun q => (fl rs 24).getD q 0) id w2.heap.size bc _ HTm3.out (by omega) HC3.out hl3 HMe.out).mono ?_
        rintro e w4 ⟨rfl, hb⟩
        have hX4 := hX3.down hb hX3.2.2.2.2
        clear hb HTm3 HC3 HTm HMe hX2 hX3 hl3
        cases bc with
        | true =>
          obtain ⟨_, _, y2, y3⟩ := hX4.2.2.1.pair
          have y0 := hX4.2.2.1.pair.1
          have y1 := hX4.2.2.1.pair.2.1
          have hbf := (hX4.2.2.2.1.setCell (p := ⟨w.heap.size + 1 + 1, 0, none⟩) (show w.heap.size ≤ w.heap.size + 1 + 1 by omega) (.int .i64 0)).setCell (p := ⟨w.heap.size + 1 + 1, 1, none⟩) (show w.heap.size ≤ w.heap.size + 1 + 1 by omega) (.slice none 0 0)
          have HNo := hide (show ¬ SetOk now 24 rs tm id from fun h => h.2.2.2.1 (of_decide_eq_true hbc))
          clear HV HS hX4 hbc
          go_wp2
          exact bodyPost_ret (v := .tuple #[.agg #[.int .i64 0, .slice none 0 0], .bool false]) (by simp [results, Try.results22, go_sem, y0, y1]) rfl ⟨.inr ⟨HNo.out, rfl⟩, hbf⟩
        | false =>
          have hNi := of_decide_eq_false hbc
          clear hbc
          obtain ⟨x0, x1, -, -⟩ := hX4.1.pair
          go_wp2_with fail
          refine (turning_of now _ rs _ (HV.out.below hX4.2.2.2.1) HSh.out).mono ?_
          rintro e w5 ⟨⟨g, X, rfl, hT5⟩, hb⟩
          have hX5 := hX4.down hb hX4.2.2.2.2
          have hs4 := hX4.2.2.2.2
          have HT5 := hide hT5
          have hs45 := hb.size
          clear hb hT5 x0 x1 hX4
          obtain ⟨x0, x1, -, -⟩ := hX5.1.pair
          obtain ⟨t0, t1, -, -⟩ := hX5.2.1.pair
          obtain ⟨bs, hbs⟩ : ∃ b, (slotA now tm).2 = b := ⟨_, rfl⟩
          have HP := hide (turn_put w4.heap.size g rs X now tm id w5 HT5.out HSh.out hs45)
          rw [hbs] at HP
          go_wp2_with fail
          refine HP.out.mono ?_
          rintro e w6 ⟨⟨rfl, X6, hT6⟩, hb⟩
          have hX6 := hX5.down hb hs4
          have HT6 := hide hT6
          have hs46 := Nat.le_trans hs45 hb.size
          clear hb hT6 HP hX5 x0 x1 t0 t1
          cases bs with
          | false =>
            obtain ⟨_, _, y2, y3⟩ := hX6.2.2.1.pair
            have y0 := hX6.2.2.1.pair.1
            have y1 := hX6.2.2.1.pair.2.1
            have hbf := (hX6.2.2.2.1.setCell (p := ⟨w.heap.size + 1 + 1, 0, none⟩) (show w.heap.size ≤ w.heap.size + 1 + 1 by omega) (.int .i64 0)).setCell (p := ⟨w.heap.size + 1 + 1, 1, none⟩) (show w.heap.size ≤ w.heap.size + 1 + 1 by omega) (.slice none 0 0)
            have HNo := hide (show ¬ SetOk now 24 rs tm id from fun h => absurd (hbs.symm.trans h.2.2.2.2) (by decide))
            clear HV HS hX6 hbs HT6 HT5
            go_wp2
            exact bodyPost_ret (v := .tuple #[.agg #[.int .i64 0, .slice none 0 0], .bool false]) (by simp [results, Try.results22, go_sem, y0, y1]) rfl ⟨.inr ⟨HNo.out, rfl⟩, hbf⟩
          | true =>
            have HOk := hide (show SetOk now 24 rs tm id from ⟨HG.out, hI, fun h => HH60.out (HnT.out.symm.trans h), hNi, hbs⟩)
            obtain ⟨x0, x1, -, -⟩ := hX6.1.pair
            go_wp2_with fail
            refine (wheel_at w4.heap.size g _ X6 now w6 HT6.out hs46).mono ?_
            rintro e w7 ⟨⟨u, rfl, hA7⟩, hb⟩
            have hX7 := hX6.down hb hX6.2.2.2.2
            obtain ⟨au, cu, rfl⟩ := hA7.rows.form
            obtain ⟨_, _, y2, y3⟩ := hX7.2.2.1.pair
            have y0 := hX7.2.2.1.pair.1
            have y1 := hX7.2.2.1.pair.2.1
            have hbf := (hX7.2.2.2.1.setCell (p := ⟨w.heap.size + 1 + 1, 0, none⟩) (show w.heap.size ≤ w.heap.size + 1 + 1 by omega) (.int .i64 now)).setCell (p := ⟨w.heap.size + 1 + 1, 1, none⟩) (show w.heap.size ≤ w.heap.size + 1 + 1 by omega) (.slice au 24 cu)
            have HA := hide (((hA7.set_low (b := w.heap.size + 1 + 1) (by omega) 0 (.int .i64 now)).set_low (b := w.heap.size + 1 + 1) (by omega) 1 (.slice au 24 cu)).mono (B' := w.heap.size) (by omega))
            clear hb hA7 hX6 hX7 x0 x1 HV HS HT6 HT5 hbs hI hNi
            go_wp2
            exact bodyPost_ret (v := .tuple #[.agg #[.int .i64 now, .slice au 24 cu], .bool true]) (by simp [results, Try.results22, go_sem, y0, y1]) rfl ⟨.inl ⟨HOk.out, _, rfl, HA.out⟩, hbf⟩
end Go.Proofs.Ytcodllammndciaa
