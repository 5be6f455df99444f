/-
  The specification's RunSaga.
-/
import Derived.Test.YtmpedadjikmnhaaSgZs
import Derived.Test.YtmpedadjikmnhaaSgKr
namespace Go.Proofs.Ytmpedadjikmnhaa
open Go.RowKit M
open Clk (upd upd_same upd_other)
open Go.Sort (grow)
namespace M
/-- The saga in its box, and the cell of the result. -/
def Rs (w : World) (x0 x1 : Value) (s : Sg) (W : World) : Prop := Bx3 w w.heap.size x0 x1 (.int .i64 s.dn) (.bool s.un) s W
theorem Rs.put {w W : World} {x0 x1 : Value} {s : Sg} (h : Rs w x0 x1 s W) {u0 u1 : Value} {r : Sg} (hA : AnsS W w.heap.size u0 u1 r) : Rs w u0 u1 r ((((W.setCell ⟨w.heap.size, 0, none⟩ u0).setCell ⟨w.heap.size, 1, none⟩ u1).setCell ⟨w.heap.size, 2, none⟩ (.int .i64 r.dn)).setCell ⟨w.heap.size, 3, none⟩ (.bool r.un)) := by
  have hz := put4 h.1 h.2.2.2 (Nat.le_refl _) u0 u1 (.int .i64 r.dn) (.bool r.un) _ rfl
  exact ⟨hz.1, hz.2.2.2.2 (by omega) h.2.1, (hz.2.2.2.1 hA).mono (Nat.le_refl _) (by rw [hz.2.2.1]; exact Nat.le_refl _), hz.2.1⟩
theorem Rs.down {w W W' : World} {x0 x1 : Value} {s : Sg} (h : Rs w x0 x1 s W) (hb : Below W.heap.size W W') : Rs w x0 x1 s W' := Bx3.down h hb
/-- The same beside what is stepped to. -/
def Rx (w : World) (x0 x1 : Value) (s : Sg) (gx : Nat) (y0 y1 : Value) (r : Sg) (W : World) : Prop :=
  Rs w x0 x1 s W ∧ Blk W gx 4 (p4 y0 y1 (.int .i64 r.dn) (.bool r.un)) 27 ∧ AnsS W w.heap.size y0 y1 r ∧ w.heap.size + 1 < gx
theorem Rx.put {w W : World} {x0 x1 : Value} {s : Sg} {gx : Nat} {o0 o1 o2 o3 : Value} (h : Rs w x0 x1 s W) (hx : Blk W gx 4 (p4 o0 o1 o2 o3) 27) (hg : w.heap.size + 1 < gx) {u0 u1 : Value} {r : Sg} (hA : AnsS W w.heap.size u0 u1 r) : Rx w x0 x1 s gx u0 u1 r ((((W.setCell ⟨gx, 0, none⟩ u0).setCell ⟨gx, 1, none⟩ u1).setCell ⟨gx, 2, none⟩ (.int .i64 r.dn)).setCell ⟨gx, 3, none⟩ (.bool r.un)) := by
  have hz := put4 hx h.2.2.2 (by omega) u0 u1 (.int .i64 r.dn) (.bool r.un) _ rfl
  exact ⟨⟨hz.2.2.2.2 (by omega) h.1, hz.2.2.2.2 (by omega) h.2.1, (hz.2.2.2.1 h.2.2.1).mono (Nat.le_refl _) (by rw [hz.2.2.1]; exact Nat.le_refl _), hz.2.1⟩, hz.1, (hz.2.2.2.1 hA).mono (Nat.le_refl _) (by rw [hz.2.2.1]; exact Nat.le_refl _), hg⟩
theorem stp_na (s : Sg) : (stepS s).na = s.na ∧ (stepS s).nm = s.nm := by
  unfold stepS; split
  · exact ⟨rfl, rfl⟩
  · split <;> exact ⟨rfl, rfl⟩
end M
open Classical in
set_option maxRecDepth 20000 in
set_option maxHeartbeats 20000000 in
theorem spec_run (v0 v1 : Value) (s : Sg) (fail : Int) (b : Bool) (w : World) (hv : SagQ w v0 v1 s.na s.fa s.nm (fl s.fm)) (hs : ShortS s.na s.nm) (hb : b = true ↔ GoodS s) (r : Sg) (z : Int) (hr : (if b = true then (fin s 0 fail).s else zeroS) = r) (hz : (if b = true then ((fin s 0 fail).n : Int) else 0) = z) :
    Calls Try.prog 31 #[sgv v0 v1 s, .int .i64 fail] w fun e w' => OutR w.heap.size r z b e w' ∧ Below w.heap.size w w' := by
  have HV := hide hv
  have HS := hide hs
  have HB := hide hb
  obtain ⟨a0, c0, rfl⟩ := hv.1.form
  obtain ⟨a1, c1, rfl⟩ := hv.2.form
  have HRr := hide hr
  have HZz := hide hz
  clear hv hs hb hr hz
  obtain ⟨W, hW⟩ : ∃ W, (w.alloc (.cells #[.slice a0 s.na c0, .slice a1 s.nm c1, .int .i64 s.dn, .bool s.un] 27)).alloc (.cells #[.slice none 0 0, .slice none 0 0, .int .i64 0, .bool false] 27) = W := ⟨_, rfl⟩
  have HD0 := hide (show Blk W w.heap.size 4 (p4 (.slice a0 s.na c0) (.slice a1 s.nm c1) (.int .i64 s.dn) (.bool s.un)) 27 from by subst hW; exact (new4 w _ _ _ _ _).alloc _)
  have HE0 := hide (show Blk W (w.heap.size + 1) 4 (p4 (.slice none 0 0) (.slice none 0 0) (.int .i64 0) (.bool false)) 27 from by subst hW; have := new4 (w.alloc (.cells #[.slice a0 s.na c0, .slice a1 s.nm c1, .int .i64 s.dn, .bool s.un] 27)) (.slice none 0 0) (.slice none 0 0) (.int .i64 0) (.bool false) 27; rw [World.size_alloc] at this; exact this)
  have hb0 : Below w.heap.size w W := by subst hW; exact ((Below.refl _ w).alloc (Nat.le_refl _) _).alloc (by simp) _
  have HWW := hide hW
  clear hW
  go_enter Try.func31, Try.ntmps31
  go_wp2_with fail
  rw [HWW.out]
  clear HWW
  refine (spec_good _ _ s b _ (HV.out.below hb0) HS.out HB.out).mono ?_
  rintro e w1 ⟨rfl, hb⟩
  have hb1 := hb0.trans (hb.mono hb0.size)
  have hE1 := HE0.out.down hb
  have hD1 := HD0.out.down hb
  clear hb hb0 HE0 HD0
  obtain ⟨⟨d0, d1, d2, d3⟩, g0, g1, g2, g3⟩ := hD1.quad
  obtain ⟨⟨e0, e1, e2, e3⟩, h0, h1, h2, h3⟩ := hE1.quad
  cases b with
  | false =>
    obtain ⟨WZ, hWZ⟩ : ∃ WZ, (((w1.setCell ⟨w.heap.size + 1, 0, none⟩ (.slice none 0 0)).setCell ⟨w.heap.size + 1, 1, none⟩ (.slice none 0 0)).setCell ⟨w.heap.size + 1, 2, none⟩ (.int .i64 0)).setCell ⟨w.heap.size + 1, 3, none⟩ (.bool false) = WZ := ⟨_, rfl⟩
    have HZ := hide (put4 hE1 hb1 (by omega) _ _ _ _ WZ hWZ)
    have HWZ := hide hWZ
    clear hWZ hE1 hD1 hb1 HV HS HB
    go_wp2
    rw [HWZ.out]
    clear e0 e1 e2 e3 h0 h1 h2 h3 d0 d1 d2 d3 g0 g1 g2 g3
    obtain ⟨⟨e0, e1, e2, e3⟩, -⟩ := HZ.out.1.quad
    exact bodyPost_ret (v := .tuple #[.agg #[.slice none 0 0, .slice none 0 0, .int .i64 0, .bool false], .int .i64 0, .bool false]) (by simp [results, Try.results31, go_sem, e0, e1, e2, e3]) rfl (by have e1 := HRr.out; have e2 := HZz.out; rw [← e1, ← e2]; exact ⟨⟨_, _, rfl, ans_zero _ _⟩, HZ.out.2.1⟩)
  | true =>
    have hg := HB.out.1 (by trivial)
    have HG := hide hg
    have HO := hide (l9own _ _ s _ (HV.out.below hb1) (short_good hg))
    have HDE := hide (And.intro hD1 hE1)
    have hRr := HRr.out
    have hZz := HZz.out
    rw [if_pos (by trivial)] at hRr hZz
    have HRn := hide hRr
    have HZn := hide hZz
    clear HRr HZz HV HS HB hE1 hD1 e0 e1 e2 e3 h0 h1 h2 h3 hg hRr hZz
    go_wp2_with fail
    refine HO.out.mono ?_
    rintro e w2 ⟨⟨u0, u1, rfl, hA⟩, hb⟩
    have hb2 := hb1.trans (hb.mono hb1.size)
    have hD2 := HDE.out.1.down hb
    have hE2 := HDE.out.2.down hb
    obtain ⟨a3, c3, rfl⟩ := hA.q.1.form
    obtain ⟨a4, c4, rfl⟩ := hA.q.2.form
    have hs1 := hb1.size
    have HX := hide (show Rs w (.slice a3 s.na c3) (.slice a4 s.nm c4) s ((((w2.setCell ⟨w.heap.size, 0, none⟩ (.slice a3 s.na c3)).setCell ⟨w.heap.size, 1, none⟩ (.slice a4 s.nm c4)).setCell ⟨w.heap.size, 2, none⟩ (.int .i64 s.dn)).setCell ⟨w.heap.size, 3, none⟩ (.bool s.un)) from by
      have hA' := hA.mono hs1 (Nat.le_refl _)
      have hz := put4 hD2 hb2 (Nat.le_refl _) (.slice a3 s.na c3) (.slice a4 s.nm c4) (.int .i64 s.dn) (.bool s.un) _ rfl
      exact ⟨hz.1, hz.2.2.2.2 (by omega) hE2, (hz.2.2.2.1 hA').mono (Nat.le_refl _) (by rw [hz.2.2.1]; exact Nat.le_refl _), hz.2.1⟩)
    clear d0 d1 d2 d3 g0 g1 g2 g3 HDE HO hb hb1 hA hE2
    obtain ⟨⟨d0, d1, d2, d3⟩, g0, g1, g2, g3⟩ := hD2.quad
    clear hD2 hb2
    go_wp2_with fail
    go_loopw [7, 8, 9] (fun xn _ _ W => ∃ (n : Nat) (s' : Sg) (x0 x1 : Value), n ≤ 41 ∧ xn = .int .i64 (n : Int) ∧ Hid (Rs w x0 x1 s' W ∧ GoodS s' ∧ fin s' n fail = fin s 0 fail ∧ n + mea s' ≤ 41 ∧ (s'.na = s.na ∧ s'.nm = s.nm))) (fun xn _ _ _ => 100 - (intOf xn).toNat)
    case atStart => exact ⟨0, s, _, _, by omega, rfl, hide ⟨HX.out, HG.out, rfl, by have := mea_le HG.out; omega, rfl, rfl⟩⟩
    case round =>
      rename World => wo
      obtain ⟨n, s', x0, x1, hn, rfl, HI⟩ := hrel
      obtain ⟨i1, i2, i3, i4, i5, i6⟩ := HI.out
      obtain ⟨ax, cx, rfl⟩ := i1.2.2.1.q.1.form
      obtain ⟨ay, cy, rfl⟩ := i1.2.2.1.q.2.form
      clear d0 d1 d2 d3 g0 g1 g2 g3 HX
      obtain ⟨⟨d0, d1, d2, d3⟩, g0, g1, g2, g3⟩ := i1.1.quad
      have hlo : w.heap.size + 1 < wo.heap.size := i1.2.1.lt
      have nlo : w.heap.size ≠ wo.heap.size := by omega
      have nlo1 : w.heap.size < wo.heap.size := by omega
      have HSh := hide (show ShortS s'.na s'.nm from ⟨by have := i2.na8; omega, by have := i2.nm; omega⟩)
      have hdn := (Below.refl wo.heap.size wo).alloc (Nat.le_refl _) (.cells #[.slice ax s'.na cx, .slice ay s'.nm cy, .int .i64 s'.dn, .bool s'.un] 27)
      have hN0 := new4 wo (.slice ax s'.na cx) (.slice ay s'.nm cy) (.int .i64 s'.dn) (.bool s'.un) 27
      obtain ⟨X0, hX0⟩ : ∃ X0, wo.alloc (.cells #[.slice ax s'.na cx, .slice ay s'.nm cy, .int .i64 s'.dn, .bool s'.un] 27) = X0 := ⟨_, rfl⟩
      rw [hX0] at hdn hN0
      have HX0 := hide hX0
      have hR0 := i1.down hdn
      have HST := hide (show ∀ (o0 o1 o2 o3 : Value) (X : World), Rs w (.slice ax s'.na cx) (.slice ay s'.nm cy) s' X → Blk X wo.heap.size 4 (p4 o0 o1 o2 o3) 27 → ∃ (b3 : Bool) (r2 : Sg), (b3 = true ↔ canS s') ∧ (b3 = true → r2 = stepS s') ∧ Calls Try.prog 27 #[.agg #[.slice ax s'.na cx, .slice ay s'.nm cy, .int .i64 s'.dn, .bool s'.un]] X fun e w' => ∃ (k1 k2 : Option Addr) (k3 k4 : Nat), e = .returned (.tuple #[.agg #[.slice k1 r2.na k3, .slice k2 r2.nm k4, .int .i64 r2.dn, .bool r2.un], .bool b3]) ∧ Blk w' wo.heap.size 4 (p4 o0 o1 o2 o3) 27 ∧ Rs w (.slice ax s'.na cx) (.slice ay s'.nm cy) s' w' ∧ Rx w (.slice ax s'.na cx) (.slice ay s'.nm cy) s' wo.heap.size (.slice k1 r2.na k3) (.slice k2 r2.nm k4) r2 ((((w'.setCell ⟨wo.heap.size, 0, none⟩ (.slice k1 r2.na k3)).setCell ⟨wo.heap.size, 1, none⟩ (.slice k2 r2.nm k4)).setCell ⟨wo.heap.size, 2, none⟩ (.int .i64 r2.dn)).setCell ⟨wo.heap.size, 3, none⟩ (.bool r2.un)) from fun o0 o1 o2 o3 X hRX hBX => by
        refine ⟨decide (canS s'), if decide (canS s') = true then stepS s' else zeroS, decide_eq_true_iff, fun h => if_pos h, ?_⟩
        refine (spec_step _ _ s' (decide (canS s')) X (hRX.2.2.1.q) HSh.out (by rw [decide_eq_true_iff]; exact ⟨fun h => ⟨HI.out.2.1, h⟩, fun h => h.2⟩) _ rfl).mono ?_
        generalize (if decide (canS s') = true then stepS s' else zeroS) = r2
        rintro e w' ⟨⟨u0, u1, rfl, hA⟩, hb⟩
        obtain ⟨k1, k3, rfl⟩ := hA.q.1.form
        obtain ⟨k2, k4, rfl⟩ := hA.q.2.form
        exact ⟨k1, k2, k3, k4, rfl, hBX.down hb, hRX.down hb, Rx.put (hRX.down hb) (hBX.down hb) hlo (hA.mono hRX.2.2.2.size (Nat.le_refl _))⟩)
      by_cases hnf : (n : Int) = fail
      · have hbe : ((n : Int) == fail) = true := by simp [hnf]
        obtain ⟨bd, hbd⟩ : ∃ x, decide (canD s') = x := ⟨_, rfl⟩
        have HF := hide (spec_fail _ _ s' bd X0 hR0.2.2.1.q HSh.out (by rw [← hbd, decide_eq_true_eq]; exact ⟨fun h => ⟨i2, h⟩, fun h => h.2⟩) _ rfl)
        have HBD := hide hbd
        have HNF := hide hnf
        have HR0 := hide hR0
        have HN0 := hide hN0
        have HDN := hide hdn
        clear i1 i2 i3 i4 i5 i6 hdn hN0 hX0 hR0 hbd hnf
        go_wp2_with fail
        rw [HX0.out]
        generalize hrf : (if bd = true then failS s' else zeroS) = rf at *
        refine HF.out.mono ?_
        rintro e w3 ⟨⟨u0, u1, rfl, hA⟩, hb⟩
        obtain ⟨b3, k3, rfl⟩ := hA.q.1.form
        obtain ⟨b4, k4, rfl⟩ := hA.q.2.form
        have hR3 := HR0.out.down hb
        have hN3 := HN0.out.down hb
        have hbo := HDN.out.trans (hb.mono HDN.out.size)
        have HRx := hide (Rx.put hR3 hN3 hlo (hA.mono HR0.out.2.2.2.size (Nat.le_refl _)))
        have HRf := hide hrf
        clear d0 d1 d2 d3 g0 g1 g2 g3 HF HR0 HN0 HDN hb hA hrf
        obtain ⟨⟨d0, d1, d2, d3⟩, g0, g1, g2, g3⟩ := hR3.1.quad
        obtain ⟨⟨e0, e1, e2, e3⟩, h0, h1, h2, h3⟩ := hN3.quad
        clear hR3 hN3 hbo
        cases bd with
        | true =>
          obtain ⟨i1, i2, i3, i4, i5, i6⟩ := HI.out
          have hcd : canD s' := of_decide_eq_true HBD.out
          have hrf : failS s' = rf := by have := HRf.out; rw [if_pos (by trivial)] at this; exact this
          subst hrf
          have HEn := hide (show GoodS (failS s') ∧ fin (failS s') (n + 1) fail = fin s 0 fail ∧ n + 1 + mea (failS s') ≤ 41 ∧ ((failS s').na = s.na ∧ (failS s').nm = s.nm) from ⟨i2.fail, (fin_fail i2 hcd HNF.out).trans i3, by have := mea_fail i2 hcd; omega, i5, i6⟩)
          have hn1 : n + 1 ≤ 41 := by have := HEn.out.2.2.1; omega
          clear i1 i2 i3 i4 i5 i6 hcd HNF HI HBD HRf HST
          generalize failS s' = t' at *
          go_wp2_with (refine stop_at (some 36) rfl (Rx w (.slice ax s'.na cx) (.slice ay s'.nm cy) s' wo.heap.size (.slice b3 t'.na k3) (.slice b4 t'.nm k4) t') HRx ?_)
          rintro w5 h5
          clear d0 d1 d2 d3 g0 g1 g2 g3 e0 e1 e2 e3 h0 h1 h2 h3 HRx
          obtain ⟨⟨d0, d1, d2, d3⟩, g0, g1, g2, g3⟩ := h5.1.1.quad
          obtain ⟨⟨e0, e1, e2, e3⟩, -⟩ := h5.2.1.quad
          have HN := hide (h5.1.put h5.2.2.1)
          clear h5
          go_wp2
          exact ⟨⟨n + 1, t', .slice b3 t'.na k3, .slice b4 t'.nm k4, hn1, by go_num, hide ⟨HN.out, HEn.out⟩⟩, by simp [intOf]; omega⟩
        | false =>
          have HNC := hide (show ¬ canD s' from of_decide_eq_false HBD.out)
          clear HBD HRf HNF
          go_wp2_with (refine stop_at (some 28) rfl (Rx w (.slice ax s'.na cx) (.slice ay s'.nm cy) s' wo.heap.size (.slice b3 rf.na k3) (.slice b4 rf.nm k4) rf) HRx ?_)
          rintro w5 h5
          clear d0 d1 d2 d3 g0 g1 g2 g3 e0 e1 e2 e3 h0 h1 h2 h3 HRx
          obtain ⟨b3, r2, q1, q2, hSt⟩ := HST.out _ _ _ _ w5 h5.1 h5.2.1
          have HSt := hide hSt
          have HQ1 := hide q1
          have HQ2 := hide q2
          obtain ⟨⟨d0, d1, d2, d3⟩, g0, g1, g2, g3⟩ := h5.1.1.quad
          clear h5 hSt q1 q2 HST
          go_wp2_with fail
          refine HSt.out.mono ?_
          rintro e w6 ⟨k1, k2, k5, k6, rfl, hN3, hR3, hRx⟩
          have HRx := hide hRx
          clear d0 d1 d2 d3 g0 g1 g2 g3 HSt hRx
          obtain ⟨⟨d0, d1, d2, d3⟩, g0, g1, g2, g3⟩ := hR3.1.quad
          obtain ⟨⟨e0, e1, e2, e3⟩, h0, h1, h2, h3⟩ := hN3.quad
          clear hR3 hN3
          cases b3 with
          | true =>
            obtain ⟨i1, i2, i3, i4, i5, i6⟩ := HI.out
            have hcs : canS s' := HQ1.out.1 (by trivial)
            have hr2 : r2 = stepS s' := HQ2.out (by trivial)
            subst hr2
            have HEn := hide (show GoodS (stepS s') ∧ fin (stepS s') (n + 1) fail = fin s 0 fail ∧ n + 1 + mea (stepS s') ≤ 41 ∧ ((stepS s').na = s.na ∧ (stepS s').nm = s.nm) from ⟨i2.step hcs, (fin_step i2 hcs (fun h => absurd h HNC.out)).trans i3, by have := mea_step i2 hcs; omega, (stp_na s').1.trans i5, (stp_na s').2.trans i6⟩)
            have hn1 : n + 1 ≤ 41 := by have := HEn.out.2.2.1; omega
            clear i1 i2 i3 i4 i5 i6 hcs HQ1 HQ2 HNC HI
            go_wp2_with (refine stop_at (some 36) rfl (Rx w (.slice ax s'.na cx) (.slice ay s'.nm cy) s' wo.heap.size (.slice k1 (stepS s').na k5) (.slice k2 (stepS s').nm k6) (stepS s')) HRx ?_)
            rintro w7 h7
            clear d0 d1 d2 d3 g0 g1 g2 g3 e0 e1 e2 e3 h0 h1 h2 h3 HRx
            obtain ⟨⟨d0, d1, d2, d3⟩, g0, g1, g2, g3⟩ := h7.1.1.quad
            obtain ⟨⟨e0, e1, e2, e3⟩, -⟩ := h7.2.1.quad
            have HN := hide (h7.1.put h7.2.2.1)
            clear h7
            generalize stepS s' = t' at *
            go_wp2
            exact ⟨⟨n + 1, t', .slice k1 t'.na k5, .slice k2 t'.nm k6, hn1, by go_num, hide ⟨HN.out, HEn.out⟩⟩, by simp [intOf]; omega⟩
          | false =>
            obtain ⟨i1, i2, i3, i4, i5, i6⟩ := HI.out
            have hnc : ¬ canS s' := fun h => by have := HQ1.out.2 h; cases this
            have hfo := fin_over (n := n) (fail := fail) i2 hnc
            have HEn := hide (show s' = r ∧ (n : Int) = z from by
              rw [hfo] at i3
              have h1 := HRn.out
              have h2 := HZn.out
              rw [← i3] at h1 h2
              exact ⟨h1, h2⟩)
            clear i1 i2 i3 i4 i5 i6 hnc hfo HQ1 HQ2 HNC HI
            go_wp2_with (refine stop_at (some 34) rfl (Rx w (.slice ax s'.na cx) (.slice ay s'.nm cy) s' wo.heap.size (.slice k1 r2.na k5) (.slice k2 r2.nm k6) r2) HRx ?_)
            rintro w7 h7
            clear d0 d1 d2 d3 g0 g1 g2 g3 e0 e1 e2 e3 h0 h1 h2 h3 HRx
            obtain ⟨⟨d0, d1, d2, d3⟩, g0, g1, g2, g3⟩ := h7.1.1.quad
            obtain ⟨⟨e0, e1, e2, e3⟩, h0, h1, h2, h3⟩ := h7.1.2.1.quad
            obtain ⟨WZ, hWZ⟩ : ∃ WZ, (((w7.setCell ⟨w.heap.size + 1, 0, none⟩ (.slice ax s'.na cx)).setCell ⟨w.heap.size + 1, 1, none⟩ (.slice ay s'.nm cy)).setCell ⟨w.heap.size + 1, 2, none⟩ (.int .i64 s'.dn)).setCell ⟨w.heap.size + 1, 3, none⟩ (.bool s'.un) = WZ := ⟨_, rfl⟩
            have HZ := hide (h7.1.out WZ hWZ)
            have HWZ := hide hWZ
            clear hWZ h7
            go_wp2
            rw [HWZ.out]
            clear d0 d1 d2 d3 g0 g1 g2 g3 e0 e1 e2 e3 h0 h1 h2 h3
            obtain ⟨⟨e0, e1, e2, e3⟩, -⟩ := HZ.out.1.quad
            exact bodyPost_ret (v := .tuple #[.agg #[.slice ax s'.na cx, .slice ay s'.nm cy, .int .i64 s'.dn, .bool s'.un], .int .i64 (n : Int), .bool true]) (by simp [results, Try.results31, go_sem, e0, e1, e2, e3]) rfl (by rw [← HEn.out.1, ← HEn.out.2]; exact ⟨⟨_, _, rfl, HZ.out.2.1⟩, HZ.out.2.2⟩)
      · have hbe : ((n : Int) == fail) = false := beq_eq_false_iff_ne.2 hnf
        obtain ⟨b3, r2, q1, q2, hSt⟩ := HST.out _ _ _ _ X0 hR0 hN0
        have HSt := hide hSt
        have HQ1 := hide q1
        have HQ2 := hide q2
        have HNF := hide hnf
        clear i1 i2 i3 i4 i5 i6 hdn hN0 hX0 hR0 hnf q1 q2 hSt HST
        go_wp2_with fail
        rw [HX0.out]
        refine HSt.out.mono ?_
        rintro e w3 ⟨k1, k2, k3, k4, rfl, hN3, hR3, hRx⟩
        have HRx := hide hRx
        clear d0 d1 d2 d3 g0 g1 g2 g3 HSt hRx
        obtain ⟨⟨d0, d1, d2, d3⟩, g0, g1, g2, g3⟩ := hR3.1.quad
        obtain ⟨⟨e0, e1, e2, e3⟩, h0, h1, h2, h3⟩ := hN3.quad
        clear hR3 hN3
        cases b3 with
        | true =>
          obtain ⟨i1, i2, i3, i4, i5, i6⟩ := HI.out
          have hcs : canS s' := HQ1.out.1 (by trivial)
          have hr2 : r2 = stepS s' := HQ2.out (by trivial)
          subst hr2
          have HEn := hide (show GoodS (stepS s') ∧ fin (stepS s') (n + 1) fail = fin s 0 fail ∧ n + 1 + mea (stepS s') ≤ 41 ∧ ((stepS s').na = s.na ∧ (stepS s').nm = s.nm) from ⟨i2.step hcs, (fin_step i2 hcs (fun _ => HNF.out)).trans i3, by have := mea_step i2 hcs; omega, (stp_na s').1.trans i5, (stp_na s').2.trans i6⟩)
          have hn1 : n + 1 ≤ 41 := by have := HEn.out.2.2.1; omega
          clear i1 i2 i3 i4 i5 i6 hcs HQ1 HQ2 HNF HI
          go_wp2_with (refine stop_at (some 36) rfl (Rx w (.slice ax s'.na cx) (.slice ay s'.nm cy) s' wo.heap.size (.slice k1 (stepS s').na k3) (.slice k2 (stepS s').nm k4) (stepS s')) HRx ?_)
          rintro w5 h5
          clear d0 d1 d2 d3 g0 g1 g2 g3 e0 e1 e2 e3 h0 h1 h2 h3 HRx
          obtain ⟨⟨d0, d1, d2, d3⟩, g0, g1, g2, g3⟩ := h5.1.1.quad
          obtain ⟨⟨e0, e1, e2, e3⟩, -⟩ := h5.2.1.quad
          have HN := hide (h5.1.put h5.2.2.1)
          clear h5
          generalize stepS s' = t' at *
          go_wp2
          exact ⟨⟨n + 1, t', .slice k1 t'.na k3, .slice k2 t'.nm k4, hn1, by go_num, hide ⟨HN.out, HEn.out⟩⟩, by simp [intOf]; omega⟩
        | false =>
          obtain ⟨i1, i2, i3, i4, i5, i6⟩ := HI.out
          have hnc : ¬ canS s' := fun h => by have := HQ1.out.2 h; cases this
          have hfo := fin_over (n := n) (fail := fail) i2 hnc
          have HEn := hide (show s' = r ∧ (n : Int) = z from by
            rw [hfo] at i3
            have h1 := HRn.out
            have h2 := HZn.out
            rw [← i3] at h1 h2
            exact ⟨h1, h2⟩)
          clear i1 i2 i3 i4 i5 i6 hnc hfo HQ1 HQ2 HNF HI
          go_wp2_with (refine stop_at (some 34) rfl (Rx w (.slice ax s'.na cx) (.slice ay s'.nm cy) s' wo.heap.size (.slice k1 r2.na k3) (.slice k2 r2.nm k4) r2) HRx ?_)
          rintro w5 h5
          clear d0 d1 d2 d3 g0 g1 g2 g3 e0 e1 e2 e3 h0 h1 h2 h3 HRx
          obtain ⟨⟨d0, d1, d2, d3⟩, g0, g1, g2, g3⟩ := h5.1.1.quad
          obtain ⟨⟨e0, e1, e2, e3⟩, h0, h1, h2, h3⟩ := h5.1.2.1.quad
          obtain ⟨WZ, hWZ⟩ : ∃ WZ, (((w5.setCell ⟨w.heap.size + 1, 0, none⟩ (.slice ax s'.na cx)).setCell ⟨w.heap.size + 1, 1, none⟩ (.slice ay s'.nm cy)).setCell ⟨w.heap.size + 1, 2, none⟩ (.int .i64 s'.dn)).setCell ⟨w.heap.size + 1, 3, none⟩ (.bool s'.un) = WZ := ⟨_, rfl⟩
          have HZ := hide (h5.1.out WZ hWZ)
          have HWZ := hide hWZ
          clear hWZ h5
          go_wp2
          rw [HWZ.out]
          clear d0 d1 d2 d3 g0 g1 g2 g3 e0 e1 e2 e3 h0 h1 h2 h3
          obtain ⟨⟨e0, e1, e2, e3⟩, -⟩ := HZ.out.1.quad
          exact bodyPost_ret (v := .tuple #[.agg #[.slice ax s'.na cx, .slice ay s'.nm cy, .int .i64 s'.dn, .bool s'.un], .int .i64 (n : Int), .bool true]) (by simp [results, Try.results31, go_sem, e0, e1, e2, e3]) rfl (by rw [← HEn.out.1, ← HEn.out.2]; exact ⟨⟨_, _, rfl, HZ.out.2.1⟩, HZ.out.2.2⟩)
end Go.Proofs.Ytmpedadjikmnhaa
