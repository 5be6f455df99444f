/-
  The specification's look at a diagram: l7Good, GoodDiagram.
-/
import Derived.Test.YtfiooclkefmijaaDoorBddSO
import Derived.Test.YtfiooclkefmijaaDoorBddH
namespace Go.Proofs.YtfiooclkefmijaaDoor
open Go.RowKit M
open Clk (upd upd_same upd_other)
open Go.Sort (grow)
namespace M
open Bdd
/-- What l7Good tells. -/
def GdA (l : List Ch) (r : Int) (e : Ending) : Prop := ∃ x b, e = .returned (.tuple #[uv x, .bool b]) ∧ (b = true ↔ Bdd.Good l r) ∧ (b = true → x = dec l r)
theorem gdA_no {l : List Ch} {r : Int} (x : T) (h : ¬ Bdd.Good l r) : GdA l r (.returned (.tuple #[uv x, .bool false])) := ⟨x, false, rfl, by simp [h], fun h => by cases h⟩
theorem gdA_yes {l : List Ch} {r : Int} {x : T} (h : Bdd.Good l r) (hx : x = dec l r) : GdA l r (.returned (.tuple #[uv x, .bool true])) := ⟨x, true, rfl, by simp [h], fun _ => hx⟩
end M
set_option maxRecDepth 20000 in
set_option maxHeartbeats 4000000 in
theorem l7_good (v : Value) (r : Int) (l : List Bdd.Ch) (w : World) (hv : ChsOf w v l) (hn : l.length ≤ 1048576) :
    Calls Tryd.prog 43 #[dgV v r] w fun e w' => GdA l r e ∧ Below w.heap.size w w' := by
  have HV := hide hv
  obtain ⟨a, cap, rfl⟩ := hv.form
  have hd1 := (Below.refl w.heap.size w).alloc (Nat.le_refl _) (.cells #[.slice a l.length cap, .int .i64 r] 27)
  have hbx := Blk.fresh w #[.slice a l.length cap, .int .i64 r] 2 (q2 (.slice a l.length cap) (.int .i64 r)) 27 rfl
  obtain ⟨w1, hw1⟩ : ∃ w1, w.alloc (.cells #[.slice a l.length cap, .int .i64 r] 27) = w1 := ⟨_, rfl⟩
  rw [hw1] at hd1 hbx
  have Hw1 := hide hw1
  have HD := hide hd1
  have HX := hide hbx
  clear hd1 hbx hw1 hv
  obtain ⟨x0, x1, -, -⟩ := HX.out.two
  simp [q2] at x0 x1
  rw [← Hw1.out] at x0 x1
  go_enter Tryd.func43, Tryd.ntmps43
  go_wp2_with fail
  rw [Hw1.out] at x0 x1 ⊢
  refine (l7_of _ r l w1 (HV.out.below HD.out) hn).mono ?_
  rintro e w2 ⟨⟨x, b, rfl, hb, hx⟩, hb2⟩
  have X2 := hide (HX.out.down hb2)
  have B2 := hide (HD.out.trans (hb2.mono HD.out.size))
  clear hb2 x0 x1 Hw1 HX HD
  cases b with
  | false =>
    have HF := hide (show ¬ Bdd.Good l r from fun h => by have := hb.2 ((Bdd.good_iff l r).1 h).1; cases this)
    clear hb hx X2 HV
    go_wp2
    go_ret2
    exact ⟨gdA_no 0 HF.out, B2.out⟩
  | true =>
    have HCk := hide (hb.1 rfl)
    have HXd := hide (hx rfl)
    clear hb hx
    go_wp2_with fail
    refine (l7_diagram x w2).mono ?_
    rintro e w4 ⟨⟨u, rfl, hA⟩, hb4⟩
    obtain ⟨D, hD⟩ : ∃ D, Bdd.dia x = D := ⟨_, rfl⟩
    have hlen := Bdd.dia_len x
    rw [hD] at hA hlen ⊢
    have HDD := hide (show Bdd.dia (Bdd.dec l r) = D from by rw [← HXd.out]; exact hD)
    obtain ⟨r', l'⟩ := D
    simp only at hA hlen ⊢
    obtain ⟨a4, c4, rfl⟩ := hA.form
    have hd5 := (Below.refl w4.heap.size w4).alloc (Nat.le_refl _) (.cells #[.slice a4 l'.length c4, .int .i64 r'] 27)
    have x5 := Blk.fresh w4 #[.slice a4 l'.length c4, .int .i64 r'] 2 (q2 (.slice a4 l'.length c4) (.int .i64 r')) 27 rfl
    obtain ⟨w5, hw5⟩ : ∃ w5, w4.alloc (.cells #[.slice a4 l'.length c4, .int .i64 r'] 27) = w5 := ⟨_, rfl⟩
    rw [hw5] at hd5 x5
    have hb25 := hb4.trans (hd5.mono hb4.size)
    obtain ⟨a4', c4', e4', hr4⟩ := (hA.down hd5).chs
    cases e4'
    have A5 := hide hr4
    have B5 := hide (B2.out.trans (hb25.mono B2.out.size))
    obtain ⟨av, cv, ev, hrv⟩ := (HV.out.below B2.out).below hb25
    cases ev
    have V5 := hide hrv
    have Y5 := hide x5
    have X5 := hide (X2.out.down hb25)
    obtain ⟨y0, y1, -, -⟩ := x5.two
    obtain ⟨x0, x1, -, -⟩ := X5.out.two
    simp [q2] at x0 x1 y0 y1
    have Hw5 := hide hw5
    clear hb4 hd5 x5 hb25 hA hD X2 B2 HV hw5 hr4 hrv
    rw [← Hw5.out] at x0 x1 y0 y1
    by_cases hrr : r' = r
    · have hd : (r' != r) = false := by simp [hrr]
      by_cases hll : l'.length = l.length
      · have hd2 : ((l'.length : Int) != (l.length : Int)) = false := by simp [hll]
        have HRR := hide hrr
        have HLL := hide hll
        have hl63 : (l'.length : Int) ≤ 63 := by omega
        clear hrr hll
        go_wp2_with fail
        rw [Hw5.out] at x0 x1 y0 y1 ⊢
        go_loopw [8, 38] (fun _ i wr => ∃ n : Nat, n ≤ l'.length ∧ i = .int .i64 n ∧ Hid ((∀ j c d, j < n → l'[j]? = some c → l[j]? = some d → c = d) ∧ Below w5.heap.size w5 wr)) (fun _ i _ => l'.length - (intOf i).toNat)
        case atStart => exact ⟨0, Nat.zero_le _, rfl, hide ⟨fun j c d hj => absurd hj (by omega), Below.refl _ _⟩⟩
        case round =>
          obtain ⟨n, hnl, rfl, HI⟩ := hrel
          obtain ⟨hall, hbw⟩ := HI.out
          clear x0 x1 y0 y1
          by_cases hlt : n < l'.length
          · have hlt2 : n < l.length := by rw [← HLL.out]; exact hlt
            obtain ⟨b, off, rfl, hb, hrow⟩ := A5.out (by omega)
            obtain ⟨b2, off2, rfl, hb2, hrow2⟩ := V5.out (by omega)
            obtain ⟨c, hc⟩ : ∃ c, l'[n]? = some c := ⟨l'[n], by rw [List.getElem?_eq_getElem hlt]⟩
            obtain ⟨d, hd'⟩ : ∃ d, l[n]? = some d := ⟨l[n], by rw [List.getElem?_eq_getElem hlt2]⟩
            obtain ⟨p0, p1, p2⟩ := hrow n c hc
            obtain ⟨s0, s1, s2⟩ := hrow2 n d hd'
            have k0 := (hbw.cell (p := ⟨b, off + n * 3, none⟩) hb).trans p0
            have k1 := (hbw.cell (p := ⟨b, off + n * 3 + 1, none⟩) hb).trans p1
            have k2 := (hbw.cell (p := ⟨b, off + n * 3 + 2, none⟩) hb).trans p2
            have g0 := (hbw.cell (p := ⟨b2, off2 + n * 3, none⟩) hb2).trans s0
            have g1 := (hbw.cell (p := ⟨b2, off2 + n * 3 + 1, none⟩) hb2).trans s1
            have g2 := (hbw.cell (p := ⟨b2, off2 + n * 3 + 2, none⟩) hb2).trans s2
            have y0 := (Y5.out.down hbw).cell (show 0 < 2 by omega)
            have x0 := (X5.out.down hbw).cell (show 0 < 2 by omega)
            simp [q2] at x0 y0
            have hi0 : (0 : Int) ≤ (n : Int) := by omega
            have hi1 : (n : Int) < (l'.length : Int) := by omega
            have hi2 : (n : Int) < (l.length : Int) := by omega
            have HB := hide hbw
            have HA := hide hall
            have HC := hide hc
            have HDd := hide hd'
            clear hrow hrow2 A5 V5 p0 p1 p2 s0 s1 s2 hc hd' HI hall hbw hlt hlt2 X5 Y5
            by_cases hcd : c = d
            · have heq := eql3 c d true (by simp [hcd])
              have HE := hide hcd
              clear hcd
              go_wp2
              go_big_quiet (fail)
              go_wp2
              refine ⟨⟨n + 1, by omega, by go_num, hide ⟨fun j c' d' hj hc' hd' => ?_, below_drewN HB.out _⟩⟩, by simp [intOf]; omega⟩
              by_cases e : j = n
              · subst e
                rw [HC.out] at hc'
                rw [HDd.out] at hd'
                injection hc' with hc'
                injection hd' with hd'
                rw [← hc', ← hd']
                exact HE.out
              · exact HA.out j c' d' (by omega) hc' hd'
            · have heq := eql3 c d false (by simp [hcd])
              have HF := hide (show ¬ Bdd.Good l r from fun h => hcd (by
                have h1 := h.2
                rw [HDD.out] at h1
                injection h1 with _ h2
                have h3 := HC.out
                rw [h2, HDd.out] at h3
                injection h3 with h3
                exact h3.symm))
              have HBB := hide (B5.out.trans (HB.out.mono B5.out.size))
              clear hcd
              go_wp2
              go_big_quiet (fail)
              go_wp2
              go_ret2
              exact ⟨gdA_no 0 HF.out, below_drewN HBB.out _⟩
          · have hle : l' = l := list_eq HLL.out (fun j c d hc hd => hall j c d (by have := (List.getElem?_eq_some_iff.1 hc).1; omega) hc hd)
            have HF := hide (show Bdd.Good l r from (Bdd.good_iff l r).2 ⟨HCk.out, by rw [HDD.out, HRR.out, hle]⟩)
            have HB := hide (B5.out.trans (hbw.mono B5.out.size))
            clear HI hall hbw A5 V5 X5 Y5 hle
            go_wp2
            go_ret2
            exact ⟨gdA_yes HF.out HXd.out, HB.out⟩
      · have hd2 : ((l'.length : Int) != (l.length : Int)) = true := by simp; omega
        have HF := hide (show ¬ Bdd.Good l r from fun h => hll (by have := h.2; rw [HDD.out] at this; injection this with _ h2; rw [h2]))
        clear hll hrr A5 V5 X5 Y5
        go_wp2
        rw [Hw5.out]
        go_ret2
        exact ⟨gdA_no 0 HF.out, B5.out⟩
    · have hd : (r' != r) = true := by simp [hrr]
      have HF := hide (show ¬ Bdd.Good l r from fun h => hrr (by have := h.2; rw [HDD.out] at this; injection this with h1 _))
      clear hrr A5 V5 X5 Y5
      go_wp2
      rw [Hw5.out]
      go_ret2
      exact ⟨gdA_no 0 HF.out, B5.out⟩
theorem spec_good (v : Value) (r : Int) (l : List Bdd.Ch) (w : World) (hv : ChsOf w v l) (hn : l.length ≤ 1048576) :
    Calls Tryd.prog 22 #[dgV v r] w fun e w' => Tells (Bdd.Good l r) e ∧ Below w.heap.size w w' := by
  have HV := hide hv
  obtain ⟨a, cap, rfl⟩ := hv.form
  have hd1 := (Below.refl w.heap.size w).alloc (Nat.le_refl _) (.cells #[.slice a l.length cap, .int .i64 r] 27)
  have HD := hide hd1
  clear hv hd1
  go_enter Tryd.func22, Tryd.ntmps22
  go_wp2_with fail
  refine (l7_good _ r l _ (HV.out.below HD.out) hn).mono ?_
  rintro e w2 ⟨⟨x, b, rfl, hb, -⟩, hb2⟩
  have HB := hide (HD.out.trans (hb2.mono HD.out.size))
  have HF := hide hb
  clear hb hb2 HD HV
  go_wp2
  go_ret
  exact ⟨⟨b, rfl, HF.out⟩, HB.out⟩
end Go.Proofs.YtfiooclkefmijaaDoor
