/-
  slices.Equal at choices; the program's GoodDiagram.
-/
import Derived.Test.YtfiooclkefmijaaDoorBddGJ
namespace Go.Proofs.YtfiooclkefmijaaDoor
open Go.RowKit M
open Clk (upd upd_same upd_other)
open Go.Sort (grow)
namespace M
open Bdd
theorem list_eq {l m : List Ch} (hl : l.length = m.length) (h : ∀ (j : Nat) c d, l[j]? = some c → m[j]? = some d → c = d) : l = m := by
  apply List.ext_getElem hl
  intro i h1 h2
  exact h i _ _ (List.getElem?_eq_getElem h1) (List.getElem?_eq_getElem h2)
end M
set_option maxRecDepth 20000 in
set_option maxHeartbeats 2000000 in
theorem slices_eq (v u : Value) (l m : List Bdd.Ch) (w : World) (hv : ChsOf w v l) (hu : ChsOf w u m) (hn : l.length ≤ 1048576) (hm : m.length ≤ 1048576) :
    Calls Tryd.prog 47 #[v, u] w fun e w' => Tells (l = m) e ∧ Below w.heap.size w w' := by
  obtain ⟨a, cap, rfl, hr⟩ := hv
  obtain ⟨a2, cap2, rfl, hr2⟩ := hu
  have HR := hide hr
  have HR2 := hide hr2
  clear hr hr2
  by_cases hlen : l.length = m.length
  · have hz : ((l.length : Int) != (m.length : Int)) = false := by simp [hlen]
    have HL := hide hlen
    clear hlen
    go_enter Tryd.func47, Tryd.ntmps47
    go_wp2
    go_loopw [5, 13] (fun _ i wr => ∃ n : Nat, n ≤ l.length ∧ i = .int .i64 n ∧ Hid ((∀ j c d, j < n → l[j]? = some c → m[j]? = some d → c = d) ∧ Below w.heap.size w wr)) (fun _ i _ => l.length - (intOf i).toNat)
    case atStart => exact ⟨0, Nat.zero_le _, rfl, hide ⟨fun j c d hj => absurd hj (by omega), Below.refl _ _⟩⟩
    case round =>
      obtain ⟨n, hnl, rfl, HI⟩ := hrel
      obtain ⟨hall, hbw⟩ := HI.out
      by_cases hlt : n < l.length
      · have hlt2 : n < m.length := by rw [← HL.out]; exact hlt
        obtain ⟨b, off, rfl, hb, hrow⟩ := HR.out (by omega)
        obtain ⟨b2, off2, rfl, hb2, hrow2⟩ := HR2.out (by omega)
        obtain ⟨c, hc⟩ : ∃ c, l[n]? = some c := ⟨l[n], by rw [List.getElem?_eq_getElem hlt]⟩
        obtain ⟨d, hd⟩ : ∃ d, m[n]? = some d := ⟨m[n], by rw [List.getElem?_eq_getElem hlt2]⟩
        obtain ⟨p0, p1, p2⟩ := hrow n c hc
        obtain ⟨s0, s1, s2⟩ := hrow2 n d hd
        have k0 := (hbw.cell (p := ⟨b, off + n * 3, none⟩) hb).trans p0
        have k1 := (hbw.cell (p := ⟨b, off + n * 3 + 1, none⟩) hb).trans p1
        have k2 := (hbw.cell (p := ⟨b, off + n * 3 + 2, none⟩) hb).trans p2
        have g0 := (hbw.cell (p := ⟨b2, off2 + n * 3, none⟩) hb2).trans s0
        have g1 := (hbw.cell (p := ⟨b2, off2 + n * 3 + 1, none⟩) hb2).trans s1
        have g2 := (hbw.cell (p := ⟨b2, off2 + n * 3 + 2, none⟩) hb2).trans s2
        have hi0 : (0 : Int) ≤ (n : Int) := by omega
        have hi1 : (n : Int) < (l.length : Int) := by omega
        have hi2 : (n : Int) < (m.length : Int) := by omega
        have HB := hide hbw
        have HA := hide hall
        have HC := hide hc
        have HDd := hide hd
        clear hrow hrow2 HR HR2 p0 p1 p2 s0 s1 s2 hc hd HI hall hbw hlt hlt2
        by_cases hcd : c = d
        · have heq := eql3 c d true (by simp [hcd])
          have HE := hide hcd
          clear hcd
          go_wp2
          go_big_quiet (fail)
          go_wp2
          refine ⟨⟨n + 1, by omega, by go_num, hide ⟨fun j c' d' hj hc' hd' => ?_, below_drewN HB.out _⟩⟩, by simp [intOf]; omega⟩
          by_cases e : j = n
          · subst e
            rw [HC.out] at hc'
            rw [HDd.out] at hd'
            injection hc' with hc'
            injection hd' with hd'
            rw [← hc', ← hd']
            exact HE.out
          · exact HA.out j c' d' (by omega) hc' hd'
        · have heq := eql3 c d false (by simp [hcd])
          have HF := hide (show ¬ l = m from fun h => hcd (by have h1 := HC.out; rw [h, HDd.out] at h1; injection h1 with h1; exact h1.symm))
          clear hcd
          go_wp2
          go_big_quiet (fail)
          go_wp2
          go_ret
          exact ⟨tells_no HF.out, below_drewN HB.out _⟩
      · have HF := hide (show l = m from list_eq HL.out (fun j c d hc hd => hall j c d (by have := (List.getElem?_eq_some_iff.1 hc).1; omega) hc hd))
        have HB := hide hbw
        clear HI hall hbw HR HR2
        go_wp2
        go_ret
        exact ⟨tells_yes HF.out, HB.out⟩
  · have hz : ((l.length : Int) != (m.length : Int)) = true := by simp; omega
    have HF := hide (show ¬ l = m from fun h => hlen (by rw [h]))
    clear hlen
    go_enter Tryd.func47, Tryd.ntmps47
    go_wp2
    go_ret
    exact ⟨tells_no HF.out, Below.refl _ _⟩
set_option maxRecDepth 20000 in
set_option maxHeartbeats 2000000 in
theorem impl_good (v : Value) (r : Int) (l : List Bdd.Ch) (w : World) (hv : ChsOf w v l) (hn : l.length ≤ 1048576) (ho : OV w) :
    Calls Tryd.prog 24 #[dgV v r] w fun e w' => Tells (Bdd.Good l r) e ∧ Below w.heap.size w w' := by
  have HV := hide hv
  obtain ⟨a, cap, rfl⟩ := hv.form
  have hd1 := (Below.refl w.heap.size w).alloc (Nat.le_refl _) (.cells #[.slice a l.length cap, .int .i64 r] 27)
  have hbx := Blk.fresh w #[.slice a l.length cap, .int .i64 r] 2 (q2 (.slice a l.length cap) (.int .i64 r)) 27 rfl
  obtain ⟨w1, hw1⟩ : ∃ w1, w.alloc (.cells #[.slice a l.length cap, .int .i64 r] 27) = w1 := ⟨_, rfl⟩
  rw [hw1] at hd1 hbx
  have Hw1 := hide hw1
  have HD := hide hd1
  have HX := hide hbx
  have HO := hide (ho.below hd1)
  clear hd1 hbx hw1 hv ho
  obtain ⟨x0, x1, -, -⟩ := HX.out.two
  simp [q2] at x0 x1
  rw [← Hw1.out] at x0 x1
  go_enter Tryd.func24, Tryd.ntmps24
  go_wp2_with fail
  rw [Hw1.out] at x0 x1 ⊢
  refine (ends_is _ r l w1 (HV.out.below HD.out) hn).mono ?_
  rintro e w2 ⟨⟨b, rfl, hb⟩, hb2⟩
  have X2 := hide (HX.out.down hb2)
  have B2 := hide (HD.out.trans (hb2.mono HD.out.size))
  have O2 := hide (HO.out.below hb2)
  clear hb2 x0 x1 Hw1 HX HO HD
  cases b with
  | false =>
    have HF := hide (show ¬ Bdd.Good l r from fun h => by have := hb.2 h.1; cases this)
    clear hb X2
    go_wp2
    go_ret
    exact ⟨tells_no HF.out, B2.out⟩
  | true =>
    have HE := hide (hb.1 rfl)
    clear hb
    obtain ⟨x0, x1, -, -⟩ := X2.out.two
    simp [q2] at x0 x1
    go_wp2_with fail
    refine (decisions_in _ r l w2 (HV.out.below B2.out) HE.out).mono ?_
    rintro e w3 ⟨rfl, hb3⟩
    go_wp2_with fail
    refine (diagram_for (Bdd.dec l r) w3 (O2.out.below hb3)).mono ?_
    rintro e w4 ⟨⟨u, rfl, hA⟩, hb4⟩
    have hb24 := hb3.trans (hb4.mono hb3.size)
    obtain ⟨D, hD⟩ : ∃ D, Bdd.dia (Bdd.dec l r) = D := ⟨_, rfl⟩
    have hlen := Bdd.dia_len (Bdd.dec l r)
    rw [hD] at hA hlen ⊢
    have HDD := hide hD
    obtain ⟨r', l'⟩ := D
    simp only at hA hlen ⊢
    obtain ⟨a4, c4, rfl⟩ := hA.form
    have hd5 := (Below.refl w4.heap.size w4).alloc (Nat.le_refl _) (.cells #[.slice a4 l'.length c4, .int .i64 r'] 27)
    have x5 := Blk.fresh w4 #[.slice a4 l'.length c4, .int .i64 r'] 2 (q2 (.slice a4 l'.length c4) (.int .i64 r')) 27 rfl
    obtain ⟨w5, hw5⟩ : ∃ w5, w4.alloc (.cells #[.slice a4 l'.length c4, .int .i64 r'] 27) = w5 := ⟨_, rfl⟩
    rw [hw5] at hd5 x5
    have hb25 := hb24.trans (hd5.mono hb24.size)
    have A5 := hide (hA.down hd5).chs
    have B5 := hide (B2.out.trans (hb25.mono B2.out.size))
    have V5 := hide ((HV.out.below B2.out).below hb25)
    obtain ⟨y0, y1, -, -⟩ := x5.two
    obtain ⟨x0, x1, -, -⟩ := (X2.out.down hb25).two
    simp [q2] at x0 x1 y0 y1
    have Hw5 := hide hw5
    clear hb3 hb4 hb24 hd5 x5 hb25 hA hD X2 B2 O2 HV hw5
    rw [← Hw5.out] at x0 x1 y0 y1
    by_cases hrr : r = r'
    · have hd : (r == r') = true := by simp [hrr]
      have hl' : l'.length ≤ 1048576 := by omega
      have HRR := hide hrr
      clear hrr hlen
      go_wp2_with fail
      rw [Hw5.out]
      refine (slices_eq _ _ l l' w5 V5.out A5.out hn hl').mono ?_
      rintro e w6 ⟨⟨b6, rfl, h6⟩, hb6⟩
      have HF := hide (show b6 = true ↔ Bdd.Good l r from by
        rw [h6]
        constructor
        · intro h
          refine ⟨HE.out, ?_⟩
          rw [HDD.out, HRR.out, h]
        · intro h
          have := h.2
          rw [HDD.out] at this
          injection this with _ h2
          exact h2.symm)
      have HB := hide (B5.out.trans (hb6.mono B5.out.size))
      clear h6 hb6 A5 B5 V5 HDD HE HRR
      go_wp2
      go_ret
      exact ⟨⟨b6, rfl, HF.out⟩, HB.out⟩
    · have hd : (r == r') = false := by simp [hrr]
      have HF := hide (show ¬ Bdd.Good l r from fun h => hrr (by have := h.2; rw [HDD.out] at this; injection this with h1 _; exact h1.symm))
      clear hrr hlen A5 V5 HDD HE
      go_wp2
      rw [Hw5.out]
      go_ret
      exact ⟨tells_no HF.out, B5.out⟩
end Go.Proofs.YtfiooclkefmijaaDoor
