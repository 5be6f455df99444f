/-
  What a call makes of a breaker, in the specification's text; CallBreaker and AllowsAt in both.
-/
import Derived.Test.YtegbfmdilmbpmaaRtC
import Derived.Lib.QuietBelow
import Derived.BigQuiet
namespace Go.Proofs.Ytegbfmdilmbpmaa
open Go.RowKit M
open Clk (upd upd_same upd_other)
open Go.Sort (grow)
set_option maxHeartbeats 4000000 in
theorem spec_call (x : Br) (c : Cl) (w : World) (hx : GBr x) :
    Calls Try.prog 55 #[.agg #[.int .i64 x.l, .int .i64 x.c, .int .i64 x.s, .int .i64 x.k, .int .i64 x.o], .agg #[.int .i64 c.w, .bool c.y]] w fun e w' =>
      e = .returned (.tuple #[brv (cal x c), .bool (lt x c.w)]) ∧ Below w.heap.size w w' := by
  have hsum := hx.sum
  obtain ⟨l, c0, s, k, o⟩ := x
  obtain ⟨now, y⟩ := c
  simp only at hsum ⊢
  obtain ⟨s0, s1⟩ := hsum
  have hbw := fun u v => (((Below.refl w.heap.size w).alloc (Nat.le_refl _) (.cells u 37)).alloc (by simp) (.cells #[.int .i64 now, .bool y] 50)).alloc (by simp; omega) (.cells v 37)
  have hl := hx.1
  unfold GBd at hl
  simp only at hl
  rcases hx.2 with ⟨h0, hk, ho⟩ | ⟨h12, hk, ho⟩
  · simp only at h0 hk ho
    subst h0
    obtain ⟨k0, k1⟩ := hk
    clear ho
    cases y with
    | true =>
      have HE := hide (show cal ⟨l, c0, 0, k, o⟩ ⟨now, true⟩ = ⟨l, c0, 0, 0, 0⟩ ∧ lt ⟨l, c0, 0, k, o⟩ now = true from ⟨rfl, rfl⟩)
      go_enter Try.func55, Try.ntmps55
      go_wp2
      exact bodyPost_ret (v := .tuple #[.agg #[.int .i64 l, .int .i64 c0, .int .i64 0, .int .i64 0, .int .i64 0], .bool true]) (by simp [results, Try.results55, go_sem]) rfl ⟨by rw [HE.out.1, HE.out.2], hbw _ _⟩
    | false =>
      by_cases h : k + 1 = l
      · have hkl : (k + 1 == l) = true := by simp [h]
        have HE := hide (show cal ⟨l, c0, 0, k, o⟩ ⟨now, false⟩ = ⟨l, c0, 1, k + 1, now⟩ ∧ lt ⟨l, c0, 0, k, o⟩ now = true from ⟨by show flr ⟨l, c0, 0, k, o⟩ now = _; unfold flr; rw [if_pos rfl, if_pos h], rfl⟩)
        clear h
        go_enter Try.func55, Try.ntmps55
        go_wp2
        exact bodyPost_ret (v := .tuple #[.agg #[.int .i64 l, .int .i64 c0, .int .i64 1, .int .i64 (k + 1), .int .i64 now], .bool true]) (by simp [results, Try.results55, go_sem]) rfl ⟨by rw [HE.out.1, HE.out.2], hbw _ _⟩
      · have hkl : (k + 1 == l) = false := by simp [h]
        have HE := hide (show cal ⟨l, c0, 0, k, o⟩ ⟨now, false⟩ = ⟨l, c0, 0, k + 1, o⟩ ∧ lt ⟨l, c0, 0, k, o⟩ now = true from ⟨by show flr ⟨l, c0, 0, k, o⟩ now = _; unfold flr; rw [if_pos rfl, if_neg h], rfl⟩)
        clear h
        go_enter Try.func55, Try.ntmps55
        go_wp2
        exact bodyPost_ret (v := .tuple #[.agg #[.int .i64 l, .int .i64 c0, .int .i64 0, .int .i64 (k + 1), .int .i64 o], .bool true]) (by simp [results, Try.results55, go_sem]) rfl ⟨by rw [HE.out.1, HE.out.2], hbw _ _⟩
  · simp only at h12 hk ho
    by_cases hc : s = 1 ∧ now < o + c0
    · obtain ⟨rfl, hc⟩ := hc
      have HE := hide (show cal ⟨l, c0, 1, k, o⟩ ⟨now, y⟩ = ⟨l, c0, 1, k, o⟩ ∧ lt ⟨l, c0, 1, k, o⟩ now = false by
        have e : lt ⟨l, c0, 1, k, o⟩ now = false := by unfold lt; simp [hc]
        exact ⟨by unfold cal; simp only; rw [e]; rfl, e⟩)
      clear hk h12
      go_enter Try.func55, Try.ntmps55
      go_wp2
      exact bodyPost_ret (v := .tuple #[.agg #[.int .i64 l, .int .i64 c0, .int .i64 1, .int .i64 k, .int .i64 o], .bool false]) (by simp [results, Try.results55, go_sem]) rfl ⟨by rw [HE.out.1, HE.out.2], hbw _ _⟩
    · have HL := hide (show lt ⟨l, c0, s, k, o⟩ now = true by
        unfold lt
        rcases h12 with rfl | rfl
        · simp at hc ⊢; omega
        · rfl)
      cases y with
      | true =>
        have HE := hide (show cal ⟨l, c0, s, k, o⟩ ⟨now, true⟩ = ⟨l, c0, 0, 0, 0⟩ by unfold cal; simp only; rw [HL.out]; rfl)
        clear hk
        rcases h12 with rfl | rfl
        · have hc2 : ¬ now < o + c0 := fun h => hc ⟨rfl, h⟩
          go_enter Try.func55, Try.ntmps55
          go_wp2
          exact bodyPost_ret (v := .tuple #[.agg #[.int .i64 l, .int .i64 c0, .int .i64 0, .int .i64 0, .int .i64 0], .bool true]) (by simp [results, Try.results55, go_sem]) rfl ⟨by rw [HE.out, HL.out], hbw _ _⟩
        · clear hc
          go_enter Try.func55, Try.ntmps55
          go_wp2
          exact bodyPost_ret (v := .tuple #[.agg #[.int .i64 l, .int .i64 c0, .int .i64 0, .int .i64 0, .int .i64 0], .bool true]) (by simp [results, Try.results55, go_sem]) rfl ⟨by rw [HE.out, HL.out], hbw _ _⟩
      | false =>
        have HE := hide (show cal ⟨l, c0, s, k, o⟩ ⟨now, false⟩ = ⟨l, c0, 1, k, now⟩ by unfold cal; simp only; rw [HL.out]; show flr ⟨l, c0, s, k, o⟩ now = _; unfold flr; rw [if_neg (by simp only; omega)])
        clear hk
        rcases h12 with rfl | rfl
        · have hc2 : ¬ now < o + c0 := fun h => hc ⟨rfl, h⟩
          go_enter Try.func55, Try.ntmps55
          go_wp2
          exact bodyPost_ret (v := .tuple #[.agg #[.int .i64 l, .int .i64 c0, .int .i64 1, .int .i64 k, .int .i64 now], .bool true]) (by simp [results, Try.results55, go_sem]) rfl ⟨by rw [HE.out, HL.out], hbw _ _⟩
        · clear hc
          go_enter Try.func55, Try.ntmps55
          go_wp2
          exact bodyPost_ret (v := .tuple #[.agg #[.int .i64 l, .int .i64 c0, .int .i64 1, .int .i64 k, .int .i64 now], .bool true]) (by simp [results, Try.results55, go_sem]) rfl ⟨by rw [HE.out, HL.out], hbw _ _⟩
set_option maxHeartbeats 4000000 in
theorem spec_callBreaker (x : Br) (c : Cl) (b t : Bool) (r : Br) (w : World) (hb : decide (GBr x ∧ GT c.w) = b) (hr : (if b = true then cal x c else ⟨0, 0, 0, 0, 0⟩) = r) (ht : (if b = true then lt x c.w else false) = t) :
    Calls Try.prog 29 #[.agg #[.int .i64 x.l, .int .i64 x.c, .int .i64 x.s, .int .i64 x.k, .int .i64 x.o], .agg #[.int .i64 c.w, .bool c.y]] w fun e w' => e = .returned (.tuple #[brv r, .bool t, .bool b]) ∧ Below w.heap.size w w' := by
  obtain ⟨bp, hbp⟩ : ∃ z, decide (GBr x) = z := ⟨_, rfl⟩
  obtain ⟨bx, hbx⟩ : ∃ z, decide (GT c.w) = z := ⟨_, rfl⟩
  have eb : b = (bp && bx) := by rw [← hb, ← hbp, ← hbx, Bool.eq_iff_iff]; simp only [Bool.and_eq_true, decide_eq_true_eq]
  have hb0 := (((Below.refl w.heap.size w).alloc (Nat.le_refl _) (.cells #[.int .i64 x.l, .int .i64 x.c, .int .i64 x.s, .int .i64 x.k, .int .i64 x.o] 37)).alloc (by simp) (.cells #[.int .i64 c.w, .bool c.y] 50)).alloc (by simp; omega) (.cells #[.int .i64 0, .int .i64 0, .int .i64 0, .int .i64 0, .int .i64 0] 37)
  have HX := hide (((new5 w (.int .i64 x.l) (.int .i64 x.c) (.int .i64 x.s) (.int .i64 x.k) (.int .i64 x.o) 37).alloc (.cells #[.int .i64 c.w, .bool c.y] 50)).alloc (.cells #[.int .i64 0, .int .i64 0, .int .i64 0, .int .i64 0, .int .i64 0] 37))
  have HY := hide ((new2 (w.alloc (.cells #[.int .i64 x.l, .int .i64 x.c, .int .i64 x.s, .int .i64 x.k, .int .i64 x.o] 37)) (.int .i64 c.w) (.bool c.y) 50).alloc (.cells #[.int .i64 0, .int .i64 0, .int .i64 0, .int .i64 0, .int .i64 0] 37))
  have HZ := hide (new5 ((w.alloc (.cells #[.int .i64 x.l, .int .i64 x.c, .int .i64 x.s, .int .i64 x.k, .int .i64 x.o] 37)).alloc (.cells #[.int .i64 c.w, .bool c.y] 50)) (.int .i64 0) (.int .i64 0) (.int .i64 0) (.int .i64 0) (.int .i64 0) 37)
  simp only [World.size_alloc] at HY HZ
  have BP := hide hbp
  have BX := hide hbx
  have HR := hide hr
  have HT := hide ht
  subst eb
  clear hb hr ht hbp hbx
  go_enter Try.func29, Try.ntmps29
  go_wp2_with fail
  refine (spec_breaker x bp _ BP.out).mono ?_
  rintro e w1 ⟨rfl, hb⟩
  have hb1 := hb0.trans (hb.mono hb0.size)
  have HX1 := hide (HX.out.down hb)
  have HY1 := hide (HY.out.down hb)
  have hZ1 := HZ.out.down hb
  clear hb hb0 HX HY HZ
  obtain ⟨⟨d0, d1, d2, d3, d4⟩, -⟩ := HX1.out.five
  obtain ⟨⟨y0, y1⟩, -⟩ := HY1.out.duo
  have key : ∀ WZ, ((((w1.setCell ⟨w.heap.size + 1 + 1, 0, none⟩ (.int .i64 0)).setCell ⟨w.heap.size + 1 + 1, 1, none⟩ (.int .i64 0)).setCell ⟨w.heap.size + 1 + 1, 2, none⟩ (.int .i64 0)).setCell ⟨w.heap.size + 1 + 1, 3, none⟩ (.int .i64 0)).setCell ⟨w.heap.size + 1 + 1, 4, none⟩ (.int .i64 0) = WZ → _ := put5 hZ1 hb1 (by omega) _ _ _ _ _
  cases bp with
  | false =>
    obtain ⟨⟨e0, e1, e2, e3, e4⟩, f0, f1, f2, f3, f4⟩ := hZ1.five
    obtain ⟨WZ, hWZ⟩ : ∃ WZ, ((((w1.setCell ⟨w.heap.size + 1 + 1, 0, none⟩ (.int .i64 0)).setCell ⟨w.heap.size + 1 + 1, 1, none⟩ (.int .i64 0)).setCell ⟨w.heap.size + 1 + 1, 2, none⟩ (.int .i64 0)).setCell ⟨w.heap.size + 1 + 1, 3, none⟩ (.int .i64 0)).setCell ⟨w.heap.size + 1 + 1, 4, none⟩ (.int .i64 0) = WZ := ⟨_, rfl⟩
    have HZ := hide (key WZ hWZ)
    have HWZ := hide hWZ
    clear hWZ hZ1 hb1 HX1 HY1 key BP BX
    go_wp2
    rw [HWZ.out]
    clear e0 e1 e2 e3 e4 f0 f1 f2 f3 f4 d0 d1 d2 d3 d4 y0 y1
    obtain ⟨⟨e0, e1, e2, e3, e4⟩, -⟩ := HZ.out.1.five
    exact bodyPost_ret (v := .tuple #[.agg #[.int .i64 0, .int .i64 0, .int .i64 0, .int .i64 0, .int .i64 0], .bool false, .bool false]) (by simp [results, Try.results29, go_sem, e0, e1, e2, e3, e4]) rfl ⟨by rw [← HR.out, ← HT.out]; rfl, HZ.out.2⟩
  | true =>
    go_wp2_with fail
    refine (l1in_to _ _ _ bx _ BX.out).mono ?_
    rintro e w2 ⟨rfl, rfl⟩
    cases bx with
    | false =>
      obtain ⟨⟨e0, e1, e2, e3, e4⟩, f0, f1, f2, f3, f4⟩ := hZ1.five
      obtain ⟨WZ, hWZ⟩ : ∃ WZ, ((((w2.setCell ⟨w.heap.size + 1 + 1, 0, none⟩ (.int .i64 0)).setCell ⟨w.heap.size + 1 + 1, 1, none⟩ (.int .i64 0)).setCell ⟨w.heap.size + 1 + 1, 2, none⟩ (.int .i64 0)).setCell ⟨w.heap.size + 1 + 1, 3, none⟩ (.int .i64 0)).setCell ⟨w.heap.size + 1 + 1, 4, none⟩ (.int .i64 0) = WZ := ⟨_, rfl⟩
      have HZ := hide (key WZ hWZ)
      have HWZ := hide hWZ
      clear hWZ hZ1 hb1 HX1 HY1 key BP BX
      go_wp2
      rw [HWZ.out]
      clear e0 e1 e2 e3 e4 f0 f1 f2 f3 f4 d0 d1 d2 d3 d4 y0 y1
      obtain ⟨⟨e0, e1, e2, e3, e4⟩, -⟩ := HZ.out.1.five
      exact bodyPost_ret (v := .tuple #[.agg #[.int .i64 0, .int .i64 0, .int .i64 0, .int .i64 0, .int .i64 0], .bool false, .bool false]) (by simp [results, Try.results29, go_sem, e0, e1, e2, e3, e4]) rfl ⟨by rw [← HR.out, ← HT.out]; rfl, HZ.out.2⟩
    | true =>
      have HC := hide (fun W => spec_call x c W (of_decide_eq_true BP.out))
      obtain ⟨q, hq⟩ : ∃ q, cal x c = q := ⟨_, rfl⟩
      obtain ⟨u, hu⟩ : ∃ u, lt x c.w = u := ⟨_, rfl⟩
      have HQ := hide (show q = r by have := HR.out; rw [if_pos (by rfl)] at this; rw [← hq, this])
      have HU := hide (show u = t by have := HT.out; rw [if_pos (by rfl)] at this; rw [← hu, this])
      rw [hq, hu] at HC
      clear hq hu HR HT BP BX key
      go_wp2_with fail
      refine (HC.out _).mono ?_
      rintro e w3 ⟨rfl, hb⟩
      have hb3 := hb1.trans (hb.mono hb1.size)
      have hZ3 := hZ1.down hb
      have hlt := (hZ1.down hb).lt
      clear hb hb1 hZ1 HC HX1 HY1 d0 d1 d2 d3 d4 y0 y1
      obtain ⟨⟨e0, e1, e2, e3, e4⟩, f0, f1, f2, f3, f4⟩ := hZ3.five
      obtain ⟨WZ, hWZ⟩ : ∃ WZ, ((((w3.setCell ⟨w.heap.size + 1 + 1, 0, none⟩ (.int .i64 q.l)).setCell ⟨w.heap.size + 1 + 1, 1, none⟩ (.int .i64 q.c)).setCell ⟨w.heap.size + 1 + 1, 2, none⟩ (.int .i64 q.s)).setCell ⟨w.heap.size + 1 + 1, 3, none⟩ (.int .i64 q.k)).setCell ⟨w.heap.size + 1 + 1, 4, none⟩ (.int .i64 q.o) = WZ := ⟨_, rfl⟩
      have HZ := hide (put5 hZ3 hb3 (by omega) _ _ _ _ _ WZ hWZ)
      have HWZ := hide hWZ
      clear hWZ hZ3 hb3
      go_wp2
      rw [HWZ.out]
      clear e0 e1 e2 e3 e4 f0 f1 f2 f3 f4
      obtain ⟨⟨e0, e1, e2, e3, e4⟩, -⟩ := (HZ.out.1.alloc (.cells #[.int .i64 q.l, .int .i64 q.c, .int .i64 q.s, .int .i64 q.k, .int .i64 q.o] 37)).five
      exact bodyPost_ret (v := .tuple #[.agg #[.int .i64 q.l, .int .i64 q.c, .int .i64 q.s, .int .i64 q.k, .int .i64 q.o], .bool u, .bool true]) (by simp [results, Try.results29, go_sem, e0, e1, e2, e3, e4]) rfl ⟨by rw [← HQ.out, ← HU.out]; rfl, HZ.out.2.alloc HZ.out.2.size _⟩
set_option maxHeartbeats 4000000 in
theorem impl_callBreaker (x : Br) (c : Cl) (b t : Bool) (r : Br) (w : World) (hb : decide (GBr x ∧ GT c.w) = b) (hr : (if b = true then cal x c else ⟨0, 0, 0, 0, 0⟩) = r) (ht : (if b = true then lt x c.w else false) = t) :
    Calls Try.prog 31 #[.agg #[.int .i64 x.l, .int .i64 x.c, .int .i64 x.s, .int .i64 x.k, .int .i64 x.o], .agg #[.int .i64 c.w, .bool c.y]] w fun e w' => e = .returned (.tuple #[brv r, .bool t, .bool b]) ∧ Below w.heap.size w w' := by
  obtain ⟨bp, hbp⟩ : ∃ z, decide (GBr x) = z := ⟨_, rfl⟩
  obtain ⟨bx, hbx⟩ : ∃ z, decide (GT c.w) = z := ⟨_, rfl⟩
  have eb : b = (bp && bx) := by rw [← hb, ← hbp, ← hbx, Bool.eq_iff_iff]; simp only [Bool.and_eq_true, decide_eq_true_eq]
  have hb0 := (((Below.refl w.heap.size w).alloc (Nat.le_refl _) (.cells #[.int .i64 x.l, .int .i64 x.c, .int .i64 x.s, .int .i64 x.k, .int .i64 x.o] 37)).alloc (by simp) (.cells #[.int .i64 c.w, .bool c.y] 50)).alloc (by simp; omega) (.cells #[.int .i64 0, .int .i64 0, .int .i64 0, .int .i64 0, .int .i64 0] 37)
  have HX := hide (((new5 w (.int .i64 x.l) (.int .i64 x.c) (.int .i64 x.s) (.int .i64 x.k) (.int .i64 x.o) 37).alloc (.cells #[.int .i64 c.w, .bool c.y] 50)).alloc (.cells #[.int .i64 0, .int .i64 0, .int .i64 0, .int .i64 0, .int .i64 0] 37))
  have HY := hide ((new2 (w.alloc (.cells #[.int .i64 x.l, .int .i64 x.c, .int .i64 x.s, .int .i64 x.k, .int .i64 x.o] 37)) (.int .i64 c.w) (.bool c.y) 50).alloc (.cells #[.int .i64 0, .int .i64 0, .int .i64 0, .int .i64 0, .int .i64 0] 37))
  have HZ := hide (new5 ((w.alloc (.cells #[.int .i64 x.l, .int .i64 x.c, .int .i64 x.s, .int .i64 x.k, .int .i64 x.o] 37)).alloc (.cells #[.int .i64 c.w, .bool c.y] 50)) (.int .i64 0) (.int .i64 0) (.int .i64 0) (.int .i64 0) (.int .i64 0) 37)
  simp only [World.size_alloc] at HY HZ
  have BP := hide hbp
  have BX := hide hbx
  have HR := hide hr
  have HT := hide ht
  subst eb
  clear hb hr ht hbp hbx
  go_enter Try.func31, Try.ntmps31
  go_wp2_with fail
  refine (impl_breaker x bp _ BP.out).mono ?_
  rintro e w1 ⟨rfl, hb⟩
  have hb1 := hb0.trans (hb.mono hb0.size)
  have HX1 := hide (HX.out.down hb)
  have HY1 := hide (HY.out.down hb)
  have hZ1 := HZ.out.down hb
  clear hb hb0 HX HY HZ
  obtain ⟨⟨d0, d1, d2, d3, d4⟩, -⟩ := HX1.out.five
  obtain ⟨⟨y0, y1⟩, -⟩ := HY1.out.duo
  have key : ∀ WZ, ((((w1.setCell ⟨w.heap.size + 1 + 1, 0, none⟩ (.int .i64 0)).setCell ⟨w.heap.size + 1 + 1, 1, none⟩ (.int .i64 0)).setCell ⟨w.heap.size + 1 + 1, 2, none⟩ (.int .i64 0)).setCell ⟨w.heap.size + 1 + 1, 3, none⟩ (.int .i64 0)).setCell ⟨w.heap.size + 1 + 1, 4, none⟩ (.int .i64 0) = WZ → _ := put5 hZ1 hb1 (by omega) _ _ _ _ _
  cases bp with
  | false =>
    obtain ⟨⟨e0, e1, e2, e3, e4⟩, f0, f1, f2, f3, f4⟩ := hZ1.five
    obtain ⟨WZ, hWZ⟩ : ∃ WZ, ((((w1.setCell ⟨w.heap.size + 1 + 1, 0, none⟩ (.int .i64 0)).setCell ⟨w.heap.size + 1 + 1, 1, none⟩ (.int .i64 0)).setCell ⟨w.heap.size + 1 + 1, 2, none⟩ (.int .i64 0)).setCell ⟨w.heap.size + 1 + 1, 3, none⟩ (.int .i64 0)).setCell ⟨w.heap.size + 1 + 1, 4, none⟩ (.int .i64 0) = WZ := ⟨_, rfl⟩
    have HZ := hide (key WZ hWZ)
    have HWZ := hide hWZ
    clear hWZ hZ1 hb1 HX1 HY1 key BP BX
    go_wp2
    rw [HWZ.out]
    clear e0 e1 e2 e3 e4 f0 f1 f2 f3 f4 d0 d1 d2 d3 d4 y0 y1
    obtain ⟨⟨e0, e1, e2, e3, e4⟩, -⟩ := HZ.out.1.five
    exact bodyPost_ret (v := .tuple #[.agg #[.int .i64 0, .int .i64 0, .int .i64 0, .int .i64 0, .int .i64 0], .bool false, .bool false]) (by simp [results, Try.results31, go_sem, e0, e1, e2, e3, e4]) rfl ⟨by rw [← HR.out, ← HT.out]; rfl, HZ.out.2⟩
  | true =>
    go_wp2_with fail
    refine (goodTime_to _ bx _ BX.out).mono ?_
    rintro e w2 ⟨rfl, rfl⟩
    cases bx with
    | false =>
      obtain ⟨⟨e0, e1, e2, e3, e4⟩, f0, f1, f2, f3, f4⟩ := hZ1.five
      obtain ⟨WZ, hWZ⟩ : ∃ WZ, ((((w2.setCell ⟨w.heap.size + 1 + 1, 0, none⟩ (.int .i64 0)).setCell ⟨w.heap.size + 1 + 1, 1, none⟩ (.int .i64 0)).setCell ⟨w.heap.size + 1 + 1, 2, none⟩ (.int .i64 0)).setCell ⟨w.heap.size + 1 + 1, 3, none⟩ (.int .i64 0)).setCell ⟨w.heap.size + 1 + 1, 4, none⟩ (.int .i64 0) = WZ := ⟨_, rfl⟩
      have HZ := hide (key WZ hWZ)
      have HWZ := hide hWZ
      clear hWZ hZ1 hb1 HX1 HY1 key BP BX
      go_wp2
      rw [HWZ.out]
      clear e0 e1 e2 e3 e4 f0 f1 f2 f3 f4 d0 d1 d2 d3 d4 y0 y1
      obtain ⟨⟨e0, e1, e2, e3, e4⟩, -⟩ := HZ.out.1.five
      exact bodyPost_ret (v := .tuple #[.agg #[.int .i64 0, .int .i64 0, .int .i64 0, .int .i64 0, .int .i64 0], .bool false, .bool false]) (by simp [results, Try.results31, go_sem, e0, e1, e2, e3, e4]) rfl ⟨by rw [← HR.out, ← HT.out]; rfl, HZ.out.2⟩
    | true =>
      have HC := hide (fun W => after_is x c W (of_decide_eq_true BP.out))
      obtain ⟨q, hq⟩ : ∃ q, cal x c = q := ⟨_, rfl⟩
      obtain ⟨u, hu⟩ : ∃ u, lt x c.w = u := ⟨_, rfl⟩
      have HQ := hide (show q = r by have := HR.out; rw [if_pos (by rfl)] at this; rw [← hq, this])
      have HU := hide (show u = t by have := HT.out; rw [if_pos (by rfl)] at this; rw [← hu, this])
      rw [hq, hu] at HC
      clear hq hu HR HT BP BX key
      go_wp2_with fail
      refine (HC.out _).mono ?_
      rintro e w3 ⟨rfl, hb⟩
      have hb3 := hb1.trans (hb.mono hb1.size)
      have hZ3 := hZ1.down hb
      have hlt := (hZ1.down hb).lt
      clear hb hb1 hZ1 HC HX1 HY1 d0 d1 d2 d3 d4 y0 y1
      obtain ⟨⟨e0, e1, e2, e3, e4⟩, f0, f1, f2, f3, f4⟩ := hZ3.five
      obtain ⟨WZ, hWZ⟩ : ∃ WZ, ((((w3.setCell ⟨w.heap.size + 1 + 1, 0, none⟩ (.int .i64 q.l)).setCell ⟨w.heap.size + 1 + 1, 1, none⟩ (.int .i64 q.c)).setCell ⟨w.heap.size + 1 + 1, 2, none⟩ (.int .i64 q.s)).setCell ⟨w.heap.size + 1 + 1, 3, none⟩ (.int .i64 q.k)).setCell ⟨w.heap.size + 1 + 1, 4, none⟩ (.int .i64 q.o) = WZ := ⟨_, rfl⟩
      have HZ := hide (put5 hZ3 hb3 (by omega) _ _ _ _ _ WZ hWZ)
      have HWZ := hide hWZ
      clear hWZ hZ3 hb3
      go_wp2
      rw [HWZ.out]
      clear e0 e1 e2 e3 e4 f0 f1 f2 f3 f4
      obtain ⟨⟨e0, e1, e2, e3, e4⟩, -⟩ := (HZ.out.1.alloc (.cells #[.int .i64 q.l, .int .i64 q.c, .int .i64 q.s, .int .i64 q.k, .int .i64 q.o] 37)).five
      exact bodyPost_ret (v := .tuple #[.agg #[.int .i64 q.l, .int .i64 q.c, .int .i64 q.s, .int .i64 q.k, .int .i64 q.o], .bool u, .bool true]) (by simp [results, Try.results31, go_sem, e0, e1, e2, e3, e4]) rfl ⟨by rw [← HQ.out, ← HU.out]; rfl, HZ.out.2.alloc HZ.out.2.size _⟩
end Go.Proofs.Ytegbfmdilmbpmaa
