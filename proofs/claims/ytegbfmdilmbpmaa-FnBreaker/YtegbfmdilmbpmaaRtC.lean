/-
  What a call makes of a breaker, in both texts.
-/
import Derived.Test.YtegbfmdilmbpmaaRtS
namespace Go.Proofs.Ytegbfmdilmbpmaa
open Go.RowKit M
open Clk (upd upd_same upd_other)
set_option maxHeartbeats 4000000 in
theorem after_cooled (x : Br) (c : Cl) (b : Bool) (r : Br) (w : World)
    (hSt : ∀ W, Calls Try.prog 59 #[.agg #[.int .i64 x.l, .int .i64 x.c, .int .i64 x.s, .int .i64 x.k, .int .i64 x.o]] W fun e w' => e = .returned (.agg #[.func (.func 65) #[] #[], .func (.func 66) #[] #[]]) ∧ Below W.heap.size W w')
    (hF : ∀ W, Calls Try.prog 65 #[.agg #[.int .i64 x.l, .int .i64 x.c, .int .i64 x.s, .int .i64 x.k, .int .i64 x.o], .int .i64 c.w] W fun e w' => e = .returned (.bool b) ∧ Below W.heap.size W w')
    (hG : ∀ W, Calls Try.prog 66 #[.agg #[.int .i64 x.l, .int .i64 x.c, .int .i64 x.s, .int .i64 x.k, .int .i64 x.o], .int .i64 c.w] W fun e w' => e = .returned (.agg #[.int .i64 r.l, .int .i64 r.c, .int .i64 r.s, .int .i64 r.k, .int .i64 r.o]) ∧ Below W.heap.size W w') :
    Calls Try.prog 56 #[.agg #[.int .i64 x.l, .int .i64 x.c, .int .i64 x.s, .int .i64 x.k, .int .i64 x.o], .agg #[.int .i64 c.w, .bool c.y]] w fun e w' =>
      e = .returned (.tuple #[brv (if b = true then (if c.y = true then fresh x.l x.c else r) else x), .bool b]) ∧ Below w.heap.size w w' := by
  have HSt := hide hSt
  have HF := hide hF
  have HG := hide hG
  obtain ⟨now, y⟩ := c
  simp only at HF HG ⊢
  have hb0 := (((Below.refl w.heap.size w).alloc (Nat.le_refl _) (.cells #[.int .i64 x.l, .int .i64 x.c, .int .i64 x.s, .int .i64 x.k, .int .i64 x.o] 37)).alloc (by simp) (.cells #[.int .i64 now, .bool y] 50)).alloc (by simp; omega) (.cells #[.int .i64 0, .int .i64 0, .int .i64 0, .int .i64 0, .int .i64 0] 37)
  have HX := hide (((new5 w (.int .i64 x.l) (.int .i64 x.c) (.int .i64 x.s) (.int .i64 x.k) (.int .i64 x.o) 37).alloc (.cells #[.int .i64 now, .bool y] 50)).alloc (.cells #[.int .i64 0, .int .i64 0, .int .i64 0, .int .i64 0, .int .i64 0] 37))
  have HY := hide ((new2 (w.alloc (.cells #[.int .i64 x.l, .int .i64 x.c, .int .i64 x.s, .int .i64 x.k, .int .i64 x.o] 37)) (.int .i64 now) (.bool y) 50).alloc (.cells #[.int .i64 0, .int .i64 0, .int .i64 0, .int .i64 0, .int .i64 0] 37))
  have HZ := hide (new5 ((w.alloc (.cells #[.int .i64 x.l, .int .i64 x.c, .int .i64 x.s, .int .i64 x.k, .int .i64 x.o] 37)).alloc (.cells #[.int .i64 now, .bool y] 50)) (.int .i64 0) (.int .i64 0) (.int .i64 0) (.int .i64 0) (.int .i64 0) 37)
  simp only [World.size_alloc] at HY HZ
  clear hSt hF hG
  go_enter Try.func56, Try.ntmps56
  go_wp2_with fail
  refine (HSt.out _).mono ?_
  rintro e w1 ⟨rfl, hb⟩
  have hb1 := (hb0.trans (hb.mono hb0.size)).alloc (hb0.trans (hb.mono hb0.size)).size (.cells #[.func (.func 65) #[] #[], .func (.func 66) #[] #[]] 86)
  have HX1 := hide ((HX.out.down hb).alloc (.cells #[.func (.func 65) #[] #[], .func (.func 66) #[] #[]] 86))
  have HY1 := hide ((HY.out.down hb).alloc (.cells #[.func (.func 65) #[] #[], .func (.func 66) #[] #[]] 86))
  have HZ1 := hide ((HZ.out.down hb).alloc (.cells #[.func (.func 65) #[] #[], .func (.func 66) #[] #[]] 86))
  have HT1 := hide (new2 w1 (.func (.func 65) #[] #[]) (.func (.func 66) #[] #[]) 86)
  obtain ⟨⟨d0, d1, d2, d3, d4⟩, -⟩ := HX1.out.five
  obtain ⟨⟨y0, y1⟩, -⟩ := HY1.out.duo
  have hl1 := (HZ.out.down hb).lt
  clear hb hb0 HX HY HZ HSt
  go_wp2_with fail
  refine (HF.out _).mono ?_
  rintro e w2 ⟨rfl, hb⟩
  have hb2 := hb1.trans (hb.mono hb1.size)
  have HX2 := hide (HX1.out.down hb)
  have HY2 := hide (HY1.out.down hb)
  have hZ2 := HZ1.out.down hb
  have HT2 := hide (HT1.out.down hb)
  clear hb hb1 d0 d1 d2 d3 d4 y0 y1 HX1 HY1 HZ1 HT1 HF
  obtain ⟨⟨d0, d1, d2, d3, d4⟩, -⟩ := HX2.out.five
  obtain ⟨⟨y0, y1⟩, -⟩ := HY2.out.duo
  obtain ⟨⟨t0, t1⟩, -⟩ := HT2.out.duo
  cases b with
  | false =>
    obtain ⟨⟨e0, e1, e2, e3, e4⟩, f0, f1, f2, f3, f4⟩ := hZ2.five
    obtain ⟨WZ, hWZ⟩ : ∃ WZ, ((((w2.setCell ⟨w.heap.size + 1 + 1, 0, none⟩ (.int .i64 x.l)).setCell ⟨w.heap.size + 1 + 1, 1, none⟩ (.int .i64 x.c)).setCell ⟨w.heap.size + 1 + 1, 2, none⟩ (.int .i64 x.s)).setCell ⟨w.heap.size + 1 + 1, 3, none⟩ (.int .i64 x.k)).setCell ⟨w.heap.size + 1 + 1, 4, none⟩ (.int .i64 x.o) = WZ := ⟨_, rfl⟩
    have HZ := hide (put5 hZ2 hb2 (by omega) _ _ _ _ _ WZ hWZ)
    have HWZ := hide hWZ
    clear hWZ hZ2 hb2 HG HX2 HY2 HT2
    go_wp2
    rw [HWZ.out]
    clear e0 e1 e2 e3 e4 f0 f1 f2 f3 f4 d0 d1 d2 d3 d4 y0 y1 t0 t1
    obtain ⟨⟨e0, e1, e2, e3, e4⟩, -⟩ := HZ.out.1.five
    exact bodyPost_ret (v := .tuple #[.agg #[.int .i64 x.l, .int .i64 x.c, .int .i64 x.s, .int .i64 x.k, .int .i64 x.o], .bool false]) (by simp [results, Try.results56, go_sem, e0, e1, e2, e3, e4]) rfl ⟨rfl, HZ.out.2⟩
  | true =>
    cases y with
    | true =>
      go_wp2_with fail
      refine (closed_is x.l x.c _).mono ?_
      rintro e w3 ⟨rfl, hb⟩
      have hb3 := hb2.trans (hb.mono hb2.size)
      have hZ3 := hZ2.down hb
      obtain ⟨⟨e0, e1, e2, e3, e4⟩, f0, f1, f2, f3, f4⟩ := hZ3.five
      obtain ⟨WZ, hWZ⟩ : ∃ WZ, ((((w3.setCell ⟨w.heap.size + 1 + 1, 0, none⟩ (.int .i64 x.l)).setCell ⟨w.heap.size + 1 + 1, 1, none⟩ (.int .i64 x.c)).setCell ⟨w.heap.size + 1 + 1, 2, none⟩ (.int .i64 0)).setCell ⟨w.heap.size + 1 + 1, 3, none⟩ (.int .i64 0)).setCell ⟨w.heap.size + 1 + 1, 4, none⟩ (.int .i64 0) = WZ := ⟨_, rfl⟩
      have HZ := hide (put5 hZ3 hb3 (by omega) _ _ _ _ _ WZ hWZ)
      have HWZ := hide hWZ
      clear hWZ hZ2 hb2 hb hZ3 hb3 HG HX2 HY2 HT2 d0 d1 d2 d3 d4 y0 y1 t0 t1
      go_wp2
      rw [HWZ.out]
      clear e0 e1 e2 e3 e4 f0 f1 f2 f3 f4
      obtain ⟨⟨e0, e1, e2, e3, e4⟩, -⟩ := HZ.out.1.five
      exact bodyPost_ret (v := .tuple #[.agg #[.int .i64 x.l, .int .i64 x.c, .int .i64 0, .int .i64 0, .int .i64 0], .bool true]) (by simp [results, Try.results56, go_sem, e0, e1, e2, e3, e4]) rfl ⟨rfl, HZ.out.2⟩
    | false =>
      go_wp2_with fail
      refine (HG.out _).mono ?_
      rintro e w3 ⟨rfl, hb⟩
      have hb3 := hb2.trans (hb.mono hb2.size)
      have hZ3 := hZ2.down hb
      obtain ⟨⟨e0, e1, e2, e3, e4⟩, f0, f1, f2, f3, f4⟩ := hZ3.five
      obtain ⟨WZ, hWZ⟩ : ∃ WZ, ((((w3.setCell ⟨w.heap.size + 1 + 1, 0, none⟩ (.int .i64 r.l)).setCell ⟨w.heap.size + 1 + 1, 1, none⟩ (.int .i64 r.c)).setCell ⟨w.heap.size + 1 + 1, 2, none⟩ (.int .i64 r.s)).setCell ⟨w.heap.size + 1 + 1, 3, none⟩ (.int .i64 r.k)).setCell ⟨w.heap.size + 1 + 1, 4, none⟩ (.int .i64 r.o) = WZ := ⟨_, rfl⟩
      have HZ := hide (put5 hZ3 hb3 (by omega) _ _ _ _ _ WZ hWZ)
      have HWZ := hide hWZ
      clear hWZ hZ2 hb2 hb hZ3 hb3 HG HX2 HY2 HT2 d0 d1 d2 d3 d4 y0 y1 t0 t1
      go_wp2
      rw [HWZ.out]
      clear e0 e1 e2 e3 e4 f0 f1 f2 f3 f4
      obtain ⟨⟨e0, e1, e2, e3, e4⟩, -⟩ := HZ.out.1.five
      exact bodyPost_ret (v := .tuple #[.agg #[.int .i64 r.l, .int .i64 r.c, .int .i64 r.s, .int .i64 r.k, .int .i64 r.o], .bool true]) (by simp [results, Try.results56, go_sem, e0, e1, e2, e3, e4]) rfl ⟨rfl, HZ.out.2⟩
set_option maxHeartbeats 4000000 in
theorem after_half (x : Br) (c : Cl) (b : Bool) (r : Br) (w : World)
    (hSt : ∀ W, Calls Try.prog 59 #[.agg #[.int .i64 x.l, .int .i64 x.c, .int .i64 x.s, .int .i64 x.k, .int .i64 x.o]] W fun e w' => e = .returned (.agg #[.func (.func 67) #[] #[], .func (.func 66) #[] #[]]) ∧ Below W.heap.size W w')
    (hF : ∀ W, Calls Try.prog 67 #[.agg #[.int .i64 x.l, .int .i64 x.c, .int .i64 x.s, .int .i64 x.k, .int .i64 x.o], .int .i64 c.w] W fun e w' => e = .returned (.bool b) ∧ Below W.heap.size W w')
    (hG : ∀ W, Calls Try.prog 66 #[.agg #[.int .i64 x.l, .int .i64 x.c, .int .i64 x.s, .int .i64 x.k, .int .i64 x.o], .int .i64 c.w] W fun e w' => e = .returned (.agg #[.int .i64 r.l, .int .i64 r.c, .int .i64 r.s, .int .i64 r.k, .int .i64 r.o]) ∧ Below W.heap.size W w') :
    Calls Try.prog 56 #[.agg #[.int .i64 x.l, .int .i64 x.c, .int .i64 x.s, .int .i64 x.k, .int .i64 x.o], .agg #[.int .i64 c.w, .bool c.y]] w fun e w' =>
      e = .returned (.tuple #[brv (if b = true then (if c.y = true then fresh x.l x.c else r) else x), .bool b]) ∧ Below w.heap.size w w' := by
  have HSt := hide hSt
  have HF := hide hF
  have HG := hide hG
  obtain ⟨now, y⟩ := c
  simp only at HF HG ⊢
  have hb0 := (((Below.refl w.heap.size w).alloc (Nat.le_refl _) (.cells #[.int .i64 x.l, .int .i64 x.c, .int .i64 x.s, .int .i64 x.k, .int .i64 x.o] 37)).alloc (by simp) (.cells #[.int .i64 now, .bool y] 50)).alloc (by simp; omega) (.cells #[.int .i64 0, .int .i64 0, .int .i64 0, .int .i64 0, .int .i64 0] 37)
  have HX := hide (((new5 w (.int .i64 x.l) (.int .i64 x.c) (.int .i64 x.s) (.int .i64 x.k) (.int .i64 x.o) 37).alloc (.cells #[.int .i64 now, .bool y] 50)).alloc (.cells #[.int .i64 0, .int .i64 0, .int .i64 0, .int .i64 0, .int .i64 0] 37))
  have HY := hide ((new2 (w.alloc (.cells #[.int .i64 x.l, .int .i64 x.c, .int .i64 x.s, .int .i64 x.k, .int .i64 x.o] 37)) (.int .i64 now) (.bool y) 50).alloc (.cells #[.int .i64 0, .int .i64 0, .int .i64 0, .int .i64 0, .int .i64 0] 37))
  have HZ := hide (new5 ((w.alloc (.cells #[.int .i64 x.l, .int .i64 x.c, .int .i64 x.s, .int .i64 x.k, .int .i64 x.o] 37)).alloc (.cells #[.int .i64 now, .bool y] 50)) (.int .i64 0) (.int .i64 0) (.int .i64 0) (.int .i64 0) (.int .i64 0) 37)
  simp only [World.size_alloc] at HY HZ
  clear hSt hF hG
  go_enter Try.func56, Try.ntmps56
  go_wp2_with fail
  refine (HSt.out _).mono ?_
  rintro e w1 ⟨rfl, hb⟩
  have hb1 := (hb0.trans (hb.mono hb0.size)).alloc (hb0.trans (hb.mono hb0.size)).size (.cells #[.func (.func 67) #[] #[], .func (.func 66) #[] #[]] 86)
  have HX1 := hide ((HX.out.down hb).alloc (.cells #[.func (.func 67) #[] #[], .func (.func 66) #[] #[]] 86))
  have HY1 := hide ((HY.out.down hb).alloc (.cells #[.func (.func 67) #[] #[], .func (.func 66) #[] #[]] 86))
  have HZ1 := hide ((HZ.out.down hb).alloc (.cells #[.func (.func 67) #[] #[], .func (.func 66) #[] #[]] 86))
  have HT1 := hide (new2 w1 (.func (.func 67) #[] #[]) (.func (.func 66) #[] #[]) 86)
  obtain ⟨⟨d0, d1, d2, d3, d4⟩, -⟩ := HX1.out.five
  obtain ⟨⟨y0, y1⟩, -⟩ := HY1.out.duo
  have hl1 := (HZ.out.down hb).lt
  clear hb hb0 HX HY HZ HSt
  go_wp2_with fail
  refine (HF.out _).mono ?_
  rintro e w2 ⟨rfl, hb⟩
  have hb2 := hb1.trans (hb.mono hb1.size)
  have HX2 := hide (HX1.out.down hb)
  have HY2 := hide (HY1.out.down hb)
  have hZ2 := HZ1.out.down hb
  have HT2 := hide (HT1.out.down hb)
  clear hb hb1 d0 d1 d2 d3 d4 y0 y1 HX1 HY1 HZ1 HT1 HF
  obtain ⟨⟨d0, d1, d2, d3, d4⟩, -⟩ := HX2.out.five
  obtain ⟨⟨y0, y1⟩, -⟩ := HY2.out.duo
  obtain ⟨⟨t0, t1⟩, -⟩ := HT2.out.duo
  cases b with
  | false =>
    obtain ⟨⟨e0, e1, e2, e3, e4⟩, f0, f1, f2, f3, f4⟩ := hZ2.five
    obtain ⟨WZ, hWZ⟩ : ∃ WZ, ((((w2.setCell ⟨w.heap.size + 1 + 1, 0, none⟩ (.int .i64 x.l)).setCell ⟨w.heap.size + 1 + 1, 1, none⟩ (.int .i64 x.c)).setCell ⟨w.heap.size + 1 + 1, 2, none⟩ (.int .i64 x.s)).setCell ⟨w.heap.size + 1 + 1, 3, none⟩ (.int .i64 x.k)).setCell ⟨w.heap.size + 1 + 1, 4, none⟩ (.int .i64 x.o) = WZ := ⟨_, rfl⟩
    have HZ := hide (put5 hZ2 hb2 (by omega) _ _ _ _ _ WZ hWZ)
    have HWZ := hide hWZ
    clear hWZ hZ2 hb2 HG HX2 HY2 HT2
    go_wp2
    rw [HWZ.out]
    clear e0 e1 e2 e3 e4 f0 f1 f2 f3 f4 d0 d1 d2 d3 d4 y0 y1 t0 t1
    obtain ⟨⟨e0, e1, e2, e3, e4⟩, -⟩ := HZ.out.1.five
    exact bodyPost_ret (v := .tuple #[.agg #[.int .i64 x.l, .int .i64 x.c, .int .i64 x.s, .int .i64 x.k, .int .i64 x.o], .bool false]) (by simp [results, Try.results56, go_sem, e0, e1, e2, e3, e4]) rfl ⟨rfl, HZ.out.2⟩
  | true =>
    cases y with
    | true =>
      go_wp2_with fail
      refine (closed_is x.l x.c _).mono ?_
      rintro e w3 ⟨rfl, hb⟩
      have hb3 := hb2.trans (hb.mono hb2.size)
      have hZ3 := hZ2.down hb
      obtain ⟨⟨e0, e1, e2, e3, e4⟩, f0, f1, f2, f3, f4⟩ := hZ3.five
      obtain ⟨WZ, hWZ⟩ : ∃ WZ, ((((w3.setCell ⟨w.heap.size + 1 + 1, 0, none⟩ (.int .i64 x.l)).setCell ⟨w.heap.size + 1 + 1, 1, none⟩ (.int .i64 x.c)).setCell ⟨w.heap.size + 1 + 1, 2, none⟩ (.int .i64 0)).setCell ⟨w.heap.size + 1 + 1, 3, none⟩ (.int .i64 0)).setCell ⟨w.heap.size + 1 + 1, 4, none⟩ (.int .i64 0) = WZ := ⟨_, rfl⟩
      have HZ := hide (put5 hZ3 hb3 (by omega) _ _ _ _ _ WZ hWZ)
      have HWZ := hide hWZ
      clear hWZ hZ2 hb2 hb hZ3 hb3 HG HX2 HY2 HT2 d0 d1 d2 d3 d4 y0 y1 t0 t1
      go_wp2
      rw [HWZ.out]
      clear e0 e1 e2 e3 e4 f0 f1 f2 f3 f4
      obtain ⟨⟨e0, e1, e2, e3, e4⟩, -⟩ := HZ.out.1.five
      exact bodyPost_ret (v := .tuple #[.agg #[.int .i64 x.l, .int .i64 x.c, .int .i64 0, .int .i64 0, .int .i64 0], .bool true]) (by simp [results, Try.results56, go_sem, e0, e1, e2, e3, e4]) rfl ⟨rfl, HZ.out.2⟩
    | false =>
      go_wp2_with fail
      refine (HG.out _).mono ?_
      rintro e w3 ⟨rfl, hb⟩
      have hb3 := hb2.trans (hb.mono hb2.size)
      have hZ3 := hZ2.down hb
      obtain ⟨⟨e0, e1, e2, e3, e4⟩, f0, f1, f2, f3, f4⟩ := hZ3.five
      obtain ⟨WZ, hWZ⟩ : ∃ WZ, ((((w3.setCell ⟨w.heap.size + 1 + 1, 0, none⟩ (.int .i64 r.l)).setCell ⟨w.heap.size + 1 + 1, 1, none⟩ (.int .i64 r.c)).setCell ⟨w.heap.size + 1 + 1, 2, none⟩ (.int .i64 r.s)).setCell ⟨w.heap.size + 1 + 1, 3, none⟩ (.int .i64 r.k)).setCell ⟨w.heap.size + 1 + 1, 4, none⟩ (.int .i64 r.o) = WZ := ⟨_, rfl⟩
      have HZ := hide (put5 hZ3 hb3 (by omega) _ _ _ _ _ WZ hWZ)
      have HWZ := hide hWZ
      clear hWZ hZ2 hb2 hb hZ3 hb3 HG HX2 HY2 HT2 d0 d1 d2 d3 d4 y0 y1 t0 t1
      go_wp2
      rw [HWZ.out]
      clear e0 e1 e2 e3 e4 f0 f1 f2 f3 f4
      obtain ⟨⟨e0, e1, e2, e3, e4⟩, -⟩ := HZ.out.1.five
      exact bodyPost_ret (v := .tuple #[.agg #[.int .i64 r.l, .int .i64 r.c, .int .i64 r.s, .int .i64 r.k, .int .i64 r.o], .bool true]) (by simp [results, Try.results56, go_sem, e0, e1, e2, e3, e4]) rfl ⟨rfl, HZ.out.2⟩
set_option maxHeartbeats 4000000 in
theorem after_closed (x : Br) (c : Cl) (b : Bool) (r : Br) (w : World)
    (hSt : ∀ W, Calls Try.prog 59 #[.agg #[.int .i64 x.l, .int .i64 x.c, .int .i64 x.s, .int .i64 x.k, .int .i64 x.o]] W fun e w' => e = .returned (.agg #[.func (.func 67) #[] #[], .func (.func 68) #[] #[]]) ∧ Below W.heap.size W w')
    (hF : ∀ W, Calls Try.prog 67 #[.agg #[.int .i64 x.l, .int .i64 x.c, .int .i64 x.s, .int .i64 x.k, .int .i64 x.o], .int .i64 c.w] W fun e w' => e = .returned (.bool b) ∧ Below W.heap.size W w')
    (hG : ∀ W, Calls Try.prog 68 #[.agg #[.int .i64 x.l, .int .i64 x.c, .int .i64 x.s, .int .i64 x.k, .int .i64 x.o], .int .i64 c.w] W fun e w' => e = .returned (.agg #[.int .i64 r.l, .int .i64 r.c, .int .i64 r.s, .int .i64 r.k, .int .i64 r.o]) ∧ Below W.heap.size W w') :
    Calls Try.prog 56 #[.agg #[.int .i64 x.l, .int .i64 x.c, .int .i64 x.s, .int .i64 x.k, .int .i64 x.o], .agg #[.int .i64 c.w, .bool c.y]] w fun e w' =>
      e = .returned (.tuple #[brv (if b = true then (if c.y = true then fresh x.l x.c else r) else x), .bool b]) ∧ Below w.heap.size w w' := by
  have HSt := hide hSt
  have HF := hide hF
  have HG := hide hG
  obtain ⟨now, y⟩ := c
  simp only at HF HG ⊢
  have hb0 := (((Below.refl w.heap.size w).alloc (Nat.le_refl _) (.cells #[.int .i64 x.l, .int .i64 x.c, .int .i64 x.s, .int .i64 x.k, .int .i64 x.o] 37)).alloc (by simp) (.cells #[.int .i64 now, .bool y] 50)).alloc (by simp; omega) (.cells #[.int .i64 0, .int .i64 0, .int .i64 0, .int .i64 0, .int .i64 0] 37)
  have HX := hide (((new5 w (.int .i64 x.l) (.int .i64 x.c) (.int .i64 x.s) (.int .i64 x.k) (.int .i64 x.o) 37).alloc (.cells #[.int .i64 now, .bool y] 50)).alloc (.cells #[.int .i64 0, .int .i64 0, .int .i64 0, .int .i64 0, .int .i64 0] 37))
  have HY := hide ((new2 (w.alloc (.cells #[.int .i64 x.l, .int .i64 x.c, .int .i64 x.s, .int .i64 x.k, .int .i64 x.o] 37)) (.int .i64 now) (.bool y) 50).alloc (.cells #[.int .i64 0, .int .i64 0, .int .i64 0, .int .i64 0, .int .i64 0] 37))
  have HZ := hide (new5 ((w.alloc (.cells #[.int .i64 x.l, .int .i64 x.c, .int .i64 x.s, .int .i64 x.k, .int .i64 x.o] 37)).alloc (.cells #[.int .i64 now, .bool y] 50)) (.int .i64 0) (.int .i64 0) (.int .i64 0) (.int .i64 0) (.int .i64 0) 37)
  simp only [World.size_alloc] at HY HZ
  clear hSt hF hG
  go_enter Try.func56, Try.ntmps56
  go_wp2_with fail
  refine (HSt.out _).mono ?_
  rintro e w1 ⟨rfl, hb⟩
  have hb1 := (hb0.trans (hb.mono hb0.size)).alloc (hb0.trans (hb.mono hb0.size)).size (.cells #[.func (.func 67) #[] #[], .func (.func 68) #[] #[]] 86)
  have HX1 := hide ((HX.out.down hb).alloc (.cells #[.func (.func 67) #[] #[], .func (.func 68) #[] #[]] 86))
  have HY1 := hide ((HY.out.down hb).alloc (.cells #[.func (.func 67) #[] #[], .func (.func 68) #[] #[]] 86))
  have HZ1 := hide ((HZ.out.down hb).alloc (.cells #[.func (.func 67) #[] #[], .func (.func 68) #[] #[]] 86))
  have HT1 := hide (new2 w1 (.func (.func 67) #[] #[]) (.func (.func 68) #[] #[]) 86)
  obtain ⟨⟨d0, d1, d2, d3, d4⟩, -⟩ := HX1.out.five
  obtain ⟨⟨y0, y1⟩, -⟩ := HY1.out.duo
  have hl1 := (HZ.out.down hb).lt
  clear hb hb0 HX HY HZ HSt
  go_wp2_with fail
  refine (HF.out _).mono ?_
  rintro e w2 ⟨rfl, hb⟩
  have hb2 := hb1.trans (hb.mono hb1.size)
  have HX2 := hide (HX1.out.down hb)
  have HY2 := hide (HY1.out.down hb)
  have hZ2 := HZ1.out.down hb
  have HT2 := hide (HT1.out.down hb)
  clear hb hb1 d0 d1 d2 d3 d4 y0 y1 HX1 HY1 HZ1 HT1 HF
  obtain ⟨⟨d0, d1, d2, d3, d4⟩, -⟩ := HX2.out.five
  obtain ⟨⟨y0, y1⟩, -⟩ := HY2.out.duo
  obtain ⟨⟨t0, t1⟩, -⟩ := HT2.out.duo
  cases b with
  | false =>
    obtain ⟨⟨e0, e1, e2, e3, e4⟩, f0, f1, f2, f3, f4⟩ := hZ2.five
    obtain ⟨WZ, hWZ⟩ : ∃ WZ, ((((w2.setCell ⟨w.heap.size + 1 + 1, 0, none⟩ (.int .i64 x.l)).setCell ⟨w.heap.size + 1 + 1, 1, none⟩ (.int .i64 x.c)).setCell ⟨w.heap.size + 1 + 1, 2, none⟩ (.int .i64 x.s)).setCell ⟨w.heap.size + 1 + 1, 3, none⟩ (.int .i64 x.k)).setCell ⟨w.heap.size + 1 + 1, 4, none⟩ (.int .i64 x.o) = WZ := ⟨_, rfl⟩
    have HZ := hide (put5 hZ2 hb2 (by omega) _ _ _ _ _ WZ hWZ)
    have HWZ := hide hWZ
    clear hWZ hZ2 hb2 HG HX2 HY2 HT2
    go_wp2
    rw [HWZ.out]
    clear e0 e1 e2 e3 e4 f0 f1 f2 f3 f4 d0 d1 d2 d3 d4 y0 y1 t0 t1
    obtain ⟨⟨e0, e1, e2, e3, e4⟩, -⟩ := HZ.out.1.five
    exact bodyPost_ret (v := .tuple #[.agg #[.int .i64 x.l, .int .i64 x.c, .int .i64 x.s, .int .i64 x.k, .int .i64 x.o], .bool false]) (by simp [results, Try.results56, go_sem, e0, e1, e2, e3, e4]) rfl ⟨rfl, HZ.out.2⟩
  | true =>
    cases y with
    | true =>
      go_wp2_with fail
      refine (closed_is x.l x.c _).mono ?_
      rintro e w3 ⟨rfl, hb⟩
      have hb3 := hb2.trans (hb.mono hb2.size)
      have hZ3 := hZ2.down hb
      obtain ⟨⟨e0, e1, e2, e3, e4⟩, f0, f1, f2, f3, f4⟩ := hZ3.five
      obtain ⟨WZ, hWZ⟩ : ∃ WZ, ((((w3.setCell ⟨w.heap.size + 1 + 1, 0, none⟩ (.int .i64 x.l)).setCell ⟨w.heap.size + 1 + 1, 1, none⟩ (.int .i64 x.c)).setCell ⟨w.heap.size + 1 + 1, 2, none⟩ (.int .i64 0)).setCell ⟨w.heap.size + 1 + 1, 3, none⟩ (.int .i64 0)).setCell ⟨w.heap.size + 1 + 1, 4, none⟩ (.int .i64 0) = WZ := ⟨_, rfl⟩
      have HZ := hide (put5 hZ3 hb3 (by omega) _ _ _ _ _ WZ hWZ)
      have HWZ := hide hWZ
      clear hWZ hZ2 hb2 hb hZ3 hb3 HG HX2 HY2 HT2 d0 d1 d2 d3 d4 y0 y1 t0 t1
      go_wp2
      rw [HWZ.out]
      clear e0 e1 e2 e3 e4 f0 f1 f2 f3 f4
      obtain ⟨⟨e0, e1, e2, e3, e4⟩, -⟩ := HZ.out.1.five
      exact bodyPost_ret (v := .tuple #[.agg #[.int .i64 x.l, .int .i64 x.c, .int .i64 0, .int .i64 0, .int .i64 0], .bool true]) (by simp [results, Try.results56, go_sem, e0, e1, e2, e3, e4]) rfl ⟨rfl, HZ.out.2⟩
    | false =>
      go_wp2_with fail
      refine (HG.out _).mono ?_
      rintro e w3 ⟨rfl, hb⟩
      have hb3 := hb2.trans (hb.mono hb2.size)
      have hZ3 := hZ2.down hb
      obtain ⟨⟨e0, e1, e2, e3, e4⟩, f0, f1, f2, f3, f4⟩ := hZ3.five
      obtain ⟨WZ, hWZ⟩ : ∃ WZ, ((((w3.setCell ⟨w.heap.size + 1 + 1, 0, none⟩ (.int .i64 r.l)).setCell ⟨w.heap.size + 1 + 1, 1, none⟩ (.int .i64 r.c)).setCell ⟨w.heap.size + 1 + 1, 2, none⟩ (.int .i64 r.s)).setCell ⟨w.heap.size + 1 + 1, 3, none⟩ (.int .i64 r.k)).setCell ⟨w.heap.size + 1 + 1, 4, none⟩ (.int .i64 r.o) = WZ := ⟨_, rfl⟩
      have HZ := hide (put5 hZ3 hb3 (by omega) _ _ _ _ _ WZ hWZ)
      have HWZ := hide hWZ
      clear hWZ hZ2 hb2 hb hZ3 hb3 HG HX2 HY2 HT2 d0 d1 d2 d3 d4 y0 y1 t0 t1
      go_wp2
      rw [HWZ.out]
      clear e0 e1 e2 e3 e4 f0 f1 f2 f3 f4
      obtain ⟨⟨e0, e1, e2, e3, e4⟩, -⟩ := HZ.out.1.five
      exact bodyPost_ret (v := .tuple #[.agg #[.int .i64 r.l, .int .i64 r.c, .int .i64 r.s, .int .i64 r.k, .int .i64 r.o], .bool true]) (by simp [results, Try.results56, go_sem, e0, e1, e2, e3, e4]) rfl ⟨rfl, HZ.out.2⟩
namespace M
theorem GBr.sum {x : Br} (h : GBr x) : 0 ≤ x.o + x.c ∧ x.o + x.c ≤ 10000000 := by
  obtain ⟨h1, h2⟩ := h
  unfold GBd at h1
  unfold GT at h2
  omega
end M
theorem after_is (x : Br) (c : Cl) (w : World) (hx : GBr x) :
    Calls Try.prog 56 #[.agg #[.int .i64 x.l, .int .i64 x.c, .int .i64 x.s, .int .i64 x.k, .int .i64 x.o], .agg #[.int .i64 c.w, .bool c.y]] w fun e w' =>
      e = .returned (.tuple #[brv (cal x c), .bool (lt x c.w)]) ∧ Below w.heap.size w w' := by
  have hs := hx.sum
  rcases hx.2 with ⟨h0, hk, ho⟩ | ⟨h1 | h2, hk, ho⟩
  · have e : lt x c.w = true := by unfold lt; rw [h0]; rfl
    unfold cal
    rw [e]
    have hl := hx.1
    unfold GBd at hl
    exact after_closed x c true (flr x c.w) w (fun W => state_is x _ _ W (.inr (.inr ⟨h0, rfl, rfl⟩))) (fun W => letsAll_is x c.w W) (fun W => count_is x c.w W h0 hk.1 (by omega))
  · have e : lt x c.w = decide (x.o + x.c ≤ c.w) := by unfold lt; rw [h1, Bool.eq_iff_iff]; simp
    have e2 : flr x c.w = ⟨x.l, x.c, 1, x.k, c.w⟩ := by unfold flr; rw [if_neg (by omega)]
    unfold cal
    rw [e, e2]
    exact after_cooled x c _ ⟨x.l, x.c, 1, x.k, c.w⟩ w (fun W => state_is x _ _ W (.inl ⟨h1, rfl, rfl⟩)) (fun W => cooled_is x c.w _ W hs.1 hs.2 rfl) (fun W => open_is x c.w W)
  · have e : lt x c.w = true := by unfold lt; rw [h2]; rfl
    have e2 : flr x c.w = ⟨x.l, x.c, 1, x.k, c.w⟩ := by unfold flr; rw [if_neg (by omega)]
    unfold cal
    rw [e, e2]
    exact after_half x c true ⟨x.l, x.c, 1, x.k, c.w⟩ w (fun W => state_is x _ _ W (.inr (.inl ⟨h2, rfl, rfl⟩))) (fun W => letsAll_is x c.w W) (fun W => open_is x c.w W)
end Go.Proofs.Ytegbfmdilmbpmaa
