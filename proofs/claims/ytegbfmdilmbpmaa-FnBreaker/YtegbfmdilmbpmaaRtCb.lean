/-
  A breaker that is drawn.
-/
import Derived.Test.YtegbfmdilmbpmaaRtCa
import Derived.Test.YtegbfmdilmbpmaaRtU
namespace Go.Proofs.Ytegbfmdilmbpmaa
open Go.RowKit M
open Clk (upd upd_same upd_other)
namespace M
/-- What a play of the specification tells: a breaker, good where the play is. -/
structure PA (e : Ending) : Prop where
  h : ∃ r R ok, e = .returned (.tuple #[.agg #[.int .i64 r.l, .int .i64 r.c, .int .i64 r.s, .int .i64 r.k, .int .i64 r.o], R, .bool ok]) ∧ (ok = true → GBr r)
/-- A breaker that was drawn. -/
structure DB (e : Ending) : Prop where
  h : ∃ x : Br, e = .returned (.agg #[.int .i64 x.l, .int .i64 x.c, .int .i64 x.s, .int .i64 x.k, .int .i64 x.o]) ∧ 0 ≤ x.o ∧ x.o ≤ 1000000
/-- While a breaker is drawn: the reader, the answer's box, the breaker's. -/
structure BD (w W : World) (B cb N g : Nat) (x : Br) : Prop where
  c : CurAt W B cb N
  r : Blk W w.heap.size 5 (q5 (.int .i64 0) (.int .i64 0) (.int .i64 0) (.int .i64 0) (.int .i64 0)) 37
  p : Blk W g 5 (q5 (.int .i64 x.l) (.int .i64 x.c) (.int .i64 x.s) (.int .i64 x.k) (.int .i64 x.o)) 37
  b : But cb w W
  l : cb < w.heap.size
  g : w.heap.size < g
theorem BD.draw {w W W' : World} {B cb N N' g : Nat} {x : Br} (h : BD w W B cb N g x) (hc : CurAt W' B cb N') (hb : But cb W W') : BD w W' B cb N' g x :=
  have := h.l
  have := h.g
  ⟨hc, hb.blk h.r (by omega), hb.blk h.p (by omega), h.b.trans hb, h.l, h.g⟩
theorem BD.down {w W W' : World} {B cb N g : Nat} {x : Br} (h : BD w W B cb N g x) (hb : Below W.heap.size W W') : BD w W' B cb N g x :=
  ⟨h.c.below hb, h.r.down hb, h.p.down hb, h.b.trans (But.of_below hb), h.l, h.g⟩
theorem BD.set0 {w W : World} {B cb N g : Nat} {x : Br} (h : BD w W B cb N g x) (z : Int) : BD w (W.setCell ⟨g, 0, none⟩ (.int .i64 z)) B cb N g { x with l := z } :=
  have h1 := h.l
  have h2 := h.g
  have h3 := h.c.base
  ⟨h.c.set (by omega) (by omega) _ _, h.r.set_other (by omega) _ _, h.p.five0 _, h.b.set (by omega) _ _, h.l, h.g⟩
theorem BD.set1 {w W : World} {B cb N g : Nat} {x : Br} (h : BD w W B cb N g x) (z : Int) : BD w (W.setCell ⟨g, 1, none⟩ (.int .i64 z)) B cb N g { x with c := z } :=
  have h1 := h.l
  have h2 := h.g
  have h3 := h.c.base
  ⟨h.c.set (by omega) (by omega) _ _, h.r.set_other (by omega) _ _, h.p.five1 _, h.b.set (by omega) _ _, h.l, h.g⟩
theorem BD.set2 {w W : World} {B cb N g : Nat} {x : Br} (h : BD w W B cb N g x) (z : Int) : BD w (W.setCell ⟨g, 2, none⟩ (.int .i64 z)) B cb N g { x with s := z } :=
  have h1 := h.l
  have h2 := h.g
  have h3 := h.c.base
  ⟨h.c.set (by omega) (by omega) _ _, h.r.set_other (by omega) _ _, h.p.five2 _, h.b.set (by omega) _ _, h.l, h.g⟩
theorem BD.set3 {w W : World} {B cb N g : Nat} {x : Br} (h : BD w W B cb N g x) (z : Int) : BD w (W.setCell ⟨g, 3, none⟩ (.int .i64 z)) B cb N g { x with k := z } :=
  have h1 := h.l
  have h2 := h.g
  have h3 := h.c.base
  ⟨h.c.set (by omega) (by omega) _ _, h.r.set_other (by omega) _ _, h.p.five3 _, h.b.set (by omega) _ _, h.l, h.g⟩
theorem BD.set4 {w W : World} {B cb N g : Nat} {x : Br} (h : BD w W B cb N g x) (z : Int) : BD w (W.setCell ⟨g, 4, none⟩ (.int .i64 z)) B cb N g { x with o := z } :=
  have h1 := h.l
  have h2 := h.g
  have h3 := h.c.base
  ⟨h.c.set (by omega) (by omega) _ _, h.r.set_other (by omega) _ _, h.p.five4 _, h.b.set (by omega) _ _, h.l, h.g⟩
theorem CallsOf.cut {w : World} {a : Option Addr} {n m c c' : Nat} {cs : Nat → Cl} (h : CallsOf w (.slice a n c) n cs) (hm : m ≤ n) : CallsOf w (.slice a m c') m cs := by
  obtain ⟨a', cap, hv, hr⟩ := h
  cases hv
  refine ⟨a, c', rfl, fun h0 => ?_⟩
  obtain ⟨b, off, ha, hlt, hrow⟩ := hr (by omega)
  exact ⟨b, off, ha, hlt, fun i hi => hrow i (by omega)⟩
theorem GBr.opened {x : Br} (h : GBr x) : 0 ≤ x.o ∧ x.o ≤ 1000000 ∧ 0 ≤ x.k ∧ x.k ≤ 20 := by
  obtain ⟨h1, h2⟩ := h
  unfold GBd at h1
  unfold GT at h2
  omega
end M
theorem spec_play_any (l c : Int) (v : Value) (n : Nat) (cs : Nat → Cl) (w : World) (hv : CallsOf w v n cs) (hn : n ≤ 1048576) :
    Calls Try.prog 33 #[.int .i64 l, .int .i64 c, v] w fun e w' => PA e ∧ Below w.heap.size w w' := by
  by_cases h1 : GBd l c ∧ n ≤ 120
  · refine (spec_play l c v n cs w hv h1.1 h1.2).mono ?_
    rintro e w' ⟨⟨hg, R, he, hR⟩ | ⟨-, he⟩, hb⟩
    · exact ⟨⟨_, _, _, he, fun _ => ply_good h1.1 (fun j hj => hg.gt j hj)⟩, hb⟩
    · exact ⟨⟨⟨0, 0, 0, 0, 0⟩, _, _, he, fun h => by cases h⟩, hb⟩
  · refine (spec_play_no l c v n cs w hv hn h1).mono ?_
    rintro e w' ⟨he, hb⟩
    exact ⟨⟨⟨0, 0, 0, 0, 0⟩, _, _, he, fun h => by cases h⟩, hb⟩
set_option maxRecDepth 20000 in
set_option maxHeartbeats 20000000 in
theorem cur_breaker (B cb N : Nat) (w : World) (h : CurAt w B cb N) (hN : N ≤ 800000) :
    Calls Try.prog 63 #[.pointer (some ⟨cb, 0, none⟩)] w fun e w' => DB e ∧ CurAt w' B cb (N + 500) ∧ But cb w w' := by
  have hlc := h.lt
  have hr0 := new5 w (.int .i64 0) (.int .i64 0) (.int .i64 0) (.int .i64 0) (.int .i64 0) 37
  have hal := (Below.refl w.heap.size w).alloc (Nat.le_refl _) (.cells #[.int .i64 0, .int .i64 0, .int .i64 0, .int .i64 0, .int .i64 0] 37)
  have HC0 := hide (h.below hal)
  have HR0 := hide hr0
  have HB0 := hide (But.of_below (cb := cb) hal)
  clear h hr0 hal
  go_enter Try.func63, Try.ntmps63
  go_wp2_with fail
  refine (cur_calls B cb N _ HC0.out (by omega)).mono ?_
  rintro e w1 ⟨⟨a, cap, n, cs, rfl, hn, hcap, hca⟩, hc1, ho1⟩
  have HC2 := hide hc1
  have HR2 := hide (ho1.blk HR0.out (by omega))
  have HB2 := hide (HB0.out.trans ho1)
  clear hc1 ho1 HC0 HR0 HB0
  by_cases h120 : 120 < n
  · obtain ⟨a', cap', hf, hr⟩ := hca w1 (But.refl _ _)
    obtain ⟨bb, off, ha, -, -⟩ := hr (by omega)
    cases hf
    cases ha
    have h20 : (20 : Int) ≤ (cap : Int) := by omega
    have h120' : (120 : Int) < (n : Int) := by omega
    have HL2 := hide (show ∀ W, But cb w1 W → CallsOf W (.slice (some ⟨bb, off, none⟩) 20 cap) 20 cs from fun W hW => (hca W hW).cut (by omega))
    clear hca hr
    go_wp2_with fail
    refine (cur_pick B cb (N + 400) 4 _ HC2.out (by omega) (by omega)).mono ?_
    rintro e w3 ⟨⟨x3, hx3, rfl⟩, hc3, ho3⟩
    have HL3 := hide (fun W (hW : But cb w3 W) => HL2.out W (ho3.trans hW))
    have HC3 := hide hc3
    have HR3 := hide (ho3.blk HR2.out (by omega))
    have HB3 := hide (HB2.out.trans ho3)
    clear hc3 ho3 HL2 HC2 HR2 HB2
    go_wp2_with fail
    refine (cur_pick B cb (N + 401) 30 _ HC3.out (by omega) (by omega)).mono ?_
    rintro e w4 ⟨⟨x4, hx4, rfl⟩, hc4, ho4⟩
    have HL4 := hide (HL3.out _ ho4)
    have HC4 := hide hc4
    have HR4 := hide (ho4.blk HR3.out (by omega))
    have HB4 := hide (HB3.out.trans ho4)
    clear hc4 ho4 HL3 HC3 HR3 HB3
    go_wp2_with fail
    refine (spec_play_any _ _ _ 20 cs _ HL4.out (by omega)).mono ?_
    rintro e w5 ⟨⟨r, R, ok, rfl, hok⟩, hb⟩
    have hal := (Below.refl w5.heap.size w5).alloc (Nat.le_refl _) (.cells #[.int .i64 r.l, .int .i64 r.c, .int .i64 r.s, .int .i64 r.k, .int .i64 r.o] 37)
    have hlg : w.heap.size < w5.heap.size := (HR4.out.down hb).lt
    have hD6 : BD w (w5.alloc (.cells #[.int .i64 r.l, .int .i64 r.c, .int .i64 r.s, .int .i64 r.k, .int .i64 r.o] 37)) B cb (N + 402) w5.heap.size r :=
      ⟨(HC4.out.below hb).below hal, (HR4.out.down hb).alloc _, new5 w5 _ _ _ _ _ _, (HB4.out.trans (But.of_below hb)).trans (But.of_below hal), hlc, hlg⟩
    clear hb HL4 HC4 HR4 HB4 hal hx3 hx4 hlg
    obtain ⟨w6, hw6⟩ : ∃ w6, w5.alloc (.cells #[.int .i64 r.l, .int .i64 r.c, .int .i64 r.s, .int .i64 r.k, .int .i64 r.o] 37) = w6 := ⟨_, rfl⟩
    obtain ⟨g, hg⟩ : ∃ g, w5.heap.size = g := ⟨_, rfl⟩
    rw [hw6, hg] at hD6
    have HW6 := hide hw6
    have HG6 := hide hg
    clear hw6 hg
    cases ok with
    | true =>
      obtain ⟨ho0, ho1, hk0, hk1⟩ := (hok rfl).opened
      clear hok
      by_cases hs : r.s = 1
      · have hs1 : (r.s == 1) = true := by simp [hs]
        have HD7 := hide hD6
        clear hD6 hs
        go_wp2_with fail
        rw [HW6.out, HG6.out]
        refine (cur_one B cb (N + 402) 6 _ HD7.out.c (by omega) (by omega)).mono ?_
        rintro e w8 ⟨⟨b8, rfl⟩, hc8, ho8⟩
        have hD8 := HD7.out.draw hc8 ho8
        clear hc8 ho8 HD7 hs1 HW6 HG6
        cases b8 with
        | false =>
          have HD := hide hD8
          clear hD8
          go_wp2_with fail
          refine (cur_one B cb (N + 402 + 1) 30 _ HD.out.c (by omega) (by omega)).mono ?_
          rintro e w9 ⟨⟨b9, rfl⟩, hc9, ho9⟩
          have hD9 := HD.out.draw hc9 ho9
          clear hc9 ho9 HD
          have n1 := hD9.g
          have n2 : w.heap.size ≠ g := by omega
          have n3 : g ≠ w.heap.size := by omega
          obtain ⟨⟨e0, e1, e2, e3, e4⟩, f0, f1, f2, f3, f4⟩ := hD9.r.five
          obtain ⟨⟨d0, d1, d2, d3, d4⟩, t0, t1, t2, t3, t4⟩ := hD9.p.five
          cases b9 with
          | false =>
            clear t0 t1 t2 t3 t4
            obtain ⟨WZ, hWZ⟩ : ∃ WZ, (((((w9.setCell ⟨w.heap.size, 0, none⟩ (.int .i64 r.l)).setCell ⟨w.heap.size, 1, none⟩ (.int .i64 r.c)).setCell ⟨w.heap.size, 2, none⟩ (.int .i64 r.s)).setCell ⟨w.heap.size, 3, none⟩ (.int .i64 r.k)).setCell ⟨w.heap.size, 4, none⟩ (.int .i64 r.o)) = WZ := ⟨_, rfl⟩
            have HZ := hide (show Blk WZ w.heap.size 5 (q5 (.int .i64 r.l) (.int .i64 r.c) (.int .i64 r.s) (.int .i64 r.k) (.int .i64 r.o)) 37 ∧ CurAt WZ B cb (N + 402 + 1 + 1) ∧ But cb w WZ by
              rw [← hWZ]
              have h1 := hD9.l
              have h3 := hD9.c.base
              exact ⟨(((((hD9.r.five0 _).five1 _).five2 _).five3 _).five4 _), ((((hD9.c.set (by omega) (by omega) _ _).set (by omega) (by omega) _ _).set (by omega) (by omega) _ _).set (by omega) (by omega) _ _).set (by omega) (by omega) _ _, ((((hD9.b.set (Nat.le_refl _) _ _).set (Nat.le_refl _) _ _).set (Nat.le_refl _) _ _).set (Nat.le_refl _) _ _).set (Nat.le_refl _) _ _⟩)
            have HWZ := hide hWZ
            clear hWZ hD9
            go_wp2
            rw [HWZ.out]
            clear e0 e1 e2 e3 e4 f0 f1 f2 f3 f4 d0 d1 d2 d3 d4
            obtain ⟨⟨e0, e1, e2, e3, e4⟩, -⟩ := HZ.out.1.five
            exact bodyPost_ret (v := .agg #[.int .i64 r.l, .int .i64 r.c, .int .i64 r.s, .int .i64 r.k, .int .i64 r.o]) (by simp [results, Try.results63, go_sem, e0, e1, e2, e3, e4]) rfl ⟨⟨⟨r.l, r.c, r.s, r.k, r.o⟩, rfl, ho0, ho1⟩, HZ.out.2.1.more (by omega), HZ.out.2.2⟩
          | true =>
            have hDs : BD w _ B cb (N + 402 + 1 + 1) g ⟨r.l, r.c, r.s, (r.k + 1), r.o⟩ := hD9.set3 (r.k + 1)
            clear t0 t1 t2 t4
            obtain ⟨WZ, hWZ⟩ : ∃ WZ, ((((((w9.setCell ⟨g, 3, none⟩ (.int .i64 (r.k + 1))).setCell ⟨w.heap.size, 0, none⟩ (.int .i64 r.l)).setCell ⟨w.heap.size, 1, none⟩ (.int .i64 r.c)).setCell ⟨w.heap.size, 2, none⟩ (.int .i64 r.s)).setCell ⟨w.heap.size, 3, none⟩ (.int .i64 (r.k + 1))).setCell ⟨w.heap.size, 4, none⟩ (.int .i64 r.o)) = WZ := ⟨_, rfl⟩
            have HZ := hide (show Blk WZ w.heap.size 5 (q5 (.int .i64 r.l) (.int .i64 r.c) (.int .i64 r.s) (.int .i64 (r.k + 1)) (.int .i64 r.o)) 37 ∧ CurAt WZ B cb (N + 402 + 1 + 1) ∧ But cb w WZ by
              rw [← hWZ]
              have h1 := hDs.l
              have h3 := hDs.c.base
              exact ⟨(((((hDs.r.five0 _).five1 _).five2 _).five3 _).five4 _), ((((hDs.c.set (by omega) (by omega) _ _).set (by omega) (by omega) _ _).set (by omega) (by omega) _ _).set (by omega) (by omega) _ _).set (by omega) (by omega) _ _, ((((hDs.b.set (Nat.le_refl _) _ _).set (Nat.le_refl _) _ _).set (Nat.le_refl _) _ _).set (Nat.le_refl _) _ _).set (Nat.le_refl _) _ _⟩)
            have HWZ := hide hWZ
            clear hWZ hDs hD9
            go_wp2
            rw [HWZ.out]
            clear e0 e1 e2 e3 e4 f0 f1 f2 f3 f4 d0 d1 d2 d3 d4
            obtain ⟨⟨e0, e1, e2, e3, e4⟩, -⟩ := HZ.out.1.five
            exact bodyPost_ret (v := .agg #[.int .i64 r.l, .int .i64 r.c, .int .i64 r.s, .int .i64 (r.k + 1), .int .i64 r.o]) (by simp [results, Try.results63, go_sem, e0, e1, e2, e3, e4]) rfl ⟨⟨⟨r.l, r.c, r.s, (r.k + 1), r.o⟩, rfl, ho0, ho1⟩, HZ.out.2.1.more (by omega), HZ.out.2.2⟩
        | true =>
          obtain ⟨⟨d0, d1, d2, d3, d4⟩, t0, t1, t2, t3, t4⟩ := hD8.p.five
          have hDh : BD w _ B cb (N + 402 + 1) g ⟨r.l, r.c, 2, r.k, r.o⟩ := hD8.set2 2
          clear hD8 d0 d1 d3 d4 t0 t1 t3 t4
          have HD := hide hDh
          clear hDh
          go_wp2_with fail
          refine (cur_one B cb (N + 402 + 1) 30 _ HD.out.c (by omega) (by omega)).mono ?_
          rintro e w9 ⟨⟨b9, rfl⟩, hc9, ho9⟩
          have hD9 := HD.out.draw hc9 ho9
          clear hc9 ho9 HD d2 t2
          have n1 := hD9.g
          have n2 : w.heap.size ≠ g := by omega
          have n3 : g ≠ w.heap.size := by omega
          obtain ⟨⟨e0, e1, e2, e3, e4⟩, f0, f1, f2, f3, f4⟩ := hD9.r.five
          obtain ⟨⟨d0, d1, d2, d3, d4⟩, t0, t1, t2, t3, t4⟩ := hD9.p.five
          cases b9 with
          | false =>
            clear t0 t1 t2 t3 t4
            obtain ⟨WZ, hWZ⟩ : ∃ WZ, (((((w9.setCell ⟨w.heap.size, 0, none⟩ (.int .i64 r.l)).setCell ⟨w.heap.size, 1, none⟩ (.int .i64 r.c)).setCell ⟨w.heap.size, 2, none⟩ (.int .i64 2)).setCell ⟨w.heap.size, 3, none⟩ (.int .i64 r.k)).setCell ⟨w.heap.size, 4, none⟩ (.int .i64 r.o)) = WZ := ⟨_, rfl⟩
            have HZ := hide (show Blk WZ w.heap.size 5 (q5 (.int .i64 r.l) (.int .i64 r.c) (.int .i64 2) (.int .i64 r.k) (.int .i64 r.o)) 37 ∧ CurAt WZ B cb (N + 402 + 1 + 1) ∧ But cb w WZ by
              rw [← hWZ]
              have h1 := hD9.l
              have h3 := hD9.c.base
              exact ⟨(((((hD9.r.five0 _).five1 _).five2 _).five3 _).five4 _), ((((hD9.c.set (by omega) (by omega) _ _).set (by omega) (by omega) _ _).set (by omega) (by omega) _ _).set (by omega) (by omega) _ _).set (by omega) (by omega) _ _, ((((hD9.b.set (Nat.le_refl _) _ _).set (Nat.le_refl _) _ _).set (Nat.le_refl _) _ _).set (Nat.le_refl _) _ _).set (Nat.le_refl _) _ _⟩)
            have HWZ := hide hWZ
            clear hWZ hD9
            go_wp2
            rw [HWZ.out]
            clear e0 e1 e2 e3 e4 f0 f1 f2 f3 f4 d0 d1 d2 d3 d4
            obtain ⟨⟨e0, e1, e2, e3, e4⟩, -⟩ := HZ.out.1.five
            exact bodyPost_ret (v := .agg #[.int .i64 r.l, .int .i64 r.c, .int .i64 2, .int .i64 r.k, .int .i64 r.o]) (by simp [results, Try.results63, go_sem, e0, e1, e2, e3, e4]) rfl ⟨⟨⟨r.l, r.c, 2, r.k, r.o⟩, rfl, ho0, ho1⟩, HZ.out.2.1.more (by omega), HZ.out.2.2⟩
          | true =>
            have hDs : BD w _ B cb (N + 402 + 1 + 1) g ⟨r.l, r.c, 2, (r.k + 1), r.o⟩ := hD9.set3 (r.k + 1)
            clear t0 t1 t2 t4
            obtain ⟨WZ, hWZ⟩ : ∃ WZ, ((((((w9.setCell ⟨g, 3, none⟩ (.int .i64 (r.k + 1))).setCell ⟨w.heap.size, 0, none⟩ (.int .i64 r.l)).setCell ⟨w.heap.size, 1, none⟩ (.int .i64 r.c)).setCell ⟨w.heap.size, 2, none⟩ (.int .i64 2)).setCell ⟨w.heap.size, 3, none⟩ (.int .i64 (r.k + 1))).setCell ⟨w.heap.size, 4, none⟩ (.int .i64 r.o)) = WZ := ⟨_, rfl⟩
            have HZ := hide (show Blk WZ w.heap.size 5 (q5 (.int .i64 r.l) (.int .i64 r.c) (.int .i64 2) (.int .i64 (r.k + 1)) (.int .i64 r.o)) 37 ∧ CurAt WZ B cb (N + 402 + 1 + 1) ∧ But cb w WZ by
              rw [← hWZ]
              have h1 := hDs.l
              have h3 := hDs.c.base
              exact ⟨(((((hDs.r.five0 _).five1 _).five2 _).five3 _).five4 _), ((((hDs.c.set (by omega) (by omega) _ _).set (by omega) (by omega) _ _).set (by omega) (by omega) _ _).set (by omega) (by omega) _ _).set (by omega) (by omega) _ _, ((((hDs.b.set (Nat.le_refl _) _ _).set (Nat.le_refl _) _ _).set (Nat.le_refl _) _ _).set (Nat.le_refl _) _ _).set (Nat.le_refl _) _ _⟩)
            have HWZ := hide hWZ
            clear hWZ hDs hD9
            go_wp2
            rw [HWZ.out]
            clear e0 e1 e2 e3 e4 f0 f1 f2 f3 f4 d0 d1 d2 d3 d4
            obtain ⟨⟨e0, e1, e2, e3, e4⟩, -⟩ := HZ.out.1.five
            exact bodyPost_ret (v := .agg #[.int .i64 r.l, .int .i64 r.c, .int .i64 2, .int .i64 (r.k + 1), .int .i64 r.o]) (by simp [results, Try.results63, go_sem, e0, e1, e2, e3, e4]) rfl ⟨⟨⟨r.l, r.c, 2, (r.k + 1), r.o⟩, rfl, ho0, ho1⟩, HZ.out.2.1.more (by omega), HZ.out.2.2⟩
      · have hs1 : (r.s == 1) = false := by simp [hs]
        clear hs
        have HD := hide hD6
        clear hD6
        go_wp2_with fail
        rw [HW6.out, HG6.out]
        refine (cur_one B cb (N + 402) 30 _ HD.out.c (by omega) (by omega)).mono ?_
        rintro e w9 ⟨⟨b9, rfl⟩, hc9, ho9⟩
        have hD9 := HD.out.draw hc9 ho9
        clear hc9 ho9 HD hs1 HW6 HG6
        have n1 := hD9.g
        have n2 : w.heap.size ≠ g := by omega
        have n3 : g ≠ w.heap.size := by omega
        obtain ⟨⟨e0, e1, e2, e3, e4⟩, f0, f1, f2, f3, f4⟩ := hD9.r.five
        obtain ⟨⟨d0, d1, d2, d3, d4⟩, t0, t1, t2, t3, t4⟩ := hD9.p.five
        cases b9 with
        | false =>
          clear t0 t1 t2 t3 t4
          obtain ⟨WZ, hWZ⟩ : ∃ WZ, (((((w9.setCell ⟨w.heap.size, 0, none⟩ (.int .i64 r.l)).setCell ⟨w.heap.size, 1, none⟩ (.int .i64 r.c)).setCell ⟨w.heap.size, 2, none⟩ (.int .i64 r.s)).setCell ⟨w.heap.size, 3, none⟩ (.int .i64 r.k)).setCell ⟨w.heap.size, 4, none⟩ (.int .i64 r.o)) = WZ := ⟨_, rfl⟩
          have HZ := hide (show Blk WZ w.heap.size 5 (q5 (.int .i64 r.l) (.int .i64 r.c) (.int .i64 r.s) (.int .i64 r.k) (.int .i64 r.o)) 37 ∧ CurAt WZ B cb (N + 402 + 1) ∧ But cb w WZ by
            rw [← hWZ]
            have h1 := hD9.l
            have h3 := hD9.c.base
            exact ⟨(((((hD9.r.five0 _).five1 _).five2 _).five3 _).five4 _), ((((hD9.c.set (by omega) (by omega) _ _).set (by omega) (by omega) _ _).set (by omega) (by omega) _ _).set (by omega) (by omega) _ _).set (by omega) (by omega) _ _, ((((hD9.b.set (Nat.le_refl _) _ _).set (Nat.le_refl _) _ _).set (Nat.le_refl _) _ _).set (Nat.le_refl _) _ _).set (Nat.le_refl _) _ _⟩)
          have HWZ := hide hWZ
          clear hWZ hD9
          go_wp2
          rw [HWZ.out]
          clear e0 e1 e2 e3 e4 f0 f1 f2 f3 f4 d0 d1 d2 d3 d4
          obtain ⟨⟨e0, e1, e2, e3, e4⟩, -⟩ := HZ.out.1.five
          exact bodyPost_ret (v := .agg #[.int .i64 r.l, .int .i64 r.c, .int .i64 r.s, .int .i64 r.k, .int .i64 r.o]) (by simp [results, Try.results63, go_sem, e0, e1, e2, e3, e4]) rfl ⟨⟨⟨r.l, r.c, r.s, r.k, r.o⟩, rfl, ho0, ho1⟩, HZ.out.2.1.more (by omega), HZ.out.2.2⟩
        | true =>
          have hDs : BD w _ B cb (N + 402 + 1) g ⟨r.l, r.c, r.s, (r.k + 1), r.o⟩ := hD9.set3 (r.k + 1)
          clear t0 t1 t2 t4
          obtain ⟨WZ, hWZ⟩ : ∃ WZ, ((((((w9.setCell ⟨g, 3, none⟩ (.int .i64 (r.k + 1))).setCell ⟨w.heap.size, 0, none⟩ (.int .i64 r.l)).setCell ⟨w.heap.size, 1, none⟩ (.int .i64 r.c)).setCell ⟨w.heap.size, 2, none⟩ (.int .i64 r.s)).setCell ⟨w.heap.size, 3, none⟩ (.int .i64 (r.k + 1))).setCell ⟨w.heap.size, 4, none⟩ (.int .i64 r.o)) = WZ := ⟨_, rfl⟩
          have HZ := hide (show Blk WZ w.heap.size 5 (q5 (.int .i64 r.l) (.int .i64 r.c) (.int .i64 r.s) (.int .i64 (r.k + 1)) (.int .i64 r.o)) 37 ∧ CurAt WZ B cb (N + 402 + 1) ∧ But cb w WZ by
            rw [← hWZ]
            have h1 := hDs.l
            have h3 := hDs.c.base
            exact ⟨(((((hDs.r.five0 _).five1 _).five2 _).five3 _).five4 _), ((((hDs.c.set (by omega) (by omega) _ _).set (by omega) (by omega) _ _).set (by omega) (by omega) _ _).set (by omega) (by omega) _ _).set (by omega) (by omega) _ _, ((((hDs.b.set (Nat.le_refl _) _ _).set (Nat.le_refl _) _ _).set (Nat.le_refl _) _ _).set (Nat.le_refl _) _ _).set (Nat.le_refl _) _ _⟩)
          have HWZ := hide hWZ
          clear hWZ hDs hD9
          go_wp2
          rw [HWZ.out]
          clear e0 e1 e2 e3 e4 f0 f1 f2 f3 f4 d0 d1 d2 d3 d4
          obtain ⟨⟨e0, e1, e2, e3, e4⟩, -⟩ := HZ.out.1.five
          exact bodyPost_ret (v := .agg #[.int .i64 r.l, .int .i64 r.c, .int .i64 r.s, .int .i64 (r.k + 1), .int .i64 r.o]) (by simp [results, Try.results63, go_sem, e0, e1, e2, e3, e4]) rfl ⟨⟨⟨r.l, r.c, r.s, (r.k + 1), r.o⟩, rfl, ho0, ho1⟩, HZ.out.2.1.more (by omega), HZ.out.2.2⟩
    | false =>
      have ho0 : (0 : Int) ≤ 0 := by omega
      have ho1 : (0 : Int) ≤ 1000000 := by omega
      have HD7 := hide hD6
      clear hD6 hok
      go_wp2_with fail
      rw [HW6.out, HG6.out]
      refine (spec_new 2 5 true ⟨2, 5, 0, 0, 0⟩ _ (by decide) rfl).mono ?_
      rintro e w7 ⟨rfl, hb⟩
      have hD7 := HD7.out.down hb
      clear hb HD7 HW6 HG6
      obtain ⟨⟨d0, d1, d2, d3, d4⟩, t0, t1, t2, t3, t4⟩ := hD7.p.five
      have hD8 : BD w _ B cb (N + 402) g ⟨2, 5, 0, 0, 0⟩ := ((((hD7.set0 2).set1 5).set2 0).set3 0).set4 0
      clear hD7
      have HD := hide hD8
      clear hD8
      go_wp2_with fail
      refine (cur_one B cb (N + 402) 30 _ HD.out.c (by omega) (by omega)).mono ?_
      rintro e w9 ⟨⟨b9, rfl⟩, hc9, ho9⟩
      have hD9 := HD.out.draw hc9 ho9
      clear hc9 ho9 HD d0 d1 d2 d3 d4 t0 t1 t2 t3 t4
      have n1 := hD9.g
      have n2 : w.heap.size ≠ g := by omega
      have n3 : g ≠ w.heap.size := by omega
      obtain ⟨⟨e0, e1, e2, e3, e4⟩, f0, f1, f2, f3, f4⟩ := hD9.r.five
      obtain ⟨⟨d0, d1, d2, d3, d4⟩, t0, t1, t2, t3, t4⟩ := hD9.p.five
      cases b9 with
      | false =>
        clear t0 t1 t2 t3 t4
        obtain ⟨WZ, hWZ⟩ : ∃ WZ, (((((w9.setCell ⟨w.heap.size, 0, none⟩ (.int .i64 2)).setCell ⟨w.heap.size, 1, none⟩ (.int .i64 5)).setCell ⟨w.heap.size, 2, none⟩ (.int .i64 0)).setCell ⟨w.heap.size, 3, none⟩ (.int .i64 0)).setCell ⟨w.heap.size, 4, none⟩ (.int .i64 0)) = WZ := ⟨_, rfl⟩
        have HZ := hide (show Blk WZ w.heap.size 5 (q5 (.int .i64 2) (.int .i64 5) (.int .i64 0) (.int .i64 0) (.int .i64 0)) 37 ∧ CurAt WZ B cb (N + 402 + 1) ∧ But cb w WZ by
          rw [← hWZ]
          have h1 := hD9.l
          have h3 := hD9.c.base
          exact ⟨(((((hD9.r.five0 _).five1 _).five2 _).five3 _).five4 _), ((((hD9.c.set (by omega) (by omega) _ _).set (by omega) (by omega) _ _).set (by omega) (by omega) _ _).set (by omega) (by omega) _ _).set (by omega) (by omega) _ _, ((((hD9.b.set (Nat.le_refl _) _ _).set (Nat.le_refl _) _ _).set (Nat.le_refl _) _ _).set (Nat.le_refl _) _ _).set (Nat.le_refl _) _ _⟩)
        have HWZ := hide hWZ
        clear hWZ hD9
        go_wp2
        rw [HWZ.out]
        clear e0 e1 e2 e3 e4 f0 f1 f2 f3 f4 d0 d1 d2 d3 d4
        obtain ⟨⟨e0, e1, e2, e3, e4⟩, -⟩ := HZ.out.1.five
        exact bodyPost_ret (v := .agg #[.int .i64 2, .int .i64 5, .int .i64 0, .int .i64 0, .int .i64 0]) (by simp [results, Try.results63, go_sem, e0, e1, e2, e3, e4]) rfl ⟨⟨⟨2, 5, 0, 0, 0⟩, rfl, ho0, ho1⟩, HZ.out.2.1.more (by omega), HZ.out.2.2⟩
      | true =>
        have hDs : BD w _ B cb (N + 402 + 1) g ⟨2, 5, 0, 1, 0⟩ := hD9.set3 1
        clear t0 t1 t2 t4
        obtain ⟨WZ, hWZ⟩ : ∃ WZ, ((((((w9.setCell ⟨g, 3, none⟩ (.int .i64 1)).setCell ⟨w.heap.size, 0, none⟩ (.int .i64 2)).setCell ⟨w.heap.size, 1, none⟩ (.int .i64 5)).setCell ⟨w.heap.size, 2, none⟩ (.int .i64 0)).setCell ⟨w.heap.size, 3, none⟩ (.int .i64 1)).setCell ⟨w.heap.size, 4, none⟩ (.int .i64 0)) = WZ := ⟨_, rfl⟩
        have HZ := hide (show Blk WZ w.heap.size 5 (q5 (.int .i64 2) (.int .i64 5) (.int .i64 0) (.int .i64 1) (.int .i64 0)) 37 ∧ CurAt WZ B cb (N + 402 + 1) ∧ But cb w WZ by
          rw [← hWZ]
          have h1 := hDs.l
          have h3 := hDs.c.base
          exact ⟨(((((hDs.r.five0 _).five1 _).five2 _).five3 _).five4 _), ((((hDs.c.set (by omega) (by omega) _ _).set (by omega) (by omega) _ _).set (by omega) (by omega) _ _).set (by omega) (by omega) _ _).set (by omega) (by omega) _ _, ((((hDs.b.set (Nat.le_refl _) _ _).set (Nat.le_refl _) _ _).set (Nat.le_refl _) _ _).set (Nat.le_refl _) _ _).set (Nat.le_refl _) _ _⟩)
        have HWZ := hide hWZ
        clear hWZ hDs hD9
        go_wp2
        rw [HWZ.out]
        clear e0 e1 e2 e3 e4 f0 f1 f2 f3 f4 d0 d1 d2 d3 d4
        obtain ⟨⟨e0, e1, e2, e3, e4⟩, -⟩ := HZ.out.1.five
        exact bodyPost_ret (v := .agg #[.int .i64 2, .int .i64 5, .int .i64 0, .int .i64 1, .int .i64 0]) (by simp [results, Try.results63, go_sem, e0, e1, e2, e3, e4]) rfl ⟨⟨⟨2, 5, 0, 1, 0⟩, rfl, ho0, ho1⟩, HZ.out.2.1.more (by omega), HZ.out.2.2⟩
  · have h120' : ¬ (120 : Int) < (n : Int) := by omega
    have HL2 := hide hca
    clear hca
    go_wp2_with fail
    refine (cur_pick B cb (N + 400) 4 _ HC2.out (by omega) (by omega)).mono ?_
    rintro e w3 ⟨⟨x3, hx3, rfl⟩, hc3, ho3⟩
    have HL3 := hide (fun W (hW : But cb w3 W) => HL2.out W (ho3.trans hW))
    have HC3 := hide hc3
    have HR3 := hide (ho3.blk HR2.out (by omega))
    have HB3 := hide (HB2.out.trans ho3)
    clear hc3 ho3 HL2 HC2 HR2 HB2
    go_wp2_with fail
    refine (cur_pick B cb (N + 401) 30 _ HC3.out (by omega) (by omega)).mono ?_
    rintro e w4 ⟨⟨x4, hx4, rfl⟩, hc4, ho4⟩
    have HL4 := hide (HL3.out _ ho4)
    have HC4 := hide hc4
    have HR4 := hide (ho4.blk HR3.out (by omega))
    have HB4 := hide (HB3.out.trans ho4)
    clear hc4 ho4 HL3 HC3 HR3 HB3
    go_wp2_with fail
    refine (spec_play_any _ _ _ n cs _ HL4.out (by omega)).mono ?_
    rintro e w5 ⟨⟨r, R, ok, rfl, hok⟩, hb⟩
    have hal := (Below.refl w5.heap.size w5).alloc (Nat.le_refl _) (.cells #[.int .i64 r.l, .int .i64 r.c, .int .i64 r.s, .int .i64 r.k, .int .i64 r.o] 37)
    have hlg : w.heap.size < w5.heap.size := (HR4.out.down hb).lt
    have hD6 : BD w (w5.alloc (.cells #[.int .i64 r.l, .int .i64 r.c, .int .i64 r.s, .int .i64 r.k, .int .i64 r.o] 37)) B cb (N + 402) w5.heap.size r :=
      ⟨(HC4.out.below hb).below hal, (HR4.out.down hb).alloc _, new5 w5 _ _ _ _ _ _, (HB4.out.trans (But.of_below hb)).trans (But.of_below hal), hlc, hlg⟩
    clear hb HL4 HC4 HR4 HB4 hal hx3 hx4 hlg
    obtain ⟨w6, hw6⟩ : ∃ w6, w5.alloc (.cells #[.int .i64 r.l, .int .i64 r.c, .int .i64 r.s, .int .i64 r.k, .int .i64 r.o] 37) = w6 := ⟨_, rfl⟩
    obtain ⟨g, hg⟩ : ∃ g, w5.heap.size = g := ⟨_, rfl⟩
    rw [hw6, hg] at hD6
    have HW6 := hide hw6
    have HG6 := hide hg
    clear hw6 hg
    cases ok with
    | true =>
      obtain ⟨ho0, ho1, hk0, hk1⟩ := (hok rfl).opened
      clear hok
      by_cases hs : r.s = 1
      · have hs1 : (r.s == 1) = true := by simp [hs]
        have HD7 := hide hD6
        clear hD6 hs
        go_wp2_with fail
        rw [HW6.out, HG6.out]
        refine (cur_one B cb (N + 402) 6 _ HD7.out.c (by omega) (by omega)).mono ?_
        rintro e w8 ⟨⟨b8, rfl⟩, hc8, ho8⟩
        have hD8 := HD7.out.draw hc8 ho8
        clear hc8 ho8 HD7 hs1 HW6 HG6
        cases b8 with
        | false =>
          have HD := hide hD8
          clear hD8
          go_wp2_with fail
          refine (cur_one B cb (N + 402 + 1) 30 _ HD.out.c (by omega) (by omega)).mono ?_
          rintro e w9 ⟨⟨b9, rfl⟩, hc9, ho9⟩
          have hD9 := HD.out.draw hc9 ho9
          clear hc9 ho9 HD
          have n1 := hD9.g
          have n2 : w.heap.size ≠ g := by omega
          have n3 : g ≠ w.heap.size := by omega
          obtain ⟨⟨e0, e1, e2, e3, e4⟩, f0, f1, f2, f3, f4⟩ := hD9.r.five
          obtain ⟨⟨d0, d1, d2, d3, d4⟩, t0, t1, t2, t3, t4⟩ := hD9.p.five
          cases b9 with
          | false =>
            clear t0 t1 t2 t3 t4
            obtain ⟨WZ, hWZ⟩ : ∃ WZ, (((((w9.setCell ⟨w.heap.size, 0, none⟩ (.int .i64 r.l)).setCell ⟨w.heap.size, 1, none⟩ (.int .i64 r.c)).setCell ⟨w.heap.size, 2, none⟩ (.int .i64 r.s)).setCell ⟨w.heap.size, 3, none⟩ (.int .i64 r.k)).setCell ⟨w.heap.size, 4, none⟩ (.int .i64 r.o)) = WZ := ⟨_, rfl⟩
            have HZ := hide (show Blk WZ w.heap.size 5 (q5 (.int .i64 r.l) (.int .i64 r.c) (.int .i64 r.s) (.int .i64 r.k) (.int .i64 r.o)) 37 ∧ CurAt WZ B cb (N + 402 + 1 + 1) ∧ But cb w WZ by
              rw [← hWZ]
              have h1 := hD9.l
              have h3 := hD9.c.base
              exact ⟨(((((hD9.r.five0 _).five1 _).five2 _).five3 _).five4 _), ((((hD9.c.set (by omega) (by omega) _ _).set (by omega) (by omega) _ _).set (by omega) (by omega) _ _).set (by omega) (by omega) _ _).set (by omega) (by omega) _ _, ((((hD9.b.set (Nat.le_refl _) _ _).set (Nat.le_refl _) _ _).set (Nat.le_refl _) _ _).set (Nat.le_refl _) _ _).set (Nat.le_refl _) _ _⟩)
            have HWZ := hide hWZ
            clear hWZ hD9
            go_wp2
            rw [HWZ.out]
            clear e0 e1 e2 e3 e4 f0 f1 f2 f3 f4 d0 d1 d2 d3 d4
            obtain ⟨⟨e0, e1, e2, e3, e4⟩, -⟩ := HZ.out.1.five
            exact bodyPost_ret (v := .agg #[.int .i64 r.l, .int .i64 r.c, .int .i64 r.s, .int .i64 r.k, .int .i64 r.o]) (by simp [results, Try.results63, go_sem, e0, e1, e2, e3, e4]) rfl ⟨⟨⟨r.l, r.c, r.s, r.k, r.o⟩, rfl, ho0, ho1⟩, HZ.out.2.1.more (by omega), HZ.out.2.2⟩
          | true =>
            have hDs : BD w _ B cb (N + 402 + 1 + 1) g ⟨r.l, r.c, r.s, (r.k + 1), r.o⟩ := hD9.set3 (r.k + 1)
            clear t0 t1 t2 t4
            obtain ⟨WZ, hWZ⟩ : ∃ WZ, ((((((w9.setCell ⟨g, 3, none⟩ (.int .i64 (r.k + 1))).setCell ⟨w.heap.size, 0, none⟩ (.int .i64 r.l)).setCell ⟨w.heap.size, 1, none⟩ (.int .i64 r.c)).setCell ⟨w.heap.size, 2, none⟩ (.int .i64 r.s)).setCell ⟨w.heap.size, 3, none⟩ (.int .i64 (r.k + 1))).setCell ⟨w.heap.size, 4, none⟩ (.int .i64 r.o)) = WZ := ⟨_, rfl⟩
            have HZ := hide (show Blk WZ w.heap.size 5 (q5 (.int .i64 r.l) (.int .i64 r.c) (.int .i64 r.s) (.int .i64 (r.k + 1)) (.int .i64 r.o)) 37 ∧ CurAt WZ B cb (N + 402 + 1 + 1) ∧ But cb w WZ by
              rw [← hWZ]
              have h1 := hDs.l
              have h3 := hDs.c.base
              exact ⟨(((((hDs.r.five0 _).five1 _).five2 _).five3 _).five4 _), ((((hDs.c.set (by omega) (by omega) _ _).set (by omega) (by omega) _ _).set (by omega) (by omega) _ _).set (by omega) (by omega) _ _).set (by omega) (by omega) _ _, ((((hDs.b.set (Nat.le_refl _) _ _).set (Nat.le_refl _) _ _).set (Nat.le_refl _) _ _).set (Nat.le_refl _) _ _).set (Nat.le_refl _) _ _⟩)
            have HWZ := hide hWZ
            clear hWZ hDs hD9
            go_wp2
            rw [HWZ.out]
            clear e0 e1 e2 e3 e4 f0 f1 f2 f3 f4 d0 d1 d2 d3 d4
            obtain ⟨⟨e0, e1, e2, e3, e4⟩, -⟩ := HZ.out.1.five
            exact bodyPost_ret (v := .agg #[.int .i64 r.l, .int .i64 r.c, .int .i64 r.s, .int .i64 (r.k + 1), .int .i64 r.o]) (by simp [results, Try.results63, go_sem, e0, e1, e2, e3, e4]) rfl ⟨⟨⟨r.l, r.c, r.s, (r.k + 1), r.o⟩, rfl, ho0, ho1⟩, HZ.out.2.1.more (by omega), HZ.out.2.2⟩
        | true =>
          obtain ⟨⟨d0, d1, d2, d3, d4⟩, t0, t1, t2, t3, t4⟩ := hD8.p.five
          have hDh : BD w _ B cb (N + 402 + 1) g ⟨r.l, r.c, 2, r.k, r.o⟩ := hD8.set2 2
          clear hD8 d0 d1 d3 d4 t0 t1 t3 t4
          have HD := hide hDh
          clear hDh
          go_wp2_with fail
          refine (cur_one B cb (N + 402 + 1) 30 _ HD.out.c (by omega) (by omega)).mono ?_
          rintro e w9 ⟨⟨b9, rfl⟩, hc9, ho9⟩
          have hD9 := HD.out.draw hc9 ho9
          clear hc9 ho9 HD d2 t2
          have n1 := hD9.g
          have n2 : w.heap.size ≠ g := by omega
          have n3 : g ≠ w.heap.size := by omega
          obtain ⟨⟨e0, e1, e2, e3, e4⟩, f0, f1, f2, f3, f4⟩ := hD9.r.five
          obtain ⟨⟨d0, d1, d2, d3, d4⟩, t0, t1, t2, t3, t4⟩ := hD9.p.five
          cases b9 with
          | false =>
            clear t0 t1 t2 t3 t4
            obtain ⟨WZ, hWZ⟩ : ∃ WZ, (((((w9.setCell ⟨w.heap.size, 0, none⟩ (.int .i64 r.l)).setCell ⟨w.heap.size, 1, none⟩ (.int .i64 r.c)).setCell ⟨w.heap.size, 2, none⟩ (.int .i64 2)).setCell ⟨w.heap.size, 3, none⟩ (.int .i64 r.k)).setCell ⟨w.heap.size, 4, none⟩ (.int .i64 r.o)) = WZ := ⟨_, rfl⟩
            have HZ := hide (show Blk WZ w.heap.size 5 (q5 (.int .i64 r.l) (.int .i64 r.c) (.int .i64 2) (.int .i64 r.k) (.int .i64 r.o)) 37 ∧ CurAt WZ B cb (N + 402 + 1 + 1) ∧ But cb w WZ by
              rw [← hWZ]
              have h1 := hD9.l
              have h3 := hD9.c.base
              exact ⟨(((((hD9.r.five0 _).five1 _).five2 _).five3 _).five4 _), ((((hD9.c.set (by omega) (by omega) _ _).set (by omega) (by omega) _ _).set (by omega) (by omega) _ _).set (by omega) (by omega) _ _).set (by omega) (by omega) _ _, ((((hD9.b.set (Nat.le_refl _) _ _).set (Nat.le_refl _) _ _).set (Nat.le_refl _) _ _).set (Nat.le_refl _) _ _).set (Nat.le_refl _) _ _⟩)
            have HWZ := hide hWZ
            clear hWZ hD9
            go_wp2
            rw [HWZ.out]
            clear e0 e1 e2 e3 e4 f0 f1 f2 f3 f4 d0 d1 d2 d3 d4
            obtain ⟨⟨e0, e1, e2, e3, e4⟩, -⟩ := HZ.out.1.five
            exact bodyPost_ret (v := .agg #[.int .i64 r.l, .int .i64 r.c, .int .i64 2, .int .i64 r.k, .int .i64 r.o]) (by simp [results, Try.results63, go_sem, e0, e1, e2, e3, e4]) rfl ⟨⟨⟨r.l, r.c, 2, r.k, r.o⟩, rfl, ho0, ho1⟩, HZ.out.2.1.more (by omega), HZ.out.2.2⟩
          | true =>
            have hDs : BD w _ B cb (N + 402 + 1 + 1) g ⟨r.l, r.c, 2, (r.k + 1), r.o⟩ := hD9.set3 (r.k + 1)
            clear t0 t1 t2 t4
            obtain ⟨WZ, hWZ⟩ : ∃ WZ, ((((((w9.setCell ⟨g, 3, none⟩ (.int .i64 (r.k + 1))).setCell ⟨w.heap.size, 0, none⟩ (.int .i64 r.l)).setCell ⟨w.heap.size, 1, none⟩ (.int .i64 r.c)).setCell ⟨w.heap.size, 2, none⟩ (.int .i64 2)).setCell ⟨w.heap.size, 3, none⟩ (.int .i64 (r.k + 1))).setCell ⟨w.heap.size, 4, none⟩ (.int .i64 r.o)) = WZ := ⟨_, rfl⟩
            have HZ := hide (show Blk WZ w.heap.size 5 (q5 (.int .i64 r.l) (.int .i64 r.c) (.int .i64 2) (.int .i64 (r.k + 1)) (.int .i64 r.o)) 37 ∧ CurAt WZ B cb (N + 402 + 1 + 1) ∧ But cb w WZ by
              rw [← hWZ]
              have h1 := hDs.l
              have h3 := hDs.c.base
              exact ⟨(((((hDs.r.five0 _).five1 _).five2 _).five3 _).five4 _), ((((hDs.c.set (by omega) (by omega) _ _).set (by omega) (by omega) _ _).set (by omega) (by omega) _ _).set (by omega) (by omega) _ _).set (by omega) (by omega) _ _, ((((hDs.b.set (Nat.le_refl _) _ _).set (Nat.le_refl _) _ _).set (Nat.le_refl _) _ _).set (Nat.le_refl _) _ _).set (Nat.le_refl _) _ _⟩)
            have HWZ := hide hWZ
            clear hWZ hDs hD9
            go_wp2
            rw [HWZ.out]
            clear e0 e1 e2 e3 e4 f0 f1 f2 f3 f4 d0 d1 d2 d3 d4
            obtain ⟨⟨e0, e1, e2, e3, e4⟩, -⟩ := HZ.out.1.five
            exact bodyPost_ret (v := .agg #[.int .i64 r.l, .int .i64 r.c, .int .i64 2, .int .i64 (r.k + 1), .int .i64 r.o]) (by simp [results, Try.results63, go_sem, e0, e1, e2, e3, e4]) rfl ⟨⟨⟨r.l, r.c, 2, (r.k + 1), r.o⟩, rfl, ho0, ho1⟩, HZ.out.2.1.more (by omega), HZ.out.2.2⟩
      · have hs1 : (r.s == 1) = false := by simp [hs]
        clear hs
        have HD := hide hD6
        clear hD6
        go_wp2_with fail
        rw [HW6.out, HG6.out]
        refine (cur_one B cb (N + 402) 30 _ HD.out.c (by omega) (by omega)).mono ?_
        rintro e w9 ⟨⟨b9, rfl⟩, hc9, ho9⟩
        have hD9 := HD.out.draw hc9 ho9
        clear hc9 ho9 HD hs1 HW6 HG6
        have n1 := hD9.g
        have n2 : w.heap.size ≠ g := by omega
        have n3 : g ≠ w.heap.size := by omega
        obtain ⟨⟨e0, e1, e2, e3, e4⟩, f0, f1, f2, f3, f4⟩ := hD9.r.five
        obtain ⟨⟨d0, d1, d2, d3, d4⟩, t0, t1, t2, t3, t4⟩ := hD9.p.five
        cases b9 with
        | false =>
          clear t0 t1 t2 t3 t4
          obtain ⟨WZ, hWZ⟩ : ∃ WZ, (((((w9.setCell ⟨w.heap.size, 0, none⟩ (.int .i64 r.l)).setCell ⟨w.heap.size, 1, none⟩ (.int .i64 r.c)).setCell ⟨w.heap.size, 2, none⟩ (.int .i64 r.s)).setCell ⟨w.heap.size, 3, none⟩ (.int .i64 r.k)).setCell ⟨w.heap.size, 4, none⟩ (.int .i64 r.o)) = WZ := ⟨_, rfl⟩
          have HZ := hide (show Blk WZ w.heap.size 5 (q5 (.int .i64 r.l) (.int .i64 r.c) (.int .i64 r.s) (.int .i64 r.k) (.int .i64 r.o)) 37 ∧ CurAt WZ B cb (N + 402 + 1) ∧ But cb w WZ by
            rw [← hWZ]
            have h1 := hD9.l
            have h3 := hD9.c.base
            exact ⟨(((((hD9.r.five0 _).five1 _).five2 _).five3 _).five4 _), ((((hD9.c.set (by omega) (by omega) _ _).set (by omega) (by omega) _ _).set (by omega) (by omega) _ _).set (by omega) (by omega) _ _).set (by omega) (by omega) _ _, ((((hD9.b.set (Nat.le_refl _) _ _).set (Nat.le_refl _) _ _).set (Nat.le_refl _) _ _).set (Nat.le_refl _) _ _).set (Nat.le_refl _) _ _⟩)
          have HWZ := hide hWZ
          clear hWZ hD9
          go_wp2
          rw [HWZ.out]
          clear e0 e1 e2 e3 e4 f0 f1 f2 f3 f4 d0 d1 d2 d3 d4
          obtain ⟨⟨e0, e1, e2, e3, e4⟩, -⟩ := HZ.out.1.five
          exact bodyPost_ret (v := .agg #[.int .i64 r.l, .int .i64 r.c, .int .i64 r.s, .int .i64 r.k, .int .i64 r.o]) (by simp [results, Try.results63, go_sem, e0, e1, e2, e3, e4]) rfl ⟨⟨⟨r.l, r.c, r.s, r.k, r.o⟩, rfl, ho0, ho1⟩, HZ.out.2.1.more (by omega), HZ.out.2.2⟩
        | true =>
          have hDs : BD w _ B cb (N + 402 + 1) g ⟨r.l, r.c, r.s, (r.k + 1), r.o⟩ := hD9.set3 (r.k + 1)
          clear t0 t1 t2 t4
          obtain ⟨WZ, hWZ⟩ : ∃ WZ, ((((((w9.setCell ⟨g, 3, none⟩ (.int .i64 (r.k + 1))).setCell ⟨w.heap.size, 0, none⟩ (.int .i64 r.l)).setCell ⟨w.heap.size, 1, none⟩ (.int .i64 r.c)).setCell ⟨w.heap.size, 2, none⟩ (.int .i64 r.s)).setCell ⟨w.heap.size, 3, none⟩ (.int .i64 (r.k + 1))).setCell ⟨w.heap.size, 4, none⟩ (.int .i64 r.o)) = WZ := ⟨_, rfl⟩
          have HZ := hide (show Blk WZ w.heap.size 5 (q5 (.int .i64 r.l) (.int .i64 r.c) (.int .i64 r.s) (.int .i64 (r.k + 1)) (.int .i64 r.o)) 37 ∧ CurAt WZ B cb (N + 402 + 1) ∧ But cb w WZ by
            rw [← hWZ]
            have h1 := hDs.l
            have h3 := hDs.c.base
            exact ⟨(((((hDs.r.five0 _).five1 _).five2 _).five3 _).five4 _), ((((hDs.c.set (by omega) (by omega) _ _).set (by omega) (by omega) _ _).set (by omega) (by omega) _ _).set (by omega) (by omega) _ _).set (by omega) (by omega) _ _, ((((hDs.b.set (Nat.le_refl _) _ _).set (Nat.le_refl _) _ _).set (Nat.le_refl _) _ _).set (Nat.le_refl _) _ _).set (Nat.le_refl _) _ _⟩)
          have HWZ := hide hWZ
          clear hWZ hDs hD9
          go_wp2
          rw [HWZ.out]
          clear e0 e1 e2 e3 e4 f0 f1 f2 f3 f4 d0 d1 d2 d3 d4
          obtain ⟨⟨e0, e1, e2, e3, e4⟩, -⟩ := HZ.out.1.five
          exact bodyPost_ret (v := .agg #[.int .i64 r.l, .int .i64 r.c, .int .i64 r.s, .int .i64 (r.k + 1), .int .i64 r.o]) (by simp [results, Try.results63, go_sem, e0, e1, e2, e3, e4]) rfl ⟨⟨⟨r.l, r.c, r.s, (r.k + 1), r.o⟩, rfl, ho0, ho1⟩, HZ.out.2.1.more (by omega), HZ.out.2.2⟩
    | false =>
      have ho0 : (0 : Int) ≤ 0 := by omega
      have ho1 : (0 : Int) ≤ 1000000 := by omega
      have HD7 := hide hD6
      clear hD6 hok
      go_wp2_with fail
      rw [HW6.out, HG6.out]
      refine (spec_new 2 5 true ⟨2, 5, 0, 0, 0⟩ _ (by decide) rfl).mono ?_
      rintro e w7 ⟨rfl, hb⟩
      have hD7 := HD7.out.down hb
      clear hb HD7 HW6 HG6
      obtain ⟨⟨d0, d1, d2, d3, d4⟩, t0, t1, t2, t3, t4⟩ := hD7.p.five
      have hD8 : BD w _ B cb (N + 402) g ⟨2, 5, 0, 0, 0⟩ := ((((hD7.set0 2).set1 5).set2 0).set3 0).set4 0
      clear hD7
      have HD := hide hD8
      clear hD8
      go_wp2_with fail
      refine (cur_one B cb (N + 402) 30 _ HD.out.c (by omega) (by omega)).mono ?_
      rintro e w9 ⟨⟨b9, rfl⟩, hc9, ho9⟩
      have hD9 := HD.out.draw hc9 ho9
      clear hc9 ho9 HD d0 d1 d2 d3 d4 t0 t1 t2 t3 t4
      have n1 := hD9.g
      have n2 : w.heap.size ≠ g := by omega
      have n3 : g ≠ w.heap.size := by omega
      obtain ⟨⟨e0, e1, e2, e3, e4⟩, f0, f1, f2, f3, f4⟩ := hD9.r.five
      obtain ⟨⟨d0, d1, d2, d3, d4⟩, t0, t1, t2, t3, t4⟩ := hD9.p.five
      cases b9 with
      | false =>
        clear t0 t1 t2 t3 t4
        obtain ⟨WZ, hWZ⟩ : ∃ WZ, (((((w9.setCell ⟨w.heap.size, 0, none⟩ (.int .i64 2)).setCell ⟨w.heap.size, 1, none⟩ (.int .i64 5)).setCell ⟨w.heap.size, 2, none⟩ (.int .i64 0)).setCell ⟨w.heap.size, 3, none⟩ (.int .i64 0)).setCell ⟨w.heap.size, 4, none⟩ (.int .i64 0)) = WZ := ⟨_, rfl⟩
        have HZ := hide (show Blk WZ w.heap.size 5 (q5 (.int .i64 2) (.int .i64 5) (.int .i64 0) (.int .i64 0) (.int .i64 0)) 37 ∧ CurAt WZ B cb (N + 402 + 1) ∧ But cb w WZ by
          rw [← hWZ]
          have h1 := hD9.l
          have h3 := hD9.c.base
          exact ⟨(((((hD9.r.five0 _).five1 _).five2 _).five3 _).five4 _), ((((hD9.c.set (by omega) (by omega) _ _).set (by omega) (by omega) _ _).set (by omega) (by omega) _ _).set (by omega) (by omega) _ _).set (by omega) (by omega) _ _, ((((hD9.b.set (Nat.le_refl _) _ _).set (Nat.le_refl _) _ _).set (Nat.le_refl _) _ _).set (Nat.le_refl _) _ _).set (Nat.le_refl _) _ _⟩)
        have HWZ := hide hWZ
        clear hWZ hD9
        go_wp2
        rw [HWZ.out]
        clear e0 e1 e2 e3 e4 f0 f1 f2 f3 f4 d0 d1 d2 d3 d4
        obtain ⟨⟨e0, e1, e2, e3, e4⟩, -⟩ := HZ.out.1.five
        exact bodyPost_ret (v := .agg #[.int .i64 2, .int .i64 5, .int .i64 0, .int .i64 0, .int .i64 0]) (by simp [results, Try.results63, go_sem, e0, e1, e2, e3, e4]) rfl ⟨⟨⟨2, 5, 0, 0, 0⟩, rfl, ho0, ho1⟩, HZ.out.2.1.more (by omega), HZ.out.2.2⟩
      | true =>
        have hDs : BD w _ B cb (N + 402 + 1) g ⟨2, 5, 0, 1, 0⟩ := hD9.set3 1
        clear t0 t1 t2 t4
        obtain ⟨WZ, hWZ⟩ : ∃ WZ, ((((((w9.setCell ⟨g, 3, none⟩ (.int .i64 1)).setCell ⟨w.heap.size, 0, none⟩ (.int .i64 2)).setCell ⟨w.heap.size, 1, none⟩ (.int .i64 5)).setCell ⟨w.heap.size, 2, none⟩ (.int .i64 0)).setCell ⟨w.heap.size, 3, none⟩ (.int .i64 1)).setCell ⟨w.heap.size, 4, none⟩ (.int .i64 0)) = WZ := ⟨_, rfl⟩
        have HZ := hide (show Blk WZ w.heap.size 5 (q5 (.int .i64 2) (.int .i64 5) (.int .i64 0) (.int .i64 1) (.int .i64 0)) 37 ∧ CurAt WZ B cb (N + 402 + 1) ∧ But cb w WZ by
          rw [← hWZ]
          have h1 := hDs.l
          have h3 := hDs.c.base
          exact ⟨(((((hDs.r.five0 _).five1 _).five2 _).five3 _).five4 _), ((((hDs.c.set (by omega) (by omega) _ _).set (by omega) (by omega) _ _).set (by omega) (by omega) _ _).set (by omega) (by omega) _ _).set (by omega) (by omega) _ _, ((((hDs.b.set (Nat.le_refl _) _ _).set (Nat.le_refl _) _ _).set (Nat.le_refl _) _ _).set (Nat.le_refl _) _ _).set (Nat.le_refl _) _ _⟩)
        have HWZ := hide hWZ
        clear hWZ hDs hD9
        go_wp2
        rw [HWZ.out]
        clear e0 e1 e2 e3 e4 f0 f1 f2 f3 f4 d0 d1 d2 d3 d4
        obtain ⟨⟨e0, e1, e2, e3, e4⟩, -⟩ := HZ.out.1.five
        exact bodyPost_ret (v := .agg #[.int .i64 2, .int .i64 5, .int .i64 0, .int .i64 1, .int .i64 0]) (by simp [results, Try.results63, go_sem, e0, e1, e2, e3, e4]) rfl ⟨⟨⟨2, 5, 0, 1, 0⟩, rfl, ho0, ho1⟩, HZ.out.2.1.more (by omega), HZ.out.2.2⟩
end Go.Proofs.Ytegbfmdilmbpmaa
