/-
  A policy that is drawn; numbers that are the same.
-/
import Derived.Test.YtegbfmdilmbpmaaRtX
import Derived.Test.YtegbfmdilmbpmaaCu
import Derived.Deep.RegionWith
import Derived.Deep.Cut
namespace Go.Proofs.Ytegbfmdilmbpmaa
open Go.RowKit M
open Clk (upd upd_same upd_other)
set_option maxHeartbeats 1000000 in
theorem same_ints (v u : Value) (n : Nat) (f : Nat → Int) (w : World) (hv : IntsOf w v n f) (hu : IntsOf w u n f) (hn : n ≤ 1048576) :
    Calls Try.prog 44 #[v, u] w fun e w' => e = .returned (.bool true) ∧ Below w.heap.size w w' := by
  obtain ⟨a, cap, rfl, hr⟩ := hv
  obtain ⟨a2, cap2, rfl, hr2⟩ := hu
  have HR := hide hr
  have HR2 := hide hr2
  clear hr hr2
  go_enter Try.func44, Try.ntmps44
  go_wp2
  go_loopw [13] (fun i wr => ∃ k : Nat, k ≤ n ∧ i = .int .i64 k ∧ Below w.heap.size w wr) (fun i _ => n - (intOf i).toNat)
  case atStart => exact ⟨0, Nat.zero_le _, rfl, Below.refl _ _⟩
  case round =>
    obtain ⟨k, hk, rfl, hbw⟩ := hrel
    by_cases hlt : k < n
    · obtain ⟨b, off, rfl, hb, hrow⟩ := HR.out (by omega)
      obtain ⟨b2, off2, rfl, hb2, hrow2⟩ := HR2.out (by omega)
      have k0 := cell_regrown ((hbw.cell (p := ⟨b, off + k, none⟩) hb).trans (hrow k hlt))
      have k1 := cell_regrown ((hbw.cell (p := ⟨b2, off2 + k, none⟩) hb2).trans (hrow2 k hlt))
      have hi0 : (0 : Int) ≤ (k : Int) := by omega
      have hi1 : (k : Int) < (n : Int) := by omega
      clear hrow hrow2 HR HR2
      go_wp2
      refine wp_region_quiet_below (by kernel_rfl) (by kernel_rfl) ?_
      repeat (quiet_step (fail))
      refine wpQuiet_nil ?_
      intro _ hw'
      obtain ⟨⟨dq, osq⟩, hw''⟩ := hw'
      subst hw''
      have hbw2 := hbw.trans ((below_regrown wr dq osq).mono hbw.size)
      go_wp2
      go_roundw
      case rel => exact ⟨k + 1, by omega, by go_num, hbw2⟩
      case measure => simp [intOf]; omega
    · clear HR HR2
      go_wp2
      go_ret
      exact ⟨rfl, hbw⟩
namespace M
theorem CurAt.drew {w : World} {B cb N : Nat} (h : CurAt w B cb N) : CurAt w.drew B cb N := h.below (Below.refl _ _).drew
/-- Behind the first draws of a policy: the reader, the answer's box, the policy's. -/
structure PD (w W : World) (B cb N g : Nat) (p : Po) : Prop where
  c : CurAt W B cb N
  r : Blk W w.heap.size 4 (q4 (.int .i64 0) (.int .i64 0) (.int .i64 0) (.int .i64 0)) 25
  p : Blk W g 4 (q4 (.int .i64 p.f) (.int .i64 p.t) (.int .i64 p.m) (.int .i64 p.n)) 25
  b : But cb w W
  l : cb < w.heap.size
  g : w.heap.size < g
theorem PD.draw {w W W' : World} {B cb N N' g : Nat} {p : Po} (h : PD w W B cb N g p) (hc : CurAt W' B cb N') (hb : But cb W W') : PD w W' B cb N' g p :=
  have := h.l
  have := h.g
  ⟨hc, hb.blk h.r (by omega), hb.blk h.p (by omega), h.b.trans hb, h.l, h.g⟩
theorem PD.down {w W W' : World} {B cb N g : Nat} {p : Po} (h : PD w W B cb N g p) (hb : Below W.heap.size W W') : PD w W' B cb N g p :=
  ⟨h.c.below hb, h.r.down hb, h.p.down hb, h.b.trans (But.of_below hb), h.l, h.g⟩
theorem But.set {cb : Nat} {w W : World} (h : But cb w W) {g : Nat} (hg : w.heap.size ≤ g) (i : Nat) (v : Value) : But cb w (W.setCell ⟨g, i, none⟩ v) :=
  have hb := (Below.refl g W).setCell (p := ⟨g, i, none⟩) (Nat.le_refl _) v
  ⟨hb.os.trans h.os, hb.tape.trans h.tape, hb.output.trans h.output, by rw [World.size_setCell]; exact h.size, fun k hk hne => by rw [Below.heap_setCell _ _ _ _ (show k ≠ g by omega)]; exact h.block k hk hne⟩
theorem CurAt.set {w : World} {B cb N : Nat} (h : CurAt w B cb N) {g : Nat} (hg : g ≠ cb) (hB : B ≤ g) (i : Nat) (v : Value) : CurAt (w.setCell ⟨g, i, none⟩ v) B cb N := by
  obtain ⟨v0, n, f, t, s, ht, hn, hBc, hk, w0, h0, ho, hb0⟩ := h
  exact ⟨v0, n, f, t, s, ht, hn, hBc, hk.set_other (fun e => hg e.symm) _ _, w0, h0, ho, hb0.setCell (p := ⟨g, i, none⟩) hB _⟩
theorem CurAt.base {w : World} {B cb N : Nat} (h : CurAt w B cb N) : B ≤ cb := by
  obtain ⟨v0, n, f, t, s, ht, hn, hBc, r⟩ := h; exact hBc
theorem PD.set0 {w W : World} {B cb N g : Nat} {p : Po} (h : PD w W B cb N g p) (x : Int) : PD w (W.setCell ⟨g, 0, none⟩ (.int .i64 x)) B cb N g { p with f := x } :=
  have h1 := h.l
  have h2 := h.g
  have h3 := h.c.base
  ⟨h.c.set (by omega) (by omega) _ _, h.r.set_other (by omega) _ _, h.p.quad0 _, h.b.set (by omega) _ _, h.l, h.g⟩
theorem PD.set1 {w W : World} {B cb N g : Nat} {p : Po} (h : PD w W B cb N g p) (x : Int) : PD w (W.setCell ⟨g, 1, none⟩ (.int .i64 x)) B cb N g { p with t := x } :=
  have h1 := h.l
  have h2 := h.g
  have h3 := h.c.base
  ⟨h.c.set (by omega) (by omega) _ _, h.r.set_other (by omega) _ _, h.p.quad1 _, h.b.set (by omega) _ _, h.l, h.g⟩
theorem PD.set2 {w W : World} {B cb N g : Nat} {p : Po} (h : PD w W B cb N g p) (x : Int) : PD w (W.setCell ⟨g, 2, none⟩ (.int .i64 x)) B cb N g { p with m := x } :=
  have h1 := h.l
  have h2 := h.g
  have h3 := h.c.base
  ⟨h.c.set (by omega) (by omega) _ _, h.r.set_other (by omega) _ _, h.p.quad2 _, h.b.set (by omega) _ _, h.l, h.g⟩
theorem PD.set3 {w W : World} {B cb N g : Nat} {p : Po} (h : PD w W B cb N g p) (x : Int) : PD w (W.setCell ⟨g, 3, none⟩ (.int .i64 x)) B cb N g { p with n := x } :=
  have h1 := h.l
  have h2 := h.g
  have h3 := h.c.base
  ⟨h.c.set (by omega) (by omega) _ _, h.r.set_other (by omega) _ _, h.p.quad3 _, h.b.set (by omega) _ _, h.l, h.g⟩
end M
set_option maxRecDepth 20000 in
set_option maxHeartbeats 8000000 in
theorem cur_policy (B cb N : Nat) (w : World) (h : CurAt w B cb N) (hN : N ≤ 900000) :
    Calls Try.prog 69 #[.pointer (some ⟨cb, 0, none⟩)] w fun e w' => (∃ p : Po, e = .returned (pov p)) ∧ But cb w w' := by
  have hlc := h.lt
  have hr0 := new4 w (.int .i64 0) (.int .i64 0) (.int .i64 0) (.int .i64 0) 25
  have hal := (Below.refl w.heap.size w).alloc (Nat.le_refl _) (.cells #[.int .i64 0, .int .i64 0, .int .i64 0, .int .i64 0] 25)
  have HC0 := hide (h.below hal)
  have HR0 := hide hr0
  have HB0 := hide (But.of_below (cb := cb) hal)
  clear h hr0 hal
  go_enter Try.func69, Try.ntmps69
  go_wp2_with fail
  refine (cur_pick B cb N 20 _ HC0.out (by omega) (by omega)).mono ?_
  rintro e w1 ⟨⟨x0, hx0, rfl⟩, hc1, ho1⟩
  have HC1 := hide hc1
  have HR1 := hide (ho1.blk HR0.out (by omega))
  have HB1 := hide (HB0.out.trans ho1)
  clear hc1 ho1 HC0 HR0 HB0
  go_wp2_with fail
  refine (cur_pick B cb (N + 1) 4 _ HC1.out (by omega) (by omega)).mono ?_
  rintro e w2 ⟨⟨x1, hx1, rfl⟩, hc1, ho1⟩
  have HC2 := hide hc1
  have HR2 := hide (ho1.blk HR1.out (by omega))
  have HB2 := hide (HB1.out.trans ho1)
  clear hc1 ho1 HC1 HR1 HB1
  go_wp2_with fail
  refine (cur_pick B cb (N + 2) 12 _ HC2.out (by omega) (by omega)).mono ?_
  rintro e w3 ⟨⟨x2, hx2, rfl⟩, hc1, ho1⟩
  have hsz : w.heap.size < w3.heap.size := (ho1.blk HR2.out (by omega)).lt
  have hal := (Below.refl w3.heap.size w3).alloc (Nat.le_refl _) (.cells #[.int .i64 (1 + (x0 : Int)), .int .i64 (1 + (x1 : Int)), .int .i64 0, .int .i64 (1 + (x2 : Int))] 25)
  have HD := hide (show PD w (w3.alloc (.cells #[.int .i64 (1 + (x0 : Int)), .int .i64 (1 + (x1 : Int)), .int .i64 0, .int .i64 (1 + (x2 : Int))] 25)) B cb (N + 3) w3.heap.size ⟨1 + (x0 : Int), 1 + (x1 : Int), 0, 1 + (x2 : Int)⟩ from
    ⟨hc1.below hal, (ho1.blk HR2.out (by omega)).alloc _, new4 w3 _ _ _ _ _, (HB2.out.trans ho1).trans (But.of_below hal), hlc, hsz⟩)
  clear hc1 ho1 HC2 HR2 HB2 hal
  go_upto_region 2 with fail
  generalize w3.alloc _ = wa at *
  generalize w3.heap.size = g at *
  obtain ⟨d0, -⟩ := HD.out.p.quad
  obtain ⟨d0, -, d2, -⟩ := d0
  have d0' : wa.drew.cell? ⟨g, 0, none⟩ = some (.int .i64 (1 + (x0 : Int))) := d0
  go_cut [3] from 14 (fun q wx => q = .pointer (some ⟨g, 0, none⟩) ∧ ∃ p : Po, Hid (PD w wx B cb (N + 5) g p))
  case first =>
    go_region_with (go_at_call 61; refine (cur_pick2 B cb (N + 3) 2000 _ (by first | exact HD.out.c | exact HD.out.c.drew) (by omega) (by omega) (by omega)).mono ?_; rintro e w4 ⟨⟨y, hy, rfl⟩, hc4, ho4⟩; have hD4 := (HD.out.down (Below.refl _ _).drew).draw hc4 ho4; obtain ⟨⟨c0, c1, c2, c3⟩, t0, t1, t2, t3⟩ := hD4.p.quad; clear c1 c3 t0 t1 t3)
    all_goals
      go_wp2_with fail
      go_meet
      exact ⟨rfl, _, hide (hD4.set2 _)⟩
  case rest =>
    rename World => wC
    obtain ⟨rfl, p, HD5⟩ := hcut
    clear HD d0 d2 d0' hx0 hx1 hx2
    go_wp2_with fail
    refine (cur_pick B cb (N + 5) 30 _ HD5.out.c (by omega) (by omega)).mono ?_
    rintro e w6 ⟨⟨x, hx, rfl⟩, hc6, ho6⟩
    have hD6 := HD5.out.draw hc6 ho6
    clear hc6 ho6 HD5
    rcases (show x = 0 ∨ x = 1 ∨ x = 2 ∨ x = 3 ∨ 3 < x by omega) with rfl | rfl | rfl | rfl | h4
    · have hal := (Below.refl w6.heap.size w6).alloc (Nat.le_refl _) (.cells #[.int .i64 0, .int .i64 1000, .int .i64 1001] 3)
      have HL := hide (hD6.down hal)
      have HB := hide (Blk.fresh w6 #[.int .i64 0, .int .i64 1000, .int .i64 1001] 3 (iv fun i => if i = 0 then 0 else if i = 1 then 1000 else 1001) 3 rfl)
      have hne : w6.heap.size ≠ cb := by have := hD6.c.lt; omega
      clear hal hD6
      go_wp2_with fail
      refine (cur_amongn B cb (N + 6) w6.heap.size 3 (fun i => if i = 0 then 0 else if i = 1 then 1000 else 1001) _ HL.out.c (by omega) HB.out hne (by omega) (by omega)).mono ?_
      rintro e w7 ⟨⟨y, hy, rfl⟩, hc7, ho7⟩
      have hD7 := HL.out.draw hc7 ho7
      clear hc7 ho7 HL HB hne
      generalize (if y = 0 then (0 : Int) else if y = 1 then 1000 else 1001) = z
      have hD8 := hD7.set0 z
      have n1 := hD7.g
      have n2 : w.heap.size ≠ g := by omega
      have n3 : g ≠ w.heap.size := by omega
      obtain ⟨⟨e0, e1, e2, e3⟩, f0, f1, f2, f3⟩ := hD7.r.quad
      obtain ⟨⟨d0, d1, d2, d3⟩, t0, t1, t2, t3⟩ := hD7.p.quad
      obtain ⟨WZ, hWZ⟩ : ∃ WZ, ((((w7.setCell ⟨g, 0, none⟩ (.int .i64 z)).setCell ⟨w.heap.size, 0, none⟩ (.int .i64 z)).setCell ⟨w.heap.size, 1, none⟩ (.int .i64 p.t)).setCell ⟨w.heap.size, 2, none⟩ (.int .i64 p.m)).setCell ⟨w.heap.size, 3, none⟩ (.int .i64 p.n) = WZ := ⟨_, rfl⟩
      have HZ := hide (show Blk WZ w.heap.size 4 (q4 (.int .i64 z) (.int .i64 p.t) (.int .i64 p.m) (.int .i64 p.n)) 25 ∧ But cb w WZ by
        rw [← hWZ]
        exact ⟨(((hD8.r.quad0 _).quad1 _).quad2 _).quad3 _, (((hD8.b.set (Nat.le_refl _) _ _).set (Nat.le_refl _) _ _).set (Nat.le_refl _) _ _).set (Nat.le_refl _) _ _⟩)
      have HWZ := hide hWZ
      clear hWZ hD7 hD8
      go_wp2
      rw [HWZ.out]
      clear e0 e1 e2 e3 f0 f1 f2 f3 d0 d1 d2 d3 t0 t1 t2 t3
      obtain ⟨⟨e0, e1, e2, e3⟩, -⟩ := HZ.out.1.quad
      exact bodyPost_ret (v := .agg #[.int .i64 z, .int .i64 p.t, .int .i64 p.m, .int .i64 p.n]) (by simp [results, Try.results69, go_sem, e0, e1, e2, e3]) rfl ⟨⟨⟨z, p.t, p.m, p.n⟩, rfl⟩, HZ.out.2⟩
    · have hal := (Below.refl w6.heap.size w6).alloc (Nat.le_refl _) (.cells #[.int .i64 0, .int .i64 10, .int .i64 11] 3)
      have HL := hide (hD6.down hal)
      have HB := hide (Blk.fresh w6 #[.int .i64 0, .int .i64 10, .int .i64 11] 3 (iv fun i => if i = 0 then 0 else if i = 1 then 10 else 11) 3 rfl)
      have hne : w6.heap.size ≠ cb := by have := hD6.c.lt; omega
      clear hal hD6
      go_wp2_with fail
      refine (cur_amongn B cb (N + 6) w6.heap.size 3 (fun i => if i = 0 then 0 else if i = 1 then 10 else 11) _ HL.out.c (by omega) HB.out hne (by omega) (by omega)).mono ?_
      rintro e w7 ⟨⟨y, hy, rfl⟩, hc7, ho7⟩
      have hD7 := HL.out.draw hc7 ho7
      clear hc7 ho7 HL HB hne
      generalize (if y = 0 then (0 : Int) else if y = 1 then 10 else 11) = z
      have hD8 := hD7.set1 z
      have n1 := hD7.g
      have n2 : w.heap.size ≠ g := by omega
      have n3 : g ≠ w.heap.size := by omega
      obtain ⟨⟨e0, e1, e2, e3⟩, f0, f1, f2, f3⟩ := hD7.r.quad
      obtain ⟨⟨d0, d1, d2, d3⟩, t0, t1, t2, t3⟩ := hD7.p.quad
      obtain ⟨WZ, hWZ⟩ : ∃ WZ, ((((w7.setCell ⟨g, 1, none⟩ (.int .i64 z)).setCell ⟨w.heap.size, 0, none⟩ (.int .i64 p.f)).setCell ⟨w.heap.size, 1, none⟩ (.int .i64 z)).setCell ⟨w.heap.size, 2, none⟩ (.int .i64 p.m)).setCell ⟨w.heap.size, 3, none⟩ (.int .i64 p.n) = WZ := ⟨_, rfl⟩
      have HZ := hide (show Blk WZ w.heap.size 4 (q4 (.int .i64 p.f) (.int .i64 z) (.int .i64 p.m) (.int .i64 p.n)) 25 ∧ But cb w WZ by
        rw [← hWZ]
        exact ⟨(((hD8.r.quad0 _).quad1 _).quad2 _).quad3 _, (((hD8.b.set (Nat.le_refl _) _ _).set (Nat.le_refl _) _ _).set (Nat.le_refl _) _ _).set (Nat.le_refl _) _ _⟩)
      have HWZ := hide hWZ
      clear hWZ hD7 hD8
      go_wp2
      rw [HWZ.out]
      clear e0 e1 e2 e3 f0 f1 f2 f3 d0 d1 d2 d3 t0 t1 t2 t3
      obtain ⟨⟨e0, e1, e2, e3⟩, -⟩ := HZ.out.1.quad
      exact bodyPost_ret (v := .agg #[.int .i64 p.f, .int .i64 z, .int .i64 p.m, .int .i64 p.n]) (by simp [results, Try.results69, go_sem, e0, e1, e2, e3]) rfl ⟨⟨⟨p.f, z, p.m, p.n⟩, rfl⟩, HZ.out.2⟩
    · have hal := (Below.refl w6.heap.size w6).alloc (Nat.le_refl _) (.cells #[.int .i64 0, .int .i64 40, .int .i64 41] 3)
      have HL := hide (hD6.down hal)
      have HB := hide (Blk.fresh w6 #[.int .i64 0, .int .i64 40, .int .i64 41] 3 (iv fun i => if i = 0 then 0 else if i = 1 then 40 else 41) 3 rfl)
      have hne : w6.heap.size ≠ cb := by have := hD6.c.lt; omega
      clear hal hD6
      go_wp2_with fail
      refine (cur_amongn B cb (N + 6) w6.heap.size 3 (fun i => if i = 0 then 0 else if i = 1 then 40 else 41) _ HL.out.c (by omega) HB.out hne (by omega) (by omega)).mono ?_
      rintro e w7 ⟨⟨y, hy, rfl⟩, hc7, ho7⟩
      have hD7 := HL.out.draw hc7 ho7
      clear hc7 ho7 HL HB hne
      generalize (if y = 0 then (0 : Int) else if y = 1 then 40 else 41) = z
      have hD8 := hD7.set3 z
      have n1 := hD7.g
      have n2 : w.heap.size ≠ g := by omega
      have n3 : g ≠ w.heap.size := by omega
      obtain ⟨⟨e0, e1, e2, e3⟩, f0, f1, f2, f3⟩ := hD7.r.quad
      obtain ⟨⟨d0, d1, d2, d3⟩, t0, t1, t2, t3⟩ := hD7.p.quad
      obtain ⟨WZ, hWZ⟩ : ∃ WZ, ((((w7.setCell ⟨g, 3, none⟩ (.int .i64 z)).setCell ⟨w.heap.size, 0, none⟩ (.int .i64 p.f)).setCell ⟨w.heap.size, 1, none⟩ (.int .i64 p.t)).setCell ⟨w.heap.size, 2, none⟩ (.int .i64 p.m)).setCell ⟨w.heap.size, 3, none⟩ (.int .i64 z) = WZ := ⟨_, rfl⟩
      have HZ := hide (show Blk WZ w.heap.size 4 (q4 (.int .i64 p.f) (.int .i64 p.t) (.int .i64 p.m) (.int .i64 z)) 25 ∧ But cb w WZ by
        rw [← hWZ]
        exact ⟨(((hD8.r.quad0 _).quad1 _).quad2 _).quad3 _, (((hD8.b.set (Nat.le_refl _) _ _).set (Nat.le_refl _) _ _).set (Nat.le_refl _) _ _).set (Nat.le_refl _) _ _⟩)
      have HWZ := hide hWZ
      clear hWZ hD7 hD8
      go_wp2
      rw [HWZ.out]
      clear e0 e1 e2 e3 f0 f1 f2 f3 d0 d1 d2 d3 t0 t1 t2 t3
      obtain ⟨⟨e0, e1, e2, e3⟩, -⟩ := HZ.out.1.quad
      exact bodyPost_ret (v := .agg #[.int .i64 p.f, .int .i64 p.t, .int .i64 p.m, .int .i64 z]) (by simp [results, Try.results69, go_sem, e0, e1, e2, e3]) rfl ⟨⟨⟨p.f, p.t, p.m, z⟩, rfl⟩, HZ.out.2⟩
    · have hal := (Below.refl w6.heap.size w6).alloc (Nat.le_refl _) (.cells #[.int .i64 0, .int .i64 1000000, .int .i64 1000001] 3)
      have HL := hide (hD6.down hal)
      have HB := hide (Blk.fresh w6 #[.int .i64 0, .int .i64 1000000, .int .i64 1000001] 3 (iv fun i => if i = 0 then 0 else if i = 1 then 1000000 else 1000001) 3 rfl)
      have hne : w6.heap.size ≠ cb := by have := hD6.c.lt; omega
      clear hal hD6
      go_wp2_with fail
      refine (cur_amongn B cb (N + 6) w6.heap.size 3 (fun i => if i = 0 then 0 else if i = 1 then 1000000 else 1000001) _ HL.out.c (by omega) HB.out hne (by omega) (by omega)).mono ?_
      rintro e w7 ⟨⟨y, hy, rfl⟩, hc7, ho7⟩
      have hD7 := HL.out.draw hc7 ho7
      clear hc7 ho7 HL HB hne
      generalize (if y = 0 then (0 : Int) else if y = 1 then 1000000 else 1000001) = z
      have hD8 := hD7.set2 z
      have n1 := hD7.g
      have n2 : w.heap.size ≠ g := by omega
      have n3 : g ≠ w.heap.size := by omega
      obtain ⟨⟨e0, e1, e2, e3⟩, f0, f1, f2, f3⟩ := hD7.r.quad
      obtain ⟨⟨d0, d1, d2, d3⟩, t0, t1, t2, t3⟩ := hD7.p.quad
      obtain ⟨WZ, hWZ⟩ : ∃ WZ, ((((w7.setCell ⟨g, 2, none⟩ (.int .i64 z)).setCell ⟨w.heap.size, 0, none⟩ (.int .i64 p.f)).setCell ⟨w.heap.size, 1, none⟩ (.int .i64 p.t)).setCell ⟨w.heap.size, 2, none⟩ (.int .i64 z)).setCell ⟨w.heap.size, 3, none⟩ (.int .i64 p.n) = WZ := ⟨_, rfl⟩
      have HZ := hide (show Blk WZ w.heap.size 4 (q4 (.int .i64 p.f) (.int .i64 p.t) (.int .i64 z) (.int .i64 p.n)) 25 ∧ But cb w WZ by
        rw [← hWZ]
        exact ⟨(((hD8.r.quad0 _).quad1 _).quad2 _).quad3 _, (((hD8.b.set (Nat.le_refl _) _ _).set (Nat.le_refl _) _ _).set (Nat.le_refl _) _ _).set (Nat.le_refl _) _ _⟩)
      have HWZ := hide hWZ
      clear hWZ hD7 hD8
      go_wp2
      rw [HWZ.out]
      clear e0 e1 e2 e3 f0 f1 f2 f3 d0 d1 d2 d3 t0 t1 t2 t3
      obtain ⟨⟨e0, e1, e2, e3⟩, -⟩ := HZ.out.1.quad
      exact bodyPost_ret (v := .agg #[.int .i64 p.f, .int .i64 p.t, .int .i64 z, .int .i64 p.n]) (by simp [results, Try.results69, go_sem, e0, e1, e2, e3]) rfl ⟨⟨⟨p.f, p.t, z, p.n⟩, rfl⟩, HZ.out.2⟩
    · have b0 : ((x : Int) == 0) = false := by simp; omega
      have b1 : ((x : Int) == 1) = false := by simp; omega
      have b2 : ((x : Int) == 2) = false := by simp; omega
      have b3 : ((x : Int) == 3) = false := by simp; omega
      have n1 := hD6.g
      have n2 : w.heap.size ≠ g := by omega
      have n3 : g ≠ w.heap.size := by omega
      obtain ⟨⟨e0, e1, e2, e3⟩, f0, f1, f2, f3⟩ := hD6.r.quad
      obtain ⟨⟨d0, d1, d2, d3⟩, t0, t1, t2, t3⟩ := hD6.p.quad
      obtain ⟨WZ, hWZ⟩ : ∃ WZ, (((w6.setCell ⟨w.heap.size, 0, none⟩ (.int .i64 p.f)).setCell ⟨w.heap.size, 1, none⟩ (.int .i64 p.t)).setCell ⟨w.heap.size, 2, none⟩ (.int .i64 p.m)).setCell ⟨w.heap.size, 3, none⟩ (.int .i64 p.n) = WZ := ⟨_, rfl⟩
      have HZ := hide (show Blk WZ w.heap.size 4 (q4 (.int .i64 p.f) (.int .i64 p.t) (.int .i64 p.m) (.int .i64 p.n)) 25 ∧ But cb w WZ by
        rw [← hWZ]
        exact ⟨(((hD6.r.quad0 _).quad1 _).quad2 _).quad3 _, (((hD6.b.set (Nat.le_refl _) _ _).set (Nat.le_refl _) _ _).set (Nat.le_refl _) _ _).set (Nat.le_refl _) _ _⟩)
      have HWZ := hide hWZ
      clear hWZ hD6
      go_wp2
      rw [HWZ.out]
      clear e0 e1 e2 e3 f0 f1 f2 f3 d0 d1 d2 d3 t0 t1 t2 t3
      obtain ⟨⟨e0, e1, e2, e3⟩, -⟩ := HZ.out.1.quad
      exact bodyPost_ret (v := .agg #[.int .i64 p.f, .int .i64 p.t, .int .i64 p.m, .int .i64 p.n]) (by simp [results, Try.results69, go_sem, e0, e1, e2, e3]) rfl ⟨⟨⟨p.f, p.t, p.m, p.n⟩, rfl⟩, HZ.out.2⟩
end Go.Proofs.Ytegbfmdilmbpmaa
