/-
  What FnBreaker draws: a play, and a breaker with a call.
-/
import Derived.Test.YtegbfmdilmbpmaaRtCb
import Derived.Deep.RegionHeld3
namespace Go.Proofs.Ytegbfmdilmbpmaa
open Go.RowKit M
open Clk (upd upd_same upd_other)
namespace M
/-- A play that was drawn. -/
structure DP (w : World) (e : Ending) : Prop where
  h : ∃ (l c : Nat) (a : Option Addr) (cap n : Nat) (cs : Nat → Cl), e = .returned (.tuple #[.int .i64 (1 + (l : Int)), .int .i64 (c : Int), .slice a n cap]) ∧ n ≤ 121 ∧ CallsOf w (.slice a n cap) n cs
/-- A breaker and a call that were drawn. -/
structure DK (e : Ending) : Prop where
  h : ∃ (x : Br) (c : Cl), e = .returned (.tuple #[.agg #[.int .i64 x.l, .int .i64 x.c, .int .i64 x.s, .int .i64 x.k, .int .i64 x.o], .agg #[.int .i64 c.w, .bool c.y]])
/-- While a breaker and a call are drawn. -/
structure CD (w W : World) (rb sb B cb N g : Nat) (x : Br) (fr fs : Nat → Value) : Prop where
  c : CurAt W B cb N
  r : Blk W rb 5 fr 37
  s : Blk W sb 2 fs 50
  p : Blk W g 5 (q5 (.int .i64 x.l) (.int .i64 x.c) (.int .i64 x.s) (.int .i64 x.k) (.int .i64 x.o)) 37
  b : Below w.heap.size w W
  l : cb = w.heap.size + 2
  er : w.heap.size = rb
  es : w.heap.size + 1 = sb
  g : cb < g
section
variable {w W W' : World} {rb sb B cb N N' g : Nat} {x : Br} {fr fs : Nat → Value}
theorem CD.draw (h : CD w W rb sb B cb N g x fr fs) (hc : CurAt W' B cb N') (hb : But cb W W') : CD w W' rb sb B cb N' g x fr fs :=
  have h1 := h.l
  have h2 := h.g
  have h3 := h.er
  have h4 := h.es
  ⟨hc, hb.blk h.r (by omega), hb.blk h.s (by omega), hb.blk h.p (by omega), h.b.trans (hb.below (by omega) h.b.size), h.l, h.er, h.es, h.g⟩
theorem CD.down (h : CD w W rb sb B cb N g x fr fs) (hb : Below W.heap.size W W') : CD w W' rb sb B cb N g x fr fs :=
  ⟨h.c.below hb, h.r.down hb, h.s.down hb, h.p.down hb, h.b.trans (hb.mono h.b.size), h.l, h.er, h.es, h.g⟩
theorem CD.drew (h : CD w W rb sb B cb N g x fr fs) : CD w W.drew rb sb B cb N g x fr fs := h.down (Below.refl _ _).drew
/-- The answer's boxes with what is in them; the drawn breaker's still whole. -/
structure CF (w W : World) (rb sb g : Nat) (x : Br) (fr fs : Nat → Value) : Prop where
  r : Blk W rb 5 fr 37
  s : Blk W sb 2 fs 50
  p : Blk W g 5 (q5 (.int .i64 x.l) (.int .i64 x.c) (.int .i64 x.s) (.int .i64 x.k) (.int .i64 x.o)) 37
  b : Below w.heap.size w W
  er : w.heap.size = rb
  es : w.heap.size + 1 = sb
  g : sb < g
theorem CD.put (h : CD w W rb sb B cb N g x (q5 (.int .i64 0) (.int .i64 0) (.int .i64 0) (.int .i64 0) (.int .i64 0)) fs) (v0 v1 v2 v3 v4 : Value) : CF w (((((W.setCell ⟨rb, 0, none⟩ v0).setCell ⟨rb, 1, none⟩ v1).setCell ⟨rb, 2, none⟩ v2).setCell ⟨rb, 3, none⟩ v3).setCell ⟨rb, 4, none⟩ v4) rb sb g x (q5 v0 v1 v2 v3 v4) fs := by
  have h1 := h.l
  have h2 := h.g
  have h3 := h.er
  have h4 := h.es
  have m1 : g ≠ rb := by omega
  have m2 : sb ≠ rb := by omega
  have m0 : w.heap.size ≤ rb := by omega
  exact ⟨((((h.r.five0 v0).five1 v1).five2 v2).five3 v3).five4 v4, ((((h.s.set_other m2 _ _).set_other m2 _ _).set_other m2 _ _).set_other m2 _ _).set_other m2 _ _, ((((h.p.set_other m1 _ _).set_other m1 _ _).set_other m1 _ _).set_other m1 _ _).set_other m1 _ _, ((((h.b.setCell (p := ⟨rb, 0, none⟩) m0 v0).setCell (p := ⟨rb, 1, none⟩) m0 v1).setCell (p := ⟨rb, 2, none⟩) m0 v2).setCell (p := ⟨rb, 3, none⟩) m0 v3).setCell (p := ⟨rb, 4, none⟩) m0 v4, h.er, h.es, by omega⟩
theorem CF.put (h : CF w W rb sb g x fr (q2 (.int .i64 0) (.bool false))) (v0 v1 : Value) : CF w ((W.setCell ⟨sb, 0, none⟩ v0).setCell ⟨sb, 1, none⟩ v1) rb sb g x fr (q2 v0 v1) := by
  have h2 := h.g
  have h3 := h.er
  have h4 := h.es
  have m1 : g ≠ sb := by omega
  have m2 : rb ≠ sb := by omega
  have m0 : w.heap.size ≤ sb := by omega
  exact ⟨(h.r.set_other m2 _ _).set_other m2 _ _, (h.s.duo0 v0).duo1 v1, (h.p.set_other m1 _ _).set_other m1 _ _, (h.b.setCell (p := ⟨sb, 0, none⟩) m0 v0).setCell (p := ⟨sb, 1, none⟩) m0 v1, h.er, h.es, h.g⟩
theorem gen_world {R : World → Prop} {W : World} (h : ∀ WZ, W = WZ → R WZ) : R W := h W rfl
theorem CF.down (h : CF w W rb sb g x fr fs) (hb : Below W.heap.size W W') : CF w W' rb sb g x fr fs := ⟨h.r.down hb, h.s.down hb, h.p.down hb, h.b.trans (hb.mono h.b.size), h.er, h.es, h.g⟩
end
end M
set_option maxHeartbeats 4000000 in
theorem draw_play (v : Value) (n : Nat) (f : Nat → Nat) (w : World) (hv : OctetsOf w v n f) (hn : n ≤ 1048576) :
    Calls Try.prog 45 #[v] w fun e w' => DP w' e ∧ Below w.heap.size w w' := by
  obtain ⟨a, cap, rfl⟩ := hv.form
  have hal := (Below.refl w.heap.size w).alloc (Nat.le_refl _) (.cells #[.slice a n cap, .int .i64 0, .int .u64 0] 91)
  have hC : CurAt (w.alloc (.cells #[.slice a n cap, .int .i64 0, .int .u64 0] 91)) w.heap.size w.heap.size 0 :=
    ⟨_, n, f, 0, 0, Nat.le_refl _, hn, Nat.le_refl _, Blk.fresh w #[.slice a n cap, .int .i64 0, .int .u64 0] 3 (cu (.slice a n cap) (0 : Nat) 0) 91 rfl, w, rfl, hv, hal⟩
  have HC := hide hC
  clear hC hv
  go_enter Try.func45, Try.ntmps45
  go_wp2_with fail
  refine (cur_pick w.heap.size w.heap.size 0 4 _ HC.out (by omega) (by omega)).mono ?_
  rintro e w1 ⟨⟨x0, hx0, rfl⟩, hc1, ho1⟩
  have HC1 := hide hc1
  have hb1 := hal.trans (ho1.below (Nat.le_refl _) hal.size)
  clear hc1 ho1 HC hal
  go_wp2_with fail
  refine (cur_pick w.heap.size w.heap.size 1 30 _ HC1.out (by omega) (by omega)).mono ?_
  rintro e w2 ⟨⟨x1, hx1, rfl⟩, hc2, ho2⟩
  have HC2 := hide hc2
  have hb2 := hb1.trans (ho2.below (Nat.le_refl _) hb1.size)
  clear hc2 ho2 HC1 hb1
  go_wp2_with fail
  refine (cur_calls w.heap.size w.heap.size 2 _ HC2.out (by omega)).mono ?_
  rintro e w3 ⟨⟨a3, cap3, m, cs, rfl, hm, hcap, hca⟩, hc3, ho3⟩
  have hb3 := hb2.trans (ho3.below (Nat.le_refl _) hb2.size)
  have hcl := hca w3 (But.refl _ _)
  clear hc3 ho3 HC2 hb2 hca
  go_wp2
  go_ret3
  exact ⟨⟨x0, x1, a3, cap3, m, cs, rfl, hm, hcl⟩, hb3⟩
set_option maxRecDepth 20000 in
set_option maxHeartbeats 4000000 in
theorem draw_call (v : Value) (n : Nat) (f : Nat → Nat) (w : World) (hv : OctetsOf w v n f) (hn : n ≤ 1048576) :
    Calls Try.prog 47 #[v] w fun e w' => DK e ∧ Below w.heap.size w w' := by
  obtain ⟨a, cap, rfl⟩ := hv.form
  have hal := (Below.refl w.heap.size w).alloc (Nat.le_refl _) (.cells #[.int .i64 0, .int .i64 0, .int .i64 0, .int .i64 0, .int .i64 0] 37)
  have hal2 := hal.alloc hal.size (.cells #[.int .i64 0, .bool false] 50)
  have hal3 := hal2.alloc hal2.size (.cells #[.slice a n cap, .int .i64 0, .int .u64 0] 91)
  have hR := ((new5 w (.int .i64 0) (.int .i64 0) (.int .i64 0) (.int .i64 0) (.int .i64 0) 37).alloc (.cells #[.int .i64 0, .bool false] 50)).alloc (.cells #[.slice a n cap, .int .i64 0, .int .u64 0] 91)
  have hS := (new2 (w.alloc (.cells #[.int .i64 0, .int .i64 0, .int .i64 0, .int .i64 0, .int .i64 0] 37)) (.int .i64 0) (.bool false) 50).alloc (.cells #[.slice a n cap, .int .i64 0, .int .u64 0] 91)
  have hb := Blk.fresh ((w.alloc (.cells #[.int .i64 0, .int .i64 0, .int .i64 0, .int .i64 0, .int .i64 0] 37)).alloc (.cells #[.int .i64 0, .bool false] 50)) #[.slice a n cap, .int .i64 0, .int .u64 0] 3 (cu (.slice a n cap) (0 : Nat) 0) 91 rfl
  simp only [World.size_alloc] at hS hb
  have HC := hide (show CurAt _ w.heap.size (w.heap.size + 1 + 1) 0 from ⟨_, n, f, 0, 0, Nat.le_refl _, hn, by omega, hb, w, rfl, hv, hal3⟩)
  have HR := hide hR
  have HS := hide hS
  clear hR hS hb hv hal hal2
  go_enter Try.func47, Try.ntmps47
  go_wp2_with fail
  refine (cur_breaker w.heap.size (w.heap.size + 1 + 1) 0 _ HC.out (by omega)).mono ?_
  rintro e w1 ⟨⟨x, rfl, ho0, ho1⟩, hc1, hbut⟩
  have hR1 := hbut.blk HR.out (by omega)
  have hS1 := hbut.blk HS.out (by omega)
  have hb1 := hal3.trans (hbut.below (by omega) hal3.size)
  have hlt := hc1.lt
  have hal4 := (Below.refl w1.heap.size w1).alloc (Nat.le_refl _) (.cells #[.int .i64 x.l, .int .i64 x.c, .int .i64 x.s, .int .i64 x.k, .int .i64 x.o] 37)
  have hD2 : CD w (w1.alloc (.cells #[.int .i64 x.l, .int .i64 x.c, .int .i64 x.s, .int .i64 x.k, .int .i64 x.o] 37)) w.heap.size (w.heap.size + 1) w.heap.size (w.heap.size + 1 + 1) 500 w1.heap.size x (q5 (.int .i64 0) (.int .i64 0) (.int .i64 0) (.int .i64 0) (.int .i64 0)) (q2 (.int .i64 0) (.bool false)) :=
    ⟨(hc1.below hal4).more (by omega), hR1.alloc _, hS1.alloc _, new5 w1 _ _ _ _ _ _, hb1.trans (hal4.mono hb1.size), rfl, rfl, rfl, hlt⟩
  clear hR1 hS1 hb1 hlt hal4 hc1 hbut HC HR HS hal3
  obtain ⟨w2, hw2⟩ : ∃ w2, w1.alloc (.cells #[.int .i64 x.l, .int .i64 x.c, .int .i64 x.s, .int .i64 x.k, .int .i64 x.o] 37) = w2 := ⟨_, rfl⟩
  obtain ⟨g, hg⟩ : ∃ g, w1.heap.size = g := ⟨_, rfl⟩
  rw [hw2, hg] at hD2
  have HW := hide hw2
  have HG := hide hg
  clear hw2 hg
  go_upto_region 3 with fail
  rw [HW.out, HG.out]
  clear HW HG
  have HFIN := hide (show ∀ (x : Br) (c : Cl) (W : World), Below w.heap.size w W → DK (.returned (.tuple #[.agg #[.int .i64 x.l, .int .i64 x.c, .int .i64 x.s, .int .i64 x.k, .int .i64 x.o], .agg #[.int .i64 c.w, .bool c.y]])) ∧ Below w.heap.size w W from fun x c W h => ⟨⟨x, c, rfl⟩, h⟩)
  obtain ⟨cb, hcb⟩ : ∃ c, w.heap.size + 1 + 1 = c := ⟨_, rfl⟩
  obtain ⟨sb, hsb⟩ : ∃ c, w.heap.size + 1 = c := ⟨_, rfl⟩
  obtain ⟨rb, hrb⟩ : ∃ c, w.heap.size = c := ⟨_, rfl⟩
  rw [hcb, hsb, hrb] at hD2
  rw [hcb, hsb, hrb]
  clear hcb hsb hrb
  obtain ⟨q50, hq5⟩ : ∃ q, q5 (.int .i64 0) (.int .i64 0) (.int .i64 0) (.int .i64 0) (.int .i64 0) = q := ⟨_, rfl⟩
  obtain ⟨q20, hq2⟩ : ∃ q, q2 (.int .i64 0) (.bool false) = q := ⟨_, rfl⟩
  have HPU := hide (show ∀ W N v0 v1 v2 v3 v4 u0 u1 WZ, CD w W rb sb rb cb N g x q50 q20 → ((((((W.setCell ⟨rb, 0, none⟩ v0).setCell ⟨rb, 1, none⟩ v1).setCell ⟨rb, 2, none⟩ v2).setCell ⟨rb, 3, none⟩ v3).setCell ⟨rb, 4, none⟩ v4).setCell ⟨sb, 0, none⟩ u0).setCell ⟨sb, 1, none⟩ u1 = WZ → CF w WZ rb sb g x (q5 v0 v1 v2 v3 v4) (q2 u0 u1) from fun W N v0 v1 v2 v3 v4 u0 u1 WZ h he => by
    have h1 := CD.put (hq5 ▸ h) v0 v1 v2 v3 v4
    rw [← hq2] at h1
    rw [← he]
    exact h1.put u0 u1)
  have HQ := hide (show ∀ W N, CD w W rb sb rb cb N g x q50 q20 → W.cell? ⟨g, 0, none⟩ = some (.int .i64 x.l) ∧ W.cell? ⟨g, 1, none⟩ = some (.int .i64 x.c) ∧ W.cell? ⟨g, 2, none⟩ = some (.int .i64 x.s) ∧ W.cell? ⟨g, 3, none⟩ = some (.int .i64 x.k) ∧ W.cell? ⟨g, 4, none⟩ = some (.int .i64 x.o) from fun W N h => h.p.five.1)
  rw [hq5, hq2] at hD2
  have HE5 := hide (show ∀ W N, CD w W rb sb rb cb N g x q50 q20 → (W.cell? ⟨rb, 0, none⟩ = some (.int .i64 0) ∧ W.cell? ⟨rb, 1, none⟩ = some (.int .i64 0) ∧ W.cell? ⟨rb, 2, none⟩ = some (.int .i64 0) ∧ W.cell? ⟨rb, 3, none⟩ = some (.int .i64 0) ∧ W.cell? ⟨rb, 4, none⟩ = some (.int .i64 0)) ∧ W.frozen? ⟨rb, 0, none⟩ = false ∧ W.frozen? ⟨rb, 1, none⟩ = false ∧ W.frozen? ⟨rb, 2, none⟩ = false ∧ W.frozen? ⟨rb, 3, none⟩ = false ∧ W.frozen? ⟨rb, 4, none⟩ = false from fun W N h => by
    have h2 := h.r; rw [← hq5] at h2; exact h2.five)
  have HE2 := hide (show ∀ W N, CD w W rb sb rb cb N g x q50 q20 → (W.cell? ⟨sb, 0, none⟩ = some (.int .i64 0) ∧ W.cell? ⟨sb, 1, none⟩ = some (.bool false)) ∧ W.frozen? ⟨sb, 0, none⟩ = false ∧ W.frozen? ⟨sb, 1, none⟩ = false from fun W N h => by
    have h2 := h.s; rw [← hq2] at h2; exact h2.duo)
  clear hq5 hq2
  have hD2d := hD2.drew
  have HP60 := hide (show ∀ W, CD w W rb sb rb cb 500 g x q50 q20 → Calls Try.prog 61 #[.pointer (some ⟨cb, 0, none⟩), .int .i64 60] W fun e W' => (∃ y : Nat, (y < 60 ∨ y = 0) ∧ e = .returned (.int .i64 (y : Int))) ∧ CD w W' rb sb rb cb 501 g x q50 q20 from fun W h => (cur_pick rb cb 500 60 W h.c (by omega) (by omega)).mono (by
    rintro e W' ⟨h1, hc, ho⟩
    exact ⟨h1, h.draw hc ho⟩))
  have HP2 := hide (show ∀ W, CD w W rb sb rb cb 501 g x q50 q20 → Calls Try.prog 61 #[.pointer (some ⟨cb, 0, none⟩), .int .i64 2] W fun e W' => (∃ y : Nat, (y < 2 ∨ y = 0) ∧ e = .returned (.int .i64 (y : Int))) ∧ CD w W' rb sb rb cb 502 g x q50 q20 from fun W h => (cur_pick rb cb 501 2 W h.c (by omega) (by omega)).mono (by
    rintro e W' ⟨h1, hc, ho⟩
    exact ⟨h1, h.draw hc ho⟩))
  have HO2 := hide (show ∀ W, CD w W rb sb rb cb 502 g x q50 q20 → Calls Try.prog 64 #[.pointer (some ⟨cb, 0, none⟩), .int .i64 2] W fun e W' => (∃ b : Bool, e = .returned (.bool b)) ∧ CD w W' rb sb rb cb 503 g x q50 q20 from fun W h => (cur_one rb cb 502 2 W h.c (by omega) (by omega)).mono (by
    rintro e W' ⟨h1, hc, ho⟩
    exact ⟨h1, h.draw hc ho⟩))
  have hne : ¬ g = rb := by have := hD2.g; have := hD2.l; have := hD2.er; omega
  have hne2 : ¬ g = sb := by have := hD2.g; have := hD2.l; have := hD2.es; omega
  have hne3 : ¬ sb = rb := by have := hD2.er; have := hD2.es; omega
  have hne4 : ¬ rb = sb := by have := hD2.er; have := hD2.es; omega
  go_region_held3 (fun W => W.cell? ⟨g, 0, none⟩ = some (.int .i64 x.l) ∧ W.cell? ⟨g, 1, none⟩ = some (.int .i64 x.c) ∧ W.cell? ⟨g, 2, none⟩ = some (.int .i64 x.s) ∧ W.cell? ⟨g, 3, none⟩ = some (.int .i64 x.k) ∧ W.cell? ⟨g, 4, none⟩ = some (.int .i64 x.o)) (first
    | (with_reducible exact HQ.out _ _ (by with_reducible assumption))
    | (refine ⟨?_, ?_, ?_, ?_, ?_⟩ <;> simp [go_sem, k0, k1, k2, k3, k4])) (first
    | (go_at_call 61; with_reducible refine Calls.mono (HP60.out _ (by first | with_reducible exact hD2d | with_reducible exact hD2)) ?_; rintro e w3 ⟨⟨x3, hx3, rfl⟩, hD3⟩)
    | (go_at_call 61; with_reducible refine Calls.mono (HP2.out _ (by with_reducible exact hD3)) ?_; rintro e w4 ⟨⟨x4, hx4, rfl⟩, hD4⟩)
    | (go_at_call 64; with_reducible refine Calls.mono (HO2.out _ (by with_reducible exact hD4)) ?_; rintro e w5 ⟨⟨b5, rfl⟩, hD5⟩; obtain ⟨⟨e0, e1, e2, e3, e4⟩, f0, f1, f2, f3, f4⟩ := HE5.out _ _ hD5; obtain ⟨⟨s0, s1⟩, q0, q1⟩ := HE2.out _ _ hD5; obtain ⟨k0, k1, k2, k3, k4⟩ := HQ.out _ _ hD5))
  all_goals
    apply gen_world
    intro WZ hWZ
    have hZ := HPU.out _ _ _ _ _ _ _ _ _ _ hD5 hWZ
    clear hWZ
    obtain ⟨⟨i0, i1, i2, i3, i4⟩, -⟩ := hZ.r.five
    obtain ⟨⟨j0, j1⟩, -⟩ := hZ.s.duo
    have HZ5 := hide (HFIN.out x ⟨IntKind.i64.wrap (IntKind.i64.wrap (x.o + (x3 : Int)) - (x4 : Int)), b5⟩ _ hZ.b)
    clear hZ hD5 hD4 hD3 hD2 hD2d e0 e1 e2 e3 e4 f0 f1 f2 f3 f4 s0 s1 q0 q1 k0 k1 k2 k3 k4
    go_wp2
    exact bodyPost_ret (v := .tuple #[.agg #[.int .i64 x.l, .int .i64 x.c, .int .i64 x.s, .int .i64 x.k, .int .i64 x.o], .agg #[.int .i64 (IntKind.i64.wrap (IntKind.i64.wrap (x.o + (x3 : Int)) - (x4 : Int))), .bool b5]]) (by simp [results, Try.results47, go_sem, i0, i1, i2, i3, i4, j0, j1]) rfl HZ5.out
end Go.Proofs.Ytegbfmdilmbpmaa
