/-
  Which history counts: the order of weights behind the interface, the last of a row in it, and the specification's way.
-/
import Derived.Test.YtfkeokglifpkoaaDoorJoin40
import Derived.Deep.RegionHeld3
namespace Go.Proofs.YtfkeokglifpkoaaDoor
open Go.RowKit M
open Go.Sort (grow)
namespace M
theorem orI_wgt (a b : Evs) : decide (orI (cmpI (lv a) (lv b)) (cmpI (a.length : Int) (b.length : Int)) (cL a b) < 0) = wgt a b := by
  unfold orI wgt cmpI
  rcases (show lv a < lv b ∨ lv a = lv b ∨ lv b < lv a by omega) with h | h | h
  · simp [h]
  · have h1 : ¬ lv a < lv b := by omega
    have h2 : ¬ lv b < lv a := by omega
    rcases (show a.length < b.length ∨ a.length = b.length ∨ b.length < a.length by omega) with k | k | k
    · have k1 : (a.length : Int) < (b.length : Int) := by omega
      simp [h, k, k1]
    · have k1 : ¬ (a.length : Int) < (b.length : Int) := by omega
      have k2 : ¬ (b.length : Int) < (a.length : Int) := by omega
      simp [h, k]
    · have k1 : ¬ (a.length : Int) < (b.length : Int) := by omega
      have k2 : (b.length : Int) < (a.length : Int) := by omega
      have k3 : ¬ a.length < b.length := by omega
      have k4 : ¬ a.length = b.length := by omega
      simp [h, k1, k2, k3, k4]
  · have h1 : ¬ lv a < lv b := by omega
    have h2 : ¬ lv a = lv b := by omega
    simp [h1, h, h2]
def B4 (w : World) (g : Nat) (e : Ev) : Prop := w.cell? ⟨g, 0, none⟩ = some (.int .i64 e.id) ∧ w.cell? ⟨g, 1, none⟩ = some (.int .i64 e.ver) ∧ w.cell? ⟨g, 2, none⟩ = some (.int .i64 e.kind) ∧ w.cell? ⟨g, 3, none⟩ = some (.string e.name)
theorem B4.lt {w : World} {g : Nat} {e : Ev} (h : B4 w g e) : g < w.heap.size := World.block_lt_of_cell? w _ h.1
theorem B4.down {w w' : World} {g : Nat} {e : Ev} (h : B4 w g e) (hb : Below w.heap.size w w') : B4 w' g e :=
  ⟨(hb.cell (p := ⟨g, 0, none⟩) h.lt).trans h.1, (hb.cell (p := ⟨g, 1, none⟩) h.lt).trans h.2.1, (hb.cell (p := ⟨g, 2, none⟩) h.lt).trans h.2.2.1, (hb.cell (p := ⟨g, 3, none⟩) h.lt).trans h.2.2.2⟩
/-- What is held while two are weighed: their boxes, the two last events' boxes. -/
structure WtS (w W : World) (p7 p8 : Nat) (u v : Value) (x y : Ev) : Prop where
  low : Below w.heap.size w W
  a : W.cell? ⟨w.heap.size, 0, none⟩ = some u
  b : W.cell? ⟨w.heap.size + 1, 0, none⟩ = some v
  x : B4 W p7 x
  y : B4 W p8 y
theorem WtS.down {w W W' : World} {p7 p8 : Nat} {u v : Value} {x y : Ev} (h : WtS w W p7 p8 u v x y) (hb : Below W.heap.size W W') : WtS w W' p7 p8 u v x y :=
  ⟨h.low.trans (hb.mono h.low.size), (hb.cell (p := ⟨w.heap.size, 0, none⟩) (World.block_lt_of_cell? W _ h.a)).trans h.a, (hb.cell (p := ⟨w.heap.size + 1, 0, none⟩) (World.block_lt_of_cell? W _ h.b)).trans h.b, h.x.down hb, h.y.down hb⟩
theorem wts_a {w W2 : World} {u v : Value} {s t : TypeId} {x y : Ev} (hal : Below w.heap.size w W2) (n0 : M.One W2 w.heap.size u s) (n1 : M.One W2 (w.heap.size + 1) v t) : WtS w ((W2.alloc (.cells (evarr x) 45)).alloc (.cells (evarr y) 45)).drew W2.heap.size (W2.heap.size + 1) u v x y := by
  have k1 := (Below.refl W2.heap.size W2).alloc (Nat.le_refl _) (.cells (evarr x) 45)
  have k2 := ((Below.refl (W2.alloc (.cells (evarr x) 45)).heap.size (W2.alloc (.cells (evarr x) 45))).alloc (Nat.le_refl _) (.cells (evarr y) 45)).drew
  have k3 := k1.trans (k2.mono k1.size)
  have x1 : B4 (W2.alloc (.cells (evarr x) 45)) W2.heap.size x := four_new W2 _ _ _ _ _
  have y1 : B4 ((W2.alloc (.cells (evarr x) 45)).alloc (.cells (evarr y) 45)) (W2.heap.size + 1) y := by
    have := four_new (W2.alloc (.cells (evarr x) 45)) (.int .i64 y.id) (.int .i64 y.ver) (.int .i64 y.kind) (.string y.name) 45
    rw [World.size_alloc] at this; exact this
  exact ⟨hal.trans (k3.mono hal.size), (n0.down k3).cell, (n1.down k3).cell, x1.down k2, y1⟩
theorem wts_b {w W2 : World} {u v : Value} {s t : TypeId} {x y : Ev} (hal : Below w.heap.size w W2) (n0 : M.One W2 w.heap.size u s) (n1 : M.One W2 (w.heap.size + 1) v t) : WtS w ((W2.alloc (.cells (evarr y) 45)).alloc (.cells (evarr x) 45)).drew (W2.heap.size + 1) W2.heap.size u v x y := by
  obtain ⟨h1, h2, h3, h4, h5⟩ := wts_a (x := y) (y := x) hal n0 n1
  exact ⟨h1, h2, h3, h5, h4⟩
end M
theorem as_wt (v : Value) (w : World) : (Instr.typeAssert (.iface 91 v) 79 91 true).run Tryd.prog w = .ok (.tuple #[v, .bool true]) w := by kernel_rfl
theorem cm_wt (v : Value) (w : World) : (method 255 91 (.agg #[v]) "loop.example/g00269/impl.isAhead").run Tryd.prog w = .ok (112, .agg #[v]) w := by kernel_rfl
theorem by_verB (a b : Ev) (w : World) : Calls Tryd.prog 51 #[.agg #[.int .i64 a.id, .int .i64 a.ver, .int .i64 a.kind, .string a.name], .agg #[.int .i64 b.id, .int .i64 b.ver, .int .i64 b.kind, .string b.name]] w fun e w' => e = .returned (.int .i64 (cmpI a.ver b.ver)) ∧ Below w.heap.size w w' := by_ver a b w
set_option maxRecDepth 20000 in
set_option maxHeartbeats 8000000 in
theorem ahead_wt (v u : Value) (a b : Evs) (w : World) (hv : SliceOf w v a) (hu : SliceOf w u b) (ha : a.length ≤ 1048576) (hb_ : b.length ≤ 1048576) (ha0 : 0 < a.length) (hb0 : 0 < b.length) :
    Calls Tryd.prog 112 #[.agg #[v], .iface 91 (.agg #[u])] w fun e w' => e = .returned (.bool (wgt a b)) ∧ Below w.heap.size w w' := by
  have hal := ((Below.refl w.heap.size w).alloc (Nat.le_refl _) (.cells #[v] 91)).alloc (by simp) (.cells #[u] 91)
  have HV := hide hv
  have HU := hide hu
  have has := fun x W => as_wt x W
  obtain ⟨aa1, cap1, rfl⟩ := hv.form
  obtain ⟨aa2, cap2, rfl⟩ := hu.form
  obtain ⟨a1', k1', hv1, hr1⟩ := hv
  obtain ⟨a2', k2', hv2, hr2⟩ := hu
  simp only [Value.slice.injEq, true_and] at hv1 hv2
  obtain ⟨rfl, rfl⟩ := hv1
  obtain ⟨rfl, rfl⟩ := hv2
  obtain ⟨g1, o1, rfl, hl1, hrow1⟩ := hr1 (by intro h; subst h; simp at ha0)
  obtain ⟨g2, o2, rfl, hl2, hrow2⟩ := hr2 (by intro h; subst h; simp at hb0)
  obtain ⟨ja, hja⟩ : ∃ ja, a.length - 1 = ja := ⟨_, rfl⟩
  obtain ⟨jb, hjb⟩ : ∃ jb, b.length - 1 = jb := ⟨_, rfl⟩
  obtain ⟨x, hx⟩ : ∃ x, a[ja]? = some x := ⟨a[ja]'(by omega), List.getElem?_eq_getElem _⟩
  obtain ⟨y, hy⟩ : ∃ y, b[jb]? = some y := ⟨b[jb]'(by omega), List.getElem?_eq_getElem _⟩
  obtain ⟨W2, hW2⟩ : ∃ W2, (w.alloc (.cells #[.slice (some ⟨g1, o1, none⟩) a.length cap1] 91)).alloc (.cells #[.slice (some ⟨g2, o2, none⟩) b.length cap2] 91) = W2 := ⟨_, rfl⟩
  rw [hW2] at hal
  obtain ⟨m0, m1, -, hsz2⟩ := two1 w _ _ _ _ W2 hW2.symm
  obtain ⟨c0, c1, c2, c3⟩ := (hrow1 ja x hx).below hal hl1
  obtain ⟨d0, d1, d2, d3⟩ := (hrow2 jb y hy).below hal hl2
  have HLA := hide (show lv a = x.ver from lv_at (by rw [hja]; exact hx))
  have HLB := hide (show lv b = y.ver from lv_at (by rw [hjb]; exact hy))
  have HWG := hide (show decide (orI (cmpI x.ver y.ver) (cmpI (a.length : Int) (b.length : Int)) (cL a b) < 0) = wgt a b by rw [← HLA.out, ← HLB.out]; exact orI_wgt a b)
  have q1 := m0.cell
  have q2 := m1.cell
  have hj1 : (a.length : Int) - 1 = (ja : Int) := by omega
  have hj2 : (b.length : Int) - 1 = (jb : Int) := by omega
  have hw1 : IntKind.i64.wrap (ja : Int) = (ja : Int) := by rw [IntKind.wrap_i64]; omega
  have hw2 : IntKind.i64.wrap (jb : Int) = (jb : Int) := by rw [IntKind.wrap_i64]; omega
  have hi0 : (0 : Int) ≤ (ja : Int) := by omega
  have hi1 : (ja : Int) < (a.length : Int) := by omega
  have hi2 : (0 : Int) ≤ (jb : Int) := by omega
  have hi3 : (jb : Int) < (b.length : Int) := by omega
  have hi4 : ja < a.length := by omega
  have hi5 : jb < b.length := by omega
  have hA1 := fun o : Obj => (Below.refl W2.heap.size W2).alloc (Nat.le_refl _) o
  have hA2 := fun o o' : Obj => (hA1 o).alloc (by simp) o'
  have lq1 := World.block_lt_of_cell? W2 _ q1
  have lq2 := World.block_lt_of_cell? W2 _ q2
  have lc := World.block_lt_of_cell? W2 _ c0
  have ld := World.block_lt_of_cell? W2 _ d0
  have q1A := fun o => ((hA1 o).cell (p := ⟨w.heap.size, 0, none⟩) lq1).trans q1
  have q1B := fun o o' => ((hA2 o o').cell (p := ⟨w.heap.size, 0, none⟩) lq1).trans q1
  have q2A := fun o => ((hA1 o).cell (p := ⟨w.heap.size + 1, 0, none⟩) lq2).trans q2
  have q2B := fun o o' => ((hA2 o o').cell (p := ⟨w.heap.size + 1, 0, none⟩) lq2).trans q2
  have c0A := fun o => ((hA1 o).cell (p := ⟨g1, o1 + ja * 4, none⟩) lc).trans c0
  have c0B := fun o o' => ((hA2 o o').cell (p := ⟨g1, o1 + ja * 4, none⟩) lc).trans c0
  have c1A := fun o => ((hA1 o).cell (p := ⟨g1, o1 + ja * 4 + 1, none⟩) lc).trans c1
  have c1B := fun o o' => ((hA2 o o').cell (p := ⟨g1, o1 + ja * 4 + 1, none⟩) lc).trans c1
  have c2A := fun o => ((hA1 o).cell (p := ⟨g1, o1 + ja * 4 + 2, none⟩) lc).trans c2
  have c2B := fun o o' => ((hA2 o o').cell (p := ⟨g1, o1 + ja * 4 + 2, none⟩) lc).trans c2
  have c3A := fun o => ((hA1 o).cell (p := ⟨g1, o1 + ja * 4 + 3, none⟩) lc).trans c3
  have c3B := fun o o' => ((hA2 o o').cell (p := ⟨g1, o1 + ja * 4 + 3, none⟩) lc).trans c3
  have d0A := fun o => ((hA1 o).cell (p := ⟨g2, o2 + jb * 4, none⟩) ld).trans d0
  have d0B := fun o o' => ((hA2 o o').cell (p := ⟨g2, o2 + jb * 4, none⟩) ld).trans d0
  have d1A := fun o => ((hA1 o).cell (p := ⟨g2, o2 + jb * 4 + 1, none⟩) ld).trans d1
  have d1B := fun o o' => ((hA2 o o').cell (p := ⟨g2, o2 + jb * 4 + 1, none⟩) ld).trans d1
  have d2A := fun o => ((hA1 o).cell (p := ⟨g2, o2 + jb * 4 + 2, none⟩) ld).trans d2
  have d2B := fun o o' => ((hA2 o o').cell (p := ⟨g2, o2 + jb * 4 + 2, none⟩) ld).trans d2
  have d3A := fun o => ((hA1 o).cell (p := ⟨g2, o2 + jb * 4 + 3, none⟩) ld).trans d3
  have d3B := fun o o' => ((hA2 o o').cell (p := ⟨g2, o2 + jb * 4 + 3, none⟩) ld).trans d3
  have HWW := hide hW2
  have HAL := hide hal
  have HM := hide (And.intro m0 m1)
  have HSZ := hide hsz2
  clear hrow1 hrow2 hr1 hr2 hx hy hja hjb hal hW2 m0 m1 hsz2 HLA HLB hA1 hA2 lq1 lq2 lc ld
  go_enter Tryd.func112, Tryd.ntmps112
  go_upto_region 4 with fail
  rw [HWW.out]
  go_cut [7, 8] from 17 (fun z7 z8 wx => ∃ p7 p8, z7 = .pointer (some ⟨p7, 0, none⟩) ∧ z8 = .pointer (some ⟨p8, 0, none⟩) ∧ Hid (WtS w wx p7 p8 (.slice (some ⟨g1, o1, none⟩) a.length cap1) (.slice (some ⟨g2, o2, none⟩) b.length cap2) x y))
  case first =>
    go_region
    all_goals
      go_wp2_with fail
      go_meet
      first
        | exact ⟨W2.heap.size, W2.heap.size + 1, rfl, rfl, hide (wts_a HAL.out HM.out.1 HM.out.2)⟩
        | exact ⟨W2.heap.size + 1, W2.heap.size, rfl, rfl, hide (wts_b HAL.out HM.out.1 HM.out.2)⟩
  case rest =>
    rename World => wx
    obtain ⟨p7, p8, rfl, rfl, HS⟩ := hcut
    clear c0 c1 c2 c3 d0 d1 d2 d3 q1 q2 q1A q1B q2A q2B c0A c0B c1A c1B c2A c2B c3A c3B d0A d0B d1A d1B d2A d2B d3A d3B HWW HAL HM HSZ
    have HSS := hide (fun W (hb : Below wx.heap.size wx W) => (show (W.cell? ⟨p7, 0, none⟩ = some (.int .i64 x.id) ∧ W.cell? ⟨p7, 1, none⟩ = some (.int .i64 x.ver) ∧ W.cell? ⟨p7, 2, none⟩ = some (.int .i64 x.kind) ∧ W.cell? ⟨p7, 3, none⟩ = some (.string x.name)) ∧ (W.cell? ⟨p8, 0, none⟩ = some (.int .i64 y.id) ∧ W.cell? ⟨p8, 1, none⟩ = some (.int .i64 y.ver) ∧ W.cell? ⟨p8, 2, none⟩ = some (.int .i64 y.kind) ∧ W.cell? ⟨p8, 3, none⟩ = some (.string y.name)) ∧ W.cell? ⟨w.heap.size, 0, none⟩ = some (.slice (some ⟨g1, o1, none⟩) a.length cap1) ∧ W.cell? ⟨w.heap.size + 1, 0, none⟩ = some (.slice (some ⟨g2, o2, none⟩) b.length cap2) from ⟨(HS.out.down hb).x, (HS.out.down hb).y, (HS.out.down hb).a, (HS.out.down hb).b⟩))
    have HSA := hide (fun W o (hb : Below wx.heap.size wx W) => HSS.out (W.alloc o) (hb.alloc hb.size o))
    have HBd := hide ((Below.refl wx.heap.size wx).drew)
    obtain ⟨r1, hr1⟩ : ∃ r1, cmpI x.ver y.ver = r1 := ⟨_, rfl⟩
    obtain ⟨r2, hr2⟩ : ∃ r2, cmpI (a.length : Int) (b.length : Int) = r2 := ⟨_, rfl⟩
    obtain ⟨r3, hr3⟩ : ∃ r3, cL a b = r3 := ⟨_, rfl⟩
    obtain ⟨r4, hr4⟩ : ∃ r4, orI r1 r2 r3 = r4 := ⟨_, rfl⟩
    have hwg := HWG.out
    rw [hr1, hr2, hr3, hr4] at hwg
    have HWG := hide hwg
    have HVV := hide (show ∀ W, Below wx.heap.size wx W → Calls Tryd.prog 51 #[.agg #[.int .i64 x.id, .int .i64 x.ver, .int .i64 x.kind, .string x.name], .agg #[.int .i64 y.id, .int .i64 y.ver, .int .i64 y.kind, .string y.name]] W fun e w' => e = .returned (.int .i64 r1) ∧ Below wx.heap.size wx w' from fun W hb => by
      rw [← hr1]
      exact (by_verB x y W).mono fun e w' ⟨he, hb'⟩ => ⟨he, hb.trans (hb'.mono hb.size)⟩)
    have HCC := hide (show ∀ W, Calls Tryd.prog 60 #[.int .i64 (a.length : Int), .int .i64 (b.length : Int)] W fun e w' => e = .returned (.int .i64 r2) ∧ w' = W from fun W => by rw [← hr2]; exact cmp_int _ _ W)
    have HFF := hide (show ∀ W, Below wx.heap.size wx W → Calls Tryd.prog 106 #[.slice (some ⟨g1, o1, none⟩) a.length cap1, .slice (some ⟨g2, o2, none⟩) b.length cap2, .func (.func 107) #[] #[]] W fun e w' => e = .returned (.int .i64 r3) ∧ Below wx.heap.size wx w' from fun W hb => by
      rw [← hr3]
      have hlow := HS.out.low.trans (hb.mono HS.out.low.size)
      exact (cmp_func _ _ a b W (HV.out.below hlow) (HU.out.below hlow) ha hb_).mono fun e w' ⟨he, hb'⟩ => ⟨he, hb.trans (hb'.mono hb.size)⟩)
    have HOO := hide (show ∀ X : World, Calls Tryd.prog 108 #[.slice (some ⟨X.heap.size, 0, none⟩) 3 3] (X.alloc (.cells #[.int .i64 r1, .int .i64 r2, .int .i64 r3] 3)) fun e w' => e = .returned (.int .i64 r4) ∧ w' = X.alloc (.cells #[.int .i64 r1, .int .i64 r2, .int .i64 r3] 3) from fun X => by
      rw [← hr4]
      exact cmp_or3 X.heap.size r1 r2 r3 _ (three_new X (.int .i64 r1) (.int .i64 r2) (.int .i64 r3) 3).1 (three_new X (.int .i64 r1) (.int .i64 r2) (.int .i64 r3) 3).2.1 (three_new X (.int .i64 r1) (.int .i64 r2) (.int .i64 r3) 3).2.2)
    have HLOW := hide (fun W o (hb : Below wx.heap.size wx W) => HS.out.low.trans ((hb.alloc hb.size o).mono HS.out.low.size))
    clear hr1 hr2 hr3 hr4 hwg HV HU HS has
    go_wp2_with fail
    go_region_held3 (fun W => (W.cell? ⟨p7, 0, none⟩ = some (.int .i64 x.id) ∧ W.cell? ⟨p7, 1, none⟩ = some (.int .i64 x.ver) ∧ W.cell? ⟨p7, 2, none⟩ = some (.int .i64 x.kind) ∧ W.cell? ⟨p7, 3, none⟩ = some (.string x.name)) ∧ (W.cell? ⟨p8, 0, none⟩ = some (.int .i64 y.id) ∧ W.cell? ⟨p8, 1, none⟩ = some (.int .i64 y.ver) ∧ W.cell? ⟨p8, 2, none⟩ = some (.int .i64 y.kind) ∧ W.cell? ⟨p8, 3, none⟩ = some (.string y.name)) ∧ W.cell? ⟨w.heap.size, 0, none⟩ = some (.slice (some ⟨g1, o1, none⟩) a.length cap1) ∧ W.cell? ⟨w.heap.size + 1, 0, none⟩ = some (.slice (some ⟨g2, o2, none⟩) b.length cap2)) (first
      | with_reducible exact HSS.out _ hbv
      | with_reducible exact HSS.out _ hbf
      | with_reducible exact HSS.out _ HBd.out
      | with_reducible exact HSA.out _ _ hbv
      | with_reducible exact HSA.out _ _ hbf) (first
      | (go_at_call 51; refine (HVV.out _ (by first | with_reducible exact HBd.out | with_reducible exact hbf)).mono ?_; rintro e wv ⟨rfl, hbv⟩)
      | (go_at_call 60; refine (HCC.out _).mono ?_; rintro e wc ⟨rfl, rfl⟩)
      | (go_at_call 106; refine (HFF.out _ (by first | with_reducible exact HBd.out | with_reducible exact hbv)).mono ?_; rintro e wf ⟨rfl, hbf⟩)
      | (go_at_call 108; refine (HOO.out _).mono ?_; rintro e wo ⟨rfl, rfl⟩))
    all_goals
      go_wp2
      go_ret
      exact ⟨ret_bool HWG.out, by first | exact HLOW.out _ _ hbf | exact HLOW.out _ _ hbv⟩
end Go.Proofs.YtfkeokglifpkoaaDoor
