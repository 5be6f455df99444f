/-
  The law of CallBreaker, walked, at every argument.
-/
import Derived.Test.YteoibcnbngamiaaRtD
import Derived.Deep.RegionHeld3
import Derived.Deep.Cut
namespace Go.Proofs.Yteoibcnbngamiaa
open Go.RowKit M
open Clk (upd upd_same upd_other)
namespace M
/-- In the midst of a statement that draws its order: the answer's box may be there (o). -/
structure ST (w0 W : World) (o : Option Nat) : Prop where
  b : Below w0.heap.size w0 W
  x : ∀ g, o = some g → Blk W g 5 (q5 (.int .i64 0) (.int .i64 0) (.int .i64 0) (.int .i64 0) (.int .i64 0)) 37 ∧ w0.heap.size ≤ g
theorem ST.down {w0 W W' : World} {o : Option Nat} (h : ST w0 W o) (hb : Below W.heap.size W W') : ST w0 W' o :=
  ⟨h.b.trans (hb.mono h.b.size), fun g e => ⟨(h.x g e).1.down hb, (h.x g e).2⟩⟩
theorem ST.alloc {w0 W : World} (h : ST w0 W none) : ST w0 (W.alloc (.cells #[.int .i64 0, .int .i64 0, .int .i64 0, .int .i64 0, .int .i64 0] 37)) (some W.heap.size) := by
  have hb := (Below.refl W.heap.size W).alloc (Nat.le_refl _) (.cells #[.int .i64 0, .int .i64 0, .int .i64 0, .int .i64 0, .int .i64 0] 37)
  refine ⟨h.b.trans (hb.mono h.b.size), fun g e => ?_⟩
  cases e
  exact ⟨new5 W _ _ _ _ _ _, h.b.size⟩
theorem ST.alloc1 {w0 W : World} (h : ST w0 W none) : ST w0 (W.alloc (.cells #[.int .i64 0, .int .i64 0, .int .i64 0, .int .i64 0, .int .i64 0] 37)).drew (some W.heap.size) := (ST.alloc h).down (Below.refl _ _).drew
/-- Behind the call. -/
structure SV (w0 W : World) (o : Option Nat) : Prop where
  b : Below w0.heap.size w0 W
  x : ∀ g, o = some g → Blk W g 5 (q5 (.int .i64 0) (.int .i64 0) (.int .i64 0) (.int .i64 0) (.int .i64 0)) 37 ∧ w0.heap.size ≤ g
/-- Behind the statement. -/
structure LX (w0 W : World) (g : Nat) (r : Br) : Prop where
  b : Below w0.heap.size w0 W
  x : Blk W g 5 (q5 (.int .i64 r.l) (.int .i64 r.c) (.int .i64 r.s) (.int .i64 r.k) (.int .i64 r.o)) 37
theorem SV.fresh {w0 W : World} (h : SV w0 W none) (r : Br) : LX w0 (W.alloc (.cells #[.int .i64 r.l, .int .i64 r.c, .int .i64 r.s, .int .i64 r.k, .int .i64 r.o] 37)) W.heap.size r := by
  have hb := (Below.refl W.heap.size W).alloc (Nat.le_refl _) (.cells #[.int .i64 r.l, .int .i64 r.c, .int .i64 r.s, .int .i64 r.k, .int .i64 r.o] 37)
  exact ⟨h.b.trans (hb.mono h.b.size), new5 W _ _ _ _ _ _⟩
theorem SV.cells {w0 W : World} {g : Nat} (h : SV w0 W (some g)) : (W.cell? ⟨g, 0, none⟩ = some (.int .i64 0) ∧ W.cell? ⟨g, 1, none⟩ = some (.int .i64 0) ∧ W.cell? ⟨g, 2, none⟩ = some (.int .i64 0) ∧ W.cell? ⟨g, 3, none⟩ = some (.int .i64 0) ∧ W.cell? ⟨g, 4, none⟩ = some (.int .i64 0)) ∧
    W.frozen? ⟨g, 0, none⟩ = false ∧ W.frozen? ⟨g, 1, none⟩ = false ∧ W.frozen? ⟨g, 2, none⟩ = false ∧ W.frozen? ⟨g, 3, none⟩ = false ∧ W.frozen? ⟨g, 4, none⟩ = false := (h.x g rfl).1.five
theorem SV.set {w0 W : World} {g : Nat} (h : SV w0 W (some g)) (r : Br) : LX w0 (((((W.setCell ⟨g, 0, none⟩ (.int .i64 r.l)).setCell ⟨g, 1, none⟩ (.int .i64 r.c)).setCell ⟨g, 2, none⟩ (.int .i64 r.s)).setCell ⟨g, 3, none⟩ (.int .i64 r.k)).setCell ⟨g, 4, none⟩ (.int .i64 r.o)) g r := by
  obtain ⟨hx, hg⟩ := h.x g rfl
  obtain ⟨h1, h2⟩ := put5 hx h.b hg (.int .i64 r.l) (.int .i64 r.c) (.int .i64 r.s) (.int .i64 r.k) (.int .i64 r.o) _ rfl
  exact ⟨h2, h1⟩
theorem LX.down {w0 W W' : World} {g : Nat} {r : Br} (h : LX w0 W g r) (hb : Below W.heap.size W W') : LX w0 W' g r :=
  ⟨h.b.trans (hb.mono h.b.size), h.x.down hb⟩
end M
set_option maxRecDepth 20000 in
set_option maxHeartbeats 40000000 in
theorem law_call (x : Br) (c : Cl) (w : World) :
    Calls Try.prog 8 #[brv x, clv c] w fun e w' => e = .returned (.bool true) ∧ Below w.heap.size w w' := by
  obtain ⟨b, hb⟩ : ∃ b, decide (GBr x ∧ GT c.w) = b := ⟨_, rfl⟩
  obtain ⟨r, hr⟩ : ∃ r, (if b = true then cal x c else (⟨0, 0, 0, 0, 0⟩ : Br)) = r := ⟨_, rfl⟩
  obtain ⟨t, ht⟩ : ∃ t, (if b = true then lt x c.w else false) = t := ⟨_, rfl⟩
  have HSp := hide (fun W => spec_callBreaker x c b t r W hb hr ht)
  have HIm := hide (fun W => impl_callBreaker x c b t r W hb hr ht)
  have hbb : (b != b) = false := by simp
  have htt : (t != t) = false := by simp
  have hd1 := (Below.refl w.heap.size w).alloc (Nat.le_refl _) (.cells #[.int .i64 x.l, .int .i64 x.c, .int .i64 x.s, .int .i64 x.k, .int .i64 x.o] 42)
  have hd0 := hd1.alloc hd1.size (.cells #[.int .i64 c.w, .bool c.y] 47)
  have hx0 := (new5 w (.int .i64 x.l) (.int .i64 x.c) (.int .i64 x.s) (.int .i64 x.k) (.int .i64 x.o) 42).alloc (.cells #[.int .i64 c.w, .bool c.y] 47)
  have hz0 := new2 (w.alloc (.cells #[.int .i64 x.l, .int .i64 x.c, .int .i64 x.s, .int .i64 x.k, .int .i64 x.o] 42)) (.int .i64 c.w) (.bool c.y) 47
  simp only [World.size_alloc] at hz0
  obtain ⟨w1, hw0⟩ : ∃ w0, (w.alloc (.cells #[.int .i64 x.l, .int .i64 x.c, .int .i64 x.s, .int .i64 x.k, .int .i64 x.o] 42)).alloc (.cells #[.int .i64 c.w, .bool c.y] 47) = w0 := ⟨_, rfl⟩
  have Hw0 := hide hw0
  rw [hw0] at hd0 hx0 hz0
  have HB1 := hide hd0
  have HX1 := hide hx0
  have HZ1 := hide hz0
  clear hd0 hd1 hx0 hz0 hw0 hb hr ht
  go_enter Try.func8, Try.ntmps8
  go_upto_region 1 with fail
  rw [Hw0.out]
  have hF1 : ST w1 w1 none := ⟨Below.refl w1.heap.size w1, fun g e => (by cases e)⟩
  have hF0 : ST w1 w1.drew none := ⟨(Below.refl w1.heap.size w1).drew, fun g e => (by cases e)⟩
  have HS := hide (show ∀ W, Below w1.heap.size w1 W → W.cell? ⟨w.heap.size, 0, none⟩ = some (.int .i64 x.l) ∧ W.cell? ⟨w.heap.size, 1, none⟩ = some (.int .i64 x.c) ∧ W.cell? ⟨w.heap.size, 2, none⟩ = some (.int .i64 x.s) ∧ W.cell? ⟨w.heap.size, 3, none⟩ = some (.int .i64 x.k) ∧ W.cell? ⟨w.heap.size, 4, none⟩ = some (.int .i64 x.o) ∧ W.cell? ⟨w.heap.size + 1, 0, none⟩ = some (.int .i64 c.w) ∧ W.cell? ⟨w.heap.size + 1, 1, none⟩ = some (.bool c.y) from
    fun W hW => by
      obtain ⟨⟨a0, a1, a2, a3, a4⟩, -⟩ := (HX1.out.down hW).five
      obtain ⟨⟨a5, a6⟩, -⟩ := (HZ1.out.down hW).duo
      exact ⟨a0, a1, a2, a3, a4, a5, a6⟩)
  have HT1 := hide (show ∀ W o, ST w1 W o → Calls Try.prog 25 #[.agg #[.int .i64 x.l, .int .i64 x.c, .int .i64 x.s, .int .i64 x.k, .int .i64 x.o]] W fun e W' => e = .returned (.agg #[.int .i64 x.l, .int .i64 x.c, .int .i64 x.s, .int .i64 x.k, .int .i64 x.o]) ∧ ST w1 W' o from fun W o hW => (to_breaker x W).mono (by
    rintro e W' ⟨rfl, hb⟩
    exact ⟨rfl, hW.down hb⟩))
  have HT2 := hide (show ∀ W o, ST w1 W o → Calls Try.prog 28 #[.agg #[.int .i64 c.w, .bool c.y]] W fun e W' => e = .returned (.agg #[.int .i64 c.w, .bool c.y]) ∧ ST w1 W' o from fun W o hW => (to_call c W).mono (by
    rintro e W' ⟨rfl, hb⟩
    exact ⟨rfl, hW.down hb⟩))
  have HF := hide (show ∀ W, ST w1 W none → Calls Try.prog 27 #[.agg #[.int .i64 x.l, .int .i64 x.c, .int .i64 x.s, .int .i64 x.k, .int .i64 x.o], .agg #[.int .i64 c.w, .bool c.y]] W fun e W' => e = .returned (.tuple #[.agg #[.int .i64 r.l, .int .i64 r.c, .int .i64 r.s, .int .i64 r.k, .int .i64 r.o], .bool t, .bool b]) ∧ SV w1 W' none from fun W hW => (HSp.out W).mono (by
    rintro e W' ⟨rfl, hb⟩
    exact ⟨rfl, (hW.down hb).b, (hW.down hb).x⟩))
  have HFg := hide (show ∀ W g, ST w1 W (some g) → Calls Try.prog 27 #[.agg #[.int .i64 x.l, .int .i64 x.c, .int .i64 x.s, .int .i64 x.k, .int .i64 x.o], .agg #[.int .i64 c.w, .bool c.y]] W fun e W' => e = .returned (.tuple #[.agg #[.int .i64 r.l, .int .i64 r.c, .int .i64 r.s, .int .i64 r.k, .int .i64 r.o], .bool t, .bool b]) ∧ SV w1 W' (some g) ∧ W'.cell? ⟨g, 0, none⟩ = some (.int .i64 0) ∧ W'.cell? ⟨g, 1, none⟩ = some (.int .i64 0) ∧ W'.cell? ⟨g, 2, none⟩ = some (.int .i64 0) ∧ W'.cell? ⟨g, 3, none⟩ = some (.int .i64 0) ∧ W'.cell? ⟨g, 4, none⟩ = some (.int .i64 0) ∧ W'.frozen? ⟨g, 0, none⟩ = false ∧ W'.frozen? ⟨g, 1, none⟩ = false ∧ W'.frozen? ⟨g, 2, none⟩ = false ∧ W'.frozen? ⟨g, 3, none⟩ = false ∧ W'.frozen? ⟨g, 4, none⟩ = false from fun W g hW => (HSp.out W).mono (by
    rintro e W' ⟨rfl, hb⟩
    have h : SV w1 W' (some g) := ⟨(hW.down hb).b, (hW.down hb).x⟩
    obtain ⟨⟨a0, a1, a2, a3, a4⟩, b0, b1, b2, b3, b4⟩ := h.cells
    exact ⟨rfl, h, a0, a1, a2, a3, a4, b0, b1, b2, b3, b4⟩))
  go_cut [5, 6, 7] from 11 (fun p tt bb wx => ∃ g : Nat, p = .pointer (some ⟨g, 0, none⟩) ∧ tt = .bool t ∧ bb = .bool b ∧ Hid (LX w1 wx g r))
  case first =>
    go_region_held3 (fun W => W.cell? ⟨w.heap.size, 0, none⟩ = some (.int .i64 x.l) ∧ W.cell? ⟨w.heap.size, 1, none⟩ = some (.int .i64 x.c) ∧ W.cell? ⟨w.heap.size, 2, none⟩ = some (.int .i64 x.s) ∧ W.cell? ⟨w.heap.size, 3, none⟩ = some (.int .i64 x.k) ∧ W.cell? ⟨w.heap.size, 4, none⟩ = some (.int .i64 x.o) ∧ W.cell? ⟨w.heap.size + 1, 0, none⟩ = some (.int .i64 c.w) ∧ W.cell? ⟨w.heap.size + 1, 1, none⟩ = some (.bool c.y)) (first
      | with_reducible exact HS.out _ hSf.b
      | with_reducible exact HS.out _ (SV.set hSf r).b
      | with_reducible exact HS.out _ (SV.fresh hSf r).b
      | with_reducible exact HS.out _ (hSf.b.alloc hSf.b.size _)
      | with_reducible exact HS.out _ (show ST _ _ _ from (by with_reducible assumption)).b
      | with_reducible exact HS.out _ (ST.alloc (by with_reducible assumption)).b
      | with_reducible exact HS.out _ (ST.alloc1 hF1).b
      | with_reducible exact HS.out _ (ST.alloc1 (by with_reducible assumption)).b) (first
      | (go_at_call 25; with_reducible refine Calls.mono (HT1.out _ _ (by first | (with_reducible assumption) | (with_reducible exact ST.alloc1 (by with_reducible assumption)) | (with_reducible exact ST.alloc (by with_reducible assumption)))) ?_; rintro e wo ⟨rfl, hSo⟩)
      | (go_at_call 28; with_reducible refine Calls.mono (HT2.out _ _ (by first | (with_reducible assumption) | (with_reducible exact ST.alloc1 (by with_reducible assumption)) | (with_reducible exact ST.alloc (by with_reducible assumption)))) ?_; rintro e wt ⟨rfl, hSt⟩)
      | (go_at_call 27; with_reducible refine Calls.mono (HFg.out _ _ (by first | (with_reducible assumption) | (with_reducible exact ST.alloc1 (by with_reducible assumption)) | (with_reducible exact ST.alloc (by with_reducible assumption)))) ?_; rintro e wf ⟨rfl, hSf, k0, k1, k2, k3, k4, m0, m1, m2, m3, m4⟩)
      | (go_at_call 27; with_reducible refine Calls.mono (HF.out _ (by with_reducible assumption)) ?_; rintro e wf ⟨rfl, hSf⟩))
    all_goals
      go_wp2_with fail
      go_meet
      first
        | with_reducible exact ⟨_, rfl, rfl, rfl, hide (hSf.set r)⟩
        | with_reducible exact ⟨_, rfl, rfl, rfl, hide (hSf.fresh r)⟩
  case rest =>
    rename World => wC
    obtain ⟨g, rfl, rfl, rfl, HLX⟩ := hcut
    have HB2 := hide (HB1.out.trans (HLX.out.b.mono HB1.out.size))
    have HX2 := hide (HX1.out.down HLX.out.b)
    have HZ2 := hide (HZ1.out.down HLX.out.b)
    have HP0 := hide HLX.out.x
    clear hF0 hF1 HS HT1 HT2 HF HFg HLX HB1 HX1 HZ1 HSp Hw0
    go_upto_region 2 with fail
    have hF1 : ST wC wC none := ⟨Below.refl wC.heap.size wC, fun g e => (by cases e)⟩
    have hF0 : ST wC wC.drew none := ⟨(Below.refl wC.heap.size wC).drew, fun g e => (by cases e)⟩
    have HS := hide (show ∀ W, Below wC.heap.size wC W → W.cell? ⟨w.heap.size, 0, none⟩ = some (.int .i64 x.l) ∧ W.cell? ⟨w.heap.size, 1, none⟩ = some (.int .i64 x.c) ∧ W.cell? ⟨w.heap.size, 2, none⟩ = some (.int .i64 x.s) ∧ W.cell? ⟨w.heap.size, 3, none⟩ = some (.int .i64 x.k) ∧ W.cell? ⟨w.heap.size, 4, none⟩ = some (.int .i64 x.o) ∧ W.cell? ⟨w.heap.size + 1, 0, none⟩ = some (.int .i64 c.w) ∧ W.cell? ⟨w.heap.size + 1, 1, none⟩ = some (.bool c.y) from
      fun W hW => by
        obtain ⟨⟨a0, a1, a2, a3, a4⟩, -⟩ := (HX2.out.down hW).five
        obtain ⟨⟨a5, a6⟩, -⟩ := (HZ2.out.down hW).duo
        exact ⟨a0, a1, a2, a3, a4, a5, a6⟩)
    have HT1 := hide (show ∀ W o, ST wC W o → Calls Try.prog 25 #[.agg #[.int .i64 x.l, .int .i64 x.c, .int .i64 x.s, .int .i64 x.k, .int .i64 x.o]] W fun e W' => e = .returned (.agg #[.int .i64 x.l, .int .i64 x.c, .int .i64 x.s, .int .i64 x.k, .int .i64 x.o]) ∧ ST wC W' o from fun W o hW => (to_breaker x W).mono (by
      rintro e W' ⟨rfl, hb⟩
      exact ⟨rfl, hW.down hb⟩))
    have HT2 := hide (show ∀ W o, ST wC W o → Calls Try.prog 28 #[.agg #[.int .i64 c.w, .bool c.y]] W fun e W' => e = .returned (.agg #[.int .i64 c.w, .bool c.y]) ∧ ST wC W' o from fun W o hW => (to_call c W).mono (by
      rintro e W' ⟨rfl, hb⟩
      exact ⟨rfl, hW.down hb⟩))
    have HF := hide (show ∀ W, ST wC W none → Calls Try.prog 29 #[.agg #[.int .i64 x.l, .int .i64 x.c, .int .i64 x.s, .int .i64 x.k, .int .i64 x.o], .agg #[.int .i64 c.w, .bool c.y]] W fun e W' => e = .returned (.tuple #[.agg #[.int .i64 r.l, .int .i64 r.c, .int .i64 r.s, .int .i64 r.k, .int .i64 r.o], .bool t, .bool b]) ∧ SV wC W' none from fun W hW => (HIm.out W).mono (by
      rintro e W' ⟨rfl, hb⟩
      exact ⟨rfl, (hW.down hb).b, (hW.down hb).x⟩))
    have HFg := hide (show ∀ W g, ST wC W (some g) → Calls Try.prog 29 #[.agg #[.int .i64 x.l, .int .i64 x.c, .int .i64 x.s, .int .i64 x.k, .int .i64 x.o], .agg #[.int .i64 c.w, .bool c.y]] W fun e W' => e = .returned (.tuple #[.agg #[.int .i64 r.l, .int .i64 r.c, .int .i64 r.s, .int .i64 r.k, .int .i64 r.o], .bool t, .bool b]) ∧ SV wC W' (some g) ∧ W'.cell? ⟨g, 0, none⟩ = some (.int .i64 0) ∧ W'.cell? ⟨g, 1, none⟩ = some (.int .i64 0) ∧ W'.cell? ⟨g, 2, none⟩ = some (.int .i64 0) ∧ W'.cell? ⟨g, 3, none⟩ = some (.int .i64 0) ∧ W'.cell? ⟨g, 4, none⟩ = some (.int .i64 0) ∧ W'.frozen? ⟨g, 0, none⟩ = false ∧ W'.frozen? ⟨g, 1, none⟩ = false ∧ W'.frozen? ⟨g, 2, none⟩ = false ∧ W'.frozen? ⟨g, 3, none⟩ = false ∧ W'.frozen? ⟨g, 4, none⟩ = false from fun W g hW => (HIm.out W).mono (by
      rintro e W' ⟨rfl, hb⟩
      have h : SV wC W' (some g) := ⟨(hW.down hb).b, (hW.down hb).x⟩
      obtain ⟨⟨a0, a1, a2, a3, a4⟩, b0, b1, b2, b3, b4⟩ := h.cells
      exact ⟨rfl, h, a0, a1, a2, a3, a4, b0, b1, b2, b3, b4⟩))
    go_cut [8, 9, 10] from 20 (fun p tt bb wx => ∃ g : Nat, p = .pointer (some ⟨g, 0, none⟩) ∧ tt = .bool t ∧ bb = .bool b ∧ Hid (LX wC wx g r))
    case first =>
      go_region_held3 (fun W => W.cell? ⟨w.heap.size, 0, none⟩ = some (.int .i64 x.l) ∧ W.cell? ⟨w.heap.size, 1, none⟩ = some (.int .i64 x.c) ∧ W.cell? ⟨w.heap.size, 2, none⟩ = some (.int .i64 x.s) ∧ W.cell? ⟨w.heap.size, 3, none⟩ = some (.int .i64 x.k) ∧ W.cell? ⟨w.heap.size, 4, none⟩ = some (.int .i64 x.o) ∧ W.cell? ⟨w.heap.size + 1, 0, none⟩ = some (.int .i64 c.w) ∧ W.cell? ⟨w.heap.size + 1, 1, none⟩ = some (.bool c.y)) (first
        | with_reducible exact HS.out _ hSf.b
        | with_reducible exact HS.out _ (SV.set hSf r).b
        | with_reducible exact HS.out _ (SV.fresh hSf r).b
        | with_reducible exact HS.out _ (hSf.b.alloc hSf.b.size _)
        | with_reducible exact HS.out _ (show ST _ _ _ from (by with_reducible assumption)).b
        | with_reducible exact HS.out _ (ST.alloc (by with_reducible assumption)).b
        | with_reducible exact HS.out _ (ST.alloc1 hF1).b
        | with_reducible exact HS.out _ (ST.alloc1 (by with_reducible assumption)).b) (first
        | (go_at_call 25; with_reducible refine Calls.mono (HT1.out _ _ (by first | (with_reducible assumption) | (with_reducible exact ST.alloc1 (by with_reducible assumption)) | (with_reducible exact ST.alloc (by with_reducible assumption)))) ?_; rintro e wo ⟨rfl, hSo⟩)
        | (go_at_call 28; with_reducible refine Calls.mono (HT2.out _ _ (by first | (with_reducible assumption) | (with_reducible exact ST.alloc1 (by with_reducible assumption)) | (with_reducible exact ST.alloc (by with_reducible assumption)))) ?_; rintro e wt ⟨rfl, hSt⟩)
        | (go_at_call 29; with_reducible refine Calls.mono (HFg.out _ _ (by first | (with_reducible assumption) | (with_reducible exact ST.alloc1 (by with_reducible assumption)) | (with_reducible exact ST.alloc (by with_reducible assumption)))) ?_; rintro e wf ⟨rfl, hSf, k0, k1, k2, k3, k4, m0, m1, m2, m3, m4⟩)
        | (go_at_call 29; with_reducible refine Calls.mono (HF.out _ (by with_reducible assumption)) ?_; rintro e wf ⟨rfl, hSf⟩))
      all_goals
        go_wp2_with fail
        go_meet
        first
          | with_reducible exact ⟨_, rfl, rfl, rfl, hide (hSf.set r)⟩
          | with_reducible exact ⟨_, rfl, rfl, rfl, hide (hSf.fresh r)⟩
    case rest =>
      rename World => wD
      obtain ⟨g2, rfl, rfl, rfl, HLX⟩ := hcut
      have hb3 := HB2.out.trans (HLX.out.b.mono HB2.out.size)
      obtain ⟨⟨d0, d1, d2, d3, d4⟩, -⟩ := (HP0.out.down HLX.out.b).five
      obtain ⟨⟨e0, e1, e2, e3, e4⟩, -⟩ := HLX.out.x.five
      clear hF0 hF1 HS HT1 HT2 HF HFg HLX HB2 HX2 HZ2 HIm HP0
      go_wp2_with fail
      refine (eq_breaker r _).mono ?_
      rintro e w7 ⟨rfl, hb⟩
      have hb7 := hb3.trans (hb.mono hb3.size)
      clear hb hb3 d0 d1 d2 d3 d4 e0 e1 e2 e3 e4
      go_wp2
      go_ret
      exact ⟨rfl, hb7⟩
end Go.Proofs.Yteoibcnbngamiaa
