/-
  The program's sagas behind a pointer: the next move, done or given up.
-/
import Derived.Test.YtmpedadjikmnhaaSgQ
namespace Go.Proofs.Ytmpedadjikmnhaa
open Go.RowKit M
open Clk (upd upd_same upd_other)
open Go.Sort (grow)
set_option maxRecDepth 20000 in
set_option maxHeartbeats 4000000 in
theorem do_next (g n : Nat) (h : Nat → Value) (t : TypeId) (gl c cp B hi : Nat) (v1 : Value) (s : Sg) (w : World) (H : SA w g n h t gl c cp B hi v1 s) (hg : GoodS s) (hc : canD s) :
    Calls Try.prog 59 #[.pointer (some ⟨g, 0, none⟩)] w fun e w' => ((fit s.fa (s.fm s.dn.toNat) ∧ e = .returned (.tuple #[]) ∧ SA w' g n (upd h 2 (.int .i64 (s.dn + 1))) t gl c cp B hi v1 (doS s)) ∨ (¬ fit s.fa (s.fm s.dn.toNat) ∧ Gv e ∧ SA w' g n (upd h 3 (.bool true)) t gl c cp B hi v1 (failS s))) ∧ Tw g gl w w' := by
  obtain ⟨d, hd, hdn⟩ : ∃ d : Nat, s.dn = (d : Int) ∧ d < s.nm := ⟨s.dn.toNat, by have := hg.dn0; omega, by have := hg.dn0; have := hc.2; omega⟩
  have hm := hg.mv d hdn
  have hn20 := hg.nm
  have hna := hg.na8
  obtain ⟨a1, c1, e1, hr⟩ := H.mov.moves.row
  subst e1
  obtain ⟨bb, off, rfl, hbb, hrow⟩ := hr (by omega)
  obtain ⟨r0, r1, r2⟩ := hrow d hdn
  obtain ⟨⟨c0, c1', c2, c3⟩, -⟩ := H.sb.cells
  rw [hd] at c2
  have hdt : s.dn.toNat = d := by omega
  rw [hdt]
  have HG := hide hg
  have HS := hide H
  have hlt := H.sb.blk.lt
  have hi0 : (0 : Int) ≤ (d : Int) := by omega
  have hi1 : (d : Int) < (s.nm : Int) := by omega
  have HD := hide hd
  have HDN := hide hdn
  have HM := hide hm
  generalize hmm : s.fm d = m at *
  have HMM := hide hmm
  have hl1 : g ≠ w.heap.size := by omega
  have hl2 : bb ≠ w.heap.size := by omega
  clear hrow hr hg H hc hm hmm hd hdn hdt
  go_enter Try.func59, Try.ntmps59
  go_wp2_with fail
  go_region
  have hbA : Below w.heap.size w (w.alloc (.cells #[.int .i64 m.f, .int .i64 m.t, .int .i64 m.m] 55)).drew := ((Below.refl w.heap.size w).alloc (Nat.le_refl _) (.cells #[.int .i64 m.f, .int .i64 m.t, .int .i64 m.m] 55)).drew
  have hx := (Blk.fresh w #[.int .i64 m.f, .int .i64 m.t, .int .i64 m.m] 3 (fun q => if q = 0 then .int .i64 m.f else if q = 1 then .int .i64 m.t else .int .i64 m.m) 55 rfl).drew
  have hS := HS.out.down hbA
  generalize (w.alloc (.cells #[.int .i64 m.f, .int .i64 m.t, .int .i64 m.m] 55)).drew = W at *
  clear c0 c1' c2 c3 r0 r1 r2
  have x0 := cell_regrown (show W.cell? ⟨w.heap.size, 0, none⟩ = some (.int .i64 m.f) from hx.cell (show 0 < 3 by omega))
  have x1 := cell_regrown (show W.cell? ⟨w.heap.size, 1, none⟩ = some (.int .i64 m.t) from hx.cell (show 1 < 3 by omega))
  have x2 := cell_regrown (show W.cell? ⟨w.heap.size, 2, none⟩ = some (.int .i64 m.m) from hx.cell (show 2 < 3 by omega))
  have x3 := cell_regrown hS.sb.cells.1.1
  obtain ⟨b1, hb1⟩ : ∃ x, decide (fit s.fa m) = x := ⟨_, rfl⟩
  have HE := hide (show ∀ dd os, Calls Try.prog 67 #[.agg #[.int .i64 m.f, .int .i64 m.t, .int .i64 m.m], .slice (some ⟨gl, 0, none⟩) s.na cp] (grow (redrawn W dd) os) fun e w'' => e = .returned (.bool b1) ∧ ∃ p : Regrown, w'' = grow (redrawn W p.d) p.os from fun dd os => Calls.regrown_of (fits_is m _ s.na s.fa b1 _ HM.out (((hS.own.ints).cap cp).below (below_regrown W dd os)) HG.out.acc hna hb1))
  have HB1 := hide hb1
  have HX := hide hx
  have HSW := hide hS
  have HBA := hide hbA
  clear hx hS hbA hb1 HS
  go_wp2_with fail
  refine wp_region_quiet_below (by kernel_rfl) (by kernel_rfl) ?_
  repeat (go_big_quiet_step (exact HE.out _ _))
  refine wpQuiet_nil ?_
  rintro _ ⟨⟨dq, osq⟩, rfl⟩
  have hbx := below_regrown W dq osq
  generalize grow (redrawn W dq) osq = X at *
  have hS := HSW.out.down hbx
  have hx := HX.out.down hbx
  have HBX := hide (HBA.out.trans (hbx.mono HBA.out.size))
  clear x0 x1 x2 x3 HE HSW HX HBA hbx
  cases b1 with
  | false =>
    have HNF := hide (of_decide_eq_false HB1.out)
    have HC := hide (give_up g n h t gl c cp B hi _ s X hS)
    clear hS hx HB1
    go_wp2_with fail
    refine HC.out.mono ?_
    rintro e w' ⟨⟨v, rfl⟩, hS2, hK⟩
    have HG2 := hide (show SA w' g n (upd h 3 (.bool true)) t gl c cp B hi (.slice (some ⟨bb, off, none⟩) s.nm c1) (failS s) ∧ Tw g gl w w' from ⟨hS2, (Kept.of_down HBX.out).trans hK⟩)
    clear hS2 hK HC
    go_wp2
    exact ⟨rfl, .inr ⟨HNF.out, ⟨_, rfl⟩, HG2.out.1⟩, HG2.out.2⟩
  | true =>
    have HF := hide (of_decide_eq_true HB1.out)
    obtain ⟨⟨y0, -, -, -⟩, -⟩ := hS.sb.cells
    have z0 : X.cell? ⟨w.heap.size, 0, none⟩ = some (.int .i64 m.f) := hx.cell (show 0 < 3 by omega)
    have z1 : X.cell? ⟨w.heap.size, 1, none⟩ = some (.int .i64 m.t) := hx.cell (show 1 < 3 by omega)
    have z2 : X.cell? ⟨w.heap.size, 2, none⟩ = some (.int .i64 m.m) := hx.cell (show 2 < 3 by omega)
    have HC := hide (show Calls Try.prog 68 #[.agg #[.int .i64 m.f, .int .i64 m.t, .int .i64 m.m], .slice (some ⟨gl, 0, none⟩) s.na cp] X.drew fun e w' => e = .returned (.tuple #[]) ∧ SA w' g n h t gl c cp B hi (.slice (some ⟨bb, off, none⟩) s.nm c1) { s with fa := shf s.fa m } ∧ Tw g gl w w' from by
      have hby : Below X.heap.size X X.drew := (Below.refl _ _).drew
      refine (shift_is m gl s.na cp c s.fa _ HM.out (hS.down hby).own (fun i hi => by have := HG.out.acc i hi; omega)).mono ?_
      rintro e w' ⟨rfl, hO, hK⟩
      exact ⟨rfl, (hS.down hby).turned hK hO, ((Kept.of_down HBX.out).trans (Kept.of_down hby)).trans hK.two⟩)
    clear hS hx HB1
    go_wp2_with fail
    go_region_with (go_at_call 68; refine Calls.mono HC.out ?_; rintro e w' ⟨rfl, hS2, hK2⟩)
    all_goals
      obtain ⟨⟨c0, c1, c2, c3⟩, t0, t1, t2, t3⟩ := hS2.sb.cells
      have HG2 := hide (And.intro (hS2.setDone (s.dn + 1)) (hK2.set (.inl rfl) 2 (.int .i64 (s.dn + 1))))
      have hdb : s.dn ≤ 20 := by have := HD.out; omega
      have hdb0 : 0 ≤ s.dn := by have := HD.out; omega
      have HDo := hide (show doS s = { s with fa := shf s.fa m, dn := s.dn + 1 } by unfold doS; rw [show s.dn.toNat = d by have := HD.out; omega, HMM.out])
      clear hS2 hK2 HC y0 z0 z1 z2
      go_wp2
      go_end0
      exact ⟨.inl ⟨HF.out, rfl, by rw [HDo.out]; exact HG2.out.1⟩, HG2.out.2⟩
end Go.Proofs.Ytmpedadjikmnhaa
