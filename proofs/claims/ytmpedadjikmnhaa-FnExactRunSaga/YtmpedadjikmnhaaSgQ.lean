/-
  The program's sagas behind a pointer: a move that is undone, the next one that is done or given up.
-/
import Derived.Test.YtmpedadjikmnhaaSgP
namespace Go.Proofs.Ytmpedadjikmnhaa
open Go.RowKit M
open Clk (upd upd_same upd_other)
open Go.Sort (grow)
attribute [local go_sem] Oper.semAt_some
namespace M
/-- What a panic that gives up leaves. -/
def Gv (e : Ending) : Prop := ∃ v, e = .panicked [{ v := v, recovered := false }]
end M
set_option maxRecDepth 20000 in
set_option maxHeartbeats 2000000 in
theorem give_up (g n : Nat) (h : Nat → Value) (t : TypeId) (gl c cp B hi : Nat) (v1 : Value) (s : Sg) (w : World) (H : SA w g n h t gl c cp B hi v1 s) :
    Calls Try.prog 70 #[.pointer (some ⟨g, 0, none⟩)] w fun e w' => Gv e ∧ SA w' g n (upd h 3 (.bool true)) t gl c cp B hi v1 (failS s) ∧ Tw g gl w w' := by
  obtain ⟨⟨c0, c1, c2, c3⟩, t0, t1, t2, t3⟩ := H.sb.cells
  have HF := hide (And.intro (H.setUn true) ((Kept.refl (fun k => k = g ∨ k = gl) w).set (.inl rfl) 3 (.bool true)))
  clear H
  go_enter Try.func70, Try.ntmps70
  go_wp2
  exact ⟨rfl, ⟨_, rfl⟩, HF.out.1, HF.out.2⟩
set_option maxRecDepth 20000 in
set_option maxHeartbeats 2000000 in
theorem saga_undo (g n : Nat) (h : Nat → Value) (t : TypeId) (gl c cp B hi : Nat) (v1 : Value) (s : Sg) (m : Mv) (w : World) (H : SA w g n h t gl c cp B hi v1 s) (hm : GM s.na m) (ha : Acc s.na s.fa) (hd : 0 < s.dn ∧ s.dn ≤ 20) :
    Calls Try.prog 57 #[.pointer (some ⟨g, 0, none⟩), mvv m] w fun e w' => e = .returned (.tuple #[]) ∧ SA w' g n (upd h 2 (.int .i64 (s.dn - 1))) t gl c cp B hi v1 { s with fa := shf s.fa (bk m), dn := s.dn - 1 } ∧ Tw g gl w w' := by
  have hbA := (Below.refl w.heap.size w).alloc (Nat.le_refl _) (.cells #[.int .i64 m.f, .int .i64 m.t, .int .i64 m.m] 55)
  have hx := Blk.fresh w #[.int .i64 m.f, .int .i64 m.t, .int .i64 m.m] 3 (fun q => if q = 0 then .int .i64 m.f else if q = 1 then .int .i64 m.t else .int .i64 m.m) 55 rfl
  obtain ⟨W, hW⟩ : ∃ W, w.alloc (.cells #[.int .i64 m.f, .int .i64 m.t, .int .i64 m.m] 55) = W := ⟨_, rfl⟩
  rw [hW] at hbA hx
  have hS := H.down hbA
  have x0 := cell_regrown (show W.cell? ⟨w.heap.size, 0, none⟩ = some (.int .i64 m.f) from hx.cell (show 0 < 3 by omega))
  have x1 := cell_regrown (show W.cell? ⟨w.heap.size, 1, none⟩ = some (.int .i64 m.t) from hx.cell (show 1 < 3 by omega))
  have x2 := cell_regrown (show W.cell? ⟨w.heap.size, 2, none⟩ = some (.int .i64 m.m) from hx.cell (show 2 < 3 by omega))
  have x3 := cell_regrown hS.sb.cells.1.1
  have HE1 := hide (show ∀ dd os, Calls Try.prog 63 #[.agg #[.int .i64 m.f, .int .i64 m.t, .int .i64 m.m]] (grow (redrawn W dd) os) fun e w'' => e = .returned (mvv (bk m)) ∧ ∃ p : Regrown, w'' = grow (redrawn W p.d) p.os from fun dd os => Calls.regrown_of (back_is m _))
  have HF := hide (show ∀ dd os, Calls Try.prog 68 #[mvv (bk m), .slice (some ⟨gl, 0, none⟩) s.na cp] (grow (redrawn W dd) os) fun e w' => e = .returned (.tuple #[]) ∧ SA w' g n h t gl c cp B hi v1 { s with fa := shf s.fa (bk m) } ∧ Tw g gl w w' from fun dd os => by
    have hby := below_regrown W dd os
    refine (shift_is (bk m) gl s.na cp c s.fa _ hm.back (hS.down hby).own (fun i hi => by have := ha i hi; omega)).mono ?_
    rintro e w' ⟨rfl, hO, hK⟩
    exact ⟨rfl, (hS.down hby).turned hK hO, ((Kept.of_down hbA).trans (Kept.of_down hby)).trans hK.two⟩)
  have HW := hide hW
  clear hx hW H hS
  refine (callsIn_wide (n := 3)).1 ?_
  refine callsIn_of_wp Try.func57 rfl trivial ?_ rfl
  simp only [Try.ntmps57, List.size_toArray, List.length_cons, List.length_nil, Nat.reduceAdd, Nat.reduceSub, Array.replicate_succ, Array.replicate_zero, List.push_toArray, List.append_toArray, List.nil_append, List.cons_append]
  gi_wp2
  rw [HW.out]
  refine region_lastW rfl (by kernel_rfl) (by kernel_rfl) rfl (by kernel_rfl) ?_
  simp only [still, noop, List.dropLast, List.getLast?_cons_cons, List.getLast?_singleton, Option.map_some, Option.toList_some, List.cons_append, List.nil_append, List.getLast_cons_cons, List.getLast_singleton]
  repeat (go_big_quiet_step (exact HE1.out _ _))
  refine wpQuiet_nil ?_
  rintro _ ⟨⟨dq, osq⟩, rfl⟩
  gi_wp2
  refine ⟨trivial, ?_⟩
  refine CallsIn.mono (callsIn_wide.2 (HF.out dq osq)) ?_
  rintro e w' ⟨rfl, hS2, hK2⟩
  obtain ⟨⟨c0, c1, c2, c3⟩, t0, t1, t2, t3⟩ := hS2.sb.cells
  have HG := hide (And.intro (hS2.setDone (s.dn - 1)) (hK2.set (.inl rfl) 2 (.int .i64 (s.dn - 1))))
  clear hS2 hK2 HF HE1 x0 x1 x2 x3 HW hbA
  gi_wp2
  refine bodyPost_end (results_none rfl _ _ _) rfl ?_
  exact ⟨rfl, HG.out⟩
end Go.Proofs.Ytmpedadjikmnhaa
