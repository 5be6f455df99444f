/-
  A run of the program's: one step of it, and what is deferred.
-/
import Derived.Test.YtmpedadjikmnhaaSgT
import Derived.Deep.RegionWith
namespace Go.Proofs.Ytmpedadjikmnhaa
open Go.RowKit M
open Clk (upd upd_same upd_other)
open Go.Sort (grow)
namespace M
/-- A run: a saga, the number fail, how many steps. -/
structure RA (w : World) (g : Nat) (h : Nat → Value) (gl c cp B hi : Nat) (v1 : Value) (s : Sg) (fail : Int) (n : Nat) : Prop where
  sa : SA w g 6 h 74 gl c cp B hi v1 s
  h4 : h 4 = .int .i64 fail
  h5 : h 5 = .int .i64 (n : Int)
theorem RA.down {w w' : World} {g : Nat} {h : Nat → Value} {gl c cp B hi : Nat} {v1 : Value} {s : Sg} {fail : Int} {n : Nat} (H : RA w g h gl c cp B hi v1 s fail n) (hb : Below w.heap.size w w') : RA w' g h gl c cp B hi v1 s fail n := ⟨H.sa.down hb, H.h4, H.h5⟩
theorem RA.c4 {w : World} {g : Nat} {h : Nat → Value} {gl c cp B hi : Nat} {v1 : Value} {s : Sg} {fail : Int} {n : Nat} (H : RA w g h gl c cp B hi v1 s fail n) : w.cell? ⟨g, 4, none⟩ = some (.int .i64 fail) ∧ w.cell? ⟨g, 5, none⟩ = some (.int .i64 (n : Int)) ∧ w.frozen? ⟨g, 5, none⟩ = false := by
  refine ⟨?_, ?_, H.sa.sb.blk.thaw 5⟩
  · rw [← H.h4]; exact H.sa.sb.blk.cell (by omega)
  · rw [← H.h5]; exact H.sa.sb.blk.cell (by omega)
theorem RA.inc {w : World} {g : Nat} {h : Nat → Value} {gl c cp B hi : Nat} {v1 : Value} {s : Sg} {fail : Int} {n : Nat} (H : RA w g h gl c cp B hi v1 s fail n) : RA (w.setCell ⟨g, 5, none⟩ (.int .i64 ((n : Int) + 1))) g (upd h 5 (.int .i64 ((n : Int) + 1))) gl c cp B hi v1 s fail (n + 1) :=
  ⟨⟨⟨H.sa.sb.blk.set _ _, H.sa.sb.n4, by rw [upd_other _ _ _ _ (by decide)]; exact H.sa.sb.h0, by rw [upd_other _ _ _ _ (by decide)]; exact H.sa.sb.h1, by rw [upd_other _ _ _ _ (by decide)]; exact H.sa.sb.h2, by rw [upd_other _ _ _ _ (by decide)]; exact H.sa.sb.h3⟩, H.sa.ti, H.sa.tm, H.sa.own.set_other H.sa.ne _ _, H.sa.mov.set H.sa.sb.blk H.sa.tm _ _⟩, by rw [upd_other _ _ _ _ (by decide)]; exact H.h4, by rw [upd_same]; rfl⟩
theorem RA.sub {w w' : World} {g : Nat} {h : Nat → Value} {gl c cp B hi : Nat} {v1 : Value} {s s' : Sg} {fail : Int} {n : Nat} (H : RA w g h gl c cp B hi v1 s fail n) {i : Nat} {v : Value} (hi4 : i < 4) (hS : SA w' g 6 (upd h i v) 74 gl c cp B hi v1 s') : RA w' g (upd h i v) gl c cp B hi v1 s' fail n :=
  ⟨hS, by rw [upd_other _ _ _ _ (by omega)]; exact H.h4, by rw [upd_other _ _ _ _ (by omega)]; exact H.h5⟩
/-- What one step of a run leaves. -/
def RunD (g gl c cp B hi : Nat) (v1 : Value) (s : Sg) (fail : Int) (n : Nat) (e : Ending) (w' : World) : Prop :=
  (((n : Int) ≠ fail ∧ fit s.fa (s.fm s.dn.toNat) ∧ e = .returned (.tuple #[]) ∧ ∃ h', RA w' g h' gl c cp B hi v1 (doS s) fail (n + 1)) ∨ (((n : Int) = fail ∨ ¬ fit s.fa (s.fm s.dn.toNat)) ∧ Gv e ∧ ∃ h', RA w' g h' gl c cp B hi v1 (failS s) fail (n + 1)))
end M
set_option maxRecDepth 20000 in
set_option maxHeartbeats 2000000 in
theorem run_do (g : Nat) (h : Nat → Value) (gl c cp B hi : Nat) (v1 : Value) (s : Sg) (fail : Int) (n : Nat) (w : World) (H : RA w g h gl c cp B hi v1 s fail n) (hg : GoodS s) (hc : canD s) (hn : n ≤ 100) :
    Calls Try.prog 72 #[.pointer (some ⟨g, 0, none⟩)] w fun e w' => RunD g gl c cp B hi v1 s fail n e w' ∧ Tw g gl w w' := by
  obtain ⟨c4, c5, z5⟩ := H.c4
  have H2 := H.inc
  have hK := (Kept.refl (fun k => k = g ∨ k = gl) w).set (.inl rfl) 5 (.int .i64 ((n : Int) + 1))
  obtain ⟨W, hW⟩ : ∃ W, w.setCell ⟨g, 5, none⟩ (.int .i64 ((n : Int) + 1)) = W := ⟨_, rfl⟩
  rw [hW] at H2 hK
  have HW := hide hW
  have HK := hide hK
  have HGu := hide (give_up g 6 _ 74 gl c cp B hi v1 s W H2.sa)
  have HDo := hide (do_next g 6 _ 74 gl c cp B hi v1 s W H2.sa hg hc)
  have HR := hide H2
  clear hW hK H2 H hg hc
  by_cases hf : (n : Int) = fail
  · have hbe : ((n : Int) == fail) = true := by simp [hf]
    have HF := hide hf
    clear hf HDo
    go_enter Try.func72, Try.ntmps72
    go_wp2_with fail
    rw [HW.out]
    refine HGu.out.mono ?_
    rintro e w' ⟨⟨v, rfl⟩, hS, hK2⟩
    have HE := hide (show RunD g gl c cp B hi v1 s fail n (.panicked [{ v := v, recovered := false }]) w' ∧ Tw g gl w w' from ⟨.inr ⟨.inl HF.out, ⟨_, rfl⟩, _, HR.out.sub (by omega) hS⟩, HK.out.trans hK2⟩)
    clear hS hK2 HGu
    go_wp2
    exact ⟨rfl, HE.out⟩
  · have hbe : ((n : Int) == fail) = false := by rw [beq_eq_false_iff_ne]; exact hf
    have HF := hide hf
    clear hf HGu
    go_enter Try.func72, Try.ntmps72
    go_wp2_with fail
    rw [HW.out]
    refine HDo.out.mono ?_
    rintro e w' ⟨⟨hft, rfl, hS⟩ | ⟨hft, ⟨v, rfl⟩, hS⟩, hK2⟩
    · have HE := hide (show RunD g gl c cp B hi v1 s fail n (.returned (.tuple #[])) w' ∧ Tw g gl w w' from ⟨.inl ⟨HF.out, hft, rfl, _, HR.out.sub (by omega) hS⟩, HK.out.trans hK2⟩)
      clear hS hK2 HDo hft
      go_wp2
      go_end0
      exact HE.out
    · have HE := hide (show RunD g gl c cp B hi v1 s fail n (.panicked [{ v := v, recovered := false }]) w' ∧ Tw g gl w w' from ⟨.inr ⟨.inr hft, ⟨_, rfl⟩, _, HR.out.sub (by omega) hS⟩, HK.out.trans hK2⟩)
      clear hS hK2 HDo hft
      go_wp2
      exact ⟨rfl, HE.out⟩
set_option maxRecDepth 20000 in
set_option maxHeartbeats 2000000 in
theorem run_idle (g : Nat) (h : Nat → Value) (gl c cp B hi : Nat) (v1 : Value) (s : Sg) (fail : Int) (n : Nat) (m : Mv) (u : FrameMode) (w : World) (H : RA w g h gl c cp B hi v1 s fail n) (hun : s.un = false) :
    CallsD Try.prog 71 #[.pointer (some ⟨g, 0, none⟩), mvv m] u w fun e u' w' => u' = u ∧ (e = .returned (.tuple #[]) ∧ Below w.heap.size w w') := by
  have hbA := (Below.refl w.heap.size w).alloc (Nat.le_refl _) (.cells #[.int .i64 m.f, .int .i64 m.t, .int .i64 m.m] 55)
  obtain ⟨⟨c0, c1, c2, c3⟩, -⟩ := H.sa.sb.cells
  have hlt := H.sa.sb.blk.lt
  have hne : g ≠ w.heap.size := by omega
  rw [hun] at c3
  clear H hun
  go_enter_d Try.func71, Try.ntmps71
  go_wp2
  go_end0
  exact ⟨rfl, hbA⟩
set_option maxRecDepth 20000 in
set_option maxHeartbeats 4000000 in
theorem run_undo (g : Nat) (h : Nat → Value) (gl c cp B hi : Nat) (v1 : Value) (s : Sg) (fail : Int) (n : Nat) (m : Mv) (u : FrameMode) (w : World) (H : RA w g h gl c cp B hi v1 s fail n) (hun : s.un = true) (hm : GM s.na m) (ha : Acc s.na s.fa) (hd : 0 < s.dn ∧ s.dn ≤ 20) (hn : n ≤ 200) :
    CallsD Try.prog 71 #[.pointer (some ⟨g, 0, none⟩), mvv m] u w fun e u' w' => u' = u ∧ (e = .returned (.tuple #[]) ∧ (∃ h', RA w' g h' gl c cp B hi v1 { s with fa := shf s.fa (bk m), dn := s.dn - 1 } fail (n + 1)) ∧ Tw g gl w w') := by
  have hbA := (Below.refl w.heap.size w).alloc (Nat.le_refl _) (.cells #[.int .i64 m.f, .int .i64 m.t, .int .i64 m.m] 55)
  obtain ⟨⟨c0, c1, c2, c3⟩, -⟩ := H.sa.sb.cells
  obtain ⟨c4, c5, z5⟩ := H.c4
  have hlt := H.sa.sb.blk.lt
  have hne : g ≠ w.heap.size := by omega
  have hne2 : w.heap.size ≠ g := by omega
  rw [hun] at c3
  have hdn := fun (X : World) => (Below.refl X.heap.size X).alloc (Nat.le_refl _) (.cells #[.int .i64 m.f, .int .i64 m.t, .int .i64 m.m] 55)
  obtain ⟨W, hW⟩ : ∃ W, (w.setCell ⟨g, 5, none⟩ (.int .i64 ((n : Int) + 1))).alloc (.cells #[.int .i64 m.f, .int .i64 m.t, .int .i64 m.m] 55) = W := ⟨_, rfl⟩
  have hxW : Blk W w.heap.size 3 (fun q => if q = 0 then .int .i64 m.f else if q = 1 then .int .i64 m.t else .int .i64 m.m) 55 := by
    rw [← hW]
    have := Blk.fresh (w.setCell ⟨g, 5, none⟩ (.int .i64 ((n : Int) + 1))) #[.int .i64 m.f, .int .i64 m.t, .int .i64 m.m] 3 (fun q => if q = 0 then .int .i64 m.f else if q = 1 then .int .i64 m.t else .int .i64 m.m) 55 rfl
    rw [World.size_setCell] at this; exact this
  have hR : RA W g (upd h 5 (.int .i64 ((n : Int) + 1))) gl c cp B hi v1 s fail (n + 1) := by rw [← hW]; exact H.inc.down (hdn _)
  have hK : Tw g gl w W := by rw [← hW]; exact ((Kept.refl (fun k => k = g ∨ k = gl) w).set (.inl rfl) 5 _).trans (Kept.of_down (hdn _))
  have HC := hide (show Calls Try.prog 57 #[.pointer (some ⟨g, 0, none⟩), .agg #[.int .i64 m.f, .int .i64 m.t, .int .i64 m.m]] W.drew fun e w' => e = .returned (.tuple #[]) ∧ (∃ h', RA w' g h' gl c cp B hi v1 { s with fa := shf s.fa (bk m), dn := s.dn - 1 } fail (n + 1)) ∧ Tw g gl w w' from by
    have hby : Below W.heap.size W W.drew := (Below.refl _ _).drew
    refine (saga_undo g 6 _ 74 gl c cp B hi v1 s m _ (hR.down hby).sa hm ha hd).mono ?_
    rintro e w' ⟨rfl, hS, hK2⟩
    exact ⟨rfl, ⟨_, (hR.down hby).sub (by omega) hS⟩, (hK.trans (Kept.of_down hby)).trans hK2⟩)
  have HW := hide hW
  have x0 : W.cell? ⟨w.heap.size, 0, none⟩ = some (.int .i64 m.f) := hxW.cell (show 0 < 3 by omega)
  have x1 : W.cell? ⟨w.heap.size, 1, none⟩ = some (.int .i64 m.t) := hxW.cell (show 1 < 3 by omega)
  have x2 : W.cell? ⟨w.heap.size, 2, none⟩ = some (.int .i64 m.m) := hxW.cell (show 2 < 3 by omega)
  clear hR hK H hW hxW hdn hun
  go_enter_d Try.func71, Try.ntmps71
  go_upto_region 3 with fail
  rw [HW.out]
  go_region_with (go_at_call 57; refine Calls.mono HC.out ?_; rintro e w' ⟨rfl, hS2, hK2⟩)
  all_goals
    have HE := hide (And.intro hS2 hK2)
    clear hS2 hK2 HC
    go_wp2
    go_end0
    exact ⟨rfl, HE.out⟩
end Go.Proofs.Ytmpedadjikmnhaa
