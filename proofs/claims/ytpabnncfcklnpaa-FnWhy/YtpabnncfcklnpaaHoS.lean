/-
  One step of a set, by the program; a good list taken as a set.
-/
import Derived.Test.YtpabnncfcklnpaaHoL
namespace Go.Proofs.Ytpabnncfcklnpaa
open Go.RowKit M
open Clk (upd upd_same upd_other)
open Ho
namespace M
/-- The set's box, the answer's cell, the set that grows. -/
def SW (w : World) (s u : Nat → Bool) (W : World) : Prop :=
  Blk W w.heap.size 40 (bv s) 63 ∧ Blk W (w.heap.size + 1) 40 (bv fun _ => false) 63 ∧ Blk W (w.heap.size + 2) 40 (bv u) 63 ∧ Below w.heap.size w W
theorem SW.down {w W W' : World} {s u : Nat → Bool} (h : SW w s u W) (hb : Below W.heap.size W W') : SW w s u W' :=
  ⟨h.1.down hb, h.2.1.down hb, h.2.2.1.down hb, h.2.2.2.trans (hb.mono h.2.2.2.size)⟩
theorem SW.set {w W : World} {s u : Nat → Bool} (h : SW w s u W) (x : Nat) : SW w s (upd u x true) (W.setCell ⟨w.heap.size + 2, x, none⟩ (.bool true)) :=
  ⟨h.1.set_other (by omega) _ _, h.2.1.set_other (by omega) _ _, h.2.2.1.set_bv x, h.2.2.2.setCell (by simp) _⟩
end M
set_option maxRecDepth 20000 in
set_option maxHeartbeats 2000000 in
theorem set_step (s : Nat → Bool) (v : Value) (k : Nat) (ts : Nat → Tk) (w : World) (hv : TasksOf w v k ts) (hg : GoodL k ts) :
    Calls Try.prog 51 #[fs s, v] w fun e w' => e = .returned (fs (stp (rls ts) s k)) ∧ Below w.heap.size w w' := by
  obtain ⟨a, cap, rfl, hr⟩ := hv
  have HR := hide hr
  have HG := hide hg
  have hk := hg.1
  clear hr hg
  have h0 := (Blk.new w 40 (bv s) 63).alloc (.cells (cf 40 (bv fun _ => false)) 63)
  have h2 : ∀ (o o' : Obj) (cs : Array Value), (((w.alloc o).alloc o').alloc (.cells cs 63)).heap[w.heap.size + 1 + 1]? = some (.cells cs 63 (0, 0)) := fun o o' cs => by
    have := heap_alloc_new ((w.alloc o).alloc o') (.cells cs 63)
    rw [World.size_alloc, World.size_alloc] at this; exact this
  have H2 := hide h2
  clear h2
  go_enter Try.func51, Try.ntmps51
  go_wp2_with (first | refine wpList_load_row rfl 63 _ rfl w.heap.size rfl 63 _ (0, 0) _ h0 Try.underlying63 rfl info_fs ?_ | refine wpList_store_row rfl 63 _ _ rfl (w.heap.size + 1 + 1) _ rfl rfl 63 _ (H2.out _ _ _) (by rw [cf_size]; exact info_fs) (by rw [cf_size]; rfl) (all_one _) ?_)
  generalize hW : (((w.alloc _).alloc _).alloc _).setRow _ _ = w1
  have hz : SW w s s w1 := by
    subst hW
    refine ⟨(((Blk.new w 40 (bv s) 63).alloc _).alloc _).setRow_other (by omega) _, ((?_ : Blk _ _ _ _ _).alloc _).setRow_other (by omega) _, ?_, below_setRow ((((Below.refl _ _).alloc (Nat.le_refl _) _).alloc (by simp) _).alloc (by simp; omega) _) (by omega) _⟩
    · have := Blk.fresh (w.alloc (.cells (cf 40 (bv s)) 63)) (cf 40 (bv fun _ => false)) 40 (bv fun _ => false) 63 rfl
      rw [World.size_alloc] at this; exact this
    · exact Blk.setRow (n := 40) (f := bv fun _ => false) (H2.out _ _ _) _ rfl
  have HZ := hide hz
  clear hz hW H2 h0
  go_wp2
  go_loopw [11] (fun i wr => ∃ j : Nat, j ≤ k ∧ i = .int .i64 j ∧ Hid (SW w s (stp (rls ts) s j) wr)) (fun i _ => k - (intOf i).toNat)
  case atStart => exact ⟨0, Nat.zero_le _, rfl, HZ⟩
  case round =>
    rename World => wo
    obtain ⟨j, hj, rfl, HP⟩ := hrel
    by_cases hlt : j < k
    · obtain ⟨bb, off, rfl, hbb, hrow⟩ := HR.out (by omega)
      obtain ⟨y, q1, q2, i1⟩ := hrow j hlt
      obtain ⟨ay, cy, rfl⟩ := i1.form
      have hbw := HP.out.2.2.2
      have c0 := (hbw.cell (p := ⟨bb, off + j * 2, none⟩) hbb).trans q1
      have c1 := (hbw.cell (p := ⟨bb, off + j * 2 + 1, none⟩) hbb).trans q2
      have hs := hbw.size
      have hgj := HG.out.2 j hlt
      rw [hgj.hd.1] at c0
      have hbA := (Below.refl wo.heap.size wo).alloc (Nat.le_refl _) (.cells #[.int .i64 (((rl (ts j)).hd : Nat) : Int), .slice ay (ts j).nn cy] 48)
      have HA := hide (HP.out.down hbA)
      have I1 := hide (i1.below (HA.out.2.2.2))
      have HRi := hide hgj.2
      have hh := hgj.hd.2
      have hsj : ∀ b, has s (rl (ts j)) = b → stp (rls ts) s (j + 1) = if b then upd (stp (rls ts) s j) (rl (ts j)).hd true else stp (rls ts) s j := fun b hb => by simp only [stp]; rw [hb]
      have h0 := HA.out.1
      have n0 := (Blk.fresh wo #[.int .i64 (((rl (ts j)).hd : Nat) : Int), .slice ay (ts j).nn cy] 2 (p2 (.int .i64 (((rl (ts j)).hd : Nat) : Int)) (.slice ay (ts j).nn cy)) 48 rfl)
      have HN := hide n0
      rcases hb : has s (rl (ts j)) with _ | _
      · have HS := hide (hsj _ hb)
        clear hrow HR q1 q2 i1 HP HG hgj hsj n0 HZ
        go_wp2_with (first | refine wpList_load_row rfl 63 _ rfl w.heap.size rfl 63 _ (0, 0) _ h0 Try.underlying63 rfl info_fs ?_ | fail)
        refine (has_all s _ (ts j) false _ I1.out HRi.out hb).mono ?_
        rintro e w2 ⟨rfl, hb2⟩
        have HA2 := hide (show SW w s (stp (rls ts) s (j + 1)) w2 from by rw [HS.out]; exact HA.out.down hb2)
        go_wp2
        exact ⟨⟨j + 1, by omega, by go_num, HA2⟩, by simp [intOf]; omega⟩
      · have HS := hide (hsj _ hb)
        clear hrow HR q1 q2 i1 HP HG hgj hsj n0 HZ
        go_wp2_with (first | refine wpList_load_row rfl 63 _ rfl w.heap.size rfl 63 _ (0, 0) _ h0 Try.underlying63 rfl info_fs ?_ | fail)
        refine (has_all s _ (ts j) true _ I1.out HRi.out hb).mono ?_
        rintro e w2 ⟨rfl, hb2⟩
        have n0 := ((HN.out.down hb2).pair).1
        have HA2 := hide (show SW w s (stp (rls ts) s (j + 1)) (w2.setCell ⟨w.heap.size + 2, (rl (ts j)).hd, none⟩ (.bool true)) from by rw [HS.out]; exact (HA.out.down hb2).set _)
        have c2 := (HA.out.down hb2).2.2.1.cell_bv hh
        have t2 := (HA.out.down hb2).2.2.1.thaw (rl (ts j)).hd
        have hx := hh
        clear HA HS HN h0 I1 HRi hh
        generalize (rl (ts j)).hd = x at *
        have hx0 : (0 : Int) ≤ (x : Int) := by omega
        have hx1 : (x : Int) < 40 := by omega
        go_wp2
        exact ⟨⟨j + 1, by omega, by go_num, HA2⟩, by simp [intOf]; omega⟩
    · obtain rfl : j = k := by omega
      have h1 := HP.out.2.1
      have h2 := HP.out.2.2.1
      have hb := HP.out.2.2.2
      clear HR HG HZ HP
      go_wp2_with (first | refine wpList_load_row rfl 63 _ rfl (w.heap.size + 2) rfl 63 _ (0, 0) _ h2 Try.underlying63 rfl info_fs ?_ | refine wpList_store_row rfl 63 _ _ rfl (w.heap.size + 1) _ rfl rfl 63 _ h1 (by rw [cf_size]; exact info_fs) (by rw [cf_size, cf_size]) (all_one _) ?_)
      exact bodyPost_ret (v := fs (stp (rls ts) s j)) (results_cell_row Try.results51 _ _ (w.heap.size + 1) 63 _ (0, 0) _ rfl (h1.setRow _ rfl) Try.underlying63 rfl (by rw [cf_size]; exact info_fs)) rfl ⟨rfl, below_setRow hb (by omega) _⟩
end Go.Proofs.Ytpabnncfcklnpaa
