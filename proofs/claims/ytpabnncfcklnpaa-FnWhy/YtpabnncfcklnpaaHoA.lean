/-
  The program's sets of facts, arrays of forty bools: made of a list, asked for a list, stepped, told as a list, held against each other.
-/
import Derived.Test.YtpabnncfcklnpaaHoG
import Derived.Laws.Rows
import Derived.Laws.Tables
namespace Go.Proofs.Ytpabnncfcklnpaa
open Go.RowKit M
open Clk (upd upd_same upd_other)
open Ho
namespace M
/-- A set of facts as one value. -/
abbrev fs (s : Nat → Bool) : Value := .agg (cf 40 (bv s))
theorem all_one (S : Nat → Bool) : (cf 40 (bv S)).all (fun x => x.oneCell') = true := by
  rw [Array.all_eq_true_iff_forall_mem]
  intro x hx
  unfold cf at hx
  simp only [List.mem_toArray, List.mem_map] at hx
  obtain ⟨i, _, rfl⟩ := hx
  rfl
theorem Blk.setRow {w : World} {g n : Nat} {f f' : Nat → Value} {t : TypeId} (h : Blk w g n f t) (cs : Array Value) (hc : cs = cf n f') : Blk (w.setRow g cs) g n f' t := by
  subst hc; exact setRow_heap w g _ _ t _ h
theorem Blk.setRow_other {w : World} {g n : Nat} {f : Nat → Value} {t : TypeId} (h : Blk w g n f t) {g' : Nat} (hne : g ≠ g') (cs : Array Value) : Blk (w.setRow g' cs) g n f t := by
  unfold Blk; rw [Go.setRow_other _ _ _ _ hne]; exact h
theorem below_setRow {B : Nat} {a w : World} (h : Below B a w) {g : Nat} (hg : B ≤ g) (cs : Array Value) : Below B a (w.setRow g cs) :=
  ⟨h.os, h.tape, h.output, by rw [size_setRow]; exact h.size, fun k hk => (Go.setRow_other _ _ _ _ (show k ≠ g by omega)).trans (h.block k hk)⟩
theorem has_no {S : Nat → Bool} {t : Tk} {j : Nat} (hj : j < t.nn) (h : S (nf t.fn j) = false) : has S (rl t) = false := by
  rw [← Bool.not_eq_true, has_iff]
  intro H
  have := H j hj
  unfold rl at this
  rw [h] at this; cases this
end M
theorem info_fs : (Try.prog.info? 63).map (·.size) = some 40 := by kernel_rfl
set_option maxHeartbeats 1000000 in
theorem has_all (S : Nat → Bool) (v : Value) (t : Tk) (b : Bool) (w : World) (hv : IntsOf w v t.nn t.fn) (hr : Ris t.nn t.fn) (hb : has S (rl t) = b) :
    Calls Try.prog 63 #[fs S, v] w fun e w' => e = .returned (.bool b) ∧ Below w.heap.size w w' := by
  obtain ⟨a, cap, rfl, hrow⟩ := hv
  have HR := hide hrow
  have HB := hide hb
  have HG := hide hr
  have hn := hr.len
  clear hrow hb hr
  go_enter Try.func63, Try.ntmps63
  go_wp2
  have h0 := Blk.new w 40 (bv S) 63
  have hb0 := (Below.refl w.heap.size w).alloc (Nat.le_refl _) (.cells (cf 40 (bv S)) 63)
  generalize w.alloc (.cells (cf 40 (bv S)) 63) = w1 at *
  have H0 := hide h0
  clear h0
  go_loop [9] (fun i => ∃ j : Nat, j ≤ t.nn ∧ i = .int .i64 j ∧ Hid (∀ q, q < j → S (nf t.fn q) = true)) (fun i => t.nn - (intOf i).toNat)
  case atStart => exact ⟨0, Nat.zero_le _, rfl, hide (fun j h => absurd h (by omega))⟩
  case round =>
    obtain ⟨j, hj, rfl, HP⟩ := hrel
    by_cases hlt : j < t.nn
    · obtain ⟨bb, off, rfl, hbb, hrow⟩ := HR.out (by omega)
      have c0 := (hb0.cell (p := ⟨bb, off + j, none⟩) hbb).trans (hrow j hlt)
      rw [HG.out.nf_eq hlt] at c0
      have c1 := H0.out.cell_bv (HG.out.nf_lt hlt)
      have hx := HG.out.nf_lt hlt
      have HX := hide (show (S (nf t.fn j) = false → b = false) ∧ (S (nf t.fn j) = true → ∀ q, q < j + 1 → S (nf t.fn q) = true) from ⟨fun h => by rw [← HB.out]; exact has_no hlt h, fun h q hq => by
        rcases (show q < j ∨ q = j by omega) with h1 | h1
        · exact HP.out q h1
        · subst h1; exact h⟩)
      generalize nf t.fn j = x at *
      have hx0 : (0 : Int) ≤ (x : Int) := by omega
      have hx1 : (x : Int) < 40 := by omega
      clear HR HB HP hrow HG H0
      rcases hs : S x with _ | _
      · rw [hs] at c1
        have eb := HX.out.1 hs
        subst eb
        clear HX
        go_wp2
        go_ret
        exact ⟨rfl, hb0⟩
      · rw [hs] at c1
        have HP2 := hide (HX.out.2 hs)
        clear HX
        go_wp2
        go_round
        case rel => exact ⟨j + 1, by omega, by go_num, HP2⟩
        case measure => simp [intOf]; omega
    · obtain rfl : j = t.nn := by omega
      have eb : b = true := by rw [← HB.out, has_iff]; exact HP.out
      subst eb
      clear HR HB HP HG H0
      go_wp2
      go_ret
      exact ⟨rfl, hb0⟩
set_option maxHeartbeats 1000000 in
theorem fact_set_of (v : Value) (n : Nat) (f : Nat → Int) (w : World) (hv : IntsOf w v n f) (hr : Ris n f) :
    Calls Try.prog 52 #[v] w fun e w' => e = .returned (fs (ofl (nf f) n)) ∧ Below w.heap.size w w' := by
  obtain ⟨a, cap, rfl, hrow⟩ := hv
  have HR := hide hrow
  have HG := hide hr
  have hn := hr.len
  clear hrow hr
  go_enter Try.func52, Try.ntmps52
  go_wp2
  generalize hW : (w.alloc _).alloc _ = w2
  have hz : Blk w2 w.heap.size 40 (bv fun _ => false) 63 ∧ Blk w2 (w.heap.size + 1) 40 (bv fun _ => false) 63 ∧ Below w.heap.size w w2 := by
    subst hW
    refine ⟨(Blk.fresh w _ 40 (bv fun _ => false) 63 rfl).alloc _, ?_, ((Below.refl _ _).alloc (Nat.le_refl _) _).alloc (by simp) _⟩
    have := Blk.fresh (w.alloc (.cells (cf 40 (bv fun _ => false)) 63)) (cf 40 (bv fun _ => false)) 40 (bv fun _ => false) 63 rfl
    rw [World.size_alloc] at this; exact this
  clear hW
  have HZ := hide hz
  clear hz
  go_loopw [8] (fun i wr => ∃ j : Nat, j ≤ n ∧ i = .int .i64 j ∧ Hid (Blk wr w.heap.size 40 (bv fun _ => false) 63 ∧ Blk wr (w.heap.size + 1) 40 (bv (ofl (nf f) j)) 63 ∧ Below w.heap.size w wr)) (fun i _ => n - (intOf i).toNat)
  case atStart => exact ⟨0, Nat.zero_le _, rfl, HZ⟩
  case round =>
    rename World => wo
    obtain ⟨j, hj, rfl, HP⟩ := hrel
    by_cases hlt : j < n
    · obtain ⟨bb, off, rfl, hbb, hrow⟩ := HR.out (by omega)
      have c0 := (HP.out.2.2.cell (p := ⟨bb, off + j, none⟩) hbb).trans (hrow j hlt)
      rw [HG.out.nf_eq hlt] at c0
      have hx := HG.out.nf_lt hlt
      have c1 := HP.out.2.1.cell_bv hx
      have t1 := HP.out.2.1.thaw (nf f j)
      have HP2 := hide (show Blk (wo.setCell ⟨w.heap.size + 1, nf f j, none⟩ (.bool true)) w.heap.size 40 (bv fun _ => false) 63 ∧ Blk (wo.setCell ⟨w.heap.size + 1, nf f j, none⟩ (.bool true)) (w.heap.size + 1) 40 (bv (ofl (nf f) (j + 1))) 63 ∧ Below w.heap.size w (wo.setCell ⟨w.heap.size + 1, nf f j, none⟩ (.bool true)) from
        ⟨HP.out.1.set_other (by omega) _ _, HP.out.2.1.set_bv _, HP.out.2.2.setCell (by simp) _⟩)
      generalize nf f j = x at *
      have hx0 : (0 : Int) ≤ (x : Int) := by omega
      have hx1 : (x : Int) < 40 := by omega
      clear HR HP hrow HG HZ
      go_wp2
      exact ⟨⟨j + 1, by omega, by go_num, HP2⟩, by simp [intOf]; omega⟩
    · obtain rfl : j = n := by omega
      have h1 := HP.out.1
      have h2 := HP.out.2.1
      have hb := HP.out.2.2
      clear HR HG HZ HP
      go_wp2_with (first | refine wpList_load_row rfl 63 _ rfl (w.heap.size + 1) rfl 63 _ (0, 0) _ h2 Try.underlying63 rfl info_fs ?_ | refine wpList_store_row rfl 63 _ _ rfl w.heap.size _ rfl rfl 63 _ h1 (by rw [cf_size]; exact info_fs) (by rw [cf_size, cf_size]) ?_ ?_)
      · exact all_one _
      · exact bodyPost_ret (v := fs (ofl (nf f) j)) (results_cell_row Try.results52 _ _ w.heap.size 63 _ (0, 0) _ rfl (h1.setRow _ rfl) Try.underlying63 rfl (by rw [cf_size]; exact info_fs)) rfl ⟨rfl, below_setRow hb (Nat.le_refl _) _⟩
end Go.Proofs.Ytpabnncfcklnpaa
