/-
  PlayBreaker in the program's text.
-/
import Derived.Test.YtegbfmdilmbpmaaRtQ
namespace Go.Proofs.Ytegbfmdilmbpmaa
open Go.RowKit M
open Clk (upd upd_same upd_other)
open Go.Sort (grow)
set_option maxHeartbeats 4000000 in
theorem impl_play_no (l c : Int) (v : Value) (n : Nat) (cs : Nat → Cl) (w : World) (hv : CallsOf w v n cs) (hn : n ≤ 1048576) (hno : ¬ (GBd l c ∧ n ≤ 120 ∧ GCs n cs)) :
    Calls Try.prog 35 #[.int .i64 l, .int .i64 c, v] w fun e w' => e = .returned (.tuple #[.agg #[.int .i64 0, .int .i64 0, .int .i64 0, .int .i64 0, .int .i64 0], .slice none 0 0, .bool false]) ∧ Below w.heap.size w w' := by
  obtain ⟨a, cap, hform⟩ := hv.form
  subst hform
  have HV := hide hv
  have HN := hide hno
  obtain ⟨b, hb⟩ : ∃ b, decide (GBd l c) = b := ⟨_, rfl⟩
  obtain ⟨r, hr⟩ : ∃ r, (if b = true then fresh l c else (⟨0, 0, 0, 0, 0⟩ : Br)) = r := ⟨_, rfl⟩
  have HC := hide (fun W => impl_new l c b r W hb hr)
  have HB := hide hb
  have hb0 := (Below.refl w.heap.size w).alloc (Nat.le_refl _) (.cells #[.int .i64 0, .int .i64 0, .int .i64 0, .int .i64 0, .int .i64 0] 37)
  have HA0 := hide (new5 w (.int .i64 0) (.int .i64 0) (.int .i64 0) (.int .i64 0) (.int .i64 0) 37)
  clear hv hno hb hr
  go_enter Try.func35, Try.ntmps35
  go_wp2_with fail
  refine (HC.out _).mono ?_
  rintro e w1 ⟨rfl, hb⟩
  have hb1 := (hb0.trans (hb.mono hb0.size)).alloc (hb0.trans (hb.mono hb0.size)).size (.cells #[.int .i64 r.l, .int .i64 r.c, .int .i64 r.s, .int .i64 r.k, .int .i64 r.o] 37)
  have hA1 := (HA0.out.down hb).alloc (.cells #[.int .i64 r.l, .int .i64 r.c, .int .i64 r.s, .int .i64 r.k, .int .i64 r.o] 37)
  have hlt1 := (HA0.out.down hb).lt
  have hA1' := HA0.out.down hb
  have hb1' := hb0.trans (hb.mono hb0.size)
  clear hb hb0 HA0 HC
  cases b with
  | false =>
    obtain ⟨⟨e0, e1, e2, e3, e4⟩, f0, f1, f2, f3, f4⟩ := hA1'.five
    obtain ⟨WZ, hWZ⟩ : ∃ WZ, ((((w1.setCell ⟨w.heap.size, 0, none⟩ (.int .i64 0)).setCell ⟨w.heap.size, 1, none⟩ (.int .i64 0)).setCell ⟨w.heap.size, 2, none⟩ (.int .i64 0)).setCell ⟨w.heap.size, 3, none⟩ (.int .i64 0)).setCell ⟨w.heap.size, 4, none⟩ (.int .i64 0) = WZ := ⟨_, rfl⟩
    have HZ := hide (put5 hA1' hb1' (Nat.le_refl _) _ _ _ _ _ WZ hWZ)
    have HWZ := hide hWZ
    clear hWZ hA1 hb1 hA1' hb1' HB HN HV
    go_wp2
    rw [HWZ.out]
    clear e0 e1 e2 e3 e4 f0 f1 f2 f3 f4
    obtain ⟨⟨e0, e1, e2, e3, e4⟩, -⟩ := (HZ.out.1.alloc (.cells #[.int .i64 r.l, .int .i64 r.c, .int .i64 r.s, .int .i64 r.k, .int .i64 r.o] 37)).five
    exact bodyPost_ret (v := .tuple #[.agg #[.int .i64 0, .int .i64 0, .int .i64 0, .int .i64 0, .int .i64 0], .slice none 0 0, .bool false]) (by simp [results, Try.results35, go_sem, e0, e1, e2, e3, e4]) rfl ⟨rfl, HZ.out.2.alloc HZ.out.2.size _⟩
  | true =>
    have HG := hide (show false = true ↔ (n ≤ 120 ∧ GCs n cs) from ⟨fun h => (by cases h), fun h => absurd ⟨of_decide_eq_true HB.out, h⟩ HN.out⟩)
    go_wp2_with fail
    refine (goodCalls_is _ n cs false _ (HV.out.below hb1) hn HG.out).mono ?_
    rintro e w2 ⟨rfl, hb⟩
    have hb2 := hb1.trans (hb.mono hb1.size)
    have hA2 := hA1.down hb
    clear hb hb1 hA1 hA1' hb1' HB HN HV HG
    obtain ⟨⟨e0, e1, e2, e3, e4⟩, f0, f1, f2, f3, f4⟩ := hA2.five
    obtain ⟨WZ, hWZ⟩ : ∃ WZ, ((((w2.setCell ⟨w.heap.size, 0, none⟩ (.int .i64 0)).setCell ⟨w.heap.size, 1, none⟩ (.int .i64 0)).setCell ⟨w.heap.size, 2, none⟩ (.int .i64 0)).setCell ⟨w.heap.size, 3, none⟩ (.int .i64 0)).setCell ⟨w.heap.size, 4, none⟩ (.int .i64 0) = WZ := ⟨_, rfl⟩
    have HZ := hide (put5 hA2 hb2 (Nat.le_refl _) _ _ _ _ _ WZ hWZ)
    have HWZ := hide hWZ
    clear hWZ hA2 hb2
    go_wp2
    rw [HWZ.out]
    clear e0 e1 e2 e3 e4 f0 f1 f2 f3 f4
    obtain ⟨⟨e0, e1, e2, e3, e4⟩, -⟩ := HZ.out.1.five
    exact bodyPost_ret (v := .tuple #[.agg #[.int .i64 0, .int .i64 0, .int .i64 0, .int .i64 0, .int .i64 0], .slice none 0 0, .bool false]) (by simp [results, Try.results35, go_sem, e0, e1, e2, e3, e4]) rfl ⟨rfl, HZ.out.2⟩
set_option maxRecDepth 20000 in
set_option maxHeartbeats 8000000 in
theorem impl_play (l c : Int) (v : Value) (n : Nat) (cs : Nat → Cl) (w : World) (hv : CallsOf w v n cs) (hd : GBd l c) (hn : n ≤ 120) (hG : GCs n cs) :
    Calls Try.prog 35 #[.int .i64 l, .int .i64 c, v] w fun e w' => (∃ R, e = .returned (.tuple #[brv (ply l c cs n), R, .bool true]) ∧ AnsB w' w.heap.size R n (thr l c cs)) ∧ Below w.heap.size w w' := by
  obtain ⟨a, cap, hform⟩ := hv.form
  subst hform
  have HV := hide hv
  have HG := hide hG
  have HP := hide (show ∀ i, i ≤ n → GBr (ply l c cs i) from fun i hi => ply_good hd (fun j hj => hG.gt j (by omega)))
  have HC := hide (show ∀ W, Calls Try.prog 24 #[.int .i64 l, .int .i64 c] W fun e w' => e = .returned (.tuple #[.agg #[.int .i64 l, .int .i64 c, .int .i64 0, .int .i64 0, .int .i64 0], .bool true]) ∧ Below W.heap.size W w' from fun W => impl_new l c true (fresh l c) W (decide_eq_true hd) rfl)
  have hmk := make_bools n (by omega)
  have hb0 := (Below.refl w.heap.size w).alloc (Nat.le_refl _) (.cells #[.int .i64 0, .int .i64 0, .int .i64 0, .int .i64 0, .int .i64 0] 37)
  have HA0 := hide (new5 w (.int .i64 0) (.int .i64 0) (.int .i64 0) (.int .i64 0) (.int .i64 0) 37)
  clear hv hd hG
  go_enter Try.func35, Try.ntmps35
  go_wp2_with fail
  refine (HC.out _).mono ?_
  rintro e w1 ⟨rfl, hb⟩
  have hb1 := (hb0.trans (hb.mono hb0.size)).alloc (hb0.trans (hb.mono hb0.size)).size (.cells #[.int .i64 l, .int .i64 c, .int .i64 0, .int .i64 0, .int .i64 0] 37)
  have hA1 := (HA0.out.down hb).alloc (.cells #[.int .i64 l, .int .i64 c, .int .i64 0, .int .i64 0, .int .i64 0] 37)
  have hB1 := new5 w1 (.int .i64 l) (.int .i64 c) (.int .i64 0) (.int .i64 0) (.int .i64 0) 37
  have hlt1 := (HA0.out.down hb).lt
  clear hb hb0 HA0 HC
  go_wp2_with fail
  refine (goodCalls_is _ n cs true _ (HV.out.below hb1) (by omega) ⟨fun _ => ⟨hn, HG.out⟩, fun _ => rfl⟩).mono ?_
  rintro e w2 ⟨rfl, hb⟩
  have hb2 := hb1.trans (hb.mono hb1.size)
  have hA2 := hA1.down hb
  have hB2 := hB1.down hb
  have hlt2 := hB2.lt
  clear hb hb1 hA1 hB1
  go_wp2
  have HI := hide (show Blk (w2.alloc (.cells (cf n fun _ => .bool false) 4)) w.heap.size 5 (q5 (.int .i64 0) (.int .i64 0) (.int .i64 0) (.int .i64 0) (.int .i64 0)) 37 ∧
      Blk (w2.alloc (.cells (cf n fun _ => .bool false) 4)) w1.heap.size 5 (q5 (.int .i64 (ply l c cs 0).l) (.int .i64 (ply l c cs 0).c) (.int .i64 (ply l c cs 0).s) (.int .i64 (ply l c cs 0).k) (.int .i64 (ply l c cs 0).o)) 37 ∧
      Blk (w2.alloc (.cells (cf n fun _ => .bool false) 4)) w2.heap.size n (bv (cpb (fun _ => false) (thr l c cs) 0)) 4 ∧ Below w.heap.size w (w2.alloc (.cells (cf n fun _ => .bool false) 4)) from
    ⟨hA2.alloc _, hB2.alloc _, by rw [cpb_zero]; exact Blk.new w2 n _ _, hb2.alloc hb2.size _⟩)
  clear hmk hA2 hB2 hb2
  generalize w2.alloc (.cells (cf n fun _ => .bool false) 4) = w3 at *
  go_loopw [12, 13, 33] (fun ii p i wr => ∃ j : Nat, j ≤ n ∧ i = .int .i64 j ∧ Hid (Blk wr w.heap.size 5 (q5 (.int .i64 0) (.int .i64 0) (.int .i64 0) (.int .i64 0) (.int .i64 0)) 37 ∧
      Blk wr w1.heap.size 5 (q5 (.int .i64 (ply l c cs j).l) (.int .i64 (ply l c cs j).c) (.int .i64 (ply l c cs j).s) (.int .i64 (ply l c cs j).k) (.int .i64 (ply l c cs j).o)) 37 ∧
      Blk wr w2.heap.size n (bv (cpb (fun _ => false) (thr l c cs) j)) 4 ∧ Below w.heap.size w wr)) (fun _ _ i _ => n - (intOf i).toNat)
  case atStart => exact ⟨0, Nat.zero_le _, rfl, HI⟩
  case round =>
    rename World => wo
    obtain ⟨j, hj, rfl, HJ⟩ := hrel
    by_cases hlt : j < n
    · obtain ⟨a', cap', hf, hr⟩ := HV.out
      obtain ⟨bb, off, ha, hbb, hrow⟩ := hr (by omega)
      cases hf
      cases ha
      have c0 := (HJ.out.2.2.2.cell (p := ⟨bb, off + j * 2, none⟩) hbb).trans (hrow j hlt).1
      have c1 := (HJ.out.2.2.2.cell (p := ⟨bb, off + j * 2 + 1, none⟩) hbb).trans (hrow j hlt).2
      obtain ⟨⟨d0, d1, d2, d3, d4⟩, -⟩ := HJ.out.2.1.five
      have hso := HJ.out.2.1.lt
      have hso2 := HJ.out.2.2.1.lt
      have HAf := hide (fun W => after_is (ply l c cs j) (cs j) W (HP.out j (by omega)))
      have HQ := hide (show ply l c cs (j + 1) = cal (ply l c cs j) (cs j) from rfl)
      have HT := hide (show thr l c cs j = lt (ply l c cs j) (cs j).w from rfl)
      clear hr hrow
      go_wp2_with fail
      refine (HAf.out _).mono ?_
      rintro e w4 ⟨rfl, hb⟩
      have hbo := (Below.refl wo.heap.size wo).alloc (Nat.le_refl _) (.cells #[.int .i64 (cs j).w, .bool (cs j).y] 50)
      have hb4 := hbo.trans (hb.mono hbo.size)
      have h4a := HJ.out.1.down hb4
      have h4b := HJ.out.2.1.down hb4
      have h4c := HJ.out.2.2.1.down hb4
      have h4d := HJ.out.2.2.2.trans (hb4.mono HJ.out.2.2.2.size)
      clear hb hbo hb4 HJ HAf d0 d1 d2 d3 d4 c0 c1
      obtain ⟨⟨e0, e1, e2, e3, e4⟩, f0, f1, f2, f3, f4⟩ := h4b.five
      have g0 := h4c.cell_bool hlt
      have g1 := h4c.thaw j
      have n1 : w1.heap.size ≠ w2.heap.size := by omega
      have n2 : w2.heap.size ≠ w1.heap.size := by omega
      have n3 : w.heap.size ≠ w1.heap.size := by omega
      have n4 : w.heap.size ≠ w2.heap.size := by omega
      rw [← HQ.out, ← HT.out]
      have hj1 : j + 1 ≤ n := by omega
      obtain ⟨q, hq⟩ : ∃ q, ply l c cs (j + 1) = q := ⟨_, rfl⟩
      obtain ⟨u, hu⟩ : ∃ u, thr l c cs j = u := ⟨_, rfl⟩
      have HJ2 := hide (show ∀ WZ, ((((((w4.setCell ⟨w1.heap.size, 0, none⟩ (.int .i64 q.l)).setCell ⟨w1.heap.size, 1, none⟩ (.int .i64 q.c)).setCell ⟨w1.heap.size, 2, none⟩ (.int .i64 q.s)).setCell ⟨w1.heap.size, 3, none⟩ (.int .i64 q.k)).setCell ⟨w1.heap.size, 4, none⟩ (.int .i64 q.o)).setCell ⟨w2.heap.size, j, none⟩ (.bool u)) = WZ →
          Blk WZ w.heap.size 5 (q5 (.int .i64 0) (.int .i64 0) (.int .i64 0) (.int .i64 0) (.int .i64 0)) 37 ∧ Blk WZ w1.heap.size 5 (q5 (.int .i64 (ply l c cs (j + 1)).l) (.int .i64 (ply l c cs (j + 1)).c) (.int .i64 (ply l c cs (j + 1)).s) (.int .i64 (ply l c cs (j + 1)).k) (.int .i64 (ply l c cs (j + 1)).o)) 37 ∧ Blk WZ w2.heap.size n (bv (cpb (fun _ => false) (thr l c cs) (j + 1))) 4 ∧ Below w.heap.size w WZ from by
        rintro WZ rfl
        rw [hq, ← cpb_succ, hu]
        obtain ⟨p1, p2⟩ := put5 h4b h4d (by omega) (.int .i64 q.l) (.int .i64 q.c) (.int .i64 q.s) (.int .i64 q.k) (.int .i64 q.o) _ rfl
        refine ⟨?_, p1.set_other n1 _ _, ?_, p2.setCell (p := ⟨w2.heap.size, j, none⟩) (by simp; omega) _⟩
        · exact (((((h4a.set_other n3 _ _).set_other n3 _ _).set_other n3 _ _).set_other n3 _ _).set_other n3 _ _).set_other n4 _ _
        · exact (((((h4c.set_other n2 _ _).set_other n2 _ _).set_other n2 _ _).set_other n2 _ _).set_other n2 _ _).set_bool _ _)
      rw [hq, hu]
      clear HQ HT hq hu h4a h4b h4c h4d
      go_wp2
      exact ⟨⟨j + 1, hj1, by go_num, hide (HJ2.out _ rfl)⟩, by simp [intOf]; omega⟩
    · obtain rfl : j = n := by omega
      obtain ⟨h4a, h4b, h4c, h4d⟩ := HJ.out
      obtain ⟨⟨d0, d1, d2, d3, d4⟩, -⟩ := h4b.five
      obtain ⟨⟨e0, e1, e2, e3, e4⟩, f0, f1, f2, f3, f4⟩ := h4a.five
      obtain ⟨q, hq⟩ : ∃ q, ply l c cs j = q := ⟨_, rfl⟩
      rw [hq] at d0 d1 d2 d3 d4
      have hls := h4b.lt
      obtain ⟨WZ, hWZ⟩ : ∃ WZ, ((((wo.setCell ⟨w.heap.size, 0, none⟩ (.int .i64 q.l)).setCell ⟨w.heap.size, 1, none⟩ (.int .i64 q.c)).setCell ⟨w.heap.size, 2, none⟩ (.int .i64 q.s)).setCell ⟨w.heap.size, 3, none⟩ (.int .i64 q.k)).setCell ⟨w.heap.size, 4, none⟩ (.int .i64 q.o) = WZ := ⟨_, rfl⟩
      have n5 : w2.heap.size ≠ w.heap.size := by omega
      have HZ := hide (put5 h4a h4d (Nat.le_refl _) _ _ _ _ _ WZ hWZ)
      have HZc := hide (show Blk WZ w2.heap.size j (bv (thr l c cs)) 4 by
        rw [← hWZ]
        exact (((((h4c.set_other n5 _ _).set_other n5 _ _).set_other n5 _ _).set_other n5 _ _).set_other n5 _ _).ext (fun i hi => by unfold bv cpb; rw [if_pos hi]))
      have HWZ := hide hWZ
      have HQ := hide hq
      clear hWZ h4a h4b h4c h4d HJ HI hq HP HG
      go_wp2
      rw [HWZ.out]
      clear e0 e1 e2 e3 e4 f0 f1 f2 f3 f4 d0 d1 d2 d3 d4
      obtain ⟨⟨e0, e1, e2, e3, e4⟩, -⟩ := HZ.out.1.five
      exact bodyPost_ret (v := .tuple #[.agg #[.int .i64 q.l, .int .i64 q.c, .int .i64 q.s, .int .i64 q.k, .int .i64 q.o], .slice (some ⟨w2.heap.size, 0, none⟩) j j, .bool true]) (by simp [results, Try.results35, go_sem, e0, e1, e2, e3, e4]) rfl ⟨⟨_, by rw [HQ.out], .inr ⟨w2.heap.size, j, rfl, by omega, HZc.out⟩⟩, HZ.out.2⟩
end Go.Proofs.Ytegbfmdilmbpmaa
