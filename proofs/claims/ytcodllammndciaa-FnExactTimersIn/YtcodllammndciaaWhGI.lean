/-
  The program's test of a good wheel.
-/
import Derived.Test.YtcodllammndciaaWhG
namespace Go.Proofs.Ytcodllammndciaa
open Go.RowKit M
open Clk (upd upd_same upd_other)
open Go.Sort (grow)
theorem zero_met : Try.zeroCells68 = cf 1001 (bv fun _ => false) := by kernel_rfl
theorem M.mset_nil : (fun _ => false) = mset [] := by funext x; simp [mset]
set_option maxRecDepth 20000 in
set_option maxHeartbeats 4000000 in
theorem impl_good (now : Int) (v : Value) (k : Nat) (rs : Nat → Rw) (b : Bool) (w : World) (hv : RowsOf w v k rs) (hs : Small k rs) (hb : decide (GoodW now k rs) = b) :
    Calls Try.prog 19 #[.agg #[.int .i64 now, v]] w fun e w' => e = .returned (.bool b) ∧ Below w.heap.size w w' := by
  obtain ⟨a, cap, rfl, hr⟩ := hv
  have HR := hide hr
  have HB := hide hb
  have HS := hide hs
  have hkk := hs.short.1
  have hbA := (Below.refl w.heap.size w).alloc (Nat.le_refl _) (.cells #[.int .i64 now, .slice a k cap] 24)
  have hX := Blk.fresh w #[.int .i64 now, .slice a k cap] 2 (p2 (.int .i64 now) (.slice a k cap)) 24 rfl
  clear hr hb hs
  by_cases hn : GoodN now
  · have HN := hide (show decide (0 ≤ now ∧ now ≤ 100000) = true from decide_eq_true hn)
    have HGN := hide hn
    clear hn
    by_cases hk : k = 24
    · subst hk
      have hd24 : (((24 : Nat) : Int) != 24) = false := by simp
      have hC := zero_met
      have hM := Blk.fresh (w.alloc (.cells #[.int .i64 now, .slice a 24 cap] 24)) Try.zeroCells68 1001 (bv fun _ => false) 68 hC
      have hb2 := hbA.alloc hbA.size (.cells Try.zeroCells68 68)
      have hX2 := hX.alloc (.cells Try.zeroCells68 68)
      rw [World.size_alloc] at hM
      have HM0 := hide (show Blk _ (w.heap.size + 1) 1001 (bv (mset (ids rs 0 0))) 68 ∧ Blk _ w.heap.size 2 (p2 (.int .i64 now) (.slice a 24 cap)) 24 ∧ Below w.heap.size w _ from ⟨by rw [show ids rs 0 0 = [] from rfl, ← mset_nil]; exact hM, hX2, hb2⟩)
      clear hC hM hX hX2 hb2 hbA
      go_enter Try.func19, Try.ntmps19
      go_wp2_with fail
      refine (within_to _ _ _ _ _ HN.out).mono ?_
      rintro e w1 ⟨rfl, rfl⟩
      go_wp2_with fail
      go_loopw [4, 22] (fun x y wr => ∃ (i c : Nat), i ≤ 24 ∧ y = .int .i64 (i : Int) ∧ x = .int .i64 (c : Int) ∧ c ≤ 60 ∧ Hid (c = tot rs i ∧ UpTo now rs i 0 ∧ Blk wr (w.heap.size + 1) 1001 (bv (mset (ids rs i 0))) 68 ∧ Blk wr w.heap.size 2 (p2 (.int .i64 now) (.slice a 24 cap)) 24 ∧ Below w.heap.size w wr)) (fun _ y _ => 24 - (intOf y).toNat)
      case atStart => exact ⟨0, 0, by omega, rfl, rfl, by omega, hide ⟨rfl, ⟨fun i h => by omega, fun j h => by omega⟩, HM0.out⟩⟩
      case round =>
        rename World => wo
        obtain ⟨i, c, hi, rfl, rfl, hc, HI⟩ := hrel
        by_cases hlt : i < 24
        · obtain ⟨bb, off, rfl, hbb, hrow⟩ := HR.out (by omega)
          obtain ⟨y, q1, q2⟩ := hrow i hlt
          have c0 := (HI.out.2.2.2.2.cell (p := ⟨bb, off + i, none⟩) hbb).trans q1
          obtain ⟨a1, c1, rfl, hr1⟩ := q2
          have HR1 := hide hr1
          have hni := HS.out.short.2 i hlt
          have hi0 : (0 : Int) ≤ (i : Int) := by omega
          have hi1 : (i : Int) < 24 := by omega
          obtain ⟨n, hn⟩ : ∃ n, (rs i).n = n := ⟨_, rfl⟩
          have HNn := hide hn
          rw [hn] at c0 hni HR1
          clear hrow q1 hr1 hn
          by_cases h60 : c + n ≤ 60
          · have hd60 : decide ((60 : Int) < (c : Int) + (n : Int)) = false := decide_eq_false (by omega)
            go_wp2_with fail
            clear c0
            go_loopw [35] (fun y wr => ∃ (j : Nat), j ≤ n ∧ y = .int .i64 (j : Int) ∧ Hid (UpTo now rs i j ∧ Blk wr (w.heap.size + 1) 1001 (bv (mset (ids rs i j))) 68 ∧ Blk wr w.heap.size 2 (p2 (.int .i64 now) (.slice (some ⟨bb, off, none⟩) 24 cap)) 24 ∧ Below w.heap.size w wr)) (fun y _ => n - (intOf y).toNat)
            case atStart => exact ⟨0, by omega, rfl, hide HI.out.2⟩
            case round =>
              rename World => wq
              obtain ⟨j, hj, rfl, HJ⟩ := hrel
              by_cases hjl : j < n
              · obtain ⟨b2, off2, rfl, hb2, hrow2⟩ := HR1.out (by omega)
                obtain ⟨hup, hMt, hBx, hbq⟩ := HJ.out
                have c0 := (hbq.cell (p := ⟨b2, off2 + j * 2, none⟩) hb2).trans (hrow2 (j * 2) (by omega))
                have c1' := (hbq.cell (p := ⟨b2, off2 + (j * 2 + 1), none⟩) hb2).trans (hrow2 (j * 2 + 1) (by omega))
                simp only [← Nat.add_assoc] at c1'
                have hj0 : (0 : Int) ≤ (j : Int) := by omega
                have hj1 : (j : Int) < (n : Int) := by omega
                obtain ⟨tm, htm⟩ : ∃ x, (rs i).f (j * 2) = x := ⟨_, rfl⟩
                obtain ⟨id, hid⟩ : ∃ x, (rs i).f (j * 2 + 1) = x := ⟨_, rfl⟩
                rw [htm] at c0
                rw [hid] at c1'
                have HOk := hide (show okT now rs i j ↔ GoodI id ∧ Lies now i tm ∧ id ∉ ids rs i j by unfold okT; rw [htm, hid])
                have HSu := hide (show ids rs i (j + 1) = ids rs i j ++ [id] by rw [ids_succ, hid])
                have HUp := hide hup
                have hbE := hbq.alloc hbq.size (.cells #[.int .i64 tm, .int .i64 id] 40)
                have hBx2 := hBx.alloc (.cells #[.int .i64 tm, .int .i64 id] 40)
                have HMt := hide (hMt.alloc (.cells #[.int .i64 tm, .int .i64 id] 40))
                have HBx := hide hBx2
                have HBad := hide (show ¬ okT now rs i j → b = false from fun h => by
                  rw [← HB.out, decide_eq_false_iff_not]
                  exact fun hg => h (hg.2.2.1 i hlt j (by rw [HNn.out]; exact hjl)))
                obtain ⟨x0, x1, -, -⟩ := hBx2.pair
                clear HJ hup hMt hBx hbq hrow2 htm hid hBx2
                by_cases hgi : GoodI id
                · have HGI := hide (good_id id true (wq.alloc (.cells #[.int .i64 tm, .int .i64 id] 40)) (decide_eq_true hgi))
                  obtain ⟨t, rfl⟩ := Int.eq_ofNat_of_zero_le hgi.1
                  have ht1 : (t : Int) < 1001 := by have := hgi.2; omega
                  have ht0 : (0 : Int) ≤ (t : Int) := by omega
                  have d0 := HMt.out.cell_bv (show t < 1001 by omega)
                  have f0 := HMt.out.thaw t
                  cases hme : mset (ids rs i j) t with
                  | true =>
                    rw [hme] at d0
                    obtain rfl : b = false := HBad.out (fun h => by
                      have h3 := (HOk.out.1 h).2.2
                      unfold mset at hme
                      rw [decide_eq_true_eq] at hme
                      exact h3 hme)
                    clear HBad HOk HSu HUp HMt HBx HR HR1 HI HB HM0 hme HNn
                    go_wp2_with fail
                    refine HGI.out.mono ?_
                    rintro e w3 ⟨rfl, rfl⟩
                    go_wp2
                    go_ret
                    exact ⟨rfl, hbE⟩
                  | false =>
                    rw [hme] at d0
                    have hnm : (t : Int) ∉ ids rs i j := by
                      unfold mset at hme
                      rw [decide_eq_false_iff_not] at hme
                      exact hme
                    by_cases hli : Lies now i tm
                    · have HLi := hide (lies_well now i tm true (wq.alloc (.cells #[.int .i64 tm, .int .i64 (t : Int)] 40)) hlt HGN.out (decide_eq_true hli))
                      have HUp2 := hide (HUp.out.succ (HOk.out.2 ⟨hgi, hli, hnm⟩))
                      clear HBad HOk HUp HR HR1 HI HB HM0 hme hli hnm
                      go_wp2_with fail
                      refine HGI.out.mono ?_
                      rintro e w3 ⟨rfl, rfl⟩
                      go_wp2_with fail
                      refine HLi.out.mono ?_
                      rintro e w4 ⟨rfl, m, rfl⟩
                      have HF := hide (show ∀ W, W = ((wq.alloc (.cells #[.int .i64 tm, .int .i64 (t : Int)] 40)).drewN m).setCell ⟨w.heap.size + 1, t, none⟩ (.bool true) → UpTo now rs i (j + 1) ∧ Blk W (w.heap.size + 1) 1001 (bv (mset (ids rs i (j + 1)))) 68 ∧ Blk W w.heap.size 2 (p2 (.int .i64 now) (.slice (some ⟨bb, off, none⟩) 24 cap)) 24 ∧ Below w.heap.size w W from by
                        rintro W rfl
                        have e1 := (show Blk ((wq.alloc (.cells #[.int .i64 tm, .int .i64 (t : Int)] 40)).drewN m) (w.heap.size + 1) 1001 (bv (mset (ids rs i j))) 68 from HMt.out.down (below_drewN (Below.refl _ _) m)).set_bv t
                        rw [mset_snoc, ← HSu.out] at e1
                        exact ⟨HUp2.out, e1, (show Blk ((wq.alloc (.cells #[.int .i64 tm, .int .i64 (t : Int)] 40)).drewN m) w.heap.size 2 (p2 (.int .i64 now) (.slice (some ⟨bb, off, none⟩) 24 cap)) 24 from HBx.out.down (below_drewN (Below.refl _ _) m)).set_other (by omega) _ _, (below_drewN hbE m).setCell (by simp) _⟩)
                      clear HUp2 HSu HMt HBx HGI HLi
                      go_wp2
                      exact ⟨⟨j + 1, by omega, by go_num, hide (HF.out _ rfl)⟩, by simp [intOf]; omega⟩
                    · have HLi := hide (lies_well now i tm false (wq.alloc (.cells #[.int .i64 tm, .int .i64 (t : Int)] 40)) hlt HGN.out (decide_eq_false hli))
                      obtain rfl : b = false := HBad.out (fun h => hli (HOk.out.1 h).2.1)
                      clear HBad HOk HSu HUp HMt HBx HR HR1 HI HB HM0 hme hli hnm HNn
                      go_wp2_with fail
                      refine HGI.out.mono ?_
                      rintro e w3 ⟨rfl, rfl⟩
                      go_wp2_with fail
                      refine HLi.out.mono ?_
                      rintro e w4 ⟨rfl, m, rfl⟩
                      have hbf := below_drewN hbE m
                      go_wp2
                      go_ret
                      exact ⟨rfl, hbf⟩
                · have HGI := hide (good_id id false (wq.alloc (.cells #[.int .i64 tm, .int .i64 id] 40)) (decide_eq_false hgi))
                  obtain rfl : b = false := HBad.out (fun h => hgi (HOk.out.1 h).1)
                  clear HBad HOk HSu HUp HMt HBx HR HR1 HI HB HM0 HNn hgi
                  go_wp2_with fail
                  refine HGI.out.mono ?_
                  rintro e w3 ⟨rfl, rfl⟩
                  go_wp2
                  go_ret
                  exact ⟨rfl, hbE⟩
              · obtain rfl : n = j := by omega
                have HI2 := hide (show (c + n = tot rs (i + 1)) ∧ UpTo now rs (i + 1) 0 ∧ Blk wq (w.heap.size + 1) 1001 (bv (mset (ids rs (i + 1) 0))) 68 ∧ Blk wq w.heap.size 2 (p2 (.int .i64 now) (.slice (some ⟨bb, off, none⟩) 24 cap)) 24 ∧ Below w.heap.size w wq from by
                  obtain ⟨e1, e2, e3, e4⟩ := HJ.out
                  refine ⟨?_, ?_, ?_, e3, e4⟩
                  · simp only [tot]; rw [HNn.out, HI.out.1]
                  · rw [← HNn.out] at e1; exact e1.next
                  · rw [← HNn.out, ids_next] at e2; exact e2)
                clear HJ HI HR1 HNn
                go_wp2
                exact ⟨⟨i + 1, c + n, by omega, by go_num, by go_num, h60, HI2⟩, by simp [intOf]; omega⟩
          · have hd60 : decide ((60 : Int) < (c : Int) + (n : Int)) = true := decide_eq_true (by omega)
            obtain rfl : b = false := by
              rw [← HB.out, decide_eq_false_iff_not]
              intro hg
              have h1 := hg.2.2.2
              have h2 := tot_mono rs (i := i + 1) 24 hlt
              simp only [tot] at h2
              rw [HNn.out, ← HI.out.1] at h2
              simp only [tot] at h1
              omega
            have hbf := HI.out.2.2.2.2
            clear HR HR1 HI HB HM0 HNn
            go_wp2
            go_ret
            exact ⟨rfl, hbf⟩
        · obtain rfl : i = 24 := by omega
          obtain rfl : b = true := by
            rw [← HB.out, decide_eq_true_eq]
            exact ⟨HGN.out, rfl, fun i hi j hj => HI.out.2.1.1 i hi j hj, by rw [← HI.out.1]; exact hc⟩
          have hbf := HI.out.2.2.2.2
          clear HR HI HB HM0
          go_wp2
          go_ret
          exact ⟨rfl, hbf⟩
    · have hd24 : ((k : Int) != 24) = true := by simp; omega
      obtain rfl : b = false := by rw [← HB.out, decide_eq_false_iff_not]; exact fun h => hk h.2.1
      clear HB HR
      go_enter Try.func19, Try.ntmps19
      go_wp2_with fail
      refine (within_to _ _ _ _ _ HN.out).mono ?_
      rintro e w1 ⟨rfl, rfl⟩
      go_wp2
      go_ret
      exact ⟨rfl, hbA⟩
  · have HN := hide (show decide (0 ≤ now ∧ now ≤ 100000) = false from decide_eq_false hn)
    obtain rfl : b = false := by rw [← HB.out, decide_eq_false_iff_not]; exact fun h => hn h.1
    clear hn HB HR
    go_enter Try.func19, Try.ntmps19
    go_wp2_with fail
    refine (within_to _ _ _ _ _ HN.out).mono ?_
    rintro e w1 ⟨rfl, rfl⟩
    go_wp2
    go_ret
    exact ⟨rfl, hbA⟩
end Go.Proofs.Ytcodllammndciaa
