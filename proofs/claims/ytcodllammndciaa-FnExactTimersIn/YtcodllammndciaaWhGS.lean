/-
  The specification's test of a good wheel.
-/
import Derived.Test.YtcodllammndciaaWhG
namespace Go.Proofs.Ytcodllammndciaa
open Go.RowKit
open M
open Clk (upd upd_same upd_other)
open Go.Sort (grow)
theorem calls_same {f : FuncId} {args : Array Value} {w : World} {v : Value} (h : Calls Try.prog f args w fun e w' => e = .returned v ∧ w' = w) : Calls Try.prog f args w fun e w' => e = .returned v ∧ Below w.heap.size w w' :=
  h.mono fun _ _ ⟨he, hw⟩ => ⟨he, by rw [hw]; exact Below.refl _ _⟩
theorem calls_drew {f : FuncId} {args : Array Value} {w : World} {v : Value} (h : Calls Try.prog f args w fun e w' => e = .returned v ∧ ∃ m, w' = w.drewN m) : Calls Try.prog f args w fun e w' => e = .returned v ∧ Below w.heap.size w w' :=
  h.mono fun _ _ ⟨he, m, hw⟩ => ⟨he, by rw [hw]; exact below_drewN (Below.refl _ _) m⟩
set_option maxRecDepth 20000 in
set_option maxHeartbeats 4000000 in
theorem spec_good (now : Int) (v : Value) (k : Nat) (rs : Nat → Rw) (b : Bool) (w : World) (hv : RowsOf w v k rs) (hs : Small k rs) (hb : decide (GoodW now k rs) = b) :
    Calls Try.prog 17 #[.agg #[.int .i64 now, v]] w fun e w' => e = .returned (.bool b) ∧ Below w.heap.size w w' := by
  obtain ⟨i0, hi0', hz0, hz1, hz2⟩ := info_parts info_int
  obtain ⟨a, cap, rfl, hr⟩ := hv
  have HR := hide hr
  have HB := hide hb
  have HS := hide hs
  have hkk := hs.short.1
  have hbA := (Below.refl w.heap.size w).alloc (Nat.le_refl _) (.cells #[.int .i64 now, .slice a k cap] 24)
  have hX := Blk.fresh w #[.int .i64 now, .slice a k cap] 2 (p2 (.int .i64 now) (.slice a k cap)) 24 rfl
  clear hr hb hs
  by_cases hn : GoodN now
  · have HN := hide (show decide (0 ≤ now ∧ now ≤ 100000) = true from decide_eq_true hn)
    have HGN := hide hn
    have hn0 : 0 ≤ now ∧ now ≤ 100000 := hn
    clear hn
    by_cases hk : k = 24
    · subst hk
      have hd24 : (((24 : Nat) : Int) != 24) = false := by simp
      have HM0 := hide (show Blk _ w.heap.size 2 (p2 (.int .i64 now) (.slice a 24 cap)) 24 ∧ Below w.heap.size w _ from ⟨hX, hbA⟩)
      clear hX hbA
      go_enter Try.func17, Try.ntmps17
      go_wp2_with fail
      refine (l1in_to _ _ _ _ _ HN.out).mono ?_
      rintro e w1 ⟨rfl, rfl⟩
      go_wp2_with fail
      go_loopw [3, 22] (fun x y wr => ∃ (i : Nat), i ≤ 24 ∧ y = .int .i64 (i : Int) ∧ Hid (UpTo now rs i 0 ∧ wr.ownsRow (w.heap.size + 1) 3 1 x (ids rs i 0).length (pvi (ids rs i 0)) ∧ Blk wr w.heap.size 2 (p2 (.int .i64 now) (.slice a 24 cap)) 24 ∧ Below w.heap.size w wr)) (fun _ y _ => 24 - (intOf y).toNat)
      case atStart => exact ⟨0, by omega, rfl, hide ⟨⟨fun i h => by omega, fun j h => by omega⟩, World.ownsRow_nil _ _ _ _, HM0.out⟩⟩
      case round =>
        rename World => wo
        obtain ⟨i, hi, rfl, HI⟩ := hrel
        obtain ⟨ax, cx, rfl⟩ := own_form HI.out.2.1
        by_cases hlt : i < 24
        · obtain ⟨bb, off, rfl, hbb, hrow⟩ := HR.out (by omega)
          obtain ⟨y, q1, q2⟩ := hrow i hlt
          have c0 := (HI.out.2.2.2.cell (p := ⟨bb, off + i, none⟩) hbb).trans q1
          obtain ⟨a1, c1, rfl, hr1⟩ := q2
          have HR1 := hide hr1
          have hni := HS.out.short.2 i hlt
          have hi0 : (0 : Int) ≤ (i : Int) := by omega
          have hi1 : (i : Int) < 24 := by omega
          obtain ⟨n, hn⟩ : ∃ n, (rs i).n = n := ⟨_, rfl⟩
          have HNn := hide hn
          rw [hn] at c0 hni HR1
          obtain ⟨lv, hlv⟩ : ∃ lv, i / 8 = lv := ⟨_, rfl⟩
          have hl2 : lv ≤ 2 := by omega
          have hq : (i : Int).tdiv 8 = (lv : Int) := by rw [Int.tdiv_eq_ediv_of_nonneg (by omega)]; omega
          have HLv := hide hlv
          have HTt := hide (show tot rs i + n ≤ 1048576 by
            have h2 := tot_mono rs (i := i + 1) 24 hlt
            have h3 := HS.out
            unfold Small at h3
            rw [show tot rs (i + 1) = tot rs i + (rs i).n from rfl, HNn.out] at h2
            omega)
          clear hrow q1 hr1 hn hlv
          go_wp2_with fail
          clear c0 hq
          generalize hL0 : (ids rs i 0).length = n0 at *
          have HL0 := hide hL0
          clear hL0
          go_loopw [3, 31] (fun x y wr => ∃ (j : Nat), j ≤ n ∧ y = .int .i64 (j : Int) ∧ Hid (UpTo now rs i j ∧ wr.ownsRow (w.heap.size + 1) 3 1 x (ids rs i j).length (pvi (ids rs i j)) ∧ Blk wr w.heap.size 2 (p2 (.int .i64 now) (.slice (some ⟨bb, off, none⟩) 24 cap)) 24 ∧ Below w.heap.size w wr)) (fun _ y _ => n - (intOf y).toNat)
          case atStart => exact ⟨0, by omega, rfl, hide (by rw [HL0.out]; exact HI.out)⟩
          case round =>
            rename World => wq
            obtain ⟨j, hj, rfl, HJ⟩ := hrel
            obtain ⟨hup, hOw, hBx, hbq⟩ := HJ.out
            obtain ⟨aq, cq, rfl⟩ := own_form hOw
            by_cases hjl : j < n
            · obtain ⟨b2, off2, rfl, hb2, hrow2⟩ := HR1.out (by omega)
              have c0 := (hbq.cell (p := ⟨b2, off2 + j * 2, none⟩) hb2).trans (hrow2 (j * 2) (by omega))
              have c1' := (hbq.cell (p := ⟨b2, off2 + (j * 2 + 1), none⟩) hb2).trans (hrow2 (j * 2 + 1) (by omega))
              simp only [← Nat.add_assoc] at c1'
              have hj0 : (0 : Int) ≤ (j : Int) := by omega
              have hj1 : (j : Int) < (n : Int) := by omega
              obtain ⟨tm, htm⟩ : ∃ x, (rs i).f (j * 2) = x := ⟨_, rfl⟩
              obtain ⟨id, hid⟩ : ∃ x, (rs i).f (j * 2 + 1) = x := ⟨_, rfl⟩
              rw [htm] at c0
              rw [hid] at c1'
              have HOk := hide (show okT now rs i j ↔ GoodI id ∧ (GoodT now tm ∧ Fit lv now tm ∧ tm / pw lv % 8 = ((i % 8 : Nat) : Int)) ∧ id ∉ ids rs i j by unfold okT Lies; rw [htm, hid, HLv.out])
              have HSu := hide (show ids rs i (j + 1) = ids rs i j ++ [id] by rw [ids_succ, hid])
              have HUp := hide hup
              have hLn : (ids rs i j).length ≤ 1048576 := by rw [ids_len]; have := HTt.out; omega
              have hbAl := (Below.refl wq.heap.size wq).alloc (Nat.le_refl _) (.cells #[.int .i64 tm, .int .i64 id] 40)
              have hbE := hbq.trans (hbAl.mono hbq.size)
              have hTm := Blk.fresh wq #[.int .i64 tm, .int .i64 id] 2 (p2 (.int .i64 tm) (.int .i64 id)) 40 rfl
              have hBx2 := hBx.down hbAl
              have hOw2 := owns_below hOw hbAl
              have HBx := hide hBx2
              have HOw := hide hOw2
              have HTm := hide hTm
              have HBad := hide (show ¬ okT now rs i j → b = false from fun h => by
                rw [← HB.out, decide_eq_false_iff_not]
                exact fun hg => h (hg.2.2.1 i hlt j (by rw [HNn.out]; exact hjl)))
              clear HJ hup hBx hbq hrow2 htm hid hOw
              go_wp2_with fail
              generalize hWE : wq.alloc _ = wE at *
              have hsE : wq.heap.size < wE.heap.size := by rw [← hWE]; simp
              have hsE2 := hbE.size
              clear hWE c0 c1' hbAl
              generalize wq.heap.size = gE at *
              have x0 := cell_regrown hBx2.pair.1
              have y0 := cell_regrown hTm.pair.1
              have y1 := cell_regrown hTm.pair.2.1
              generalize hLL : ids rs i j = L at *
              have HLL := hide hLL
              clear hBx2 hTm hOw2 hLL
              by_cases hti : GoodI id ∧ GoodT now tm
              · have HTi := hide (show decide (GoodI id ∧ GoodT now tm) = true from decide_eq_true hti)
                have ht0 : now < tm ∧ tm < now + 512 := hti.2
                have HT := hide (show ∀ d os, Calls Try.prog 44 #[.agg #[.int .i64 tm, .int .i64 id], .int .i64 now] (grow (redrawn wE d) os) fun e w'' => e = .returned (.bool true) ∧ ∃ p : Regrown, w'' = grow (redrawn wE p.d) p.os from fun d os => Calls.regrown_of (l5_timer tm id now true _ hn0 HTi.out))
                by_cases hme : id ∈ L
                · have HHi := hide (show decide (id ∈ L) = true from decide_eq_true hme)
                  have HH := hide (show ∀ d os, Calls Try.prog 45 #[.slice aq L.length cq, .int .i64 id] (grow (redrawn wE d) os) fun e w'' => e = .returned (.bool true) ∧ ∃ p : Regrown, w'' = grow (redrawn wE p.d) p.os from fun d os => Calls.regrown_of (calls_same (l1has _ L id true _ ((own_list HOw.out).below (below_regrown wE d os)) hLn HHi.out)))
                  obtain rfl : b = false := HBad.out (fun h => (HOk.out.1 h).2.2 hme)
                  clear HBad HOk HSu HUp HBx HOw HTm HR HR1 HI HB HM0 HLL HNn hme hti
                  refine wp_region_quiet_below (by kernel_rfl) (by kernel_rfl) ?_
                  repeat (go_big_quiet_step (first | with_reducible exact HT.out _ _ | with_reducible exact HH.out _ _))
                  refine wpQuiet_nil ?_
                  intro _ hw'
                  obtain ⟨⟨dq, osq⟩, hw''⟩ := hw'
                  subst hw''
                  have hbW := below_regrown wE dq osq
                  have hbf := hbE.trans (hbW.mono hbE.size)
                  go_wp2
                  go_ret
                  exact ⟨rfl, hbf⟩
                · have HHi := hide (show decide (id ∈ L) = false from decide_eq_false hme)
                  have HH := hide (show ∀ d os, Calls Try.prog 45 #[.slice aq L.length cq, .int .i64 id] (grow (redrawn wE d) os) fun e w'' => e = .returned (.bool false) ∧ ∃ p : Regrown, w'' = grow (redrawn wE p.d) p.os from fun d os => Calls.regrown_of (calls_same (l1has _ L id false _ ((own_list HOw.out).below (below_regrown wE d os)) hLn HHi.out)))
                  by_cases hfi : Fit lv now tm
                  · have HFi := hide (show decide (Fit lv now tm) = true from decide_eq_true hfi)
                    have HF := hide (show ∀ d os, Calls Try.prog 46 #[.int .i64 now, .int .i64 tm, .int .i64 (lv : Int)] (grow (redrawn wE d) os) fun e w'' => e = .returned (.bool true) ∧ ∃ p : Regrown, w'' = grow (redrawn wE p.d) p.os from fun d os => Calls.regrown_of (calls_drew (l5_fits lv now tm true _ hl2 (by omega) (by omega) HFi.out)))
                    obtain ⟨q1, e1, d1⟩ := quo_facts lv tm (by omega) (by omega)
                    have hu := pw_le lv (by omega)
                    have q3 : (tm / pw lv).tmod 8 = tm / pw lv % 8 := Int.tmod_eq_emod_of_nonneg e1
                    have q4 : (i : Int).tmod 8 = ((i % 8 : Nat) : Int) := by rw [Int.tmod_eq_emod_of_nonneg (by omega)]; omega
                    have q5 : 0 ≤ tm / pw lv % 8 ∧ tm / pw lv % 8 < 8 := by omega
                    have HPw := hide (show ∀ w, Calls Try.prog 47 #[.int .i64 (lv : Int)] w fun e w' => e = .returned (.int .i64 (pw lv)) ∧ w' = w from fun w => l5_pow lv w (by omega))
                    have HMa := hide (show tm / pw lv % 8 = ((i % 8 : Nat) : Int) → okT now rs i j from fun h => HOk.out.2 ⟨hti.1, ⟨hti.2, hfi, h⟩, hme⟩)
                    have HMb := hide (show okT now rs i j → tm / pw lv % 8 = ((i % 8 : Nat) : Int) from fun h => (HOk.out.1 h).2.1.2.2)
                    clear HOk hfi HFi
                    generalize tm / pw lv % 8 = x2 at *
                    generalize tm / pw lv = x1 at *
                    generalize pw lv = u at *
                    have hu0 : u ≠ 0 := by omega
                    have hu1 : u ≠ -1 := by omega
                    have hmd : i % 8 < 8 := Nat.mod_lt _ (by omega)
                    generalize i % 8 = im at *
                    have HP := hide (show ∀ d os, Calls Try.prog 47 #[.int .i64 (lv : Int)] (grow (redrawn wE d) os) fun e w'' => e = .returned (.int .i64 u) ∧ ∃ p : Regrown, w'' = grow (redrawn wE p.d) p.os from fun d os => Calls.regrown_of (calls_same (HPw.out _)))
                    by_cases hmm : x2 = (im : Int)
                    · have hdm : (x2 != (im : Int)) = false := by simp [hmm]
                      have HXe := hide hmm
                      clear hmm hme hti HTi HHi
                      refine wp_region_quiet_below (by kernel_rfl) (by kernel_rfl) ?_
                      repeat (go_big_quiet_step (first | with_reducible exact HT.out _ _ | with_reducible exact HH.out _ _ | with_reducible exact HF.out _ _ | with_reducible exact HP.out _ _))
                      refine wpQuiet_nil ?_
                      intro _ hw'
                      obtain ⟨⟨dq, osq⟩, hw''⟩ := hw'
                      subst hw''
                      have hbW := below_regrown wE dq osq
                      have hbf := hbE.trans (hbW.mono hbE.size)
                      have HUp2 := hide (HUp.out.succ (HMa.out HXe.out))
                      have hOw5 := owns_below HOw.out hbW
                      have hBx5 := HBx.out.down hbW
                      have hT5 := HTm.out.down hbW
                      generalize hW5 : grow (redrawn wE dq) osq = w5 at *
                      clear hW5
                      have hs5 := hbf.size
                      have hs6 := hbW.size
                      have hbAl := (Below.refl w5.heap.size w5).alloc (Nat.le_refl _) (.cells #[.int .i64 id] 3)
                      have hrE := owns_below hOw5 hbAl
                      have hBx6 := hBx5.down hbAl
                      obtain ⟨-, t1, -, -⟩ := hT5.pair
                      clear HMa HMb HUp HT HH HF HP HPw HTm HOw HBx hOw5 hBx5 hT5 HBad
                      go_wp2_with (at_builtin; refine wpList_append_own _ rfl _ _ 45 rfl (w.heap.size + 1) 3 i0 _ 1 8 Try.underlying45 hi0' hz0 hz1 hz2 rfl (by decide) _ L.length _ rfl hrE ⟨w5.heap.size, 0, none⟩ 1 1 [.int .i64 id] rfl rfl (news1 w5 _ _) (by intro u hu; simp at hu; subst hu; rfl) (by unfold maxLen; omega) (by omega) (by simp; omega) ?_)
                      intro v7 w7 hown7 hgrow7 _
                      have hb7 : Below w.heap.size w w7 := (hbf.trans (hbAl.mono hbf.size)).grown hgrow7 (by simp; omega) (fun q hq => by have := (hrE.lt q hq).1; omega)
                      have hBx7 := hBx6.grown hrE (by decide) hgrow7
                      obtain ⟨a7, c7, rfl⟩ := own_form hown7
                      have HW7 := hide (show UpTo now rs i (j + 1) ∧ w7.ownsRow (w.heap.size + 1) 3 1 (.slice a7 (L.length + 1) c7) (ids rs i (j + 1)).length (pvi (ids rs i (j + 1))) ∧ Blk w7 w.heap.size 2 (p2 (.int .i64 now) (.slice (some ⟨bb, off, none⟩) 24 cap)) 24 ∧ Below w.heap.size w w7 from ⟨HUp2.out, by rw [HSu.out, pvi_snoc, List.length_append]; exact hown7, hBx7, hb7⟩)
                      clear hgrow7 hown7 hrE hbAl HSu HUp2 hb7 hBx7
                      go_wp2
                      exact ⟨⟨j + 1, by omega, by go_num, HW7⟩, by simp [intOf]; omega⟩
                    · have hdm : (x2 != (im : Int)) = true := by simp [hmm]
                      obtain rfl : b = false := HBad.out (fun h => hmm (HMb.out h))
                      clear HMa HMb HBad HSu HUp HBx HOw HTm HR HR1 HI HB HM0 HLL HNn hmm hme hti
                      refine wp_region_quiet_below (by kernel_rfl) (by kernel_rfl) ?_
                      repeat (go_big_quiet_step (first | with_reducible exact HT.out _ _ | with_reducible exact HH.out _ _ | with_reducible exact HF.out _ _ | with_reducible exact HP.out _ _))
                      refine wpQuiet_nil ?_
                      intro _ hw'
                      obtain ⟨⟨dq, osq⟩, hw''⟩ := hw'
                      subst hw''
                      have hbW := below_regrown wE dq osq
                      have hbf := hbE.trans (hbW.mono hbE.size)
                      go_wp2
                      go_ret
                      exact ⟨rfl, hbf⟩
                  · have HFi := hide (show decide (Fit lv now tm) = false from decide_eq_false hfi)
                    have HF := hide (show ∀ d os, Calls Try.prog 46 #[.int .i64 now, .int .i64 tm, .int .i64 (lv : Int)] (grow (redrawn wE d) os) fun e w'' => e = .returned (.bool false) ∧ ∃ p : Regrown, w'' = grow (redrawn wE p.d) p.os from fun d os => Calls.regrown_of (calls_drew (l5_fits lv now tm false _ hl2 (by omega) (by omega) HFi.out)))
                    obtain rfl : b = false := HBad.out (fun h => hfi (HOk.out.1 h).2.1.2.1)
                    clear HBad HOk HSu HUp HBx HOw HTm HR HR1 HI HB HM0 HLL HNn hme hti hfi
                    refine wp_region_quiet_below (by kernel_rfl) (by kernel_rfl) ?_
                    repeat (go_big_quiet_step (first | with_reducible exact HT.out _ _ | with_reducible exact HH.out _ _ | with_reducible exact HF.out _ _))
                    refine wpQuiet_nil ?_
                    intro _ hw'
                    obtain ⟨⟨dq, osq⟩, hw''⟩ := hw'
                    subst hw''
                    have hbW := below_regrown wE dq osq
                    have hbf := hbE.trans (hbW.mono hbE.size)
                    go_wp2
                    go_ret
                    exact ⟨rfl, hbf⟩
              · have HTi := hide (show decide (GoodI id ∧ GoodT now tm) = false from decide_eq_false hti)
                have HT := hide (show ∀ d os, Calls Try.prog 44 #[.agg #[.int .i64 tm, .int .i64 id], .int .i64 now] (grow (redrawn wE d) os) fun e w'' => e = .returned (.bool false) ∧ ∃ p : Regrown, w'' = grow (redrawn wE p.d) p.os from fun d os => Calls.regrown_of (l5_timer tm id now false _ hn0 HTi.out))
                obtain rfl : b = false := HBad.out (fun h => hti ⟨(HOk.out.1 h).1, (HOk.out.1 h).2.1.1⟩)
                clear HBad HOk HSu HUp HBx HOw HTm HR HR1 HI HB HM0 HLL HNn hti
                refine wp_region_quiet_below (by kernel_rfl) (by kernel_rfl) ?_
                repeat (go_big_quiet_step (first | with_reducible exact HT.out _ _))
                refine wpQuiet_nil ?_
                intro _ hw'
                obtain ⟨⟨dq, osq⟩, hw''⟩ := hw'
                subst hw''
                have hbW := below_regrown wE dq osq
                have hbf := hbE.trans (hbW.mono hbE.size)
                go_wp2
                go_ret
                exact ⟨rfl, hbf⟩
            · obtain rfl : n = j := by omega
              have HI2 := hide (show UpTo now rs (i + 1) 0 ∧ wq.ownsRow (w.heap.size + 1) 3 1 (.slice aq (ids rs i n).length cq) (ids rs (i + 1) 0).length (pvi (ids rs (i + 1) 0)) ∧ Blk wq w.heap.size 2 (p2 (.int .i64 now) (.slice (some ⟨bb, off, none⟩) 24 cap)) 24 ∧ Below w.heap.size w wq from by
                have e1 : ids rs (i + 1) 0 = ids rs i n := by rw [← ids_next, HNn.out]
                refine ⟨?_, by rw [e1]; exact hOw, hBx, hbq⟩
                rw [← HNn.out] at hup; exact hup.next)
              clear HJ HI HR1 HNn hOw hBx hbq hup
              go_wp2
              exact ⟨⟨i + 1, by omega, by go_num, HI2⟩, by simp [intOf]; omega⟩
        · obtain rfl : i = 24 := by omega
          have HLe := hide (show decide (((ids rs 24 0).length : Int) ≤ 60) = b by
            rw [← HB.out, Bool.eq_iff_iff, decide_eq_true_eq, decide_eq_true_eq, ids_len]
            constructor
            · intro h; exact ⟨HGN.out, rfl, fun i hi j hj => HI.out.1.1 i hi j hj, by omega⟩
            · intro h; have := h.2.2.2; omega)
          have hbf := HI.out.2.2.2
          clear HR HI HB HM0
          generalize (ids rs 24 0).length = nL at *
          go_wp2
          go_ret
          exact ⟨by rw [← HLe.out]; rfl, hbf⟩
    · have hd24 : ((k : Int) != 24) = true := by simp; omega
      obtain rfl : b = false := by rw [← HB.out, decide_eq_false_iff_not]; exact fun h => hk h.2.1
      clear HB HR
      go_enter Try.func17, Try.ntmps17
      go_wp2_with fail
      refine (l1in_to _ _ _ _ _ HN.out).mono ?_
      rintro e w1 ⟨rfl, rfl⟩
      go_wp2
      go_ret
      exact ⟨rfl, hbA⟩
  · have HN := hide (show decide (0 ≤ now ∧ now ≤ 100000) = false from decide_eq_false hn)
    obtain rfl : b = false := by rw [← HB.out, decide_eq_false_iff_not]; exact fun h => hn h.1
    clear hn HB HR
    go_enter Try.func17, Try.ntmps17
    go_wp2_with fail
    refine (l1in_to _ _ _ _ _ HN.out).mono ?_
    rintro e w1 ⟨rfl, rfl⟩
    go_wp2
    go_ret
    exact ⟨rfl, hbA⟩
end Go.Proofs.Ytcodllammndciaa
