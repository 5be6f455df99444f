/-
  ScheduleOf: the specification's text tells what workers make of a plan.
-/
import Derived.Test.YtlegbkafpfkjeaaSchI
import Derived.Test.YtlegbkafpfkjeaaPlanS
namespace Go.Proofs.Ytlegbkafpfkjeaa
open Go.ChangeShapes Go.WideShapes Go.ChangeAt Go.RowKit Go.Joins Go.Deep
open M
open Clk (upd upd_same upd_other)
namespace M
def SMe (w0 wr : World) (gE gF k p : Nat) (x : Value) (s : Sc) : Prop :=
  wr.ownsRow w0.heap.size 70 3 x s.c (pvi s.out) ∧ Blk wr gE k (iv s.e) 3 ∧ Blk wr gF p (iv s.fr) 3 ∧ Below w0.heap.size w0 wr
theorem SMe.below {w0 wr W : World} {gE gF k p : Nat} {x : Value} {s : Sc} (h : SMe w0 wr gE gF k p x s) (hb : Below wr.heap.size wr W) : SMe w0 W gE gF k p x s :=
  ⟨owns_below h.1 hb, h.2.1.down hb, h.2.2.1.down hb, h.2.2.2.trans (hb.mono h.2.2.2.size)⟩
end M
set_option maxRecDepth 20000 in
set_option maxHeartbeats 8000000 in
theorem spec_schedule (v : Value) (k : Nat) (ts : Nat → Tk) (p T : Nat) (w : World) (hv : TasksOf w v k ts) (hs : Short k ts) (hG : GoodP k ts) (hp : 1 ≤ p ∧ p ≤ 8) (hT : EndAt ts k p T) :
    Calls Try.prog 31 #[v, .int .i64 (p : Int)] w fun e w' => (∃ R, e = .returned (.tuple #[R, .int .i64 (at' ts k p T).all, .bool true]) ∧ w'.ownsRow w.heap.size 70 3 R k (pvi (at' ts k p T).out)) ∧ Below w.heap.size w w' := by
  obtain ⟨i0, hi, hz0, hz1, hz2⟩ := info_parts info_slot
  have HV := hide hv
  have HT := hide hT
  have HBn := hide hG.1
  have hk30 := hG.1.1
  have HG := hide (spec_good _ k ts true w hv hs (decide_eq_true hG))
  have HP := hide (decide_eq_true (show 1 ≤ (p : Int) ∧ (p : Int) ≤ 8 by omega))
  obtain ⟨a, cap, rfl, hrt⟩ := hv
  have HRt := hide hrt
  have hmk := make_ints k (by omega)
  have hmp := make_ints p (by omega)
  clear hs hG hrt hT
  go_enter Try.func31, Try.ntmps31
  go_wp2_with fail
  refine HG.out.mono ?_
  rintro e w1 ⟨rfl, hb1⟩
  go_wp2_with fail
  refine (l1in_to _ _ _ true _ HP.out).mono ?_
  rintro e w1' ⟨rfl, rfl⟩
  have hs1 := hb1.size
  have hdE := (Below.refl w1'.heap.size w1').alloc (Nat.le_refl _) (.cells (cf k (iv fun _ => 0)) 3)
  have hdF := hdE.alloc hdE.size (.cells (cf p (iv fun _ => 0)) 3)
  have hbF := hb1.trans (hdF.mono hs1)
  have hF := Blk.new (w1'.alloc (.cells (cf k (iv fun _ => 0)) 3)) p (iv fun _ => 0) 3
  have hE := (Blk.new w1' k (iv fun _ => 0) 3).alloc (.cells (cf p (iv fun _ => 0)) 3)
  rw [World.size_alloc] at hF
  have HE0 := hide hE
  have HF0 := hide hF
  clear hE hF HG hdE hdF
  go_wp2_with fail
  clear hmk hmp
  have hne : w1'.heap.size + 1 ≠ w1'.heap.size := by omega
  have hgF : w.heap.size ≤ w1'.heap.size + 1 := by omega
  generalize (w1'.alloc _).alloc _ = wF at *
  generalize hgf : w1'.heap.size + 1 = gF at *
  clear hgf
  generalize w1'.heap.size = gE at *
  go_loopw [34] (fun y wr => ∃ j : Nat, j ≤ k ∧ y = .int .i64 j ∧ Hid (Blk wr gE k (iv (cp (fun _ => 0) (fun _ => -1) j)) 3 ∧ Blk wr gF p (iv fun _ => 0) 3 ∧ Below w.heap.size w wr)) (fun y _ => k - (intOf y).toNat)
  case atStart => exact ⟨0, Nat.zero_le _, rfl, hide ⟨by rw [cp_zero]; exact HE0.out, HF0.out, hbF⟩⟩
  case round =>
    rename World => wi
    obtain ⟨j, hj, rfl, HBk⟩ := hrel
    by_cases hlt : j < k
    · have d0 := HBk.out.1.cell_ints hlt
      have f0 := HBk.out.1.thaw j
      have HB2 := hide (show Blk (wi.setCell ⟨gE, j, none⟩ (.int .i64 (-1))) gE k (iv (cp (fun _ => 0) (fun _ => -1) (j + 1))) 3 ∧ Blk (wi.setCell ⟨gE, j, none⟩ (.int .i64 (-1))) gF p (iv fun _ => 0) 3 ∧ Below w.heap.size w (wi.setCell ⟨gE, j, none⟩ (.int .i64 (-1))) from by
        refine ⟨?_, HBk.out.2.1.set_other hne _ _, HBk.out.2.2.setCell hs1 _⟩
        rw [← cp_succ (fun _ => 0) (fun _ => -1) j]; exact HBk.out.1.set_int j (-1))
      clear HBk
      go_wp2
      exact ⟨⟨j + 1, by omega, by go_num, HB2⟩, by simp [intOf]; omega⟩
    · obtain rfl : k = j := by omega
      have HM0 := hide (show SMe w wi gE gF k p (.slice none 0 0) (at' ts k p 0) from ⟨World.ownsRow_nil _ _ _ _, HBk.out.1.ext (fun i hi => by unfold iv cp at' s0; rw [if_pos hi]), HBk.out.2.1, HBk.out.2.2⟩)
      clear HBk HE0 HF0
      go_wp2_with fail
      go_loopw [7, 11, 12] (fun x y z wr => ∃ (t : Nat), t ≤ T ∧ z = .int .i64 (t : Int) ∧ y = .int .i64 (at' ts k p t).all ∧ Hid (SMe w wr gE gF k p x (at' ts k p t))) (fun _ _ z _ => T - (intOf z).toNat)
      case atStart => exact ⟨0, Nat.zero_le _, rfl, rfl, HM0⟩
      case round =>
        rename World => wo
        obtain ⟨t, ht, rfl, rfl, HM⟩ := hrel
        obtain ⟨ax, cx, rfl⟩ := own_form HM.out.1
        by_cases hlt : t < T
        · have hc := (HT.out.2 t hlt).1
          have HInv := hide (HT.out.2 t hlt).2
          have ht29 := HT.out.early HBn.out hlt
          have hd : decide (((at' ts k p t).c : Int) < (k : Int)) = true := decide_eq_true (by omega)
          have HN := hide (show at' ts k p (t + 1) = stepsW ts k (at' ts k p t) (t : Int) p from rfl)
          have HMs := hide (show SMe w wo gE gF k p (.slice ax (stepsW ts k (at' ts k p t) (t : Int) 0).c cx) (stepsW ts k (at' ts k p t) (t : Int) 0) from HM.out)
          have HSt := hide (show ∀ m, m ≤ p → Inv ts k p (stepsW ts k (at' ts k p t) (t : Int) m) (t : Int) from fun m hm => HInv.out.steps HBn.out m hm)
          have HSs := hide (show ∀ m, stepsW ts k (at' ts k p t) (t : Int) (m + 1) = stepW ts k (stepsW ts k (at' ts k p t) (t : Int) m) (t : Int) m from fun m => rfl)
          have HA0 := hide (show (at' ts k p t).all = (stepsW ts k (at' ts k p t) (t : Int) 0).all from rfl)
          have HC0 := hide (show (at' ts k p t).c = (stepsW ts k (at' ts k p t) (t : Int) 0).c from rfl)
          clear HM HInv HM0
          generalize stepsW ts k (at' ts k p t) (t : Int) = SS at *
          go_wp2_with fail
          rw [HA0.out, HC0.out]
          clear HA0 HC0 hd
          go_loopw [7, 11, 50] (fun x y z wr => ∃ (m : Nat), m ≤ p ∧ z = .int .i64 (m : Int) ∧ y = .int .i64 (SS m).all ∧ Hid (SMe w wr gE gF k p x (SS m))) (fun _ _ z _ => p - (intOf z).toNat)
          case atStart => exact ⟨0, Nat.zero_le _, rfl, rfl, HMs⟩
          case round =>
            rename World => wq
            obtain ⟨m, hm, rfl, rfl, HQ⟩ := hrel
            obtain ⟨aq, cq, rfl⟩ := own_form HQ.out.1
            by_cases hml : m < p
            · have hI := HSt.out m (by omega)
              have d0 := HQ.out.2.2.1.cell_ints hml
              have hm0 : (0 : Int) ≤ (m : Int) := by omega
              have hm2 : (m : Int) < (p : Int) := by omega
              have hfr := hI.fr m
              have hall := hI.al
              by_cases hbz : (t : Int) < (SS m).fr m
              · have hd : decide ((t : Int) < (SS m).fr m) = true := decide_eq_true hbz
                have hSm : SS (m + 1) = SS m := by rw [HSs.out m]; unfold stepW; rw [if_pos hbz]
                have HQ2 := hide (show SMe w wq gE gF k p (.slice aq (SS m).c cq) (SS (m + 1)) from by rw [hSm]; exact HQ.out)
                have HA2 := hide (show (SS m).all = (SS (m + 1)).all by rw [hSm])
                clear HQ hI HMs HN HSt HSs hSm
                go_wp2
                exact ⟨⟨m + 1, by omega, by go_num, by rw [HA2.out], HQ2⟩, by simp [intOf]; omega⟩
              · have hd : decide ((t : Int) < (SS m).fr m) = false := decide_eq_false hbz
                have HHi := hide hI
                have HSm := hide (show SS (m + 1) = match nx ts (bg (SS m)) (ov (SS m) (t : Int)) k with | none => SS m | some x => begin' ts (SS m) (t : Int) m x by rw [HSs.out m]; unfold stepW; rw [if_neg hbz]; cases nx ts (bg (SS m)) (ov (SS m) (t : Int)) k <;> rfl)
                clear hI HMs
                go_wp2_with fail
                clear d0 hd
                go_loopw [7, 11, 61] (fun x y z wr => ∃ (j : Nat), j ≤ k ∧ z = .int .i64 (j : Int) ∧ y = .int .i64 (SS m).all ∧ x = .slice aq (SS m).c cq ∧ Hid (nx ts (bg (SS m)) (ov (SS m) (t : Int)) j = none) ∧ Hid (SMe w wr gE gF k p (.slice aq (SS m).c cq) (SS m))) (fun _ _ z _ => k - (intOf z).toNat)
                case atStart => exact ⟨0, Nat.zero_le _, rfl, rfl, rfl, hide rfl, HQ⟩
                case round =>
                  rename World => wj
                  obtain ⟨j, hj, rfl, rfl, rfl, HNx, HJ⟩ := hrel
                  by_cases hjk : j < k
                  · obtain ⟨bt, offt, rfl, hbt, hrowt⟩ := HRt.out (by omega)
                    obtain ⟨y, p1, p2', i1⟩ := hrowt j hjk
                    obtain ⟨ay, cy, rfl, hry⟩ := i1
                    have hbj := HJ.out.2.2.2
                    have l1 := (hbj.cell (p := ⟨bt, offt + j * 2, none⟩) hbt).trans p1
                    have l2 := (hbj.cell (p := ⟨bt, offt + j * 2 + 1, none⟩) hbt).trans p2'
                    have hj0 : (0 : Int) ≤ (j : Int) := by omega
                    have hj1 : (j : Int) < (k : Int) := by omega
                    have hdn := (Below.refl wj.heap.size wj).alloc (Nat.le_refl _) (.cells #[.int .i64 (ts j).long, .slice ay (ts j).nn cy] 53)
                    have HJ2 := hide (HJ.out.below hdn)
                    have HTk := hide (Blk.fresh wj #[.int .i64 (ts j).long, .slice ay (ts j).nn cy] 2 (p2 (.int .i64 (ts j).long) (.slice ay (ts j).nn cy)) 53 rfl)
                    have e0 := HJ2.out.2.1.cell_ints hjk
                    have hbj2 := HJ2.out.2.2.2
                    have HRy := hide hry
                    have HNd := hide (show ∀ q, q < (ts j).nn → ∃ z : Nat, (ts j).fn q = (z : Int) ∧ z < k ∧ ((ts j).fn q).toNat = z from fun q hq => HBn.out.need hjk hq)
                    have hln := HBn.out.len hjk
                    have hlj := (HBn.out.2 j hjk).1
                    obtain ⟨-, tk1, -, -⟩ := HTk.out.pair
                    have HRd := hide (show rdy ts (bg (SS m)) (ov (SS m) (t : Int)) j = (decide ((SS m).e j < 0) && allN (ts j) (ov (SS m) (t : Int)) (ts j).nn) by
                      unfold rdy bg
                      congr 1
                      rw [Bool.eq_iff_iff, Bool.not_eq_true', decide_eq_false_iff_not, decide_eq_true_eq]
                      omega)
                    clear hrowt p1 p2' hry HJ
                    go_wp2_with fail
                    generalize hW6 : wj.alloc _ = w6 at *
                    clear hW6 l1 l2 tk1 hdn e0
                    obtain ⟨nt, hnt⟩ : ∃ q, (ts j).nn = q := ⟨_, rfl⟩
                    have HNt := hide hnt
                    rw [hnt] at hln HRy HNd ⊢
                    clear hnt
                    generalize hr0 : decide ((SS m).e j < 0) = r0 at *
                    clear hr0
                    go_loopw [16, 74] (fun x y wr => ∃ q : Nat, q ≤ nt ∧ y = .int .i64 q ∧ x = .bool (r0 && allN (ts j) (ov (SS m) (t : Int)) q) ∧ wr = w6) (fun _ y _ => nt - (intOf y).toNat)
                    case atStart => exact ⟨0, Nat.zero_le _, rfl, by simp [allN], rfl⟩
                    case round =>
                      obtain ⟨q, hq, rfl, rfl, rfl⟩ := hrel
                      by_cases hql : q < nt
                      · obtain ⟨by', offy, rfl, hby, hrowy⟩ := HRy.out (by omega)
                        have c0 := (hbj2.cell (p := ⟨by', offy + q, none⟩) hby).trans (hrowy q hql)
                        obtain ⟨z, hz, hzk, hzt⟩ := HNd.out q hql
                        rw [hz] at c0
                        have e0 := HJ2.out.2.1.cell_ints hzk
                        have hz0 : (0 : Int) ≤ (z : Int) := by omega
                        have hz1 : (z : Int) < (k : Int) := by omega
                        have hq0 : (0 : Int) ≤ (q : Int) := by omega
                        have hq1 : (q : Int) < (nt : Int) := by omega
                        obtain ⟨oz, hoz⟩ : ∃ o, ov (SS m) (t : Int) z = o := ⟨_, rfl⟩
                        have HIn := hide (show decide (0 ≤ (SS m).e z ∧ (SS m).e z ≤ (t : Int)) = oz from hoz)
                        have HSu := hide (show (r0 && allN (ts j) (ov (SS m) (t : Int)) (q + 1)) = ((r0 && allN (ts j) (ov (SS m) (t : Int)) q) && oz) by
                          simp only [allN]; rw [hzt, hoz, Bool.and_assoc])
                        clear hrowy hz hzt hoz HRy
                        generalize (r0 && allN (ts j) (ov (SS m) (t : Int)) q) = rq at *
                        cases rq with
                        | true =>
                          go_wp2_with fail
                          refine (l1in_to _ _ _ _ _ HIn.out).mono ?_
                          rintro e w7 ⟨rfl, rfl⟩
                          go_wp2
                          exact ⟨⟨q + 1, by omega, by go_num, by rw [HSu.out]; simp, trivial⟩, by simp [intOf]; omega⟩
                        | false =>
                          go_wp2
                          exact ⟨⟨q + 1, by omega, by go_num, by rw [HSu.out]; simp, trivial⟩, by simp [intOf]; omega⟩
                      · obtain rfl : nt = q := by omega
                        have hRd := HRd.out
                        rw [HNt.out] at hRd
                        generalize (r0 && allN (ts j) (ov (SS m) (t : Int)) nt) = rq at *
                        cases rq with
                        | false =>
                          have HNx2 := hide (nx_go HNx.out hRd)
                          clear HNx HNd HRy HTk hRd HRd
                          go_wp2
                          exact ⟨⟨j + 1, by omega, by go_num, rfl, rfl, HNx2, HJ2⟩, by simp [intOf]; omega⟩
                        | true =>
                          have hnx := nx_stop HNx.out hRd k hjk
                          obtain ⟨hI2, hE1, hE0⟩ := HHi.out.begin HBn.out hml (by omega) hnx
                          have hSm : SS (m + 1) = begin' ts (SS m) (t : Int) m j := by rw [HSm.out, hnx]
                          have HSm2 := hide hSm
                          have hcl := HHi.out.c_le
                          have hln2 := HHi.out.len
                          obtain ⟨hOw, hEn, hFr, -⟩ := HJ2.out
                          have hs5 := hbj2.size
                          have hbAl := (Below.refl wr.heap.size wr).alloc (Nat.le_refl _) (.cells #[.int .i64 (j : Int), .int .i64 (m : Int), .int .i64 (t : Int)] 70)
                          have hrE := owns_below hOw hbAl
                          have hEn6 := hEn.down hbAl
                          have hFr6 := hFr.down hbAl
                          have hTk6 := HTk.out.down hbAl
                          have hbq6 := hbj2.trans (hbAl.mono hs5)
                          clear hSm hI2 hOw hEn hFr HSm HNx HNd HRy hRd HRd HHi hnx
                          go_wp2_with (at_builtin; refine wpList_append_own _ rfl _ _ 37 rfl w.heap.size 70 i0 _ 3 24 Try.underlying37 hi hz0 hz1 hz2 rfl (by decide) _ (SS m).c _ rfl hrE ⟨wr.heap.size, 0, none⟩ 1 1 [.int .i64 (j : Int), .int .i64 (m : Int), .int .i64 (t : Int)] rfl rfl (news3 wr _ _ _ _) (by intro u hu; simp at hu; rcases hu with rfl | rfl | rfl <;> rfl) (by unfold maxLen; omega) (by omega) (by simp; omega) ?_)
                          intro v7 w7 hown7 hgrow7 _
                          have hb7 : Below w.heap.size w w7 := hbq6.grown hgrow7 (by simp; omega) (fun q hq => (hrE.lt q hq).1)
                          have hEn7 := hEn6.grown hrE (by decide) hgrow7
                          have hFr7 := hFr6.grown hrE (by decide) hgrow7
                          have hTk7 := hTk6.grown hrE (by decide) hgrow7
                          obtain ⟨a7, c7, rfl⟩ := own_form hown7
                          have HOw7 := hide hown7
                          obtain ⟨tk0, -, -, -⟩ := hTk7.pair
                          have o1 := hEn7.cell_ints hjk
                          have o2 := hEn7.thaw j
                          obtain ⟨E, hE⟩ : ∃ E, (t : Int) + (ts j).long = E := ⟨_, rfl⟩
                          rw [hE] at hE1 hE0
                          have hEn8 := hEn7.set_int j E
                          have hFr8 := hFr7.set_other hne j (.int .i64 E)
                          have o3 := hEn8.cell_ints hjk
                          rw [upd_same] at o3
                          have f1 := hFr8.cell_ints hml
                          have f2 := hFr8.thaw m
                          have hEn9 := hEn8.set_other (fun e => hne e.symm) m (.int .i64 E)
                          have hFr9 := hFr8.set_int m E
                          have o4 := hEn9.cell_ints hjk
                          rw [upd_same] at o4
                          have HQ2 := hide (show SMe w ((w7.setCell ⟨gE, j, none⟩ (.int .i64 E)).setCell ⟨gF, m, none⟩ (.int .i64 E)) gE gF k p (.slice a7 ((SS m).c + 1) c7) (SS (m + 1)) from by
                            rw [HSm2.out]
                            refine ⟨?_, ?_, ?_, (hb7.setCell hs1 _).setCell hgF _⟩
                            · have h1 := HOw7.out
                              have h2 : pvi (begin' ts (SS m) (t : Int) m j).out = pvi (SS m).out ++ [.int .i64 (j : Int), .int .i64 (m : Int), .int .i64 (t : Int)] := by unfold begin' pvi; simp
                              rw [h2]
                              exact owns_set (owns_set h1 (e' := 3) hEn7 (by decide) _ _) (e' := 3) hFr8 (by decide) _ _
                            · have h3 : (begin' ts (SS m) (t : Int) m j).e = upd (SS m).e j E := by unfold begin'; rw [hE]
                              rw [h3]; exact hEn9
                            · have h3 : (begin' ts (SS m) (t : Int) m j).fr = upd (SS m).fr m E := by unfold begin'; rw [hE]
                              rw [h3]; exact hFr9)
                          have HAm := hide (show (SS (m + 1)).all = max (SS m).all E by rw [HSm2.out]; unfold begin'; rw [hE])
                          have HEE := hide hE
                          clear HOw7 hEn7 hFr7 hEn8 hFr8 hEn9 hFr9 HSm2 HN HSt HSs hTk7 hTk6 hEn6 hFr6 hgrow7 hown7 hrE hbAl HJ2 HTk HQ
                          by_cases hmx : (SS m).all < E
                          · have hmd : decide ((SS m).all < E) = true := decide_eq_true hmx
                            have HA3 := hide (show (SS (m + 1)).all = E by rw [HAm.out]; omega)
                            clear HAm
                            generalize (ts j).long = lx at *
                            go_wp2
                            exact ⟨⟨m + 1, by omega, by go_num, by rw [HA3.out]; try rfl, HQ2⟩, by simp [intOf]; omega⟩
                          · have hmd : decide ((SS m).all < E) = false := decide_eq_false hmx
                            have HA3 := hide (show (SS (m + 1)).all = (SS m).all by rw [HAm.out]; omega)
                            clear HAm
                            generalize (ts j).long = lx at *
                            go_wp2
                            exact ⟨⟨m + 1, by omega, by go_num, by rw [HA3.out]; try rfl, HQ2⟩, by simp [intOf]; omega⟩
                  · obtain rfl : k = j := by omega
                    have hSm : SS (m + 1) = SS m := by rw [HSm.out, HNx.out]
                    have HQ2 := hide (show SMe w wj gE gF k p (.slice aq (SS m).c cq) (SS (m + 1)) from by rw [hSm]; exact HJ.out)
                    have HA2 := hide (show (SS m).all = (SS (m + 1)).all by rw [hSm])
                    clear HJ HQ HNx HN HSt HSs HSm hSm HHi
                    go_wp2
                    exact ⟨⟨m + 1, by omega, by go_num, by rw [HA2.out], HQ2⟩, by simp [intOf]; omega⟩
            · obtain rfl : p = m := by omega
              have HQ2 := hide (show SMe w wq gE gF k p (.slice aq (SS p).c cq) (at' ts k p (t + 1)) from by rw [HN.out]; exact HQ.out)
              have HA2 := hide (show (SS p).all = (at' ts k p (t + 1)).all by rw [HN.out])
              clear HQ HMs HN HSt HSs
              go_wp2
              exact ⟨⟨t + 1, by omega, by go_num, by rw [HA2.out], HQ2⟩, by simp [intOf]; omega⟩
        · obtain rfl : T = t := by omega
          have hc : (at' ts k p T).c = k := HT.out.1
          have HF := hide (show wo.ownsRow w.heap.size 70 3 (.slice ax k cx) k (pvi (at' ts k p T).out) ∧ Below w.heap.size w wo from by
            have h1 := HM.out
            have h2 := h1.1
            rw [hc] at h2
            exact ⟨h2, h1.2.2.2⟩)
          rw [hc]
          clear HM HM0 hc HT
          go_wp2
          go_ret3
          exact ⟨⟨_, rfl, HF.out.1⟩, HF.out.2⟩
end Go.Proofs.Ytlegbkafpfkjeaa
