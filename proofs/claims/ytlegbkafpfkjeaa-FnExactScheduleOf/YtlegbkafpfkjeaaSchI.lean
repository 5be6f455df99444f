/-
  ScheduleOf: the program's text tells what workers make of a plan.
-/
import Derived.Test.YtlegbkafpfkjeaaSchM
import Derived.Test.YtlegbkafpfkjeaaSlotM
import Derived.Test.YtlegbkafpfkjeaaSlotS
import Derived.Test.YtlegbkafpfkjeaaPlanR
namespace Go.Proofs.Ytlegbkafpfkjeaa
open Go.ChangeShapes Go.WideShapes Go.ChangeAt Go.RowKit Go.Joins Go.Deep
open M
open Clk (upd upd_same upd_other)
namespace M
/-- Numbers of a list, as values. -/
def pvi (l : List Int) : List Value := l.map (.int .i64)
theorem pvi_append (l m : List Int) : pvi (l ++ m) = pvi l ++ pvi m := by simp [pvi]
theorem news3 (w : World) (a b c : Value) (t : TypeId) : ∀ (j : Nat) u, [a, b, c][j]? = some u → (w.alloc (.cells #[a, b, c] t)).cell? ((⟨w.heap.size, 0, none⟩ : Addr).add j) = some u := by
  intro j u hj
  match j, hj with
  | 0, hj => simp at hj; subst hj; simp [Addr.add]
  | 1, hj => simp at hj; subst hj; simp [Addr.add]
  | 2, hj => simp at hj; subst hj; simp [Addr.add]
theorem fil_oI (k : Nat) : ∀ i, i < k → fil k i = iv (oI s0) i := fun i hi => by unfold fil iv oI s0; rw [if_pos hi]; simp
/-- What is in memory: the slots, the ends, when workers are free. -/
def SMem (w0 wr : World) (gO gF k : Nat) (x : Value) (s : Sc) (o : Nat → Int) : Prop :=
  wr.ownsRow w0.heap.size 70 3 x s.c (pvi s.out) ∧ Blk wr gO k (iv o) 3 ∧ Blk wr gF 8 (iv s.fr) 73 ∧ Below w0.heap.size w0 wr
end M
theorem M.owns_set {w : World} {B e s n g m : Nat} {v : Value} {xs : List Value} {f : Nat → Value} {e' : TypeId} (h : w.ownsRow B e s v n xs) (hb : Blk w g m f e') (hne : e' ≠ e) (i : Nat) (x : Value) : (w.setCell ⟨g, i, none⟩ x).ownsRow B e s v n xs := by
  refine ⟨h.1, ?_⟩
  rcases h.2 with h0 | ⟨g', cap, cur, hv, hB, hg, r⟩
  · exact .inl h0
  · refine .inr ⟨g', cap, cur, hv, hB, ?_, r⟩
    rw [Go.heap_setCell_other]
    · exact hg
    · intro e2
      have e3 : g' = g := e2
      unfold Blk at hb
      rw [← e3, hg] at hb
      simp only [Option.some.injEq, Obj.cells.injEq] at hb
      exact hne hb.2.1.symm
set_option maxRecDepth 20000 in
set_option maxHeartbeats 8000000 in
theorem impl_schedule (v : Value) (k : Nat) (ts : Nat → Tk) (p T : Nat) (w : World) (hv : TasksOf w v k ts) (hs : Short k ts) (hG : GoodP k ts) (hp : 1 ≤ p ∧ p ≤ 8) (hT : EndAt ts k p T) :
    Calls Try.prog 32 #[v, .int .i64 (p : Int)] w fun e w' => (∃ R, e = .returned (.tuple #[R, .int .i64 (at' ts k p T).all, .bool true]) ∧ w'.ownsRow w.heap.size 70 3 R k (pvi (at' ts k p T).out)) ∧ Below w.heap.size w w' := by
  obtain ⟨i0, hi, hz0, hz1, hz2⟩ := info_parts info_slot
  have HV := hide hv
  have HT := hide hT
  have HBn := hide hG.1
  have hk30 := hG.1.1
  have HG := hide (impl_good _ k ts true w hv hs (decide_eq_true hG))
  have HP := hide (decide_eq_true (show 1 ≤ (p : Int) ∧ (p : Int) ≤ 8 by omega))
  obtain ⟨a, cap, rfl, hrt⟩ := hv
  have HRt := hide hrt
  clear hs hG hrt hT
  go_enter Try.func32, Try.ntmps32
  go_wp2_with fail
  refine wp_scope_straight ?_
  go_wp2_with fail
  refine HG.out.mono ?_
  rintro e w1 ⟨rfl, hb1⟩
  go_wp2_with fail
  refine (good_workers p true _ HP.out).mono ?_
  rintro e w1' ⟨rfl, rfl⟩
  have hbA := hb1.alloc hb1.size (.cells #[.int .i64 3001] 3)
  have hc1 : (w1'.alloc (.cells #[.int .i64 3001] 3)).cell? ⟨w1'.heap.size, 0, none⟩ = some (.int .i64 3001) := cell1 w1' _ _
  have hs1 := hb1.size
  go_wp2_with fail
  generalize hWA : w1'.alloc _ = wA at *
  have hsA : w1'.heap.size < wA.heap.size := by rw [← hWA]; simp
  clear hWA
  refine (repeat_is w1'.heap.size k wA hc1 hk30).mono ?_
  rintro e w2 ⟨⟨rfl, hO⟩, hb2⟩
  have hb3 := hbA.trans (hb2.mono hbA.size)
  have hdn := (Below.refl w2.heap.size w2).alloc (Nat.le_refl _) (.cells (cf 8 (iv fun _ => 0)) 73)
  have hF := Blk.new w2 8 (iv fun _ => 0) 73
  have hgO : w.heap.size ≤ wA.heap.size := hbA.size
  have hgF : w.heap.size ≤ w2.heap.size := hb3.size
  have HM0 := hide (show ∀ W, W = w2.alloc (.cells (cf 8 (iv fun _ => 0)) 73) → SMem w W wA.heap.size w2.heap.size k (.slice none 0 0) (at' ts k p 0) (oI (at' ts k p 0)) from by
    rintro W rfl
    refine ⟨World.ownsRow_nil _ _ _ _, ?_, hF, hb3.trans (hdn.mono hb3.size)⟩
    exact (hO.down hdn).ext (fil_oI k))
  clear hO hb2 hbA hc1 hF hdn hb1 HG
  go_wp2_with fail
  generalize wA.heap.size = gO at *
  generalize w2.heap.size = gF at *
  refine wp_label ?_
  go_wp2_with fail
  go_loopw [7, 8, 11] (fun x y z wr => ∃ (t : Nat), t ≤ T ∧ z = .int .i64 (t : Int) ∧ y = .int .i64 (at' ts k p t).all ∧ Hid (SMem w wr gO gF k x (at' ts k p t) (oI (at' ts k p t)))) (fun _ _ z _ => T - (intOf z).toNat)
  case atStart => exact ⟨0, Nat.zero_le _, rfl, rfl, hide (HM0.out _ rfl)⟩
  case round =>
    rename World => wo
    obtain ⟨t, ht, rfl, rfl, HM⟩ := hrel
    obtain ⟨ax, cx, rfl⟩ := own_form HM.out.1
    by_cases hlt : t < T
    · have hc := (HT.out.2 t hlt).1
      have HInv := hide (HT.out.2 t hlt).2
      have ht29 := HT.out.early HBn.out hlt
      have hd : decide (((at' ts k p t).c : Int) < (k : Int)) = true := decide_eq_true (by omega)
      have HN := hide (show at' ts k p (t + 1) = stepsW ts k (at' ts k p t) (t : Int) p from rfl)
      have HMs := hide (show SMem w wo gO gF k (.slice ax (stepsW ts k (at' ts k p t) (t : Int) 0).c cx) (stepsW ts k (at' ts k p t) (t : Int) 0) (oI (stepsW ts k (at' ts k p t) (t : Int) 0)) from HM.out)
      have HSt := hide (show ∀ m, m ≤ p → Inv ts k p (stepsW ts k (at' ts k p t) (t : Int) m) (t : Int) from fun m hm => HInv.out.steps HBn.out m hm)
      have HSs := hide (show ∀ m, stepsW ts k (at' ts k p t) (t : Int) (m + 1) = stepW ts k (stepsW ts k (at' ts k p t) (t : Int) m) (t : Int) m from fun m => rfl)
      have HSn := hide (show ∀ m, m ≤ p → nx ts (bg (stepsW ts k (at' ts k p t) (t : Int) m)) (ov (stepsW ts k (at' ts k p t) (t : Int) m) (t : Int)) k = none → stepsW ts k (at' ts k p t) (t : Int) p = stepsW ts k (at' ts k p t) (t : Int) m from fun m hm h => by
        have := stepsW_none h (p - m)
        rwa [show m + (p - m) = p by omega] at this)
      have HA0 := hide (show (at' ts k p t).all = (stepsW ts k (at' ts k p t) (t : Int) 0).all from rfl)
      have HC0 := hide (show (at' ts k p t).c = (stepsW ts k (at' ts k p t) (t : Int) 0).c from rfl)
      clear HM HInv HM0
      generalize stepsW ts k (at' ts k p t) (t : Int) = SS at *
      go_wp2_with fail
      rw [HA0.out, HC0.out]
      clear HA0 HC0 hd
      go_loopw [7, 8, 35] (fun x y z wr => ∃ (m : Nat), m ≤ p ∧ z = .int .i64 (m : Int) ∧ y = .int .i64 (SS m).all ∧ Hid (SMem w wr gO gF k x (SS m) (oI (SS m)))) (fun _ _ z _ => p - (intOf z).toNat)
      case atStart => exact ⟨0, Nat.zero_le _, rfl, rfl, HMs⟩
      case round =>
        rename World => wq
        obtain ⟨m, hm, rfl, rfl, HQ⟩ := hrel
        obtain ⟨aq, cq, rfl⟩ := own_form HQ.out.1
        by_cases hml : m < p
        · obtain ⟨hOw, hOv, hFr, hbq⟩ := HQ.out
          have hI := HSt.out m (by omega)
          have d0 := hFr.cell_ints (show m < 8 by omega)
          have hm0 : (0 : Int) ≤ (m : Int) := by omega
          have hm1 : (m : Int) < 8 := by omega
          have hm2 : (m : Int) < (p : Int) := by omega
          have hfr := hI.fr m
          have hall := hI.al
          by_cases hbz : (t : Int) < (SS m).fr m
          · have hd : decide ((t : Int) < (SS m).fr m) = true := decide_eq_true hbz
            have hSm : SS (m + 1) = SS m := by rw [HSs.out m]; unfold stepW; rw [if_pos hbz]
            have HQ2 := hide (show SMem w wq gO gF k (.slice aq (SS m).c cq) (SS (m + 1)) (oI (SS (m + 1))) from by rw [hSm]; exact HQ.out)
            have HA2 := hide (show (SS m).all = (SS (m + 1)).all by rw [hSm])
            clear hOw hOv hFr hbq HQ hI HMs HN HSt HSs HSn hSm
            go_wp2
            exact ⟨⟨m + 1, by omega, by go_num, by rw [HA2.out], HQ2⟩, by simp [intOf]; omega⟩
          · have hd : decide ((t : Int) < (SS m).fr m) = false := decide_eq_false hbz
            have HLr := hide (least_ready (.slice a k cap) (.slice (some ⟨gO, 0, none⟩) k k) k ts (oI (SS m)) (t : Int) wq (HV.out.below hbq) (hOv.ints (cap := k)) HBn.out)
            rw [bgn_oI hI, over_oI hI (by omega)] at HLr
            have HHi := hide hI
            have HOw := hide hOw
            have HOv := hide hOv
            have HFr := hide hFr
            clear hOw hOv hFr hI
            cases hnx : nx ts (bg (SS m)) (ov (SS m) (t : Int)) k with
            | none =>
              rw [hnx] at HLr
              have hSp := HSn.out m (by omega) hnx
              have HQ2 := hide (show ∀ W, Below wq.heap.size wq W → SMem w W gO gF k (.slice aq (SS m).c cq) (at' ts k p (t + 1)) (oI (at' ts k p (t + 1))) from fun W hb => by
                rw [HN.out, hSp]
                exact ⟨owns_below HOw.out hb, HOv.out.down hb, HFr.out.down hb, hbq.trans (hb.mono hbq.size)⟩)
              have HA2 := hide (show (SS m).all = (at' ts k p (t + 1)).all by rw [HN.out, hSp])
              clear HQ HMs HN HSt HSs HSn hSp HOw HOv HFr HHi
              go_wp2_with fail
              refine HLr.out.mono ?_
              rintro e w5 ⟨rfl, hb5⟩
              unfold nxV
              go_wp2
              exact ⟨⟨t + 1, by omega, by go_num, by rw [HA2.out], hide (HQ2.out _ hb5)⟩, by simp [intOf]; omega⟩
            | some x =>
              rw [hnx] at HLr
              obtain ⟨hxk, hxe⟩ := rdy_parts hnx
              obtain ⟨hI2, hE1, hE0⟩ := HHi.out.begin HBn.out hml (by omega) hnx
              have hSm : SS (m + 1) = begin' ts (SS m) (t : Int) m x := by rw [HSs.out m]; unfold stepW; rw [if_neg hbz, hnx]
              have HSm := hide hSm
              have hcl := HHi.out.c_le
              have hln := HHi.out.len
              obtain ⟨bt, offt, rfl, hbt, hrowt⟩ := HRt.out (by omega)
              obtain ⟨_, p1, _, _⟩ := hrowt x hxk
              have HP1 := hide p1
              have hlx := (HBn.out.2 x hxk).1
              have hx0 : (0 : Int) ≤ (x : Int) := by omega
              have hx1 : (x : Int) < (k : Int) := by omega
              have HOi := hide (oI_begin (s := SS m) (wk := m) hE0)
              clear hSm hI2 hrowt p1 hxe HHi HQ
              go_wp2_with fail
              refine HLr.out.mono ?_
              rintro e w5 ⟨rfl, hb5⟩
              unfold nxV
              have hbq5 := hbq.trans (hb5.mono hbq.size)
              have hs5 := hbq5.size
              have hbAl := (Below.refl w5.heap.size w5).alloc (Nat.le_refl _) (.cells #[.int .i64 (x : Int), .int .i64 (m : Int), .int .i64 (t : Int)] 70)
              have hrE := owns_below (owns_below HOw.out hb5) hbAl
              have hOv6 := (HOv.out.down hb5).down hbAl
              have hFr6 := (HFr.out.down hb5).down hbAl
              have hbq6 := hbq5.trans (hbAl.mono hs5)
              clear HLr HOw HOv HFr
              go_wp2_with (at_builtin; refine wpList_append_own _ rfl _ _ 37 rfl w.heap.size 70 i0 _ 3 24 Try.underlying37 hi hz0 hz1 hz2 rfl (by decide) _ (SS m).c _ rfl hrE ⟨w5.heap.size, 0, none⟩ 1 1 [.int .i64 (x : Int), .int .i64 (m : Int), .int .i64 (t : Int)] rfl rfl (news3 w5 _ _ _ _) (by intro u hu; simp at hu; rcases hu with rfl | rfl | rfl <;> rfl) (by unfold maxLen; omega) (by omega) (by simp; omega) ?_)
              intro v7 w7 hown7 hgrow7 _
              have hb7 : Below w.heap.size w w7 := hbq6.grown hgrow7 (by simp; omega) (fun q hq => (hrE.lt q hq).1)
              have hOv7 := hOv6.grown hrE (by decide) hgrow7
              have hFr7 := hFr6.grown hrE (by decide) hgrow7
              obtain ⟨a7, c7, rfl⟩ := own_form hown7
              have HOw7 := hide hown7
              have HOv7 := hide hOv7
              have HFr7 := hide hFr7
              have l1 := (hb7.cell (p := ⟨bt, offt + x * 2, none⟩) hbt).trans HP1.out
              have o1 := hOv7.cell_ints hxk
              have o2 := hOv7.thaw x
              clear hgrow7 hown7 hrE hbAl hOv6 hFr6 hOv7 hFr7 hbq6
              have hne : gF ≠ gO := fun e => by
                have h1 := HOv7.out
                have h2 := HFr7.out
                rw [e] at h2
                unfold Blk at h1 h2
                rw [h1] at h2
                simp only [Option.some.injEq, Obj.cells.injEq] at h2
                exact absurd h2.2.1 (by decide)
              obtain ⟨E, hE⟩ : ∃ E, (t : Int) + (ts x).long = E := ⟨_, rfl⟩
              rw [hE] at hE1 hE0
              have hOv8 := HOv7.out.set_int x E
              have hFr8 := HFr7.out.set_other hne x (.int .i64 E)
              have o3 := hOv8.cell_ints hxk
              rw [upd_same] at o3
              have f1 := hFr8.cell_ints (show m < 8 by omega)
              have f2 := hFr8.thaw m
              have hOv9 := hOv8.set_other (fun e => hne e.symm) m (.int .i64 E)
              have hFr9 := hFr8.set_int m E
              have o4 := hOv9.cell_ints hxk
              rw [upd_same] at o4
              have HQ2 := hide (show SMem w ((w7.setCell ⟨gO, x, none⟩ (.int .i64 E)).setCell ⟨gF, m, none⟩ (.int .i64 E)) gO gF k (.slice a7 ((SS m).c + 1) c7) (SS (m + 1)) (oI (SS (m + 1))) from by
                rw [HSm.out]
                refine ⟨?_, ?_, ?_, (hb7.setCell hgO _).setCell hgF _⟩
                · have h1 := HOw7.out
                  have h2 : pvi (begin' ts (SS m) (t : Int) m x).out = pvi (SS m).out ++ [.int .i64 (x : Int), .int .i64 (m : Int), .int .i64 (t : Int)] := by unfold begin' pvi; simp
                  rw [h2]
                  exact owns_set (owns_set h1 (e' := 3) HOv7.out (by decide) _ _) (e' := 73) hFr8 (by decide) _ _
                · rw [HOi.out, hE]; exact hOv9
                · have h3 : (begin' ts (SS m) (t : Int) m x).fr = upd (SS m).fr m E := by unfold begin'; rw [hE]
                  rw [h3]; exact hFr9)
              have HAm := hide (show (SS (m + 1)).all = max (SS m).all E by rw [HSm.out]; unfold begin'; rw [hE])
              clear HOw7 HOv7 HFr7 hOv8 hFr8 hOv9 hFr9 HOi HSm HMs HN HSt HSs HSn hnx hne HP1
              have HEE := hide hE
              clear hd
              by_cases hmx : (SS m).all < E
              · have HA3 := hide (show (SS (m + 1)).all = E by rw [HAm.out]; omega)
                clear HAm
                generalize (ts x).long = lx at *
                go_wp2
                exact ⟨⟨m + 1, by omega, by go_num, by rw [HA3.out]; try rfl, HQ2⟩, by simp [intOf]; omega⟩
              · have HA3 := hide (show (SS (m + 1)).all = (SS m).all by rw [HAm.out]; omega)
                clear HAm
                generalize (ts x).long = lx at *
                go_wp2
                exact ⟨⟨m + 1, by omega, by go_num, by rw [HA3.out]; try rfl, HQ2⟩, by simp [intOf]; omega⟩
        · obtain rfl : p = m := by omega
          have HQ2 := hide (show SMem w wq gO gF k (.slice aq (SS p).c cq) (at' ts k p (t + 1)) (oI (at' ts k p (t + 1))) from by rw [HN.out]; exact HQ.out)
          have HA2 := hide (show (SS p).all = (at' ts k p (t + 1)).all by rw [HN.out])
          clear HQ HMs HN HSt HSs HSn
          go_wp2
          exact ⟨⟨t + 1, by omega, by go_num, by rw [HA2.out], HQ2⟩, by simp [intOf]; omega⟩
    · obtain rfl : T = t := by omega
      have hc : (at' ts k p T).c = k := HT.out.1
      have HF := hide (show wo.ownsRow w.heap.size 70 3 (.slice ax k cx) k (pvi (at' ts k p T).out) ∧ Below w.heap.size w wo from by
        have h1 := HM.out
        have h2 := h1.1
        rw [hc] at h2
        exact ⟨h2, h1.2.2.2⟩)
      rw [hc]
      clear HM HM0 hc HT
      go_wp2
      rw [Exit.noGoto_ret]
      go_ret3
      exact ⟨⟨_, rfl, HF.out.1⟩, HF.out.2⟩
end Go.Proofs.Ytlegbkafpfkjeaa
