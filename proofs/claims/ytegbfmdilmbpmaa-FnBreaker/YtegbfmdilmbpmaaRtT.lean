/-
  PlayBreaker in the specification's text.
-/
import Derived.Test.YtegbfmdilmbpmaaRtQ
import Derived.Test.YtegbfmdilmbpmaaRtD
import Derived.Deep.Cut
import Derived.Deep.CutRange
namespace Go.Proofs.Ytegbfmdilmbpmaa
open Go.RowKit M
open Clk (upd upd_same upd_other)
open Go.Sort (grow)
namespace M
theorem owns_set {w : World} {B e s n : Nat} {v : Value} {xs : List Value} (h : w.ownsRow B e s v n xs) {g : Nat} (hg : g < B) (i : Nat) (x : Value) : (w.setCell ⟨g, i, none⟩ x).ownsRow B e s v n xs := by
  refine ⟨h.1, ?_⟩
  rcases h.2 with h0 | ⟨k, cap, cur, hv, hB, hb, r⟩
  · exact .inl h0
  · refine .inr ⟨k, cap, cur, hv, hB, ?_, r⟩
    rw [Go.heap_setCell_other _ _ _ _ (show k ≠ g by omega)]; exact hb
theorem own_bools {w : World} {B e n : Nat} {v : Value} {f : Nat → Bool} (h : w.ownsRow B e 1 v n ((List.range n).map (bv f))) : BoolsOf w v n f := by
  obtain ⟨a, cap, hv, hr⟩ := own_cells h (by simp)
  refine ⟨a, cap, hv, fun hn => ?_⟩
  obtain ⟨g, ha, _, hlt, hc⟩ := hr hn
  exact ⟨g, 0, ha, hlt, fun i hi => by rw [Nat.zero_add]; exact hc i _ (by rw [List.getElem?_map, List.getElem?_range hi]; rfl)⟩
theorem news1z {X : World} {z : Nat} (h : X.heap.size = z) (c : Value) (t : TypeId) : ∀ (j : Nat) u, [c][j]? = some u → (X.alloc (.cells #[c] t)).cell? ((⟨z, 0, none⟩ : Addr).add j) = some u := by
  subst h; exact news1 X c t
/-- The specification's play in memory: the answer's box, the breaker's, the row of bools. -/
structure PS (w w1 W : World) (r : Br) (ao : Option Addr) (c j : Nat) (f : Nat → Bool) : Prop where
  a : Blk W w.heap.size 5 (q5 (.int .i64 0) (.int .i64 0) (.int .i64 0) (.int .i64 0) (.int .i64 0)) 37
  b : Blk W w1.heap.size 5 (q5 (.int .i64 r.l) (.int .i64 r.c) (.int .i64 r.s) (.int .i64 r.k) (.int .i64 r.o)) 37
  o : W.ownsRow (w1.heap.size + 1) 4 1 (.slice ao j c) j ((List.range j).map (bv f))
  w : Below w.heap.size w W
theorem PS.down {w w1 W W' : World} {r : Br} {ao : Option Addr} {c j : Nat} {f : Nat → Bool} (h : PS w w1 W r ao c j f) (hb : Below W.heap.size W W') : PS w w1 W' r ao c j f :=
  ⟨h.a.down hb, h.b.down hb, owns_below h.o hb, h.w.trans (hb.mono h.w.size)⟩
theorem PS.put {w w1 W : World} {r : Br} {ao : Option Addr} {c j : Nat} {f : Nat → Bool} (h : PS w w1 W r ao c j f) (hlt : w.heap.size < w1.heap.size) (q : Br) :
    ∀ WZ, ((((W.setCell ⟨w1.heap.size, 0, none⟩ (.int .i64 q.l)).setCell ⟨w1.heap.size, 1, none⟩ (.int .i64 q.c)).setCell ⟨w1.heap.size, 2, none⟩ (.int .i64 q.s)).setCell ⟨w1.heap.size, 3, none⟩ (.int .i64 q.k)).setCell ⟨w1.heap.size, 4, none⟩ (.int .i64 q.o) = WZ → PS w w1 WZ q ao c j f := by
  rintro WZ rfl
  have n3 : w.heap.size ≠ w1.heap.size := by omega
  obtain ⟨p1, p2⟩ := put5 h.b h.w (by omega) (.int .i64 q.l) (.int .i64 q.c) (.int .i64 q.s) (.int .i64 q.k) (.int .i64 q.o) _ rfl
  refine ⟨?_, p1, ?_, p2⟩
  · exact ((((h.a.set_other n3 _ _).set_other n3 _ _).set_other n3 _ _).set_other n3 _ _).set_other n3 _ _
  · exact owns_set (owns_set (owns_set (owns_set (owns_set h.o (by omega) _ _) (by omega) _ _) (by omega) _ _) (by omega) _ _) (by omega) _ _
end M
set_option maxRecDepth 20000 in
set_option maxHeartbeats 600000 in
theorem spec_play (l c : Int) (v : Value) (n : Nat) (cs : Nat → Cl) (w : World) (hv : CallsOf w v n cs) (hd : GBd l c) (hn : n ≤ 120) :
    Calls Try.prog 33 #[.int .i64 l, .int .i64 c, v] w fun e w' => ((GCs n cs ∧ ∃ R, e = .returned (.tuple #[brv (ply l c cs n), R, .bool true]) ∧ BoolsOf w' R n (thr l c cs)) ∨ (¬ GCs n cs ∧ e = .returned (.tuple #[.agg #[.int .i64 0, .int .i64 0, .int .i64 0, .int .i64 0, .int .i64 0], .slice none 0 0, .bool false]))) ∧ Below w.heap.size w w' := by
  obtain ⟨a, cap, hform⟩ := hv.form
  subst hform
  obtain ⟨i0, hi, hz0, hz1, hz2⟩ := info_parts info_bool
  have HV := hide hv
  have HD := hide hd
  have HC := hide (show ∀ W, Calls Try.prog 23 #[.int .i64 l, .int .i64 c] W fun e w' => e = .returned (.tuple #[.agg #[.int .i64 l, .int .i64 c, .int .i64 0, .int .i64 0, .int .i64 0], .bool true]) ∧ Below W.heap.size W w' from fun W => spec_new l c true (fresh l c) W (decide_eq_true hd) rfl)
  have hb0 := (Below.refl w.heap.size w).alloc (Nat.le_refl _) (.cells #[.int .i64 0, .int .i64 0, .int .i64 0, .int .i64 0, .int .i64 0] 37)
  have HA0 := hide (new5 w (.int .i64 0) (.int .i64 0) (.int .i64 0) (.int .i64 0) (.int .i64 0) 37)
  clear hv hd
  go_enter Try.func33, Try.ntmps33
  go_wp2_with fail
  refine (HC.out _).mono ?_
  rintro e w1 ⟨rfl, hb⟩
  have hb1 := (hb0.trans (hb.mono hb0.size)).alloc (hb0.trans (hb.mono hb0.size)).size (.cells #[.int .i64 l, .int .i64 c, .int .i64 0, .int .i64 0, .int .i64 0] 37)
  have hA1 := (HA0.out.down hb).alloc (.cells #[.int .i64 l, .int .i64 c, .int .i64 0, .int .i64 0, .int .i64 0] 37)
  have hB1 := new5 w1 (.int .i64 l) (.int .i64 c) (.int .i64 0) (.int .i64 0) (.int .i64 0) 37
  have hlt1 := (HA0.out.down hb).lt
  have HI := hide (show PS w w1 (w1.alloc (.cells #[.int .i64 l, .int .i64 c, .int .i64 0, .int .i64 0, .int .i64 0] 37)) (ply l c cs 0) none 0 0 (thr l c cs) from ⟨hA1, hB1, World.ownsRow_nil _ _ _ _, hb1⟩)
  clear hb hb0 HA0 HC hA1 hB1 hb1
  go_wp2
  generalize w1.alloc (.cells #[.int .i64 l, .int .i64 c, .int .i64 0, .int .i64 0, .int .i64 0] 37) = w3 at *
  go_loopw [11, 12, 13, 14, 15, 32] (fun o ii p p2 th i wr => ∃ (j : Nat) (ao : Option Addr) (k : Nat), j ≤ n ∧ i = .int .i64 j ∧ o = .slice ao j k ∧ Hid (PS w w1 wr (ply l c cs j) ao k j (thr l c cs) ∧ GCs j cs)) (fun _ _ _ _ _ i _ => n - (intOf i).toNat)
  case atStart => exact ⟨0, none, 0, Nat.zero_le _, rfl, rfl, hide ⟨HI.out, fun i hi => absurd hi (by omega)⟩⟩
  case round =>
    rename World => wo
    obtain ⟨j, ao, k, hj, rfl, rfl, HJ⟩ := hrel
    by_cases hlt : j < n
    · obtain ⟨a', cap', hf, hr⟩ := HV.out
      obtain ⟨bb, off, ha, hbb, hrow⟩ := hr (by omega)
      cases hf
      cases ha
      have c0 := (HJ.out.1.w.cell (p := ⟨bb, off + j * 2, none⟩) hbb).trans (hrow j hlt).1
      have c1 := (HJ.out.1.w.cell (p := ⟨bb, off + j * 2 + 1, none⟩) hbb).trans (hrow j hlt).2
      obtain ⟨wa, hwa⟩ : ∃ wa, wo.alloc (.cells #[.int .i64 (cs j).w, .bool (cs j).y] 50) = wa := ⟨_, rfl⟩
      have hbo := (Below.refl wo.heap.size wo).alloc (Nat.le_refl _) (.cells #[.int .i64 (cs j).w, .bool (cs j).y] 50)
      have hDa := new2 wo (.int .i64 (cs j).w) (.bool (cs j).y) 50
      rw [hwa] at hbo hDa
      have HPa := hide (HJ.out.1.down hbo)
      have HDa := hide hDa
      have HWa := hide hwa
      have HG := hide HJ.out.2
      have HRow := hide (show ∀ i, i < n → wa.cell? ⟨bb, off + i * 2, none⟩ = some (.int .i64 (cs i).w) from fun i hi => (HPa.out.w.cell (p := ⟨bb, off + i * 2, none⟩) hbb).trans (hrow i hi).1)
      obtain ⟨bad, hbad⟩ : ∃ b, decide (¬ (wh cs j ≤ (cs j).w ∧ (cs j).w ≤ 1000000)) = b := ⟨_, rfl⟩
      have HBad := hide hbad
      clear hbad hrow hr hwa hbo hDa
      go_wp2
      rw [HWa.out]
      have k0 := cell_regrown HDa.out.duo.1.1
      clear c0 c1 HI HJ
      go_cut [55] from 37 to 68 (fun x wx => x = .bool bad ∧ Hid (Below wa.heap.size wa wx))
      case first =>
        by_cases hgt : GT (cs j).w
        · have HE := hide (show ∀ d os, Calls Try.prog 48 #[.int .i64 (cs j).w, .int .i64 0, .int .i64 1000000] (grow (redrawn wa d) os) fun e w'' => e = .returned (.bool true) ∧ ∃ p : Regrown, w'' = grow (redrawn wa p.d) p.os from fun d os =>
            Calls.regrown_of ((l1in_to _ _ _ true _ (decide_eq_true hgt)).mono (by rintro e w' ⟨rfl, rfl⟩; exact ⟨rfl, Below.refl _ _⟩)))
          cases j with
          | zero =>
            have HB2 := hide (show bad = false by rw [← HBad.out]; exact decide_eq_false (fun h => h hgt))
            refine wp_region_quiet_below (by kernel_rfl) (by kernel_rfl) ?_
            repeat (go_big_quiet_step (exact HE.out _ _))
            refine wpQuiet_nil ?_
            intro _ hw'
            obtain ⟨⟨dq, osq⟩, hw''⟩ := hw'
            subst hw''
            go_wp2
            go_meet
            exact ⟨by rw [HB2.out] <;> first | rfl | (congr 1; simp; omega), hide (below_regrown wa dq osq)⟩
          | succ i =>
            have k1 := cell_regrown (HRow.out i (by omega))
            have hi0 : (0 : Int) ≤ (i : Int) := by omega
            have hi1 : (i : Int) < (n : Int) := by omega
            have hi2 : (0 : Int) < (i : Int) + 1 := by omega
            by_cases hle : (cs i).w ≤ (cs (i + 1)).w
            · have HB2 := hide (show bad = false by rw [← HBad.out]; exact decide_eq_false (fun h => h ⟨hle, hgt.2⟩))
              refine wp_region_quiet_below (by kernel_rfl) (by kernel_rfl) ?_
              repeat (go_big_quiet_step (exact HE.out _ _))
              refine wpQuiet_nil ?_
              intro _ hw'
              obtain ⟨⟨dq, osq⟩, hw''⟩ := hw'
              subst hw''
              go_wp2
              go_meet
              exact ⟨by rw [HB2.out] <;> first | rfl | (congr 1; simp; omega), hide (below_regrown wa dq osq)⟩
            · have HB2 := hide (show bad = true by rw [← HBad.out]; exact decide_eq_true (fun h => hle h.1))
              refine wp_region_quiet_below (by kernel_rfl) (by kernel_rfl) ?_
              repeat (go_big_quiet_step (exact HE.out _ _))
              refine wpQuiet_nil ?_
              intro _ hw'
              obtain ⟨⟨dq, osq⟩, hw''⟩ := hw'
              subst hw''
              go_wp2
              go_meet
              exact ⟨by rw [HB2.out] <;> first | rfl | (congr 1; simp; omega), hide (below_regrown wa dq osq)⟩
        · have HE := hide (show ∀ d os, Calls Try.prog 48 #[.int .i64 (cs j).w, .int .i64 0, .int .i64 1000000] (grow (redrawn wa d) os) fun e w'' => e = .returned (.bool false) ∧ ∃ p : Regrown, w'' = grow (redrawn wa p.d) p.os from fun d os =>
            Calls.regrown_of ((l1in_to _ _ _ false _ (decide_eq_false hgt)).mono (by rintro e w' ⟨rfl, rfl⟩; exact ⟨rfl, Below.refl _ _⟩)))
          have HB2 := hide (show bad = true by
            rw [← HBad.out]
            refine decide_eq_true (fun h => hgt ⟨?_, h.2⟩)
            cases j with
            | zero => exact h.1
            | succ i => exact Int.le_trans (HG.out.gt i (by omega)).1 h.1)
          refine wp_region_quiet_below (by kernel_rfl) (by kernel_rfl) ?_
          repeat (go_big_quiet_step (exact HE.out _ _))
          refine wpQuiet_nil ?_
          intro _ hw'
          obtain ⟨⟨dq, osq⟩, hw''⟩ := hw'
          subst hw''
          go_wp2
          go_meet
          exact ⟨by rw [HB2.out] <;> first | rfl | (congr 1; simp; omega), hide (below_regrown wa dq osq)⟩
      case rest =>
        rename World => wC
        obtain ⟨rfl, HBc⟩ := hcut
        have HPc := hide (HPa.out.down HBc.out)
        have HDc := hide (HDa.out.down HBc.out)
        clear HBc HPa HDa HWa HRow k0
        cases bad with
        | true =>
          have HF := hide (show ¬ GCs n cs from fun h => of_decide_eq_true HBad.out (h j hlt))
          obtain ⟨⟨e0, e1, e2, e3, e4⟩, f0, f1, f2, f3, f4⟩ := HPc.out.a.five
          obtain ⟨WZ, hWZ⟩ : ∃ WZ, ((((wC.setCell ⟨w.heap.size, 0, none⟩ (.int .i64 0)).setCell ⟨w.heap.size, 1, none⟩ (.int .i64 0)).setCell ⟨w.heap.size, 2, none⟩ (.int .i64 0)).setCell ⟨w.heap.size, 3, none⟩ (.int .i64 0)).setCell ⟨w.heap.size, 4, none⟩ (.int .i64 0) = WZ := ⟨_, rfl⟩
          have HZ := hide (put5 HPc.out.a HPc.out.w (Nat.le_refl _) _ _ _ _ _ WZ hWZ)
          have HWZ := hide hWZ
          clear hWZ HPc HDc HG HBad HV HD
          go_wp2
          rw [HWZ.out]
          clear e0 e1 e2 e3 e4 f0 f1 f2 f3 f4
          obtain ⟨⟨e0, e1, e2, e3, e4⟩, -⟩ := HZ.out.1.five
          exact bodyPost_ret (v := .tuple #[.agg #[.int .i64 0, .int .i64 0, .int .i64 0, .int .i64 0, .int .i64 0], .slice none 0 0, .bool false]) (by simp [results, Try.results33, go_sem, e0, e1, e2, e3, e4]) rfl ⟨.inr ⟨HF.out, rfl⟩, HZ.out.2⟩
        | false =>
          have hok : wh cs j ≤ (cs j).w ∧ (cs j).w ≤ 1000000 := Decidable.not_not.1 (of_decide_eq_false HBad.out)
          have HG2 := hide (show GCs (j + 1) cs from fun i hi => by
            by_cases e : i = j
            · subst e; exact hok
            · exact HG.out i (by omega))
          have HCl := hide (fun W => spec_call (ply l c cs j) (cs j) W (ply_good HD.out (fun i hi => HG.out.gt i hi)))
          have HQ := hide (show ply l c cs (j + 1) = cal (ply l c cs j) (cs j) from rfl)
          have HT := hide (show thr l c cs j = lt (ply l c cs j) (cs j).w from rfl)
          obtain ⟨⟨d0, d1, d2, d3, d4⟩, -⟩ := HPc.out.b.five
          obtain ⟨⟨y0, y1⟩, -⟩ := HDc.out.duo
          clear HBad hok HG
          go_wp2_with fail
          refine (HCl.out _).mono ?_
          rintro e w4 ⟨rfl, hb⟩
          rw [← HQ.out, ← HT.out]
          have hP4 := HPc.out.down hb
          clear hb HPc HDc HCl d0 d1 d2 d3 d4 y0 y1
          have HSn := hide (range_snoc (bv (thr l c cs)) j)
          obtain ⟨q, hq⟩ : ∃ q, ply l c cs (j + 1) = q := ⟨_, rfl⟩
          obtain ⟨u, hu⟩ : ∃ u, thr l c cs j = u := ⟨_, rfl⟩
          have HU := hide hu
          have HQ2 := hide hq
          obtain ⟨⟨e0, e1, e2, e3, e4⟩, f0, f1, f2, f3, f4⟩ := hP4.b.five
          have hP5 := hP4.put hlt1 q _ rfl
          rw [hq, hu]
          have hlt4 := hP4.b.lt
          clear hq hu HQ HT hP4
          have hE : PS w w1 (World.alloc _ (.cells #[.int .i64 q.l, .int .i64 q.c, .int .i64 q.s, .int .i64 q.k, .int .i64 q.o] 37)) q ao k j (thr l c cs) := hP5.down ((Below.refl _ _).alloc (Nat.le_refl _) _)
          have HE := hide hE
          have hsz := hE.b.lt
          go_wp2_with (at_builtin; refine wpList_append_own _ rfl _ _ 55 rfl (w1.heap.size + 1) 4 i0 _ 1 1 Try.underlying55 hi hz0 hz1 hz2 rfl (by decide) _ j _ rfl (HE.out.o.alloc _) ⟨w4.heap.size + 1, 0, none⟩ 1 1 [.bool u] rfl rfl ?c1 ?c2 ?c3 ?c4 ?c5 ?_)
          case c1 => exact news1z (by simp) _ _
          case c2 => intro x hx; simp at hx; subst hx; rfl
          case c3 => unfold maxLen; omega
          case c4 => omega
          case c5 => simp; omega
          intro v' w5 hown5 hgrow _
          obtain ⟨a4, c4, rfl⟩ := own_form hown5
          have HP6 := hide (show PS w w1 w5 (ply l c cs (j + 1)) a4 c4 (j + 1) (thr l c cs) from ⟨
            (HE.out.a.alloc (.cells #[.bool u] 4)).grown (HE.out.o.alloc (.cells #[.bool u] 4)) (by decide) hgrow,
            by rw [HQ2.out]; exact (HE.out.b.alloc (.cells #[.bool u] 4)).grown (HE.out.o.alloc (.cells #[.bool u] 4)) (by decide) hgrow,
            by rw [HSn.out]; unfold bv; rw [HU.out]; exact hown5,
            (HE.out.w.alloc HE.out.w.size (.cells #[.bool u] 4)).grown hgrow (by have := HE.out.w.size; simp only [World.size_alloc] at this ⊢; omega) (fun x hx => by have := (HE.out.o.lt x hx).1; omega)⟩)
          clear hown5 hgrow HE hE hP5 e0 e1 e2 e3 e4 f0 f1 f2 f3 f4
          go_wp2
          exact ⟨⟨j + 1, a4, c4, by omega, by go_num, rfl, hide ⟨HP6.out, HG2.out⟩⟩, by simp [intOf]; omega⟩
    · obtain rfl : j = n := by omega
      obtain ⟨⟨d0, d1, d2, d3, d4⟩, -⟩ := HJ.out.1.b.five
      obtain ⟨⟨e0, e1, e2, e3, e4⟩, f0, f1, f2, f3, f4⟩ := HJ.out.1.a.five
      obtain ⟨q, hq⟩ : ∃ q, ply l c cs j = q := ⟨_, rfl⟩
      rw [hq] at d0 d1 d2 d3 d4
      have hls := HJ.out.1.b.lt
      obtain ⟨WZ, hWZ⟩ : ∃ WZ, ((((wo.setCell ⟨w.heap.size, 0, none⟩ (.int .i64 q.l)).setCell ⟨w.heap.size, 1, none⟩ (.int .i64 q.c)).setCell ⟨w.heap.size, 2, none⟩ (.int .i64 q.s)).setCell ⟨w.heap.size, 3, none⟩ (.int .i64 q.k)).setCell ⟨w.heap.size, 4, none⟩ (.int .i64 q.o) = WZ := ⟨_, rfl⟩
      have HZ := hide (put5 HJ.out.1.a HJ.out.1.w (Nat.le_refl _) _ _ _ _ _ WZ hWZ)
      have HZo := hide (show BoolsOf WZ (.slice ao j k) j (thr l c cs) by
        rw [← hWZ]
        have h := owns_mono HJ.out.1.o (show w.heap.size + 1 ≤ w1.heap.size + 1 by omega)
        exact own_bools (owns_set (owns_set (owns_set (owns_set (owns_set h (by omega) _ _) (by omega) _ _) (by omega) _ _) (by omega) _ _) (by omega) _ _))
      have HGn := hide HJ.out.2
      have HWZ := hide hWZ
      have HQ := hide hq
      clear hWZ HJ HI hq HV HD
      go_wp2
      rw [HWZ.out]
      clear e0 e1 e2 e3 e4 f0 f1 f2 f3 f4 d0 d1 d2 d3 d4
      obtain ⟨⟨e0, e1, e2, e3, e4⟩, -⟩ := HZ.out.1.five
      exact bodyPost_ret (v := .tuple #[.agg #[.int .i64 q.l, .int .i64 q.c, .int .i64 q.s, .int .i64 q.k, .int .i64 q.o], .slice ao j k, .bool true]) (by simp [results, Try.results33, go_sem, e0, e1, e2, e3, e4]) rfl ⟨.inl ⟨HGn.out, _, by rw [HQ.out], HZo.out⟩, HZ.out.2⟩
end Go.Proofs.Ytegbfmdilmbpmaa
