/-
  Texts that follow one another, joined: Vs, RgB, BrYs.
-/
import Derived.Test.YtfkeokglifpkoaaDoorJoin42
import Derived.Test.YtfkeokglifpkoaaDoorJoin17
import Derived.Lib.QuietBelow
import Derived.BigQuiet
/-
  Versions: RegionOf, NextVersion and IsGraceful in both texts, and their laws.
-/
namespace Go.Proofs.YtfkeokglifpkoaaDoor
open Go.RowKit M
namespace M
def rgv (v : Int) : Int := if inB v 0 1000000 = true then v % 10 else 0
def nxb (v r : Int) : Bool := inB v 0 1000000 && (inB r 0 9 && inB (nx v r) 0 1000000)
def nxa (v r : Int) : Int := if nxb v r = true then nx v r else 0
def grb (f t : Int) : Bool := inB f 0 1000000 && inB t 0 1000000
def gra (f t : Int) : Bool := grb f t && (t == nx f (t % 10) && (t % 10 != f % 10))
theorem inB_iff {n lo hi : Int} : inB n lo hi = true ↔ lo ≤ n ∧ n ≤ hi := by unfold inB; simp
theorem inB_no {n lo hi : Int} : inB n lo hi = false ↔ ¬ (lo ≤ n ∧ n ≤ hi) := by rw [← inB_iff]; simp
theorem rgv_yes {v : Int} (h : inB v 0 1000000 = true) : rgv v = v % 10 := by unfold rgv; rw [if_pos h]
theorem rgv_no {v : Int} (h : inB v 0 1000000 = false) : rgv v = 0 := by unfold rgv; rw [if_neg (by rw [h]; simp)]
theorem nxb_iff {v r : Int} : nxb v r = true ↔ (0 ≤ v ∧ v ≤ 1000000) ∧ (0 ≤ r ∧ r ≤ 9) ∧ nx v r ≤ 1000000 := by
  unfold nxb
  rw [Bool.and_eq_true, Bool.and_eq_true, inB_iff, inB_iff, inB_iff]
  constructor
  · rintro ⟨h1, h2, h3⟩; exact ⟨h1, h2, h3.2⟩
  · rintro ⟨h1, h2, h3⟩; exact ⟨h1, h2, by have := nx_gt (v := v) h2.1 h2.2; omega, h3⟩
theorem nxa_yes {v r : Int} (h : nxb v r = true) : nxa v r = nx v r := by unfold nxa; rw [if_pos h]
theorem nxa_no {v r : Int} (h : nxb v r = false) : nxa v r = 0 := by unfold nxa; rw [if_neg (by rw [h]; simp)]
end M
theorem spec_ver (n : Int) (w : World) :
    Calls Tryd.prog 11 #[.int .i64 n] w fun e w' => e = .returned (.bool (inB n 0 1000000)) ∧ w' = w := by
  go_enter Tryd.func11, Tryd.ntmps11
  go_wp2_with (go_at_call 10; refine (spec_in _ _ _ _).mono ?_; rintro e w' ⟨rfl, rfl⟩)
  go_ret
  exact ⟨rfl, rfl⟩
theorem impl_ver (n : Int) (w : World) :
    Calls Tryd.prog 23 #[.int .i64 n] w fun e w' => e = .returned (.bool (inB n 0 1000000)) ∧ w' = w := by
  go_enter Tryd.func23, Tryd.ntmps23
  go_wp2_with (go_at_call 22; refine (impl_in _ _ _ _).mono ?_; rintro e w' ⟨rfl, rfl⟩)
  go_ret
  exact ⟨rfl, rfl⟩
theorem impl_rid (n : Int) (w : World) :
    Calls Tryd.prog 14 #[.int .i64 n] w fun e w' => e = .returned (.bool (inB n 0 9)) ∧ w' = w := by
  go_enter Tryd.func14, Tryd.ntmps14
  go_wp2_with (go_at_call 22; refine (impl_in _ _ _ _).mono ?_; rintro e w' ⟨rfl, rfl⟩)
  go_ret
  exact ⟨rfl, rfl⟩
namespace M
theorem gra_iff {f t : Int} (h : grb f t = true) : gra f t = true ↔ t = nx f (t % 10) ∧ t % 10 ≠ f % 10 := by
  unfold gra; rw [h]; simp
end M
end Go.Proofs.YtfkeokglifpkoaaDoor

/-
  A region in the program's text: the greatest Version told, who leads, which are good, which is active.
-/
namespace Go.Proofs.YtfkeokglifpkoaaDoor
open Go.RowKit M
open Go.Sort (grow)
set_option maxHeartbeats 1000000 in
theorem impl_newest (v : Value) (bs : Brs) (w : World) (hv : BrsOf w v bs) (hf : FineS bs) (hg : GdT bs) :
    Calls Tryd.prog 25 #[.agg #[v]] w fun e w' => e = .returned (.int .i64 (nws bs)) ∧ Below w.heap.size w w' := by
  have hal := low1 w (.cells #[v] 31)
  have HV := hide (hv.below hal)
  have d0 := (show M.One (w.alloc (.cells #[v] 31)) w.heap.size v 31 from heap_alloc_new w _).cell
  have HF := hide hf
  have HG := hide hg
  obtain ⟨a1, c1, rfl⟩ := hv.form
  clear hv hf hg
  by_cases h0 : (cB bs).length = 0
  · have HZ := hide (show nws bs = 0 by
      have : cB bs = [] := List.eq_nil_of_length_eq_zero h0
      unfold nws; rw [this]; rfl)
    have he : (((cB bs).length : Int) == 0) = true := by simp [h0]
    have he2 : ((cB bs).length == 0) = true := by simp [h0]
    clear h0
    go_enter Tryd.func25, Tryd.ntmps25
    go_wp2_with fail
    refine (impl_current _ bs _ HV.out HF.out HG.out).mono ?_
    rintro e w1 ⟨⟨a, c, rfl, hs⟩, hb⟩
    have hbw := hal.trans (hb.mono hal.size)
    clear hs
    go_wp2
    go_ret
    exact ⟨ret_int (by rw [HZ.out]), hbw⟩
  · obtain ⟨n, hn⟩ : ∃ n, (cB bs).length = n := ⟨_, rfl⟩
    obtain ⟨j, hj⟩ : ∃ j, n - 1 = j := ⟨_, rfl⟩
    obtain ⟨x, hx⟩ : ∃ x, (cB bs)[j]? = some x := ⟨(cB bs)[j]'(by omega), List.getElem?_eq_getElem _⟩
    have HZ := hide (show nws bs = x.ver from lv_at (b := cB bs) (by rw [hn, hj]; exact hx))
    have hnn : (n == 0) = false := by simp; omega
    have he : ((n : Int) == 0) = false := by simp; omega
    have hsj : (n : Int) - 1 = (j : Int) := by omega
    have hj0 : (0 : Int) ≤ (j : Int) := by omega
    have hj1 : (j : Int) < (n : Int) := by omega
    have hnl : n ≤ 60 := by rw [← hn]; exact (cB_hist HG.out).1
    have HX := hide hx
    have HNN := hide hn
    have hpos : 0 < n := by omega
    clear hx hn hj h0
    go_enter Tryd.func25, Tryd.ntmps25
    go_wp2_with fail
    refine (impl_current _ bs _ HV.out HF.out HG.out).mono ?_
    rintro e w1 ⟨⟨a, c, rfl, hs⟩, hb⟩
    have hbw := hal.trans (hb.mono hal.size)
    obtain ⟨a', c', hv', hr⟩ := hs
    simp only [Value.slice.injEq, true_and] at hv'
    obtain ⟨rfl, rfl⟩ := hv'
    obtain ⟨g, off, rfl, hl, hrow⟩ := hr (by intro h; have := HNN.out; rw [h] at this; simp at this; omega)
    have e1 := (hrow j x HX.out).2.1
    rw [HNN.out]
    clear hr hrow
    go_wp2
    go_ret
    exact ⟨ret_int (by rw [HZ.out]), hbw⟩
theorem same_below {e : Ending} {v : Value} {w w' : World} (h : e = .returned v ∧ w' = w) : e = .returned v ∧ Below w.heap.size w w' := by
  obtain ⟨h1, h2⟩ := h
  subst h2
  exact ⟨h1, Below.refl _ _⟩
set_option maxHeartbeats 2000000 in
theorem impl_goodWord (ver : Int) (v : Value) (bs : Brs) (b : Bool) (w : World) (hv : BrsOf w v bs) (hf : FineS bs) (hkk : KK w) (hb : BP b (GdW ver bs)) :
    Calls Tryd.prog 15 #[wv ver v] w fun e w' => e = .returned (.bool b) ∧ Below w.heap.size w w' := by
  have hal := low1 w (.cells #[.int .i64 ver, v] 49)
  have HV := hide (hv.below hal)
  have HC := hide (new2 w (.int .i64 ver) v 49)
  have HF := hide hf
  have HB := hide hb
  have HK := hide (hkk.below hal)
  obtain ⟨a1, c1, rfl⟩ := hv.form
  obtain ⟨W, hW⟩ : ∃ W, w.alloc (.cells #[.int .i64 ver, .slice a1 bs.length c1] 49) = W := ⟨_, rfl⟩
  rw [hW] at HV HC HK hal
  have HW := hide hW
  obtain ⟨⟨d0, d1⟩, -⟩ := HC.out.duo
  have k0 := cell_regrown d0
  have k1 := cell_regrown d1
  clear hv hf hkk hb hW d0 d1
  cases h : inB ver 0 1000000
  · have HN := hide (show b = false from HB.out.no (fun hh => by have := inB_iff.2 hh.1; rw [h] at this; cases this))
    have H1 := hide (show ∀ d os, Calls Tryd.prog 23 #[.int .i64 ver] (grow (redrawn W d) os) fun e w'' => e = .returned (.bool false) ∧ ∃ p : Regrown, w'' = grow (redrawn W p.d) p.os from fun d os => Calls.regrown_of ((impl_ver ver _).mono fun e w' hh => same_below (by rw [h] at hh; exact hh)))
    go_enter Tryd.func15, Tryd.ntmps15
    go_upto_region 1 with fail
    rw [HW.out]
    refine wp_region_quiet_below (by kernel_rfl) (by kernel_rfl) ?_
    repeat (go_big_quiet_step (exact H1.out _ _))
    refine wpQuiet_nil ?_
    intro _ hw'
    obtain ⟨⟨dq, osq⟩, hw''⟩ := hw'
    subst hw''
    have hbw := hal.trans ((below_regrown W dq osq).mono hal.size)
    go_wp2
    go_ret
    exact ⟨ret_bool HN.out.symm, hbw⟩
  · obtain ⟨gb, hgb⟩ := bp_ex (GdT bs)
    have HGB := hide hgb
    have HVR := hide (inB_iff.1 h)
    have H1 := hide (show ∀ d os, Calls Tryd.prog 23 #[.int .i64 ver] (grow (redrawn W d) os) fun e w'' => e = .returned (.bool true) ∧ ∃ p : Regrown, w'' = grow (redrawn W p.d) p.os from fun d os => Calls.regrown_of ((impl_ver ver _).mono fun e w' hh => same_below (by rw [h] at hh; exact hh)))
    have H2 := hide (show ∀ d os, Calls Tryd.prog 24 #[.agg #[.slice a1 bs.length c1]] (grow (redrawn W d) os) fun e w'' => e = .returned (.bool gb) ∧ ∃ p : Regrown, w'' = grow (redrawn W p.d) p.os from fun d os => Calls.regrown_of (impl_gt _ bs gb _ (HV.out.below (below_regrown W d os)) HF.out (HK.out.below (below_regrown W d os)) HGB.out))
    clear hgb
    cases gb
    · have HN := hide (show b = false from HB.out.no (fun hh => by have := HGB.out.2 hh.2.1; cases this))
      go_enter Tryd.func15, Tryd.ntmps15
      go_upto_region 1 with fail
      rw [HW.out]
      refine wp_region_quiet_below (by kernel_rfl) (by kernel_rfl) ?_
      repeat (go_big_quiet_step (first | exact H1.out _ _ | exact H2.out _ _))
      refine wpQuiet_nil ?_
      intro _ hw'
      obtain ⟨⟨dq, osq⟩, hw''⟩ := hw'
      subst hw''
      have hbw := hal.trans ((below_regrown W dq osq).mono hal.size)
      go_wp2
      go_ret
      exact ⟨ret_bool HN.out.symm, hbw⟩
    · have HG := hide (HGB.out.1 rfl)
      obtain ⟨z, hz⟩ : ∃ z, nws bs = z := ⟨_, rfl⟩
      have H3 := hide (show ∀ d os, Calls Tryd.prog 25 #[.agg #[.slice a1 bs.length c1]] (grow (redrawn W d) os) fun e w'' => e = .returned (.int .i64 z) ∧ ∃ p : Regrown, w'' = grow (redrawn W p.d) p.os from fun d os => Calls.regrown_of ((impl_newest _ bs _ (HV.out.below (below_regrown W d os)) HF.out HG.out).mono fun e w' hh => by rw [hz] at hh; exact hh))
      have HN := hide (show b = decide (z ≤ ver) from by
        have hi := nws_iff HG.out HVR.out.1
        rw [hz] at hi
        by_cases c : z ≤ ver
        · rw [decide_eq_true c]; exact HB.out.yes ⟨HVR.out, HG.out, hi.1 c⟩
        · rw [decide_eq_false c]; exact HB.out.no (fun hh => c (hi.2 hh.2.2)))
      clear hz
      go_enter Tryd.func15, Tryd.ntmps15
      go_upto_region 1 with fail
      rw [HW.out]
      refine wp_region_quiet_below (by kernel_rfl) (by kernel_rfl) ?_
      repeat (go_big_quiet_step (first | exact H1.out _ _ | exact H2.out _ _ | exact H3.out _ _))
      refine wpQuiet_nil ?_
      intro _ hw'
      obtain ⟨⟨dq, osq⟩, hw''⟩ := hw'
      subst hw''
      have hbw := hal.trans ((below_regrown W dq osq).mono hal.size)
      go_wp2
      go_ret
      exact ⟨ret_bool HN.out.symm, hbw⟩
set_option maxHeartbeats 1000000 in
theorem impl_goodR (id ver : Int) (v : Value) (bs : Brs) (b : Bool) (w : World) (hv : BrsOf w v bs) (hf : FineS bs) (hkk : KK w) (hb : BP b (GdR ⟨id, ver, bs⟩)) :
    Calls Tryd.prog 7 #[rv id ver v] w fun e w' => e = .returned (.bool b) ∧ Below w.heap.size w w' := by
  have hal := low1 w (.cells #[.int .i64 id, .int .i64 ver, v] 33)
  have HV := hide (hv.below hal)
  have HC := hide (new3 w (.int .i64 id) (.int .i64 ver) v 33)
  have HF := hide hf
  have HB := hide hb
  have HK := hide (hkk.below hal)
  obtain ⟨a1, c1, rfl⟩ := hv.form
  obtain ⟨⟨d0, d1, d2⟩, -⟩ := HC.out.tri
  clear hv hf hkk hb
  cases h : inB id 0 9
  · have HN := hide (show b = false from HB.out.no (fun hh => by have := inB_iff.2 hh.1; rw [h] at this; cases this))
    go_enter Tryd.func7, Tryd.ntmps7
    go_wp2_with fail
    refine (impl_rid _ _).mono ?_
    rw [h]
    rintro e w' ⟨rfl, rfl⟩
    go_wp2
    go_ret
    exact ⟨ret_bool HN.out.symm, hal⟩
  · have HBW := hide (show BP b (GdW ver bs) from ⟨fun e => (HB.out.1 e).2, fun hh => HB.out.2 ⟨inB_iff.1 h, hh⟩⟩)
    go_enter Tryd.func7, Tryd.ntmps7
    go_wp2_with fail
    refine (impl_rid _ _).mono ?_
    rw [h]
    rintro e w' ⟨rfl, rfl⟩
    go_wp2_with fail
    refine (impl_goodWord ver _ bs b _ HV.out HF.out HK.out HBW.out).mono ?_
    rintro e w2 ⟨rfl, hb2⟩
    have hbw := hal.trans (hb2.mono hal.size)
    go_wp2
    go_ret
    exact ⟨rfl, hbw⟩
end Go.Proofs.YtfkeokglifpkoaaDoor

/-
  CurrentOf of the specification.
-/
namespace Go.Proofs.YtfkeokglifpkoaaDoor
open Go.RowKit M
open Go.Sort (grow)
namespace M
theorem btr_gt {b o : Evs} (h : lv o < lv b) : btr b o = true := by unfold btr; rw [decide_eq_true h]; rfl
theorem btr_eq {b o : Evs} (h : lv o = lv b) : btr b o = decide (o.length ≤ b.length) := by
  unfold btr; rw [decide_eq_false (by omega), decide_eq_true h]; simp
theorem btr_lt {b o : Evs} (h : lv b < lv o) : btr b o = false := by
  unfold btr; rw [decide_eq_false (by omega), decide_eq_false (by omega)]; rfl
theorem cur_btr {bs : Brs} {k : Nat} {o b : Evs} (hb : bs[k]? = some b) (ho : bs[cur bs k]? = some o) : cur bs (k + 1) = if btr b o = true then k else cur bs k := by
  rw [cur, getD_at hb, getD_at ho]
def curI (bs : Brs) (k : Nat) : Int := if k = 0 then -1 else (cur bs k : Int)
end M
end Go.Proofs.YtfkeokglifpkoaaDoor
