/-
  A region in the program's text: the greatest Version told, who leads, which are good, which is active.
-/
import Derived.Test.YtfkeokglifpkoaaGreatDoorJoin9
import Derived.Test.YtfkeokglifpkoaaGreatDoorJoin23
import Derived.Lib.QuietBelow
import Derived.BigQuiet
namespace Go.Proofs.YtfkeokglifpkoaaGreatDoor
open Go.RowKit M
open Go.Sort (grow)
set_option maxHeartbeats 1000000 in
theorem impl_newest (v : Value) (bs : Brs) (w : World) (hv : BrsOf w v bs) (hf : FineS bs) (hg : GdT bs) :
    Calls Tryz.prog 114 #[.agg #[v]] w fun e w' => e = .returned (.int .i64 (nws bs)) ∧ Below w.heap.size w w' := by
  have hal := low1 w (.cells #[v] 32)
  have HV := hide (hv.below hal)
  have d0 := (show M.One (w.alloc (.cells #[v] 32)) w.heap.size v 32 from heap_alloc_new w _).cell
  have HF := hide hf
  have HG := hide hg
  obtain ⟨a1, c1, rfl⟩ := hv.form
  clear hv hf hg
  by_cases h0 : (cB bs).length = 0
  · have HZ := hide (show nws bs = 0 by
      have : cB bs = [] := List.eq_nil_of_length_eq_zero h0
      unfold nws; rw [this]; rfl)
    have he : (((cB bs).length : Int) == 0) = true := by simp [h0]
    have he2 : ((cB bs).length == 0) = true := by simp [h0]
    clear h0
    go_enter Tryz.func114, Tryz.ntmps114
    go_wp2_with fail
    refine (impl_current _ bs _ HV.out HF.out HG.out).mono ?_
    rintro e w1 ⟨⟨a, c, rfl, hs⟩, hb⟩
    have hbw := hal.trans (hb.mono hal.size)
    clear hs
    go_wp2
    go_ret
    exact ⟨ret_int (by rw [HZ.out]), hbw⟩
  · obtain ⟨n, hn⟩ : ∃ n, (cB bs).length = n := ⟨_, rfl⟩
    obtain ⟨j, hj⟩ : ∃ j, n - 1 = j := ⟨_, rfl⟩
    obtain ⟨x, hx⟩ : ∃ x, (cB bs)[j]? = some x := ⟨(cB bs)[j]'(by omega), List.getElem?_eq_getElem _⟩
    have HZ := hide (show nws bs = x.ver from lv_at (b := cB bs) (by rw [hn, hj]; exact hx))
    have hnn : (n == 0) = false := by simp; omega
    have he : ((n : Int) == 0) = false := by simp; omega
    have hsj : (n : Int) - 1 = (j : Int) := by omega
    have hj0 : (0 : Int) ≤ (j : Int) := by omega
    have hj1 : (j : Int) < (n : Int) := by omega
    have hnl : n ≤ 60 := by rw [← hn]; exact (cB_hist HG.out).1
    have HX := hide hx
    have HNN := hide hn
    have hpos : 0 < n := by omega
    clear hx hn hj h0
    go_enter Tryz.func114, Tryz.ntmps114
    go_wp2_with fail
    refine (impl_current _ bs _ HV.out HF.out HG.out).mono ?_
    rintro e w1 ⟨⟨a, c, rfl, hs⟩, hb⟩
    have hbw := hal.trans (hb.mono hal.size)
    obtain ⟨a', c', hv', hr⟩ := hs
    simp only [Value.slice.injEq, true_and] at hv'
    obtain ⟨rfl, rfl⟩ := hv'
    obtain ⟨g, off, rfl, hl, hrow⟩ := hr (by intro h; have := HNN.out; rw [h] at this; simp at this; omega)
    have e1 := (hrow j x HX.out).2.1
    rw [HNN.out]
    clear hr hrow
    go_wp2
    go_ret
    exact ⟨ret_int (by rw [HZ.out]), hbw⟩
theorem impl_leads (id ver : Int) (w : World) :
    Calls Tryz.prog 54 #[.int .i64 id, .int .i64 ver] w fun e w' => e = .returned (.bool (rgv ver == id)) ∧ w' = w := by
  go_enter Tryz.func54, Tryz.ntmps54
  go_wp2_with fail
  refine (impl_region _ _).mono ?_
  rintro e w' ⟨rfl, rfl⟩
  go_wp2
  go_ret
  exact ⟨rfl, rfl⟩
theorem same_below {e : Ending} {v : Value} {w w' : World} (h : e = .returned v ∧ w' = w) : e = .returned v ∧ Below w.heap.size w w' := by
  obtain ⟨h1, h2⟩ := h
  subst h2
  exact ⟨h1, Below.refl _ _⟩
set_option maxHeartbeats 2000000 in
theorem impl_goodWord (ver : Int) (v : Value) (bs : Brs) (b : Bool) (w : World) (hv : BrsOf w v bs) (hf : FineS bs) (hkk : KK w) (hb : BP b (GdW ver bs)) :
    Calls Tryz.prog 67 #[wv ver v] w fun e w' => e = .returned (.bool b) ∧ Below w.heap.size w w' := by
  have hal := low1 w (.cells #[.int .i64 ver, v] 45)
  have HV := hide (hv.below hal)
  have HC := hide (new2 w (.int .i64 ver) v 45)
  have HF := hide hf
  have HB := hide hb
  have HK := hide (hkk.below hal)
  obtain ⟨a1, c1, rfl⟩ := hv.form
  obtain ⟨W, hW⟩ : ∃ W, w.alloc (.cells #[.int .i64 ver, .slice a1 bs.length c1] 45) = W := ⟨_, rfl⟩
  rw [hW] at HV HC HK hal
  have HW := hide hW
  obtain ⟨⟨d0, d1⟩, -⟩ := HC.out.duo
  have k0 := cell_regrown d0
  have k1 := cell_regrown d1
  clear hv hf hkk hb hW d0 d1
  cases h : inB ver 0 1000000
  · have HN := hide (show b = false from HB.out.no (fun hh => by have := inB_iff.2 hh.1; rw [h] at this; cases this))
    have H1 := hide (show ∀ d os, Calls Tryz.prog 112 #[.int .i64 ver] (grow (redrawn W d) os) fun e w'' => e = .returned (.bool false) ∧ ∃ p : Regrown, w'' = grow (redrawn W p.d) p.os from fun d os => Calls.regrown_of ((impl_ver ver _).mono fun e w' hh => same_below (by rw [h] at hh; exact hh)))
    go_enter Tryz.func67, Tryz.ntmps67
    go_upto_region 1 with fail
    rw [HW.out]
    refine wp_region_quiet_below (by kernel_rfl) (by kernel_rfl) ?_
    repeat (go_big_quiet_step (exact H1.out _ _))
    refine wpQuiet_nil ?_
    intro _ hw'
    obtain ⟨⟨dq, osq⟩, hw''⟩ := hw'
    subst hw''
    have hbw := hal.trans ((below_regrown W dq osq).mono hal.size)
    go_wp2
    go_ret
    exact ⟨ret_bool HN.out.symm, hbw⟩
  · obtain ⟨gb, hgb⟩ := bp_ex (GdT bs)
    have HGB := hide hgb
    have HVR := hide (inB_iff.1 h)
    have H1 := hide (show ∀ d os, Calls Tryz.prog 112 #[.int .i64 ver] (grow (redrawn W d) os) fun e w'' => e = .returned (.bool true) ∧ ∃ p : Regrown, w'' = grow (redrawn W p.d) p.os from fun d os => Calls.regrown_of ((impl_ver ver _).mono fun e w' hh => same_below (by rw [h] at hh; exact hh)))
    have H2 := hide (show ∀ d os, Calls Tryz.prog 87 #[.agg #[.slice a1 bs.length c1]] (grow (redrawn W d) os) fun e w'' => e = .returned (.bool gb) ∧ ∃ p : Regrown, w'' = grow (redrawn W p.d) p.os from fun d os => Calls.regrown_of (impl_gt _ bs gb _ (HV.out.below (below_regrown W d os)) HF.out (HK.out.below (below_regrown W d os)) HGB.out))
    clear hgb
    cases gb
    · have HN := hide (show b = false from HB.out.no (fun hh => by have := HGB.out.2 hh.2.1; cases this))
      go_enter Tryz.func67, Tryz.ntmps67
      go_upto_region 1 with fail
      rw [HW.out]
      refine wp_region_quiet_below (by kernel_rfl) (by kernel_rfl) ?_
      repeat (go_big_quiet_step (first | exact H1.out _ _ | exact H2.out _ _))
      refine wpQuiet_nil ?_
      intro _ hw'
      obtain ⟨⟨dq, osq⟩, hw''⟩ := hw'
      subst hw''
      have hbw := hal.trans ((below_regrown W dq osq).mono hal.size)
      go_wp2
      go_ret
      exact ⟨ret_bool HN.out.symm, hbw⟩
    · have HG := hide (HGB.out.1 rfl)
      obtain ⟨z, hz⟩ : ∃ z, nws bs = z := ⟨_, rfl⟩
      have H3 := hide (show ∀ d os, Calls Tryz.prog 114 #[.agg #[.slice a1 bs.length c1]] (grow (redrawn W d) os) fun e w'' => e = .returned (.int .i64 z) ∧ ∃ p : Regrown, w'' = grow (redrawn W p.d) p.os from fun d os => Calls.regrown_of ((impl_newest _ bs _ (HV.out.below (below_regrown W d os)) HF.out HG.out).mono fun e w' hh => by rw [hz] at hh; exact hh))
      have HN := hide (show b = decide (z ≤ ver) from by
        have hi := nws_iff HG.out HVR.out.1
        rw [hz] at hi
        by_cases c : z ≤ ver
        · rw [decide_eq_true c]; exact HB.out.yes ⟨HVR.out, HG.out, hi.1 c⟩
        · rw [decide_eq_false c]; exact HB.out.no (fun hh => c (hi.2 hh.2.2)))
      clear hz
      go_enter Tryz.func67, Tryz.ntmps67
      go_upto_region 1 with fail
      rw [HW.out]
      refine wp_region_quiet_below (by kernel_rfl) (by kernel_rfl) ?_
      repeat (go_big_quiet_step (first | exact H1.out _ _ | exact H2.out _ _ | exact H3.out _ _))
      refine wpQuiet_nil ?_
      intro _ hw'
      obtain ⟨⟨dq, osq⟩, hw''⟩ := hw'
      subst hw''
      have hbw := hal.trans ((below_regrown W dq osq).mono hal.size)
      go_wp2
      go_ret
      exact ⟨ret_bool HN.out.symm, hbw⟩
set_option maxHeartbeats 1000000 in
theorem impl_goodR (id ver : Int) (v : Value) (bs : Brs) (b : Bool) (w : World) (hv : BrsOf w v bs) (hf : FineS bs) (hkk : KK w) (hb : BP b (GdR ⟨id, ver, bs⟩)) :
    Calls Tryz.prog 41 #[rv id ver v] w fun e w' => e = .returned (.bool b) ∧ Below w.heap.size w w' := by
  have hal := low1 w (.cells #[.int .i64 id, .int .i64 ver, v] 34)
  have HV := hide (hv.below hal)
  have HC := hide (new3 w (.int .i64 id) (.int .i64 ver) v 34)
  have HF := hide hf
  have HB := hide hb
  have HK := hide (hkk.below hal)
  obtain ⟨a1, c1, rfl⟩ := hv.form
  obtain ⟨⟨d0, d1, d2⟩, -⟩ := HC.out.tri
  clear hv hf hkk hb
  cases h : inB id 0 9
  · have HN := hide (show b = false from HB.out.no (fun hh => by have := inB_iff.2 hh.1; rw [h] at this; cases this))
    go_enter Tryz.func41, Tryz.ntmps41
    go_wp2_with fail
    refine (impl_rid _ _).mono ?_
    rw [h]
    rintro e w' ⟨rfl, rfl⟩
    go_wp2
    go_ret
    exact ⟨ret_bool HN.out.symm, hal⟩
  · have HBW := hide (show BP b (GdW ver bs) from ⟨fun e => (HB.out.1 e).2, fun hh => HB.out.2 ⟨inB_iff.1 h, hh⟩⟩)
    go_enter Tryz.func41, Tryz.ntmps41
    go_wp2_with fail
    refine (impl_rid _ _).mono ?_
    rw [h]
    rintro e w' ⟨rfl, rfl⟩
    go_wp2_with fail
    refine (impl_goodWord ver _ bs b _ HV.out HF.out HK.out HBW.out).mono ?_
    rintro e w2 ⟨rfl, hb2⟩
    have hbw := hal.trans (hb2.mono hal.size)
    go_wp2
    go_ret
    exact ⟨rfl, hbw⟩
set_option maxHeartbeats 1000000 in
theorem impl_active (id ver : Int) (v : Value) (bs : Brs) (b : Bool) (w : World) (hv : BrsOf w v bs) (hf : FineS bs) (hkk : KK w) (hb : BP b (GdR ⟨id, ver, bs⟩)) :
    Calls Tryz.prog 15 #[rv id ver v] w fun e w' => e = .returned (.tuple #[.bool (b && (rgv ver == id)), .bool b]) ∧ Below w.heap.size w w' := by
  have hal := low1 w (.cells #[.int .i64 id, .int .i64 ver, v] 34)
  have HV := hide (hv.below hal)
  have HC := hide (new3 w (.int .i64 id) (.int .i64 ver) v 34)
  have HF := hide hf
  have HB := hide hb
  have HK := hide (hkk.below hal)
  obtain ⟨a1, c1, rfl⟩ := hv.form
  obtain ⟨⟨d0, d1, d2⟩, -⟩ := HC.out.tri
  clear hv hf hkk hb
  cases b
  · go_enter Tryz.func15, Tryz.ntmps15
    go_wp2_with fail
    refine (impl_goodR id ver _ bs false _ HV.out HF.out HK.out HB.out).mono ?_
    rintro e w2 ⟨rfl, hb2⟩
    have hbw := hal.trans (hb2.mono hal.size)
    go_wp2
    go_ret2
    exact ⟨rfl, hbw⟩
  · obtain ⟨z, hz⟩ : ∃ z, (rgv ver == id) = z := ⟨_, rfl⟩
    have HZ := hide hz
    rw [hz]
    clear hz
    go_enter Tryz.func15, Tryz.ntmps15
    go_wp2_with fail
    refine (impl_goodR id ver _ bs true _ HV.out HF.out HK.out HB.out).mono ?_
    rintro e w2 ⟨rfl, hb2⟩
    have hbw := hal.trans (hb2.mono hal.size)
    obtain ⟨⟨e0, e1, e2⟩, -⟩ := (HC.out.down hb2).tri
    clear d0 d1 d2
    go_wp2_with fail
    refine (impl_leads _ _ _).mono ?_
    rw [HZ.out]
    rintro e w' ⟨rfl, rfl⟩
    go_wp2
    go_ret2
    exact ⟨rfl, hbw⟩
end Go.Proofs.YtfkeokglifpkoaaGreatDoor
