/-
  ItemsOf of the specification.
-/
import Derived.Test.YtbajiamkgffhkaaDoorItW
namespace Go.Proofs.YtbajiamkgffhkaaDoor
open Go.RowKit M
open Clk (upd upd_same upd_other)
open Go.Sort (grow)
set_option maxRecDepth 20000 in
set_option maxHeartbeats 8000000 in
theorem spec_itemsOf (v : Value) (es : List Ev) (w : World) (hv : SliceOf w v es) (hlen : es.length ≤ 1048576) (hnm : ∀ e ∈ es, e.name.size ≤ maxLen) :
    Calls Tryd.prog 6 #[v] w fun e w' => IP w w' es e := by
  obtain ⟨a, cap, rfl, hr⟩ := hv
  have HR := hide hr
  have HNM := hide hnm
  clear hr hnm
  go_enter Tryd.func6, Tryd.ntmps6
  go_wp2
  go_loopw [4, 9] (fun o i wr => ∃ (k n c : Nat) (ao : Option Addr), k ≤ es.length ∧ i = .int .i64 k ∧ o = .slice ao n c ∧ n ≤ 1048576 ∧ Hid (n = (ga es k).1 ∧ AnsT wr w.heap.size (.slice ao n c) n (ga es k).2) ∧ Hid (Pf es k) ∧ Below w.heap.size w wr) (fun _ i _ => es.length - (intOf i).toNat)
  case atStart => exact ⟨0, 0, 0, none, Nat.zero_le _, rfl, rfl, by omega, hide ⟨rfl, .inl ⟨rfl, rfl⟩⟩, hide (fun i e h => absurd h (by omega)), Below.refl _ _⟩
  case round =>
    obtain ⟨k, n, c, ao, hk, rfl, rfl, hn, HO, HP, hbw⟩ := hrel
    by_cases hlt : k < es.length
    · obtain ⟨b, off, rfl, hb, hrow⟩ := HR.out (by intro h; subst h; simp at hlt)
      obtain ⟨x, hx⟩ : ∃ x, es[k]? = some x := ⟨es[k], List.getElem?_eq_getElem hlt⟩
      obtain ⟨c0, c1, c2, c3⟩ := (hrow k x hx).below hbw hb
      have HXN := hide (HNM.out x (List.mem_of_getElem? hx))
      have HX := hide hx
      have HRow := hide hrow
      have hdx := (Below.refl wr.heap.size wr).alloc (Nat.le_refl _) (.cells #[.int .i64 x.id, .int .i64 x.ver, .int .i64 x.kind, .string x.name] 37)
      have hbw2 := hbw.trans (hdx.mono hbw.size)
      have hEB := EB.new wr x
      have HO2 := hide (HO.out.2.down hdx)
      have HNE := hide HO.out.1
      obtain ⟨l, hl⟩ : ∃ l, (ga es k).2 = l := ⟨_, rfl⟩
      have HLE := hide hl
      rw [hl] at HO2
      have hi0 : (0 : Int) ≤ (k : Int) := by omega
      have hi1 : (k : Int) < (es.length : Int) := by omega
      have hk60 : k ≤ 1048576 := by omega
      clear HR hrow hx HO hl
      go_wp2
      generalize hWX : wr.alloc (.cells #[.int .i64 x.id, .int .i64 x.ver, .int .i64 x.kind, .string x.name] 37) = X at *
      have hgs : X.heap.size = wr.heap.size + 1 := by rw [← hWX]; simp
      have HGS := hide hgs
      obtain ⟨e0, e1, e2, e3⟩ := hEB.cells
      simp only [Nat.zero_add] at e1 e2 e3
      have k0 := cell_regrown e0
      have k1 := cell_regrown e1
      have k2 := cell_regrown e2
      have k3 := cell_regrown e3
      clear e0 e1 e2 e3 hWX hgs c0 c1 c2 c3 hEB hdx
      cases hok : x.ok
      · have HN := hide (show ¬ IOk es from fun h => by have := (h.2.1 k x hlt HX.out).1; rw [hok] at this; cases this)
        have HE := hide (show ∀ d os, Calls Tryd.prog 25 #[ev x.id x.ver x.kind x.name] (grow (redrawn X d) os) fun e w'' => e = .returned (.bool false) ∧ ∃ p : Regrown, w'' = grow (redrawn X p.d) p.os from fun d os => by
          have := spec_good x.id x.ver x.kind x.name (grow (redrawn X d) os) HXN.out
          rw [show goodB x.id x.ver x.kind x.name = false from hok] at this
          exact Calls.regrown_of this)
        refine wp_region_quiet_below (by kernel_rfl) (by kernel_rfl) ?_
        repeat (go_big_quiet_step (exact HE.out _ _))
        refine wpQuiet_nil ?_
        intro _ hw'
        obtain ⟨⟨dq, osq⟩, hw''⟩ := hw'
        subst hw''
        have hbq := below_regrown X dq osq
        have hbw3 := hbw2.trans (hbq.mono hbw2.size)
        clear hbq HE HO2
        go_wp2
        go_ret2
        exact ⟨.inr ⟨HN.out, rfl⟩, hbw3⟩
      · by_cases hid : x.id = (k : Int) + 1
        case neg =>
          have hid2 : (x.id != (k : Int) + 1) = true := by simp [hid]
          have HN := hide (show ¬ IOk es from fun h => hid (h.2.1 k x hlt HX.out).2.1)
          have HE := hide (show ∀ d os, Calls Tryd.prog 25 #[ev x.id x.ver x.kind x.name] (grow (redrawn X d) os) fun e w'' => e = .returned (.bool true) ∧ ∃ p : Regrown, w'' = grow (redrawn X p.d) p.os from fun d os => by
            have := spec_good x.id x.ver x.kind x.name (grow (redrawn X d) os) HXN.out
            rw [show goodB x.id x.ver x.kind x.name = true from hok] at this
            exact Calls.regrown_of this)
          refine wp_region_quiet_below (by kernel_rfl) (by kernel_rfl) ?_
          repeat (go_big_quiet_step (exact HE.out _ _))
          refine wpQuiet_nil ?_
          intro _ hw'
          obtain ⟨⟨dq, osq⟩, hw''⟩ := hw'
          subst hw''
          have hbq := below_regrown X dq osq
          have hbw3 := hbw2.trans (hbq.mono hbw2.size)
          clear hbq HE HO2
          go_wp2
          go_ret2
          exact ⟨.inr ⟨HN.out, rfl⟩, hbw3⟩
        have hid2 : (x.id != (k : Int) + 1) = false := by simp [hid]
        have HID := hide hid
        clear hid
        by_cases hk0 : k = 0
        · have hg0 : decide ((k : Int) > 0) = false := decide_eq_false (by omega)
          have hg1 : decide (0 < k) = false := decide_eq_false (by omega)
          have HP2 := hide (HP.out.succ HX.out hok HID.out (fun j d hj _ => by omega))
          clear hk0
          have HE := hide (show ∀ d os, Calls Tryd.prog 25 #[ev x.id x.ver x.kind x.name] (grow (redrawn X d) os) fun e w'' => e = .returned (.bool true) ∧ ∃ p : Regrown, w'' = grow (redrawn X p.d) p.os from fun d os => by
            have := spec_good x.id x.ver x.kind x.name (grow (redrawn X d) os) HXN.out
            rw [show goodB x.id x.ver x.kind x.name = true from hok] at this
            exact Calls.regrown_of this)
          refine wp_region_quiet_below (by kernel_rfl) (by kernel_rfl) ?_
          repeat (go_big_quiet_step (exact HE.out _ _))
          refine wpQuiet_nil ?_
          intro _ hw'
          obtain ⟨⟨dq, osq⟩, hw''⟩ := hw'
          subst hw''
          have hbq := below_regrown X dq osq
          have hbw3 := hbw2.trans (hbq.mono hbw2.size)
          have HO3 := hide (HO2.out.down hbq)
          have d0 := k0 dq osq
          have d1 := k1 dq osq
          generalize grow (redrawn X dq) osq = W3 at *
          have hnl : n ≤ k := by rw [HNE.out]; exact ga_le es k
          clear hbq HE HO2 k0 k1 k2 k3
          go_wp2_with fail
          refine (spec_app _ n l x.id x.ver _ HO3.out.items hn).mono ?_
          rintro e w4 ⟨⟨r, rfl, hAT⟩, hb4⟩
          have hbw4 := hbw3.trans (hb4.mono hbw3.size)
          obtain ⟨ar, cr, rfl⟩ := hAT.form
          have HAT := hide (hAT.mono hbw3.size)
          have hk2 := kpt_le n l x.ver
          have HFin := hide (show kpt n l x.ver + 1 = (ga es (k + 1)).1 ∧ AnsT w4 w.heap.size (.slice ar (kpt n l x.ver + 1) cr) (kpt n l x.ver + 1) (ga es (k + 1)).2 from by
            rw [ga_succ HX.out, ← HNE.out, HLE.out]; exact ⟨rfl, HAT.out⟩)
          have hn2 : kpt n l x.ver + 1 ≤ 1048576 := by omega
          clear hb4 hAT HAT HO3 d0 d1 hbw3
          generalize kpt n l x.ver + 1 = n2 at *
          go_wp2
          exact ⟨⟨k + 1, n2, cr, ar, by omega, by go_num, rfl, hn2, HFin, HP2, hbw4⟩, by first | (simp [intOf]; done) | (simp [intOf]; omega)⟩
        · obtain ⟨j, hj⟩ : ∃ j, k = j + 1 := ⟨k - 1, by omega⟩
          obtain ⟨d, hd⟩ : ∃ d, es[j]? = some d := ⟨es[j], List.getElem?_eq_getElem (by omega)⟩
          have hg0 : decide ((k : Int) > 0) = true := decide_eq_true (by omega)
          have hg1 : decide (0 < k) = true := decide_eq_true (by omega)
          have hkj : (k : Int) - 1 = (j : Int) := by omega
          have hj0 : (0 : Int) ≤ (j : Int) := by omega
          have hj1 : (j : Int) < (es.length : Int) := by omega
          have k5 := cell_regrown ((HRow.out j d hd).below hbw2 hb).2.1
          have HJ := hide (And.intro hj hd)
          clear hj hd hk0
          by_cases hv : d.ver > x.ver
          · have hv2 : decide (d.ver > x.ver) = true := decide_eq_true hv
            have HN := hide (show ¬ IOk es from fun h => by have := (h.2.1 k x hlt HX.out).2.2 j d HJ.out.1 HJ.out.2; omega)
            have HE := hide (show ∀ d os, Calls Tryd.prog 25 #[ev x.id x.ver x.kind x.name] (grow (redrawn X d) os) fun e w'' => e = .returned (.bool true) ∧ ∃ p : Regrown, w'' = grow (redrawn X p.d) p.os from fun d os => by
              have := spec_good x.id x.ver x.kind x.name (grow (redrawn X d) os) HXN.out
              rw [show goodB x.id x.ver x.kind x.name = true from hok] at this
              exact Calls.regrown_of this)
            refine wp_region_quiet_below (by kernel_rfl) (by kernel_rfl) ?_
            repeat (go_big_quiet_step (exact HE.out _ _))
            refine wpQuiet_nil ?_
            intro _ hw'
            obtain ⟨⟨dq, osq⟩, hw''⟩ := hw'
            subst hw''
            have hbq := below_regrown X dq osq
            have hbw3 := hbw2.trans (hbq.mono hbw2.size)
            clear hbq HE HO2
            go_wp2
            go_ret2
            exact ⟨.inr ⟨HN.out, rfl⟩, hbw3⟩
          · have hv2 : decide (d.ver > x.ver) = false := decide_eq_false hv
            have HP2 := hide (HP.out.succ HX.out hok HID.out (fun j2 d2 hj2 hd2 => by
              obtain rfl : j2 = j := by have := HJ.out.1; omega
              rw [HJ.out.2] at hd2
              obtain rfl : d = d2 := by simpa using hd2
              omega))
            have HE := hide (show ∀ d os, Calls Tryd.prog 25 #[ev x.id x.ver x.kind x.name] (grow (redrawn X d) os) fun e w'' => e = .returned (.bool true) ∧ ∃ p : Regrown, w'' = grow (redrawn X p.d) p.os from fun d os => by
              have := spec_good x.id x.ver x.kind x.name (grow (redrawn X d) os) HXN.out
              rw [show goodB x.id x.ver x.kind x.name = true from hok] at this
              exact Calls.regrown_of this)
            refine wp_region_quiet_below (by kernel_rfl) (by kernel_rfl) ?_
            repeat (go_big_quiet_step (exact HE.out _ _))
            refine wpQuiet_nil ?_
            intro _ hw'
            obtain ⟨⟨dq, osq⟩, hw''⟩ := hw'
            subst hw''
            have hbq := below_regrown X dq osq
            have hbw3 := hbw2.trans (hbq.mono hbw2.size)
            clear k5
            have HO3 := hide (HO2.out.down hbq)
            have d0 := k0 dq osq
            have d1 := k1 dq osq
            generalize grow (redrawn X dq) osq = W3 at *
            have hnl : n ≤ k := by rw [HNE.out]; exact ga_le es k
            clear hbq HE HO2 k0 k1 k2 k3
            go_wp2_with fail
            refine (spec_app _ n l x.id x.ver _ HO3.out.items hn).mono ?_
            rintro e w4 ⟨⟨r, rfl, hAT⟩, hb4⟩
            have hbw4 := hbw3.trans (hb4.mono hbw3.size)
            obtain ⟨ar, cr, rfl⟩ := hAT.form
            have HAT := hide (hAT.mono hbw3.size)
            have hk2 := kpt_le n l x.ver
            have HFin := hide (show kpt n l x.ver + 1 = (ga es (k + 1)).1 ∧ AnsT w4 w.heap.size (.slice ar (kpt n l x.ver + 1) cr) (kpt n l x.ver + 1) (ga es (k + 1)).2 from by
              rw [ga_succ HX.out, ← HNE.out, HLE.out]; exact ⟨rfl, HAT.out⟩)
            have hn2 : kpt n l x.ver + 1 ≤ 1048576 := by omega
            clear hb4 hAT HAT HO3 d0 d1 hbw3
            generalize kpt n l x.ver + 1 = n2 at *
            go_wp2
            exact ⟨⟨k + 1, n2, cr, ar, by omega, by go_num, rfl, hn2, HFin, HP2, hbw4⟩, by first | (simp [intOf]; done) | (simp [intOf]; omega)⟩
    · obtain rfl : k = es.length := by omega
      obtain ⟨i1, -, -, -⟩ := ga_inv es es.length (Nat.le_refl _) HP.out
      obtain ⟨l, hl⟩ : ∃ l, (ga es es.length).2 = l := ⟨_, rfl⟩
      have HLE := hide hl
      have HO2 := hide (show AnsT wr w.heap.size (.slice ao n c) n l by rw [← hl]; exact HO.out.2)
      have HNE := hide HO.out.1
      have HRS := hide (show Ris n l by rw [← hl, HNE.out]; exact i1)
      clear HR HNM HO hl i1
      by_cases h60 : es.length ≤ 60
      · have hd : decide ((es.length : Int) > 60) = false := decide_eq_false (by omega)
        have hng : ¬ (es.length : Int) > 60 := by omega
        go_wp2_with fail
        refine (spec_goodI _ n l _ HO2.out.items hn).mono ?_
        rintro e w3 ⟨rfl, hb3⟩
        have hB3 := hbw.trans (hb3.mono hbw.size)
        cases hg : decide (GoodI n l)
        · have HN := hide (show ¬ IOk es from fun h => of_decide_eq_false hg ⟨by have := h.2.2; rw [HNE.out]; exact this, HRS.out⟩)
          clear HO2 hb3
          go_wp2
          go_ret2
          exact ⟨.inr ⟨HN.out, rfl⟩, hB3⟩
        · have HF := hide (show IOk es ∧ AnsT w3 w.heap.size (.slice ao n c) (ga es es.length).1 (ga es es.length).2 from ⟨⟨h60, HP.out, by rw [← HNE.out]; exact (of_decide_eq_true hg).1⟩, by rw [HLE.out, ← HNE.out]; exact HO2.out.down hb3⟩)
          clear HO2 hb3
          go_wp2
          go_ret2
          exact ⟨.inl ⟨HF.out.1, _, rfl, HF.out.2⟩, hB3⟩
      · have hd : decide ((es.length : Int) > 60) = true := decide_eq_true (by omega)
        have hng : (es.length : Int) > 60 := by omega
        have HN := hide (show ¬ IOk es from fun h => h60 h.1)
        clear HO2
        go_wp2
        go_ret2
        exact ⟨.inr ⟨HN.out, rfl⟩, hbw⟩
end Go.Proofs.YtbajiamkgffhkaaDoor
