/-
  IsHistory and SignalsIn in both texts. Condition of the program's: the table knownKinds reads as its text lays it.
-/
import Derived.Test.YtfkeokglifpkoaaDoorJoin32
import Derived.Test.YtfkeokglifpkoaaDoorJoin33
namespace Go.Proofs.YtfkeokglifpkoaaDoor
open Go.RowKit M
open Clk (upd upd_same upd_other)
open Go.Sort (grow)
namespace M
def cmpI (a b : Int) : Int := if a < b then -1 else if b < a then 1 else 0
theorem Vup.succ {es : List Ev} {k : Nat} (h : Vup es k) (h2 : ∀ j d e, j + 1 = k → es[j]? = some d → es[k]? = some e → d.ver ≤ e.ver) : Vup es (k + 1) := fun i d e hi hd he => by
  by_cases c : i + 1 = k
  · subst c; exact h2 i d e rfl hd he
  · exact h i d e (by omega) hd he
theorem Vup.bad {es : List Ev} {j : Nat} {d e : Ev} (hd : es[j]? = some d) (he : es[j + 1]? = some e) (hv : e.ver < d.ver) : ¬ Vup es es.length := fun h => by
  have hl : j + 1 < es.length := by
    rcases Nat.lt_or_ge (j + 1) es.length with h' | h'
    · exact h'
    · rw [List.getElem?_eq_none h'] at he; cases he
  have := h j d e hl hd he
  omega
/-- Versions that do not fall from place i on. -/
def Vdn (es : List Ev) (i : Nat) : Prop := ∀ j d e, i ≤ j → es[j]? = some d → es[j + 1]? = some e → d.ver ≤ e.ver
theorem Vdn.step {es : List Ev} {i : Nat} {d e : Ev} (h : Vdn es (i + 1)) (hd : es[i]? = some d) (he : es[i + 1]? = some e) (hv : d.ver ≤ e.ver) : Vdn es i := fun j d' e' hj hd' he' => by
  by_cases c : j = i
  · subst c
    rw [hd] at hd'; rw [he] at he'
    simp only [Option.some.injEq] at hd' he'
    subst hd'; subst he'; exact hv
  · exact h j d' e' (by omega) hd' he'
theorem Vdn.up {es : List Ev} (h : Vdn es 0) : Vup es es.length := fun i d e _ hd he => h i d e (Nat.zero_le _) hd he
theorem Vdn.top {es : List Ev} {i : Nat} (h : es.length ≤ i + 1) : Vdn es i := fun j d e hj hd he => by
  rw [List.getElem?_eq_none (by omega)] at he; cases he
end M
theorem nan_int (a : Int) (w : World) : Calls Tryd.prog 68 #[.int .i64 a] w fun e w' => e = .returned (.bool false) ∧ w' = w := by
  have h : (a != a) = false := by simp
  go_enter Tryd.func68, Tryd.ntmps68
  go_wp2
  go_ret
  exact ⟨by simp, rfl⟩
theorem cmp_int (a b : Int) (w : World) : Calls Tryd.prog 60 #[.int .i64 a, .int .i64 b] w fun e w' => e = .returned (.int .i64 (cmpI a b)) ∧ w' = w := by
  rcases (show a < b ∨ a = b ∨ b < a by omega) with h | h | h
  · go_enter Tryd.func60, Tryd.ntmps60
    go_wp2_with (go_at_call 68; refine (nan_int _ _).mono ?_; rintro e w' ⟨rfl, rfl⟩)
    go_ret
    exact ⟨ret_int (by unfold cmpI; rw [if_pos h]), rfl⟩
  · subst h
    have h1 : ¬ a < a := by omega
    go_enter Tryd.func60, Tryd.ntmps60
    go_wp2_with (go_at_call 68; refine (nan_int _ _).mono ?_; rintro e w' ⟨rfl, rfl⟩)
    go_ret
    exact ⟨ret_int (by unfold cmpI; rw [if_neg (by omega), if_neg (by omega)]), rfl⟩
  · have h1 : ¬ a < b := by omega
    have h2 : a > b := h
    go_enter Tryd.func60, Tryd.ntmps60
    go_wp2_with (go_at_call 68; refine (nan_int _ _).mono ?_; rintro e w' ⟨rfl, rfl⟩)
    go_ret
    exact ⟨ret_int (by unfold cmpI; rw [if_neg (by omega), if_pos h]), rfl⟩
theorem by_ver (a b : Ev) (w : World) : Calls Tryd.prog 51 #[a.v, b.v] w fun e w' => e = .returned (.int .i64 (cmpI a.ver b.ver)) ∧ Below w.heap.size w w' := by
  have hb := ((Below.refl w.heap.size w).alloc (Nat.le_refl _) (.cells (evarr a) 45)).alloc (by simp) (.cells (evarr b) 45)
  show Calls Tryd.prog 51 #[ev a.id a.ver a.kind a.name, ev b.id b.ver b.kind b.name] w _
  go_enter Tryd.func51, Tryd.ntmps51
  go_wp2_with (go_at_call 60; refine (cmp_int _ _ _).mono ?_; rintro e w' ⟨rfl, rfl⟩)
  go_ret
  exact ⟨rfl, hb⟩
set_option maxRecDepth 20000 in
set_option maxHeartbeats 4000000 in
theorem is_sorted (v : Value) (es : List Ev) (b : Bool) (w : World) (hv : SliceOf w v es) (hlen : es.length ≤ 1048576) (hb : BP b (Vup es es.length)) :
    Calls Tryd.prog 50 #[v, .func (.func 51) #[] #[]] w fun e w' => e = .returned (.bool b) ∧ Below w.heap.size w w' := by
  obtain ⟨a, cap, rfl, hr⟩ := hv
  have HR := hide hr
  have HB := hide hb
  clear hr hb
  go_enter Tryd.func50, Tryd.ntmps50
  go_wp2
  go_loopw [5] (fun i wr => ∃ z : Int, i = .int .i64 z ∧ -1 ≤ z ∧ z < (es.length : Int) ∧ Hid (Vdn es z.toNat) ∧ Below w.heap.size w wr) (fun i _ => (intOf i).toNat)
  case atStart => exact ⟨_, rfl, by omega, by omega, hide (Vdn.top (by omega)), Below.refl _ _⟩
  case round =>
    obtain ⟨z, rfl, hz0, hz1, HD, hbw⟩ := hrel
    by_cases hpos : 0 < z
    · obtain ⟨i, hi⟩ : ∃ i : Nat, z = (i : Int) + 1 := ⟨(z - 1).toNat, by omega⟩
      subst hi
      have hil : i + 1 < es.length := by omega
      obtain ⟨bb, off, rfl, hbb, hrow⟩ := HR.out (by intro h; subst h; simp at hil)
      obtain ⟨d, hd⟩ : ∃ d, es[i]? = some d := ⟨es[i], List.getElem?_eq_getElem (by omega)⟩
      obtain ⟨e, he⟩ : ∃ e, es[i + 1]? = some e := ⟨es[i + 1], List.getElem?_eq_getElem hil⟩
      obtain ⟨c0, c1, c2, c3⟩ := (hrow i d hd).below hbw hbb
      obtain ⟨g0, g1, g2, g3⟩ := (hrow (i + 1) e he).below hbw hbb
      have hD := HD.out
      rw [show ((i : Int) + 1).toNat = i + 1 by omega] at hD
      have HD2 := hide hD
      have HDD := hide hd
      have HEE := hide he
      clear hrow hd he HR HD hD hpos hz0
      have hpd : (0 : Int) < (i : Int) + 1 := by omega
      have hpd2 : (i : Int) + 1 > 0 := by omega
      have k0 := cell_regrown c0
      have k1 := cell_regrown c1
      have k2 := cell_regrown c2
      have k3 := cell_regrown c3
      have m0 := cell_regrown g0
      have m1 := cell_regrown g1
      have m2 := cell_regrown g2
      have m3 := cell_regrown g3
      have hi0 : (0 : Int) ≤ (i : Int) := by omega
      have hi1 : (i : Int) < (es.length : Int) := by omega
      have hi2 : (0 : Int) ≤ (i : Int) + 1 := by omega
      have hi3 : (i : Int) + 1 < (es.length : Int) := by omega
      have hi4 : (i : Int) + 1 - 1 = (i : Int) := by omega
      have hi5 : ((i : Int) + 1).toNat = i + 1 := by omega
      have HE := hide (show ∀ dd os, Calls Tryd.prog 51 #[.agg #[.int .i64 e.id, .int .i64 e.ver, .int .i64 e.kind, .string e.name], .agg #[.int .i64 d.id, .int .i64 d.ver, .int .i64 d.kind, .string d.name]] (grow (redrawn wr dd) os) fun e' w'' => e' = .returned (.int .i64 (cmpI e.ver d.ver)) ∧ ∃ p : Regrown, w'' = grow (redrawn wr p.d) p.os from fun dd os => Calls.regrown_of (by_ver e d _))
      clear c0 c1 c2 c3 g0 g1 g2 g3
      go_wp2
      refine wp_region_quiet_below (by kernel_rfl) (by kernel_rfl) ?_
      repeat (go_big_quiet_step (exact HE.out _ _))
      refine wpQuiet_nil ?_
      intro _ hw'
      obtain ⟨⟨dq, osq⟩, hw''⟩ := hw'
      subst hw''
      have hbw2 := hbw.trans ((below_regrown wr dq osq).mono hbw.size)
      clear HE k0 k1 k2 k3 m0 m1 m2 m3
      by_cases hlt : e.ver < d.ver
      · have HF := hide (HB.out.no (Vup.bad HDD.out HEE.out hlt))
        have hneg : cmpI e.ver d.ver < 0 := by unfold cmpI; rw [if_pos hlt]; decide
        clear hlt
        go_wp2
        go_ret
        exact ⟨ret_bool HF.out.symm, hbw2⟩
      · have hneg : ¬ cmpI e.ver d.ver < 0 := by unfold cmpI; rw [if_neg hlt]; split <;> decide
        have HD3 := hide (HD2.out.step HDD.out HEE.out (by omega))
        clear hlt
        go_wp2
        go_roundw
        case rel => exact ⟨(i : Int), by go_num, by omega, by omega, hide (by rw [Int.toNat_natCast]; exact HD3.out), hbw2⟩
        case measure => first | (simp [intOf]; done) | (simp [intOf]; omega)
    · have HF := hide (HB.out.yes (Vdn.up (by
        have := HD.out
        rwa [show z.toNat = 0 by omega] at this)))
      clear HR HD
      go_wp2
      go_ret
      exact ⟨ret_bool HF.out.symm, hbw⟩
set_option maxRecDepth 20000 in
set_option maxHeartbeats 4000000 in
theorem spec_hist (v : Value) (es : List Ev) (b : Bool) (w : World) (hv : SliceOf w v es) (hlen : es.length ≤ 1048576) (hnm : ∀ e ∈ es, e.name.size ≤ maxLen) (hb : BP b (Hist es)) :
    Calls Tryd.prog 28 #[v] w fun e w' => e = .returned (.bool b) ∧ Below w.heap.size w w' := by
  have HV := hide hv
  obtain ⟨a, cap, rfl, hr⟩ := hv
  have HR := hide hr
  have HB := hide hb
  have HNM := hide hnm
  clear hr hb hnm
  go_enter Tryd.func28, Tryd.ntmps28
  go_wp2
  go_loopw [8] (fun i wr => ∃ k : Nat, k ≤ es.length ∧ i = .int .i64 k ∧ Hid (Vup es k) ∧ Below w.heap.size w wr) (fun i _ => es.length - (intOf i).toNat)
  case atStart => exact ⟨0, Nat.zero_le _, rfl, hide (fun i d e h => absurd h (by omega)), Below.refl _ _⟩
  case round =>
    obtain ⟨k, hk, rfl, HU, hbw⟩ := hrel
    by_cases hlt : k < es.length
    · obtain ⟨bb, off, rfl, hbb, hrow⟩ := HR.out (by intro h; subst h; simp at hlt)
      obtain ⟨x, hx⟩ : ∃ x, es[k]? = some x := ⟨es[k], List.getElem?_eq_getElem hlt⟩
      have HX := hide hx
      have HRow := hide hrow
      have k1 := cell_regrown ((hrow k x hx).below hbw hbb).2.1
      have hi0 : (0 : Int) ≤ (k : Int) := by omega
      have hi1 : (k : Int) < (es.length : Int) := by omega
      clear hrow hx HR HV HNM
      by_cases hk0 : k = 0
      · have hg0 : decide ((k : Int) > 0) = false := decide_eq_false (by omega)
        have hg1 : decide (0 < k) = false := decide_eq_false (by omega)
        have hg2 : decide ((0 : Int) < (k : Int)) = false := decide_eq_false (by omega)
        have HU2 := hide (HU.out.succ (fun j d e hj _ _ => by omega))
        clear hk0
        go_wp2
        refine wp_region_quiet_below (by kernel_rfl) (by kernel_rfl) ?_
        repeat (go_big_quiet_step (fail))
        refine wpQuiet_nil ?_
        intro _ hw'
        obtain ⟨⟨dq, osq⟩, hw''⟩ := hw'
        subst hw''
        have hbw2 := hbw.trans ((below_regrown wr dq osq).mono hbw.size)
        clear k1
        go_wp2
        go_roundw
        case rel => exact ⟨k + 1, by omega, by go_num, HU2, hbw2⟩
        case measure => simp [intOf]; omega
      · obtain ⟨j, hj⟩ : ∃ j, k = j + 1 := ⟨k - 1, by omega⟩
        obtain ⟨d, hd⟩ : ∃ d, es[j]? = some d := ⟨es[j], List.getElem?_eq_getElem (by omega)⟩
        have hg0 : decide ((k : Int) > 0) = true := decide_eq_true (by omega)
        have hg1 : decide (0 < k) = true := decide_eq_true (by omega)
        have hg2 : decide ((0 : Int) < (k : Int)) = true := decide_eq_true (by omega)
        have hkj : (k : Int) - 1 = (j : Int) := by omega
        have hj0 : (0 : Int) ≤ (j : Int) := by omega
        have hj1 : (j : Int) < (es.length : Int) := by omega
        have k5 := cell_regrown ((HRow.out j d hd).below hbw hbb).2.1
        have HJ := hide (And.intro hj hd)
        clear hj hd hk0 HRow
        by_cases hv : d.ver > x.ver
        · have hv2 : decide (d.ver > x.ver) = true := decide_eq_true hv
          have HF := hide (HB.out.no (fun h => Vup.bad HJ.out.2 (by rw [← HJ.out.1]; exact HX.out) hv h.2.2))
          clear hv
          go_wp2
          refine wp_region_quiet_below (by kernel_rfl) (by kernel_rfl) ?_
          repeat (go_big_quiet_step (fail))
          refine wpQuiet_nil ?_
          intro _ hw'
          obtain ⟨⟨dq, osq⟩, hw''⟩ := hw'
          subst hw''
          have hbw2 := hbw.trans ((below_regrown wr dq osq).mono hbw.size)
          clear k1 k5
          go_wp2
          go_ret
          exact ⟨ret_bool HF.out.symm, hbw2⟩
        · have hv2 : decide (d.ver > x.ver) = false := decide_eq_false hv
          have HU2 := hide (HU.out.succ (fun j2 d2 e2 hj2 hd2 he2 => by
            obtain rfl : j2 = j := by have := HJ.out.1; omega
            rw [HJ.out.2] at hd2
            rw [HX.out] at he2
            simp only [Option.some.injEq] at hd2 he2
            subst hd2; subst he2; omega))
          clear hv
          go_wp2
          refine wp_region_quiet_below (by kernel_rfl) (by kernel_rfl) ?_
          repeat (go_big_quiet_step (fail))
          refine wpQuiet_nil ?_
          intro _ hw'
          obtain ⟨⟨dq, osq⟩, hw''⟩ := hw'
          subst hw''
          have hbw2 := hbw.trans ((below_regrown wr dq osq).mono hbw.size)
          clear k1 k5
          go_wp2
          go_roundw
          case rel => exact ⟨k + 1, by omega, by go_num, HU2, hbw2⟩
          case measure => simp [intOf]; omega
    · obtain rfl : k = es.length := by omega
      obtain ⟨kf, hkf⟩ := M.End.ex es
      have HKF := hide hkf
      clear HR hkf
      go_wp2_with fail
      refine (spec_fold _ es kf _ (HV.out.below hbw) hlen HNM.out HKF.out).mono ?_
      rintro e' w2 ⟨⟨u0, u1, rfl, hAL⟩, hb2⟩
      obtain ⟨a2, c2, rfl⟩ := hAL.o0.form
      obtain ⟨a3, c3, rfl⟩ := hAL.o1.form
      have hdn := (Below.refl w2.heap.size w2).alloc (Nat.le_refl _) (.cells (sarr (.slice a2 (sk es kf).sg.length c2) (.slice a3 (sk es kf).tm.length c3) (sk es kf)) 73)
      have hb3 := hbw.trans (hb2.mono hbw.size)
      have hb4 := hb3.trans (hdn.mono hb3.size)
      clear hAL hb2 hdn hb3 HV HNM
      by_cases hkl : kf = es.length
      · have hkl2 : ((kf : Int) == (es.length : Int)) = true := by simp [hkl]
        have hkl3 : (kf == es.length) = true := by simp [hkl]
        have HBB := hide (show b = decide (es.length ≤ 60) from by
          rw [Bool.eq_iff_iff, decide_eq_true_eq]
          exact ⟨fun h => (HB.out.1 h).1, fun h => HB.out.2 ⟨h, by have := HKF.out; rwa [hkl] at this, HU.out⟩⟩)
        clear hkl HB HU
        by_cases h60 : es.length ≤ 60
        · have h60' : (es.length : Int) ≤ 60 := by omega
          go_wp2
          go_ret
          exact ⟨ret_bool (by rw [HBB.out, decide_eq_true h60]), hb4⟩
        · have h60' : ¬ (es.length : Int) ≤ 60 := by omega
          go_wp2
          go_ret
          exact ⟨ret_bool (by rw [HBB.out, decide_eq_false h60]; simp; omega), hb4⟩
      · have hkl2 : ((kf : Int) == (es.length : Int)) = false := by simp; omega
        have hkl3 : (kf == es.length) = false := by simp [hkl]
        have HF := hide (HB.out.no (fun h => hkl (HKF.out.uniq h.2.1)))
        clear hkl HB HU
        go_wp2
        go_ret
        exact ⟨ret_bool (by rw [HF.out]), hb4⟩
set_option maxRecDepth 20000 in
set_option maxHeartbeats 4000000 in
theorem impl_hist (v : Value) (es : List Ev) (b : Bool) (w : World) (hv : SliceOf w v es) (hlen : es.length ≤ 1048576) (hnm : ∀ e ∈ es, e.name.size ≤ maxLen) (hkk : KK w) (hb : BP b (Hist es)) :
    Calls Tryd.prog 40 #[v] w fun e w' => e = .returned (.bool b) ∧ Below w.heap.size w w' := by
  have HV := hide hv
  obtain ⟨a, cap, rfl, -⟩ := hv
  have HB := hide hb
  have HNM := hide hnm
  have HK := hide hkk
  clear hb hnm hkk
  by_cases h60 : es.length ≤ 60
  case neg =>
    have hgt : (60 : Int) < (es.length : Int) := by omega
    have HF := hide (HB.out.no (fun h => h60 h.1))
    go_enter Tryd.func40, Tryd.ntmps40
    go_wp2
    go_ret
    exact ⟨ret_bool HF.out.symm, Below.refl _ _⟩
  have hgt : ¬ (60 : Int) < (es.length : Int) := by omega
  obtain ⟨kf, hkf⟩ := M.End.ex es
  have HKF := hide hkf
  clear hkf
  go_enter Tryd.func40, Tryd.ntmps40
  go_wp2_with fail
  refine (impl_fold _ es kf _ HV.out hlen HNM.out HK.out HKF.out).mono ?_
  rintro e' w2 ⟨⟨u0, u1, rfl, hAL⟩, hb2⟩
  obtain ⟨a2, c2, rfl⟩ := hAL.o0.form
  obtain ⟨a3, c3, rfl⟩ := hAL.o1.form
  have hdn := (Below.refl w2.heap.size w2).alloc (Nat.le_refl _) (.cells (sarr (.slice a2 (sk es kf).sg.length c2) (.slice a3 (sk es kf).tm.length c3) (sk es kf)) 73)
  have hb4 := hb2.trans (hdn.mono hb2.size)
  clear hAL hb2 hdn HNM HK
  by_cases hkl : kf = es.length
  · have hkl2 : ((kf : Int) == (es.length : Int)) = true := by simp [hkl]
    have hkl3 : (kf == es.length) = true := by simp [hkl]
    have HBB := hide (show BP b (Vup es es.length) from ⟨fun h => (HB.out.1 h).2.2, fun h => HB.out.2 ⟨h60, by have := HKF.out; rwa [hkl] at this, h⟩⟩)
    clear hkl HB
    go_wp2_with fail
    refine (is_sorted _ es b _ (HV.out.below hb4) hlen HBB.out).mono ?_
    rintro e' w5 ⟨rfl, hb⟩
    have hb5 := hb4.trans (hb.mono hb4.size)
    clear hb hb4
    go_wp2
    go_ret
    exact ⟨rfl, hb5⟩
  · have hkl2 : ((kf : Int) == (es.length : Int)) = false := by simp; omega
    have hkl3 : (kf == es.length) = false := by simp [hkl]
    have HF := hide (HB.out.no (fun h => hkl (HKF.out.uniq h.2.1)))
    clear hkl HB
    go_wp2
    go_ret
    exact ⟨ret_bool HF.out.symm, hb4⟩
namespace M
/-- What SignalsIn answers: names and whether, in memory of its own. -/
def SgA (w w' : World) (e' : Ending) (l : Txs) (b : Bool) : Prop := ∃ a n c, e' = .returned (.tuple #[.slice a n c, .bool b]) ∧ OwnT w' w.heap.size (.slice a n c) l
end M
end Go.Proofs.YtfkeokglifpkoaaDoor
