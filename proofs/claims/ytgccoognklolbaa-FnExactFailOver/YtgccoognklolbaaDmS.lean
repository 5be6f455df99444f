/-
  The specification's MergeDomains: the domains of two lists put together, name by name.
-/
import Derived.Test.YtgccoognklolbaaDmG
import Derived.Test.YtgccoognklolbaaDmI
namespace Go.Proofs.Ytgccoognklolbaa
open Go.RowKit M
open Go.Sort (grow)
namespace M
noncomputable def mgb (a c : Dms) : Bool := gdB a && (gdB c && decide ((mrg a c).length ≤ 12))
noncomputable def mga (a c : Dms) : Dms := if mgb a c = true then mrg a c else []
theorem mga_yes {a c : Dms} (h : mgb a c = true) : mga a c = mrg a c := by unfold mga; rw [if_pos h]
theorem mga_no {a c : Dms} (h : mgb a c = false) : mga a c = [] := by unfold mga; rw [if_neg (by rw [h]; simp)]
theorem drop_at {l : Dms} {i : Nat} {d : Dm} (h : l[i]? = some d) : l.drop i = d :: l.drop (i + 1) := by
  have hi := ltD h
  rw [List.drop_eq_getElem_cons hi]
  rw [List.getElem?_eq_getElem hi] at h
  simp only [Option.some.injEq] at h
  rw [h]
/-- What is gathered, and what is left. -/
def Mg (la lc : Dms) (i k : Nat) (q : Dms) : Prop := q ++ mrg (la.drop i) (lc.drop k) = mrg la lc ∧ q.length ≤ i + k
theorem Mg.zero (la lc : Dms) : Mg la lc 0 0 [] := ⟨by simp, by simp⟩
theorem Mg.end_ {la lc : Dms} {i k : Nat} {q : Dms} (h : Mg la lc i k q) (hi : la.length ≤ i) (hk : lc.length ≤ k) : q = mrg la lc := by
  have h1 := h.1
  rw [List.drop_eq_nil_of_le hi, List.drop_eq_nil_of_le hk, mrg_nil, List.append_nil] at h1
  exact h1
theorem Mg.left {la lc : Dms} {i k : Nat} {q : Dms} {x : Dm} (h : Mg la lc i k q) (hx : la[i]? = some x) (hk : lc.length ≤ k) : Mg la lc (i + 1) k (q ++ [x]) := by
  refine ⟨?_, by have := h.2; simp; omega⟩
  have h1 := h.1
  rw [List.drop_eq_nil_of_le hk, mrg_nil2, drop_at hx] at h1
  rw [List.drop_eq_nil_of_le hk, mrg_nil2, List.append_assoc]
  exact h1
theorem Mg.less {la lc : Dms} {i k : Nat} {q : Dms} {x y : Dm} (h : Mg la lc i k q) (hx : la[i]? = some x) (hy : lc[k]? = some y) (hl : ltS x.nm y.nm = true) : Mg la lc (i + 1) k (q ++ [x]) := by
  refine ⟨?_, by have := h.2; simp; omega⟩
  have h1 := h.1
  rw [drop_at hx, drop_at hy, mrg_lt hl, ← drop_at hy] at h1
  rw [List.append_assoc]
  exact h1
theorem Mg.right {la lc : Dms} {i k : Nat} {q : Dms} {y : Dm} (h : Mg la lc i k q) (hy : lc[k]? = some y) (hi : la.length ≤ i) : Mg la lc i (k + 1) (q ++ [y]) := by
  refine ⟨?_, by have := h.2; simp; omega⟩
  have h1 := h.1
  rw [List.drop_eq_nil_of_le hi, mrg_nil, drop_at hy] at h1
  rw [List.drop_eq_nil_of_le hi, mrg_nil, List.append_assoc]
  exact h1
theorem Mg.more {la lc : Dms} {i k : Nat} {q : Dms} {x y : Dm} (h : Mg la lc i k q) (hx : la[i]? = some x) (hy : lc[k]? = some y) (hl : ltS y.nm x.nm = true) : Mg la lc i (k + 1) (q ++ [y]) := by
  refine ⟨?_, by have := h.2; simp; omega⟩
  have h1 := h.1
  rw [drop_at hx, drop_at hy, mrg_gt hl, ← drop_at hx] at h1
  rw [List.append_assoc]
  exact h1
theorem Mg.same {la lc : Dms} {i k : Nat} {q : Dms} {x y : Dm} (h : Mg la lc i k q) (hx : la[i]? = some x) (hy : lc[k]? = some y) (hl : x.nm = y.nm) : Mg la lc (i + 1) (k + 1) (q ++ [nw x y]) := by
  refine ⟨?_, by have := h.2; simp; omega⟩
  have h1 := h.1
  rw [drop_at hx, drop_at hy, mrg_eq hl] at h1
  rw [List.append_assoc]
  exact h1
end M
set_option maxHeartbeats 1000000 in
theorem spec_less (x y : Dm) (w : World) :
    Calls Try.prog 52 #[x.v, y.v] w fun e w' => e = .returned (.bool (lsD x y)) ∧ Below w.heap.size w w' := by
  have hbA := ((Below.refl w.heap.size w).alloc (Nat.le_refl _) (.cells #[.string x.nm, .int .i64 x.ver, .string x.nt] 58)).alloc (by simp) (.cells #[.string y.nm, .int .i64 y.ver, .string y.nt] 58)
  unfold lsD
  rcases (show x.ver < y.ver ∨ x.ver = y.ver ∨ y.ver < x.ver by omega) with c | c | c
  · rw [decide_eq_true c]
    go_enter Try.func52, Try.ntmps52
    go_wp2
    go_ret
    exact ⟨rfl, hbA⟩
  · have c1 : ¬ x.ver < y.ver := by omega
    have c2 : (x.ver == y.ver) = true := by simpa using c
    rw [decide_eq_false c1, decide_eq_true c]
    clear c
    cases hl : ltS x.nt y.nt
    · have hl2 : Op.bytesLess x.nt.toList y.nt.toList = false := hl
      go_enter Try.func52, Try.ntmps52
      go_wp2
      go_ret
      exact ⟨rfl, hbA⟩
    · have hl2 : Op.bytesLess x.nt.toList y.nt.toList = true := hl
      go_enter Try.func52, Try.ntmps52
      go_wp2
      go_ret
      exact ⟨rfl, hbA⟩
  · have c1 : ¬ x.ver < y.ver := by omega
    have c2 : (x.ver == y.ver) = false := by simp; omega
    rw [decide_eq_false c1, decide_eq_false (show ¬ x.ver = y.ver by omega)]
    go_enter Try.func52, Try.ntmps52
    go_wp2
    go_ret
    exact ⟨rfl, hbA⟩
namespace M
theorem grown_low {w W W' : World} {B : Nat} {row : Option Nat} (h : Below B w W) (hg : W.grownBy W' row) (hB : B ≤ W.heap.size) (hr : ∀ j, row = some j → B ≤ j) : Below B w W' := h.grown hg hB hr
end M
set_option maxRecDepth 20000 in
set_option maxHeartbeats 8000000 in
theorem spec_merge (va vc : Value) (la lc : Dms) (w : World) (ha : DomsOf w va la) (hc : DomsOf w vc lc) (hna : la.length ≤ 1048576) (hnc : lc.length ≤ 1048576) (hla : LenD la) (hlc : LenD lc) :
    Calls Try.prog 28 #[va, vc] w fun e w' => (∃ r, e = .returned (.tuple #[r, .bool (mgb la lc)]) ∧ OwnD w' w.heap.size r (mga la lc)) ∧ Below w.heap.size w w' := by
  have HA := hide ha
  have HC := hide hc
  have HLA := hide hla
  have HLC := hide hlc
  obtain ⟨aa, ca, rfl, hra⟩ := ha
  obtain ⟨ac, cc, rfl, hrc⟩ := hc
  have HRA := hide hra
  have HRC := hide hrc
  clear hra hrc hla hlc
  cases hga : gdB la
  · have hb : mgb la lc = false := by unfold mgb; rw [hga]; rfl
    rw [hb, mga_no hb]
    clear hb
    go_enter Try.func28, Try.ntmps28
    go_wp2_with fail
    refine (spec_gdoms _ la _ HA.out hna HLA.out).mono ?_
    rintro e w1 ⟨rfl, hb1⟩
    rw [hga]
    have HB := hide hb1
    clear hb1
    go_wp2
    go_ret2
    exact ⟨⟨_, rfl, OwnD.nil _ _⟩, HB.out⟩
  cases hgc : gdB lc
  · have hb : mgb la lc = false := by unfold mgb; rw [hga, hgc]; rfl
    rw [hb, mga_no hb]
    clear hb
    go_enter Try.func28, Try.ntmps28
    go_wp2_with fail
    refine (spec_gdoms _ la _ HA.out hna HLA.out).mono ?_
    rintro e w1 ⟨rfl, hb1⟩
    rw [hga]
    go_wp2_with fail
    refine (spec_gdoms _ lc _ (HC.out.below hb1) hnc HLC.out).mono ?_
    rintro e w2 ⟨rfl, hb2⟩
    rw [hgc]
    have HB := hide (hb1.trans (hb2.mono hb1.size))
    clear hb1 hb2
    go_wp2
    go_ret2
    exact ⟨⟨_, rfl, OwnD.nil _ _⟩, HB.out⟩
  have hl12 : la.length ≤ 12 := (gdB_iff.1 hga).1
  have hc12 : lc.length ≤ 12 := (gdB_iff.1 hgc).1
  have HMB := hide (show mgb la lc = decide ((mrg la lc).length ≤ 12) from by unfold mgb; rw [hga, hgc]; rfl)
  have HMA := hide (show ∀ q, mrg la lc = q → (q.length ≤ 12 → mgb la lc = true ∧ mga la lc = q) ∧ (¬ q.length ≤ 12 → mgb la lc = false ∧ mga la lc = []) from fun q hq => by
    subst hq
    constructor
    · intro h
      have hb : mgb la lc = true := by rw [HMB.out, decide_eq_true h]
      exact ⟨hb, mga_yes hb⟩
    · intro h
      have hb : mgb la lc = false := by rw [HMB.out, decide_eq_false h]
      exact ⟨hb, mga_no hb⟩)
  clear HMB
  generalize mgb la lc = bb at *
  generalize mga la lc = zz at *
  go_enter Try.func28, Try.ntmps28
  go_wp2_with fail
  refine (spec_gdoms _ la _ HA.out hna HLA.out).mono ?_
  rintro e w1 ⟨rfl, hb1⟩
  rw [hga]
  go_wp2_with fail
  refine (spec_gdoms _ lc _ (HC.out.below hb1) hnc HLC.out).mono ?_
  rintro e w2 ⟨rfl, hb2⟩
  rw [hgc]
  have hb12 := hb1.trans (hb2.mono hb1.size)
  clear hb1 hb2 HA HC HLA HLC hga hgc
  go_wp2
  go_loopw [6, 7, 8] (fun o i k wr => ∃ (ni nk n c : Nat) (ao : Option Addr) (q : Dms), ni ≤ la.length ∧ nk ≤ lc.length ∧ i = .int .i64 ni ∧ k = .int .i64 nk ∧ o = .slice ao n c ∧ Hid (OwnD wr w.heap.size (.slice ao n c) q ∧ Mg la lc ni nk q) ∧ Below w.heap.size w wr) (fun _ i k _ => (la.length - (intOf i).toNat) + (lc.length - (intOf k).toNat))
  case atStart => exact ⟨0, 0, 0, 0, none, [], Nat.zero_le _, Nat.zero_le _, rfl, rfl, rfl, hide ⟨OwnD.nil _ _, Mg.zero _ _⟩, hb12⟩
  case round =>
    obtain ⟨ni, nk, n, c, ao, q, hni, hnk, rfl, rfl, rfl, HO, hbw⟩ := hrel
    clear hb12
    have hq24 : q.length ≤ 24 := by have := HO.out.2.2; omega
    have HNQ := hide (show n = q.length from HO.out.1.len)
    by_cases hi : ni < la.length
    · by_cases hk : nk < lc.length
      · -- both are left
        obtain ⟨ba, oa, rfl, hba, hrowa⟩ := HRA.out (by omega)
        obtain ⟨x, hx⟩ : ∃ x, la[ni]? = some x := ⟨la[ni], List.getElem?_eq_getElem hi⟩
        have HXA := hide (And.intro hba (hrowa ni x hx))
        have hi0 : (0 : Int) ≤ (ni : Int) := by omega
        have hi1 : (ni : Int) < (la.length : Int) := by omega
        have hi2 : decide ((ni : Int) < (la.length : Int)) = true := decide_eq_true (by omega)
        have hi3 : decide (ni < la.length) = true := decide_eq_true (by omega)
        have hi4 : ((ni : Int) == (la.length : Int)) = false := by simp; omega
        obtain ⟨bc, oc, rfl, hbc, hrowc⟩ := HRC.out (by omega)
        obtain ⟨y, hy⟩ : ∃ y, lc[nk]? = some y := ⟨lc[nk], List.getElem?_eq_getElem hk⟩
        have HYC := hide (And.intro hbc (hrowc nk y hy))
        have hk0 : (0 : Int) ≤ (nk : Int) := by omega
        have hk1 : (nk : Int) < (lc.length : Int) := by omega
        have hk2 : decide ((nk : Int) < (lc.length : Int)) = true := decide_eq_true (by omega)
        have hk3 : decide (nk < lc.length) = true := decide_eq_true (by omega)
        have hk4 : ((nk : Int) == (lc.length : Int)) = false := by simp; omega
        have HXX := hide hx
        have HYY := hide hy
        clear hrowa hrowc hx hy HRA HRC HMA
        have u0 := cell_regrown ((HXA.out.2.below hbw HXA.out.1).1)
        have v0 := cell_regrown ((HYC.out.2.below hbw HYC.out.1).1)
        rcases lt_tri x.nm y.nm with hl | hl | hl
        · have hl2 : Op.bytesLess x.nm.toList y.nm.toList = true := hl
          have HLL := hide hl
          clear hl
          go_wp2
          refine wp_region_quiet_below (by kernel_rfl) (by kernel_rfl) ?_
          repeat (go_big_quiet_step (fail))
          refine wpQuiet_nil ?_
          intro _ hw'
          obtain ⟨⟨dq, osq⟩, hw''⟩ := hw'
          subst hw''
          have hbz := hbw.trans ((below_regrown wr dq osq).mono hbw.size)
          have HOa := hide (show OwnD (grow (redrawn wr dq) osq) w.heap.size (.slice ao n c) q ∧ Mg la lc ni nk q from ⟨HO.out.1.down (below_regrown wr dq osq), HO.out.2⟩)
          obtain ⟨wq, hwq⟩ : ∃ wq, grow (redrawn wr dq) osq = wq := ⟨_, rfl⟩
          rw [hwq] at hbz HOa ⊢
          clear hwq HO hbw
          have HO := hide HOa.out
          clear HOa
          have hbw := hbz
          clear hbz
          clear u0 v0
          have hd1 := (Below.refl wq.heap.size wq).alloc (Nat.le_refl _) (.cells #[.string x.nm, .int .i64 x.ver, .string x.nt] 58)
          have hown := HO.out.1.down hd1
          have hlit := lit_dom (new3 wq (.string x.nm) (.int .i64 x.ver) (.string x.nt) 58)
          have hbw3 := hbw.trans (hd1.mono hbw.size)
          have HMG := hide (show Mg la lc (ni + 1) nk (q ++ [x]) from Mg.less HO.out.2 HXX.out HYY.out HLL.out)
          obtain ⟨e0, e1, e2⟩ := HXA.out.2.below hbw HXA.out.1
          clear hd1 HO
          go_wp2_with (at_builtin; refine wpList_appD _ rfl _ _ rfl w.heap.size q [x] _ rfl hown _ 0 1 rfl hlit (by simp; omega) hbw3.size ?_)
          intro a4 n4 c4 w4 hO4 hgr _
          have hbw4 : Below w.heap.size w w4 := grown_low hbw3 hgr hbw3.size (fun j hj => (hown.lt hj).1)
          have HO4 := hide (show OwnD w4 w.heap.size (.slice a4 n4 c4) (q ++ [x]) ∧ Mg la lc (ni + 1) nk (q ++ [x]) from ⟨hO4, HMG.out⟩)
          clear hO4 hgr hown hlit hbw3 HMG
          go_wp2
          go_roundw
          case rel => exact ⟨(ni + 1), nk, n4, c4, a4, q ++ [x], by omega, by omega, by go_num, by go_num, rfl, HO4, hbw4⟩
          case measure => simp [intOf]; omega
        · -- the same name
          have hl2 : Op.bytesLess x.nm.toList y.nm.toList = false := by rw [hl]; exact lt_irr _
          have hl3 : Op.bytesLess y.nm.toList x.nm.toList = false := by rw [hl]; exact lt_irr _
          have HLL := hide hl
          clear hl
          go_wp2
          refine wp_region_quiet_below (by kernel_rfl) (by kernel_rfl) ?_
          repeat (go_big_quiet_step (fail))
          refine wpQuiet_nil ?_
          intro _ hw'
          obtain ⟨⟨dq, osq⟩, hw''⟩ := hw'
          subst hw''
          have hbz := hbw.trans ((below_regrown wr dq osq).mono hbw.size)
          have HOa := hide (show OwnD (grow (redrawn wr dq) osq) w.heap.size (.slice ao n c) q ∧ Mg la lc ni nk q from ⟨HO.out.1.down (below_regrown wr dq osq), HO.out.2⟩)
          obtain ⟨wq, hwq⟩ : ∃ wq, grow (redrawn wr dq) osq = wq := ⟨_, rfl⟩
          rw [hwq] at hbz HOa ⊢
          clear hwq HO hbw
          have HO := hide HOa.out
          clear HOa
          have hbw := hbz
          clear hbz
          clear u0 v0
          have u0 := cell_regrown ((HXA.out.2.below hbw HXA.out.1).1)
          have v0 := cell_regrown ((HYC.out.2.below hbw HYC.out.1).1)
          go_wp2
          refine wp_region_quiet_below (by kernel_rfl) (by kernel_rfl) ?_
          repeat (go_big_quiet_step (fail))
          refine wpQuiet_nil ?_
          intro _ hw'
          obtain ⟨⟨dq, osq⟩, hw''⟩ := hw'
          subst hw''
          clear u0 v0
          have hbz := hbw.trans ((below_regrown wq dq osq).mono hbw.size)
          have HOb := hide (show OwnD (grow (redrawn wq dq) osq) w.heap.size (.slice ao n c) q ∧ Mg la lc ni nk q from ⟨HO.out.1.down (below_regrown wq dq osq), HO.out.2⟩)
          obtain ⟨wp, hwq⟩ : ∃ wp, grow (redrawn wq dq) osq = wp := ⟨_, rfl⟩
          rw [hwq] at hbz HOb ⊢
          clear hwq HO hbw
          have HO := hide HOb.out
          clear HOb
          have hbw := hbz
          clear hbz
          have hxd := HXA.out.2.below hbw HXA.out.1
          obtain ⟨e0, e1, e2⟩ := hxd
          obtain ⟨W1, hW1⟩ : ∃ W1, wp.alloc (.cells #[.string x.nm, .int .i64 x.ver, .string x.nt] 58) = W1 := ⟨_, rfl⟩
          obtain ⟨p, hp⟩ : ∃ p, wp.heap.size = p := ⟨_, rfl⟩
          have hbx : Blk W1 p 3 (qd x) 58 := by rw [← hW1, ← hp]; exact new3 wp _ _ _ _
          have hd0 : Below wp.heap.size wp W1 := by rw [← hW1]; exact (Below.refl _ wp).alloc (Nat.le_refl _) _
          have HBX := hide hbx
          have HPL := hide (show w.heap.size ≤ p from by rw [← hp]; exact hbw.size)
          have HGP := hide (show ∀ g, (Value.slice ao n c).ownBlock = some g → g ≠ p from fun g hg => by have := (HO.out.1.lt hg).2; omega)
          have HO1 := hide (show OwnD W1 w.heap.size (.slice ao n c) q ∧ Mg la lc ni nk q from ⟨HO.out.1.down hd0, HO.out.2⟩)
          have hbw1 := hbw.trans (hd0.mono hbw.size)
          have HW1 := hide hW1
          have HPP := hide hp
          clear hW1 hp hbx hd0 HO
          go_wp2
          rw [HW1.out, HPP.out]
          clear HW1 HPP e0 e1 e2 hbw
          obtain ⟨⟨m0, m1, m2⟩, -⟩ := HBX.out.tri
          have r0 := cell_regrown m0
          have r1 := cell_regrown m1
          have r2 := cell_regrown m2
          obtain ⟨s0, s1, s2⟩ := HYC.out.2.below hbw1 HYC.out.1
          have t0 := cell_regrown s0
          have t1 := cell_regrown s1
          have t2 := cell_regrown s2
          have HE := hide (show ∀ dd os, Calls Try.prog 52 #[x.v, y.v] (grow (redrawn W1 dd) os) fun e w'' => e = .returned (.bool (lsD x y)) ∧ ∃ p : Regrown, w'' = grow (redrawn W1 p.d) p.os from fun dd os => Calls.regrown_of (spec_less x y _))
          have hnw := show nw x y = if lsD x y = true then y else x from rfl
          have HSM := hide (Mg.same HO1.out.2 HXX.out HYY.out HLL.out)
          cases hls : lsD x y
          · rw [hls] at HE
            have HNW := hide (show nw x y = x from by rw [hnw, hls]; rfl)
            clear hnw hls m0 m1 m2 s0 s1 s2
            refine wp_region_quiet_below (by kernel_rfl) (by kernel_rfl) ?_
            repeat (go_big_quiet_step (exact HE.out _ _))
            refine wpQuiet_nil ?_
            intro _ hw'
            obtain ⟨⟨dq, osq⟩, hw''⟩ := hw'
            subst hw''
            have hbx := HBX.out.down (below_regrown W1 dq osq)
            have hbw2 := hbw1.trans ((below_regrown W1 dq osq).mono hbw1.size)
            have ho2 := HO1.out.1.down (below_regrown W1 dq osq)
            obtain ⟨w5, hw5⟩ : ∃ w5, grow (redrawn W1 dq) osq = w5 := ⟨_, rfl⟩
            rw [hw5] at hbx hbw2 ho2 ⊢
            clear hw5 HE HO1 HBX r0 r1 r2 t0 t1 t2 hbw1
            obtain ⟨⟨m0, m1, m2⟩, f0, f1, f2⟩ := hbx.tri
            obtain ⟨s0, s1, s2⟩ := HYC.out.2.below hbw2 HYC.out.1
            have hd1 := (Below.refl w5.heap.size w5).alloc (Nat.le_refl _) (.cells #[.string x.nm, .int .i64 x.ver, .string x.nt] 58)
            have hown := ho2.down hd1
            have hlit := lit_dom (new3 w5 (.string x.nm) (.int .i64 x.ver) (.string x.nt) 58)
            have hbw3 := hbw2.trans (hd1.mono hbw2.size)
            clear hd1
            go_wp2_with (at_builtin; refine wpList_appD _ rfl _ _ rfl w.heap.size q [x] _ rfl hown _ 0 1 rfl hlit (by simp; omega) hbw3.size ?_)
            intro a4 n4 c4 w4 hO4 hgr _
            have hbw4 : Below w.heap.size w w4 := grown_low hbw3 hgr hbw3.size (fun j hj => (hown.lt hj).1)
            have HO4 := hide (show OwnD w4 w.heap.size (.slice a4 n4 c4) (q ++ [nw x y]) ∧ Mg la lc (ni + 1) (nk + 1) (q ++ [nw x y]) from ⟨by rw [HNW.out]; exact hO4, HSM.out⟩)
            clear hO4 hgr hown hlit hbw3 m0 m1 m2 s0 s1 s2 f0 f1 f2
            go_wp2
            go_roundw
            case rel => exact ⟨ni + 1, nk + 1, n4, c4, a4, _, by omega, by omega, by go_num, by go_num, rfl, HO4, hbw4⟩
            case measure => simp [intOf]; omega
          · rw [hls] at HE
            have HNW := hide (show nw x y = y from by rw [hnw, hls]; rfl)
            clear hnw hls m0 m1 m2 s0 s1 s2
            refine wp_region_quiet_below (by kernel_rfl) (by kernel_rfl) ?_
            repeat (go_big_quiet_step (exact HE.out _ _))
            refine wpQuiet_nil ?_
            intro _ hw'
            obtain ⟨⟨dq, osq⟩, hw''⟩ := hw'
            subst hw''
            have hbx := HBX.out.down (below_regrown W1 dq osq)
            have hbw2 := hbw1.trans ((below_regrown W1 dq osq).mono hbw1.size)
            have ho2 := HO1.out.1.down (below_regrown W1 dq osq)
            obtain ⟨w5, hw5⟩ : ∃ w5, grow (redrawn W1 dq) osq = w5 := ⟨_, rfl⟩
            rw [hw5] at hbx hbw2 ho2 ⊢
            clear hw5 HE HO1 HBX r0 r1 r2 t0 t1 t2 hbw1
            obtain ⟨⟨m0, m1, m2⟩, f0, f1, f2⟩ := hbx.tri
            obtain ⟨s0, s1, s2⟩ := HYC.out.2.below hbw2 HYC.out.1
            obtain ⟨w6, hw6⟩ : ∃ w6, ((w5.setCell ⟨p, 0, none⟩ (.string y.nm)).setCell ⟨p, 1, none⟩ (.int .i64 y.ver)).setCell ⟨p, 2, none⟩ (.string y.nt) = w6 := ⟨_, rfl⟩
            have hgb : w5.grownBy w6 (some p) := by rw [← hw6]; exact gbT_set (gbT_set (gbT_set (gbT_refl w5 (some p))))
            have ho6 : OwnD w6 w.heap.size (.slice ao n c) q := ho2.other hgb (fun g hg e => by simp only [Option.some.injEq] at e; exact HGP.out g hg e)
            have hbw6 : Below w.heap.size w w6 := grown_low hbw2 hgb hbw2.size (fun j hj => by simp only [Option.some.injEq] at hj; subst hj; exact HPL.out)
            have HW6 := hide hw6
            clear hw6 hgb ho2 hbw2
            have hd1 := (Below.refl w6.heap.size w6).alloc (Nat.le_refl _) (.cells #[.string y.nm, .int .i64 y.ver, .string y.nt] 58)
            have hown := ho6.down hd1
            have hlit := lit_dom (new3 w6 (.string y.nm) (.int .i64 y.ver) (.string y.nt) 58)
            have hbw3 := hbw6.trans (hd1.mono hbw6.size)
            clear hd1
            have hz6 : w6.heap.size = w5.heap.size := by rw [← HW6.out]; simp
            rw [← HW6.out] at hown hlit hbw3
            rw [HW6.out, hz6] at hlit
            rw [← HW6.out] at hlit
            clear hz6
            go_wp2_with (at_builtin; refine wpList_appD _ rfl _ _ rfl w.heap.size q [y] _ rfl hown _ 0 1 rfl hlit (by simp; omega) hbw3.size ?_)
            intro a4 n4 c4 w4 hO4 hgr _
            have hbw4 : Below w.heap.size w w4 := grown_low hbw3 hgr hbw3.size (fun j hj => (hown.lt hj).1)
            have HO4 := hide (show OwnD w4 w.heap.size (.slice a4 n4 c4) (q ++ [nw x y]) ∧ Mg la lc (ni + 1) (nk + 1) (q ++ [nw x y]) from ⟨by rw [HNW.out]; exact hO4, HSM.out⟩)
            clear hO4 hgr hown hlit hbw3 m0 m1 m2 s0 s1 s2 f0 f1 f2
            go_wp2
            go_roundw
            case rel => exact ⟨ni + 1, nk + 1, n4, c4, a4, _, by omega, by omega, by go_num, by go_num, rfl, HO4, hbw4⟩
            case measure => simp [intOf]; omega
        · have hl2 : Op.bytesLess x.nm.toList y.nm.toList = false := lt_asym hl
          have hl3 : Op.bytesLess y.nm.toList x.nm.toList = true := hl
          have HLL := hide hl
          clear hl
          go_wp2
          refine wp_region_quiet_below (by kernel_rfl) (by kernel_rfl) ?_
          repeat (go_big_quiet_step (fail))
          refine wpQuiet_nil ?_
          intro _ hw'
          obtain ⟨⟨dq, osq⟩, hw''⟩ := hw'
          subst hw''
          have hbz := hbw.trans ((below_regrown wr dq osq).mono hbw.size)
          have HOa := hide (show OwnD (grow (redrawn wr dq) osq) w.heap.size (.slice ao n c) q ∧ Mg la lc ni nk q from ⟨HO.out.1.down (below_regrown wr dq osq), HO.out.2⟩)
          obtain ⟨wq, hwq⟩ : ∃ wq, grow (redrawn wr dq) osq = wq := ⟨_, rfl⟩
          rw [hwq] at hbz HOa ⊢
          clear hwq HO hbw
          have HO := hide HOa.out
          clear HOa
          have hbw := hbz
          clear hbz
          clear u0 v0
          have u0 := cell_regrown ((HXA.out.2.below hbw HXA.out.1).1)
          have v0 := cell_regrown ((HYC.out.2.below hbw HYC.out.1).1)
          go_wp2
          refine wp_region_quiet_below (by kernel_rfl) (by kernel_rfl) ?_
          repeat (go_big_quiet_step (fail))
          refine wpQuiet_nil ?_
          intro _ hw'
          obtain ⟨⟨dq, osq⟩, hw''⟩ := hw'
          subst hw''
          clear u0 v0
          have hbz := hbw.trans ((below_regrown wq dq osq).mono hbw.size)
          have HOb := hide (show OwnD (grow (redrawn wq dq) osq) w.heap.size (.slice ao n c) q ∧ Mg la lc ni nk q from ⟨HO.out.1.down (below_regrown wq dq osq), HO.out.2⟩)
          obtain ⟨wp, hwq⟩ : ∃ wp, grow (redrawn wq dq) osq = wp := ⟨_, rfl⟩
          rw [hwq] at hbz HOb ⊢
          clear hwq HO hbw
          have HO := hide HOb.out
          clear HOb
          have hbw := hbz
          clear hbz
          have hd1 := (Below.refl wp.heap.size wp).alloc (Nat.le_refl _) (.cells #[.string y.nm, .int .i64 y.ver, .string y.nt] 58)
          have hown := HO.out.1.down hd1
          have hlit := lit_dom (new3 wp (.string y.nm) (.int .i64 y.ver) (.string y.nt) 58)
          have hbw3 := hbw.trans (hd1.mono hbw.size)
          have HMG := hide (show Mg la lc ni (nk + 1) (q ++ [y]) from Mg.more HO.out.2 HXX.out HYY.out HLL.out)
          obtain ⟨e0, e1, e2⟩ := HYC.out.2.below hbw HYC.out.1
          clear hd1 HO
          go_wp2_with (at_builtin; refine wpList_appD _ rfl _ _ rfl w.heap.size q [y] _ rfl hown _ 0 1 rfl hlit (by simp; omega) hbw3.size ?_)
          intro a4 n4 c4 w4 hO4 hgr _
          have hbw4 : Below w.heap.size w w4 := grown_low hbw3 hgr hbw3.size (fun j hj => (hown.lt hj).1)
          have HO4 := hide (show OwnD w4 w.heap.size (.slice a4 n4 c4) (q ++ [y]) ∧ Mg la lc ni (nk + 1) (q ++ [y]) from ⟨hO4, HMG.out⟩)
          clear hO4 hgr hown hlit hbw3 HMG
          go_wp2
          go_roundw
          case rel => exact ⟨ni, (nk + 1), n4, c4, a4, q ++ [y], by omega, by omega, by go_num, by go_num, rfl, HO4, hbw4⟩
          case measure => simp [intOf]; omega
      · -- only the first list is left
        obtain ⟨ba, oa, rfl, hba, hrowa⟩ := HRA.out (by omega)
        obtain ⟨x, hx⟩ : ∃ x, la[ni]? = some x := ⟨la[ni], List.getElem?_eq_getElem hi⟩
        have HXA := hide (And.intro hba (hrowa ni x hx))
        have hi0 : (0 : Int) ≤ (ni : Int) := by omega
        have hi1 : (ni : Int) < (la.length : Int) := by omega
        have hi2 : decide ((ni : Int) < (la.length : Int)) = true := decide_eq_true (by omega)
        have hi3 : decide (ni < la.length) = true := decide_eq_true (by omega)
        have hi4 : ((ni : Int) == (la.length : Int)) = false := by simp; omega
        have hk1 : ¬ (nk : Int) < (lc.length : Int) := by omega
        have hk2 : decide ((nk : Int) < (lc.length : Int)) = false := decide_eq_false (by omega)
        have hk3 : decide (nk < lc.length) = false := decide_eq_false (by omega)
        have hk4 : ((nk : Int) == (lc.length : Int)) = true := by simp; omega
        have HXX := hide hx
        clear hrowa hx HRA HRC HMA
        go_wp2
        refine wp_region_quiet_below (by kernel_rfl) (by kernel_rfl) ?_
        repeat (go_big_quiet_step (fail))
        refine wpQuiet_nil ?_
        intro _ hw'
        obtain ⟨⟨dq, osq⟩, hw''⟩ := hw'
        subst hw''
        have hbz := hbw.trans ((below_regrown wr dq osq).mono hbw.size)
        have HOa := hide (show OwnD (grow (redrawn wr dq) osq) w.heap.size (.slice ao n c) q ∧ Mg la lc ni nk q from ⟨HO.out.1.down (below_regrown wr dq osq), HO.out.2⟩)
        obtain ⟨wq, hwq⟩ : ∃ wq, grow (redrawn wr dq) osq = wq := ⟨_, rfl⟩
        rw [hwq] at hbz HOa ⊢
        clear hwq HO hbw
        have HO := hide HOa.out
        clear HOa
        have hbw := hbz
        clear hbz
        have hd1 := (Below.refl wq.heap.size wq).alloc (Nat.le_refl _) (.cells #[.string x.nm, .int .i64 x.ver, .string x.nt] 58)
        have hown := HO.out.1.down hd1
        have hlit := lit_dom (new3 wq (.string x.nm) (.int .i64 x.ver) (.string x.nt) 58)
        have hbw3 := hbw.trans (hd1.mono hbw.size)
        have HMG := hide (show Mg la lc (ni + 1) nk (q ++ [x]) from Mg.left HO.out.2 HXX.out (by omega))
        obtain ⟨e0, e1, e2⟩ := HXA.out.2.below hbw HXA.out.1
        clear hd1 HO
        go_wp2_with (at_builtin; refine wpList_appD _ rfl _ _ rfl w.heap.size q [x] _ rfl hown _ 0 1 rfl hlit (by simp; omega) hbw3.size ?_)
        intro a4 n4 c4 w4 hO4 hgr _
        have hbw4 : Below w.heap.size w w4 := grown_low hbw3 hgr hbw3.size (fun j hj => (hown.lt hj).1)
        have HO4 := hide (show OwnD w4 w.heap.size (.slice a4 n4 c4) (q ++ [x]) ∧ Mg la lc (ni + 1) nk (q ++ [x]) from ⟨hO4, HMG.out⟩)
        clear hO4 hgr hown hlit hbw3 HMG
        go_wp2
        go_roundw
        case rel => exact ⟨(ni + 1), nk, n4, c4, a4, q ++ [x], by omega, by omega, by go_num, by go_num, rfl, HO4, hbw4⟩
        case measure => simp [intOf]; omega
    · by_cases hk : nk < lc.length
      · -- only the second list is left
        have hi1 : ¬ (ni : Int) < (la.length : Int) := by omega
        have hi2 : decide ((ni : Int) < (la.length : Int)) = false := decide_eq_false (by omega)
        have hi3 : decide (ni < la.length) = false := decide_eq_false (by omega)
        have hi4 : ((ni : Int) == (la.length : Int)) = true := by simp; omega
        obtain ⟨bc, oc, rfl, hbc, hrowc⟩ := HRC.out (by omega)
        obtain ⟨y, hy⟩ : ∃ y, lc[nk]? = some y := ⟨lc[nk], List.getElem?_eq_getElem hk⟩
        have HYC := hide (And.intro hbc (hrowc nk y hy))
        have hk0 : (0 : Int) ≤ (nk : Int) := by omega
        have hk1 : (nk : Int) < (lc.length : Int) := by omega
        have hk2 : decide ((nk : Int) < (lc.length : Int)) = true := decide_eq_true (by omega)
        have hk3 : decide (nk < lc.length) = true := decide_eq_true (by omega)
        have hk4 : ((nk : Int) == (lc.length : Int)) = false := by simp; omega
        have HYY := hide hy
        clear hrowc hy HRA HRC HMA
        go_wp2
        refine wp_region_quiet_below (by kernel_rfl) (by kernel_rfl) ?_
        repeat (go_big_quiet_step (fail))
        refine wpQuiet_nil ?_
        intro _ hw'
        obtain ⟨⟨dq, osq⟩, hw''⟩ := hw'
        subst hw''
        have hbz := hbw.trans ((below_regrown wr dq osq).mono hbw.size)
        have HOa := hide (show OwnD (grow (redrawn wr dq) osq) w.heap.size (.slice ao n c) q ∧ Mg la lc ni nk q from ⟨HO.out.1.down (below_regrown wr dq osq), HO.out.2⟩)
        obtain ⟨wq, hwq⟩ : ∃ wq, grow (redrawn wr dq) osq = wq := ⟨_, rfl⟩
        rw [hwq] at hbz HOa ⊢
        clear hwq HO hbw
        have HO := hide HOa.out
        clear HOa
        have hbw := hbz
        clear hbz
        go_wp2
        refine wp_region_quiet_below (by kernel_rfl) (by kernel_rfl) ?_
        repeat (go_big_quiet_step (fail))
        refine wpQuiet_nil ?_
        intro _ hw'
        obtain ⟨⟨dq, osq⟩, hw''⟩ := hw'
        subst hw''
        have hbz := hbw.trans ((below_regrown wq dq osq).mono hbw.size)
        have HOb := hide (show OwnD (grow (redrawn wq dq) osq) w.heap.size (.slice ao n c) q ∧ Mg la lc ni nk q from ⟨HO.out.1.down (below_regrown wq dq osq), HO.out.2⟩)
        obtain ⟨wp, hwq⟩ : ∃ wp, grow (redrawn wq dq) osq = wp := ⟨_, rfl⟩
        rw [hwq] at hbz HOb ⊢
        clear hwq HO hbw
        have HO := hide HOb.out
        clear HOb
        have hbw := hbz
        clear hbz
        have hd1 := (Below.refl wp.heap.size wp).alloc (Nat.le_refl _) (.cells #[.string y.nm, .int .i64 y.ver, .string y.nt] 58)
        have hown := HO.out.1.down hd1
        have hlit := lit_dom (new3 wp (.string y.nm) (.int .i64 y.ver) (.string y.nt) 58)
        have hbw3 := hbw.trans (hd1.mono hbw.size)
        have HMG := hide (show Mg la lc ni (nk + 1) (q ++ [y]) from Mg.right HO.out.2 HYY.out (by omega))
        obtain ⟨e0, e1, e2⟩ := HYC.out.2.below hbw HYC.out.1
        clear hd1 HO
        go_wp2_with (at_builtin; refine wpList_appD _ rfl _ _ rfl w.heap.size q [y] _ rfl hown _ 0 1 rfl hlit (by simp; omega) hbw3.size ?_)
        intro a4 n4 c4 w4 hO4 hgr _
        have hbw4 : Below w.heap.size w w4 := grown_low hbw3 hgr hbw3.size (fun j hj => (hown.lt hj).1)
        have HO4 := hide (show OwnD w4 w.heap.size (.slice a4 n4 c4) (q ++ [y]) ∧ Mg la lc ni (nk + 1) (q ++ [y]) from ⟨hO4, HMG.out⟩)
        clear hO4 hgr hown hlit hbw3 HMG
        go_wp2
        go_roundw
        case rel => exact ⟨ni, (nk + 1), n4, c4, a4, q ++ [y], by omega, by omega, by go_num, by go_num, rfl, HO4, hbw4⟩
        case measure => simp [intOf]; omega
      · -- the end
        have hi1 : ¬ (ni : Int) < (la.length : Int) := by omega
        have hi2 : decide ((ni : Int) < (la.length : Int)) = false := decide_eq_false (by omega)
        have hi3 : decide (ni < la.length) = false := decide_eq_false (by omega)
        have hi4 : ((ni : Int) == (la.length : Int)) = true := by simp; omega
        have hk1 : ¬ (nk : Int) < (lc.length : Int) := by omega
        have hk2 : decide ((nk : Int) < (lc.length : Int)) = false := decide_eq_false (by omega)
        have hk3 : decide (nk < lc.length) = false := decide_eq_false (by omega)
        have hk4 : ((nk : Int) == (lc.length : Int)) = true := by simp; omega
        have hend := HMA.out q (HO.out.2.end_ (by omega) (by omega)).symm
        have HEND := hide hend
        clear hend HRA HRC HMA
        by_cases h12 : q.length ≤ 12
        · have HE2 := hide (HEND.out.1 h12)
          have hgt : ¬ (12 : Int) < (n : Int) := by have := HNQ.out; omega
          clear h12 HEND
          go_wp2
          go_ret2
          exact ⟨⟨_, by rw [HE2.out.1]; rfl, by rw [HE2.out.2]; exact HO.out.1⟩, hbw⟩
        · have HE2 := hide (HEND.out.2 h12)
          have hgt : (12 : Int) < (n : Int) := by have := HNQ.out; omega
          clear h12 HEND
          go_wp2
          go_ret2
          exact ⟨⟨.slice none 0 0, by rw [HE2.out.1]; rfl, by rw [HE2.out.2]; exact OwnD.nil _ _⟩, hbw⟩
end Go.Proofs.Ytgccoognklolbaa
