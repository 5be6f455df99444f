/-
  GoodDomains in both texts: each returns whether the domains are good; nothing that was there is turned.
-/
import Derived.Test.YtgccoognklolbaaDmA
import Derived.Test.YtgccoognklolbaaVs
import Derived.Laws.Cover1
namespace Go.Proofs.Ytgccoognklolbaa
open Go.RowKit M
open Go.Sort (grow)
namespace M
def gdb (d : Dm) : Bool := !d.nm.toList.isEmpty && (gN d.nm && (inB d.ver 0 1000000 && decide (d.nt.size ≤ 20)))
theorem gdb_iff (d : Dm) : gdb d = true ↔ gD d := by
  have h : d.nm.toList.isEmpty = false ↔ d.nm ≠ e0 := by
    rw [List.isEmpty_eq_false_iff]
    have he : e0.toList = [] := by rw [toL]; rfl
    constructor
    · intro h1 h2
      exact h1 (by rw [h2]; exact he)
    · intro h1 h2
      exact h1 (toL_inj (h2.trans he.symm))
  unfold gdb gD
  simp only [Bool.and_eq_true, Bool.not_eq_true', decide_eq_true_eq, h]
theorem gdb_no {d : Dm} (h : gdb d = false) : ¬ gD d := fun hg => by rw [(gdb_iff d).2 hg] at h; cases h
theorem DAt.bad {l : Dms} {k : Nat} {d : Dm} (hd : l[k]? = some d) (h : gdb d = false) : ¬ DAt l k := fun hh => gdb_no h (hh d hd).1
theorem DAt.low {l : Dms} {j : Nat} {d y : Dm} (hd : l[j + 1]? = some d) (hy : l[j]? = some y) (h : ltS y.nm d.nm = false) : ¬ DAt l (j + 1) := fun hh => by
  have := (hh d hd).2 j y rfl hy
  rw [h] at this; cases this
theorem DAt.first {l : Dms} {d : Dm} (hd : l[0]? = some d) (h : gdb d = true) : DAt l 0 := fun e he => by
  rw [hd] at he
  simp only [Option.some.injEq] at he
  subst he
  exact ⟨(gdb_iff _).1 h, fun k e hk => by omega⟩
theorem DAt.next {l : Dms} {j : Nat} {d y : Dm} (hd : l[j + 1]? = some d) (hy : l[j]? = some y) (h : gdb d = true) (h2 : ltS y.nm d.nm = true) : DAt l (j + 1) := fun e he => by
  rw [hd] at he
  simp only [Option.some.injEq] at he
  subst he
  refine ⟨(gdb_iff _).1 h, fun k e hk hke => ?_⟩
  obtain rfl : k = j := by omega
  rw [hy] at hke
  simp only [Option.some.injEq] at hke
  subst hke; exact h2
end M
set_option maxHeartbeats 1000000 in
theorem impl_gdom (d : Dm) (w : World) (hn : d.nm.size ≤ maxLen) (ht : d.nt.size ≤ maxLen) :
    Calls Try.prog 47 #[d.v] w fun e w' => e = .returned (.bool (gdb d)) ∧ Below w.heap.size w w' := by
  have hbA := (Below.refl w.heap.size w).alloc (Nat.le_refl _) (.cells #[.string d.nm, .int .i64 d.ver, .string d.nt] 58)
  unfold maxLen at ht
  unfold gdb
  cases h1 : d.nm.toList.isEmpty
  · have h1' : ¬ d.nm.toList = [] := List.isEmpty_eq_false_iff.1 h1
    cases h2 : gN d.nm
    · go_enter Try.func47, Try.ntmps47
      go_wp2_with (first | (go_at_call 60; refine (impl_name _ _ hn).mono ?_; rintro e w' ⟨rfl, rfl⟩; rw [show goodName d.nm.data.toList = false from h2]))
      go_ret
      exact ⟨rfl, hbA⟩
    cases h3 : inB d.ver 0 1000000
    · go_enter Try.func47, Try.ntmps47
      go_wp2_with (first | (go_at_call 60; refine (impl_name _ _ hn).mono ?_; rintro e w' ⟨rfl, rfl⟩; rw [show goodName d.nm.data.toList = true from h2]) | (go_at_call 40; refine (impl_ver _ _).mono ?_; rintro e w' ⟨rfl, rfl⟩; rw [h3]))
      go_ret
      exact ⟨rfl, hbA⟩
    · go_enter Try.func47, Try.ntmps47
      go_wp2_with (first | (go_at_call 60; refine (impl_name _ _ hn).mono ?_; rintro e w' ⟨rfl, rfl⟩; rw [show goodName d.nm.data.toList = true from h2]) | (go_at_call 40; refine (impl_ver _ _).mono ?_; rintro e w' ⟨rfl, rfl⟩; rw [h3]))
      go_ret
      exact ⟨ret_bool (by rw [Bool.eq_iff_iff]; simp; omega), hbA⟩
  · have h1' : d.nm.toList = [] := List.isEmpty_iff.1 h1
    go_enter Try.func47, Try.ntmps47
    go_wp2
    go_ret
    exact ⟨rfl, hbA⟩
set_option maxRecDepth 20000 in
set_option maxHeartbeats 4000000 in
theorem impl_gdoms (v : Value) (l : Dms) (w : World) (hv : DomsOf w v l) (hn : l.length ≤ 1048576) (hl : LenD l) :
    Calls Try.prog 22 #[v] w fun e w' => e = .returned (.bool (gdB l)) ∧ Below w.heap.size w w' := by
  obtain ⟨a, cap, rfl, hr⟩ := hv
  have HR := hide hr
  have HN := hide hl.2
  clear hr hl
  by_cases h12 : l.length ≤ 12
  case neg =>
    have hgt : (12 : Int) < (l.length : Int) := by omega
    have hF := gdB_no (l := l) (fun h => h12 h.1)
    rw [hF]
    clear hF
    go_enter Try.func22, Try.ntmps22
    go_wp2
    go_ret
    exact ⟨rfl, Below.refl _ _⟩
  have hgt : ¬ (12 : Int) < (l.length : Int) := by omega
  go_enter Try.func22, Try.ntmps22
  go_wp2
  go_loopw [10] (fun i wr => ∃ k : Nat, k ≤ l.length ∧ i = .int .i64 k ∧ Hid (DUp l k) ∧ Below w.heap.size w wr) (fun i _ => l.length - (intOf i).toNat)
  case atStart => exact ⟨0, Nat.zero_le _, rfl, hide (fun i hi => by omega), Below.refl _ _⟩
  case round =>
    obtain ⟨k, hk, rfl, HU, hbw⟩ := hrel
    by_cases hlt : k < l.length
    · obtain ⟨b, off, rfl, hb, hrow⟩ := HR.out (by omega)
      obtain ⟨x, hx⟩ : ∃ x, l[k]? = some x := ⟨l[k], List.getElem?_eq_getElem hlt⟩
      have hd1 := (Below.refl wr.heap.size wr).alloc (Nat.le_refl _) (.cells #[.string x.nm, .int .i64 x.ver, .string x.nt] 58)
      have hbw1 := hbw.trans (hd1.mono hbw.size)
      obtain ⟨c0, c1, c2⟩ := (hrow k x hx).below hbw hb
      have hxs := HN.out x (List.mem_of_getElem? hx)
      obtain ⟨W1, hW1⟩ : ∃ W1, wr.alloc (.cells #[.string x.nm, .int .i64 x.ver, .string x.nt] 58) = W1 := ⟨_, rfl⟩
      obtain ⟨p, hp⟩ : ∃ p, wr.heap.size = p := ⟨_, rfl⟩
      have q0 : W1.cell? ⟨p, 0, none⟩ = some (.string x.nm) := by rw [← hW1, ← hp]; simp
      have q1 : W1.cell? ⟨p, 1, none⟩ = some (.int .i64 x.ver) := by rw [← hW1, ← hp]; simp
      have q2 : W1.cell? ⟨p, 2, none⟩ = some (.string x.nt) := by rw [← hW1, ← hp]; simp
      have r0 := cell_regrown q0
      have r1 := cell_regrown q1
      have r2 := cell_regrown q2
      rw [hW1] at hbw1
      have HW := hide hW1
      have HP := hide hp
      have HX := hide hx
      have HE := hide (show ∀ d os, Calls Try.prog 47 #[x.v] (grow (redrawn W1 d) os) fun e w'' => e = .returned (.bool (gdb x)) ∧ ∃ p : Regrown, w'' = grow (redrawn W1 p.d) p.os from fun d os => Calls.regrown_of (impl_gdom x _ hxs.1 hxs.2))
      clear hW1 hp hx hd1 q0 q1 q2 HR HN hxs
      cases hg : gdb x
      · have HF := hide (gdB_no (DUp.bad hlt (DAt.bad HX.out hg)))
        rw [hg] at HE
        clear hrow
        go_wp2
        rw [HW.out, HP.out]
        refine wp_region_quiet_below (by kernel_rfl) (by kernel_rfl) ?_
        repeat (go_big_quiet_step (exact HE.out _ _))
        refine wpQuiet_nil ?_
        intro _ hw'
        obtain ⟨⟨dq, osq⟩, hw''⟩ := hw'
        subst hw''
        have hbw2 := hbw1.trans ((below_regrown W1 dq osq).mono hbw1.size)
        clear HE
        go_wp2
        go_ret
        exact ⟨ret_bool HF.out.symm, hbw2⟩
      · by_cases hk0 : k = 0
        · have hz : decide (0 < (k : Int)) = false := decide_eq_false (by omega)
          have hz2 : decide ((k : Int) > 0) = false := decide_eq_false (by omega)
          have hz3 : decide (0 < k) = false := decide_eq_false (by omega)
          have HU2 := hide (show DUp l (k + 1) from HU.out.succ (by rw [hk0] at HX ⊢; exact DAt.first HX.out hg))
          rw [hg] at HE
          clear hk0 hrow
          go_wp2
          rw [HW.out, HP.out]
          refine wp_region_quiet_below (by kernel_rfl) (by kernel_rfl) ?_
          repeat (go_big_quiet_step (exact HE.out _ _))
          refine wpQuiet_nil ?_
          intro _ hw'
          obtain ⟨⟨dq, osq⟩, hw''⟩ := hw'
          subst hw''
          have hbw2 := hbw1.trans ((below_regrown W1 dq osq).mono hbw1.size)
          clear HE
          go_wp2
          go_roundw
          case rel => exact ⟨k + 1, by omega, by go_num, HU2, hbw2⟩
          case measure => simp [intOf]; omega
        · obtain ⟨j, hj⟩ : ∃ j, k = j + 1 := ⟨k - 1, by omega⟩
          obtain ⟨y, hy⟩ : ∃ y, l[j]? = some y := ⟨l[j], List.getElem?_eq_getElem (by omega)⟩
          have s0 := cell_regrown ((hbw1.cell (p := ⟨b, off + j * 3, none⟩) hb).trans (hrow j y hy).1)
          have hz : decide (0 < (k : Int)) = true := decide_eq_true (by omega)
          have hz2 : decide ((k : Int) > 0) = true := decide_eq_true (by omega)
          have hz3 : decide (0 < k) = true := decide_eq_true (by omega)
          have hkj : (k : Int) - 1 = (j : Int) := by omega
          have hj0 : (0 : Int) ≤ (j : Int) := by omega
          have hj1 : (j : Int) < (l.length : Int) := by omega
          have HY := hide hy
          have HJ := hide hj
          rw [hg] at HE
          have HG := hide hg
          clear hk0 hrow hy hj hg
          cases hl : ltS y.nm x.nm
          · have hl2 : Op.bytesLess y.nm.toList x.nm.toList = false := hl
            have HF := hide (gdB_no (DUp.bad hlt (by have h1 := HX.out; rw [HJ.out] at h1 ⊢; exact DAt.low h1 HY.out hl)))
            clear hl
            go_wp2
            rw [HW.out, HP.out]
            refine wp_region_quiet_below (by kernel_rfl) (by kernel_rfl) ?_
            repeat (go_big_quiet_step (exact HE.out _ _))
            refine wpQuiet_nil ?_
            intro _ hw'
            obtain ⟨⟨dq, osq⟩, hw''⟩ := hw'
            subst hw''
            have hbw2 := hbw1.trans ((below_regrown W1 dq osq).mono hbw1.size)
            clear HE
            go_wp2
            go_ret
            exact ⟨ret_bool HF.out.symm, hbw2⟩
          · have hl2 : Op.bytesLess y.nm.toList x.nm.toList = true := hl
            have HU2 := hide (show DUp l (k + 1) from HU.out.succ (by have h1 := HX.out; rw [HJ.out] at h1 ⊢; exact DAt.next h1 HY.out HG.out hl))
            clear hl
            go_wp2
            rw [HW.out, HP.out]
            refine wp_region_quiet_below (by kernel_rfl) (by kernel_rfl) ?_
            repeat (go_big_quiet_step (exact HE.out _ _))
            refine wpQuiet_nil ?_
            intro _ hw'
            obtain ⟨⟨dq, osq⟩, hw''⟩ := hw'
            subst hw''
            have hbw2 := hbw1.trans ((below_regrown W1 dq osq).mono hbw1.size)
            clear HE
            go_wp2
            go_roundw
            case rel => exact ⟨k + 1, by omega, by go_num, HU2, hbw2⟩
            case measure => simp [intOf]; omega
    · obtain rfl : k = l.length := by omega
      have HE := hide (gdB_yes (l := l) ⟨h12, HU.out⟩)
      clear HR HN HU
      go_wp2
      go_ret
      exact ⟨ret_bool HE.out.symm, hbw⟩
-- the specification
set_option maxRecDepth 20000 in
set_option maxHeartbeats 8000000 in
theorem spec_gdoms (v : Value) (l : Dms) (w : World) (hv : DomsOf w v l) (hn : l.length ≤ 1048576) (hl : LenD l) :
    Calls Try.prog 20 #[v] w fun e w' => e = .returned (.bool (gdB l)) ∧ Below w.heap.size w w' := by
  obtain ⟨a, cap, rfl, hr⟩ := hv
  have HR := hide hr
  have HN := hide hl.2
  clear hr hl
  go_enter Try.func20, Try.ntmps20
  go_wp2
  go_loopw [7] (fun i wr => ∃ k : Nat, k ≤ l.length ∧ i = .int .i64 k ∧ Hid (DUp l k) ∧ Below w.heap.size w wr) (fun i _ => l.length - (intOf i).toNat)
  case atStart => exact ⟨0, Nat.zero_le _, rfl, hide (fun i hi => by omega), Below.refl _ _⟩
  case round =>
    obtain ⟨k, hk, rfl, HU, hbw⟩ := hrel
    by_cases hlt : k < l.length
    · obtain ⟨b, off, rfl, hb, hrow⟩ := HR.out (by omega)
      obtain ⟨x, hx⟩ : ∃ x, l[k]? = some x := ⟨l[k], List.getElem?_eq_getElem hlt⟩
      have hd1 := (Below.refl wr.heap.size wr).alloc (Nat.le_refl _) (.cells #[.string x.nm, .int .i64 x.ver, .string x.nt] 58)
      have hbw1 := hbw.trans (hd1.mono hbw.size)
      obtain ⟨c0, c1, c2⟩ := (hrow k x hx).below hbw hb
      have hxs := HN.out x (List.mem_of_getElem? hx)
      obtain ⟨W1, hW1⟩ : ∃ W1, wr.alloc (.cells #[.string x.nm, .int .i64 x.ver, .string x.nt] 58) = W1 := ⟨_, rfl⟩
      obtain ⟨p, hp⟩ : ∃ p, wr.heap.size = p := ⟨_, rfl⟩
      have q0 : W1.cell? ⟨p, 0, none⟩ = some (.string x.nm) := by rw [← hW1, ← hp]; simp
      have q1 : W1.cell? ⟨p, 1, none⟩ = some (.int .i64 x.ver) := by rw [← hW1, ← hp]; simp
      have q2 : W1.cell? ⟨p, 2, none⟩ = some (.string x.nt) := by rw [← hW1, ← hp]; simp
      have r0 := cell_regrown q0
      have r1 := cell_regrown q1
      have r2 := cell_regrown q2
      rw [hW1] at hbw1
      have HW := hide hW1
      have HP := hide hp
      have HX := hide hx
      have HE1 := hide (show ∀ d os, Calls Try.prog 45 #[.string x.nm] (grow (redrawn W1 d) os) fun e w'' => e = .returned (.bool (gN x.nm)) ∧ ∃ p : Regrown, w'' = grow (redrawn W1 p.d) p.os from fun d os => Calls.regrown_of ((spec_name x.nm _ hxs.1).mono fun e w' h => ⟨h.1, by rw [h.2]; exact Below.refl _ _⟩))
      have HE2 := hide (show ∀ d os, Calls Try.prog 39 #[.int .i64 x.ver] (grow (redrawn W1 d) os) fun e w'' => e = .returned (.bool (inB x.ver 0 1000000)) ∧ ∃ p : Regrown, w'' = grow (redrawn W1 p.d) p.os from fun d os => Calls.regrown_of ((spec_ver x.ver _).mono fun e w' h => ⟨h.1, by rw [h.2]; exact Below.refl _ _⟩))
      have hnt : x.nt.size ≤ 9223372036854775807 := by have := hxs.2; unfold maxLen at this; omega
      have HBad := hide (fun h : gdb x = false => gdB_no (DUp.bad hlt (DAt.bad HX.out h)))
      clear hW1 hp hx hd1 q0 q1 q2 HR HN hxs
      cases h1 : gN x.nm
      · have HF := hide (HBad.out (by unfold gdb; rw [h1]; simp))
        rw [h1] at HE1
        clear hrow h1
        go_wp2
        rw [HW.out, HP.out]
        refine wp_region_quiet_below (by kernel_rfl) (by kernel_rfl) ?_
        repeat (go_big_quiet_step (first | exact HE1.out _ _ | exact HE2.out _ _))
        refine wpQuiet_nil ?_
        intro _ hw'
        obtain ⟨⟨dq, osq⟩, hw''⟩ := hw'
        subst hw''
        have hbw2 := hbw1.trans ((below_regrown W1 dq osq).mono hbw1.size)
        clear HE1 HE2
        go_wp2
        go_ret
        exact ⟨ret_bool HF.out.symm, hbw2⟩
      rw [h1] at HE1
      cases h2 : x.nm.toList.isEmpty
      case true =>
        have HF := hide (HBad.out (by unfold gdb; rw [h2]; simp))
        have h2' : x.nm.toList = [] := List.isEmpty_iff.1 h2
        clear hrow h1
        go_wp2
        rw [HW.out, HP.out]
        refine wp_region_quiet_below (by kernel_rfl) (by kernel_rfl) ?_
        repeat (go_big_quiet_step (first | exact HE1.out _ _ | exact HE2.out _ _))
        refine wpQuiet_nil ?_
        intro _ hw'
        obtain ⟨⟨dq, osq⟩, hw''⟩ := hw'
        subst hw''
        have hbw2 := hbw1.trans ((below_regrown W1 dq osq).mono hbw1.size)
        clear HE1 HE2
        go_wp2
        go_ret
        exact ⟨ret_bool HF.out.symm, hbw2⟩
      have h2' : ¬ x.nm.toList = [] := List.isEmpty_eq_false_iff.1 h2
      cases h3 : inB x.ver 0 1000000
      · have HF := hide (HBad.out (by unfold gdb; rw [h3]; simp))
        rw [h3] at HE2
        clear hrow h1 h3
        go_wp2
        rw [HW.out, HP.out]
        refine wp_region_quiet_below (by kernel_rfl) (by kernel_rfl) ?_
        repeat (go_big_quiet_step (first | exact HE1.out _ _ | exact HE2.out _ _))
        refine wpQuiet_nil ?_
        intro _ hw'
        obtain ⟨⟨dq, osq⟩, hw''⟩ := hw'
        subst hw''
        have hbw2 := hbw1.trans ((below_regrown W1 dq osq).mono hbw1.size)
        clear HE1 HE2
        go_wp2
        go_ret
        exact ⟨ret_bool HF.out.symm, hbw2⟩
      rw [h3] at HE2
      by_cases h4 : x.nt.size ≤ 20
      case neg =>
        have HF := hide (HBad.out (by unfold gdb; rw [decide_eq_false h4]; simp))
        have h5 : (20 : Int) < (x.nt.size : Int) := by omega
        have h6 : 20 < x.nt.size := by omega
        clear hrow h1 h3 h4
        go_wp2
        rw [HW.out, HP.out]
        refine wp_region_quiet_below (by kernel_rfl) (by kernel_rfl) ?_
        repeat (go_big_quiet_step (first | exact HE1.out _ _ | exact HE2.out _ _))
        refine wpQuiet_nil ?_
        intro _ hw'
        obtain ⟨⟨dq, osq⟩, hw''⟩ := hw'
        subst hw''
        have hbw2 := hbw1.trans ((below_regrown W1 dq osq).mono hbw1.size)
        clear HE1 HE2
        go_wp2
        go_ret
        exact ⟨ret_bool HF.out.symm, hbw2⟩
      have hg : gdb x = true := by unfold gdb; rw [h1, h2, h3, decide_eq_true h4]; rfl
      have h6 : decide ((20 : Int) < (x.nt.size : Int)) = false := decide_eq_false (by omega)
      have h7 : decide ((x.nt.size : Int) > 20) = false := decide_eq_false (by omega)
      have h8 : decide (20 < x.nt.size) = false := decide_eq_false (by omega)
      have HG := hide hg
      clear hg h1 h3 h4
      by_cases hk0 : k = 0
      · have hz : decide (0 < (k : Int)) = false := decide_eq_false (by omega)
        have hz2 : decide ((k : Int) > 0) = false := decide_eq_false (by omega)
        have hz3 : decide (0 < k) = false := decide_eq_false (by omega)
        have HU2 := hide (show DUp l (k + 1) from HU.out.succ (by rw [hk0] at HX ⊢; exact DAt.first HX.out HG.out))
        clear hk0 hrow
        go_wp2
        rw [HW.out, HP.out]
        refine wp_region_quiet_below (by kernel_rfl) (by kernel_rfl) ?_
        repeat (go_big_quiet_step (first | exact HE1.out _ _ | exact HE2.out _ _))
        refine wpQuiet_nil ?_
        intro _ hw'
        obtain ⟨⟨dq, osq⟩, hw''⟩ := hw'
        subst hw''
        have hbw2 := hbw1.trans ((below_regrown W1 dq osq).mono hbw1.size)
        clear HE1 HE2
        go_wp2
        go_roundw
        case rel => exact ⟨k + 1, by omega, by go_num, HU2, hbw2⟩
        case measure => simp [intOf]; omega
      · obtain ⟨j, hj⟩ : ∃ j, k = j + 1 := ⟨k - 1, by omega⟩
        obtain ⟨y, hy⟩ : ∃ y, l[j]? = some y := ⟨l[j], List.getElem?_eq_getElem (by omega)⟩
        have s0 := cell_regrown ((hbw1.cell (p := ⟨b, off + j * 3, none⟩) hb).trans (hrow j y hy).1)
        have hz : decide (0 < (k : Int)) = true := decide_eq_true (by omega)
        have hz2 : decide ((k : Int) > 0) = true := decide_eq_true (by omega)
        have hz3 : decide (0 < k) = true := decide_eq_true (by omega)
        have hkj : (k : Int) - 1 = (j : Int) := by omega
        have hj0 : (0 : Int) ≤ (j : Int) := by omega
        have hj1 : (j : Int) < (l.length : Int) := by omega
        have HY := hide hy
        have HJ := hide hj
        clear hk0 hrow hy hj
        cases hl : ltS y.nm x.nm
        · have hl2 : Op.bytesLess y.nm.toList x.nm.toList = false := hl
          have HF := hide (gdB_no (DUp.bad hlt (by have h1 := HX.out; rw [HJ.out] at h1 ⊢; exact DAt.low h1 HY.out hl)))
          clear hl
          go_wp2
          rw [HW.out, HP.out]
          refine wp_region_quiet_below (by kernel_rfl) (by kernel_rfl) ?_
          repeat (go_big_quiet_step (first | exact HE1.out _ _ | exact HE2.out _ _))
          refine wpQuiet_nil ?_
          intro _ hw'
          obtain ⟨⟨dq, osq⟩, hw''⟩ := hw'
          subst hw''
          have hbw2 := hbw1.trans ((below_regrown W1 dq osq).mono hbw1.size)
          clear HE1 HE2
          go_wp2
          go_ret
          exact ⟨ret_bool HF.out.symm, hbw2⟩
        · have hl2 : Op.bytesLess y.nm.toList x.nm.toList = true := hl
          have HU2 := hide (show DUp l (k + 1) from HU.out.succ (by have h1 := HX.out; rw [HJ.out] at h1 ⊢; exact DAt.next h1 HY.out HG.out hl))
          clear hl
          go_wp2
          rw [HW.out, HP.out]
          refine wp_region_quiet_below (by kernel_rfl) (by kernel_rfl) ?_
          repeat (go_big_quiet_step (first | exact HE1.out _ _ | exact HE2.out _ _))
          refine wpQuiet_nil ?_
          intro _ hw'
          obtain ⟨⟨dq, osq⟩, hw''⟩ := hw'
          subst hw''
          have hbw2 := hbw1.trans ((below_regrown W1 dq osq).mono hbw1.size)
          clear HE1 HE2
          go_wp2
          go_roundw
          case rel => exact ⟨k + 1, by omega, by go_num, HU2, hbw2⟩
          case measure => simp [intOf]; omega
    · obtain rfl : k = l.length := by omega
      have HE := hide (show gdB l = decide ((l.length : Int) ≤ 12) from by
        by_cases h : l.length ≤ 12
        · rw [gdB_yes (l := l) ⟨h, HU.out⟩, decide_eq_true (by omega)]
        · rw [gdB_no (l := l) (fun hh => h hh.1), decide_eq_false (by omega)])
      clear HR HN HU
      go_wp2
      go_ret
      exact ⟨ret_bool HE.out.symm, hbw⟩
end Go.Proofs.Ytgccoognklolbaa
