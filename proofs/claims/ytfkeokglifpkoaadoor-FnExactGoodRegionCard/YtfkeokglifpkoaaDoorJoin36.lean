/-
  Histories compared in both texts: CompareFunc under the program's comparison, l15Compare; how much two have in common; which may be told.
-/
import Derived.Test.YtfkeokglifpkoaaDoorJoin35
namespace Go.Proofs.YtfkeokglifpkoaaDoor
open Go.RowKit M
open Go.Sort (grow)
set_option maxRecDepth 20000 in
set_option maxHeartbeats 4000000 in
theorem cmp_func (v u : Value) (a b : Evs) (w : World) (hv : SliceOf w v a) (hu : SliceOf w u b) (ha : a.length ≤ 1048576) (hb : b.length ≤ 1048576) :
    Calls Tryd.prog 106 #[v, u, .func (.func 107) #[] #[]] w fun e w' => e = .returned (.int .i64 (cL a b)) ∧ Below w.heap.size w w' := by
  obtain ⟨a1, cap1, rfl, hr1⟩ := hv
  obtain ⟨a2, cap2, rfl, hr2⟩ := hu
  have H1 := hide hr1
  have H2 := hide hr2
  clear hr1 hr2
  go_enter Tryd.func106, Tryd.ntmps106
  go_wp2
  go_loopw [13] (fun i wr => ∃ k : Nat, i = .int .i64 k ∧ k ≤ a.length ∧ Hid (Al a b k) ∧ Below w.heap.size w wr) (fun i _ => a.length - (intOf i).toNat)
  case atStart => exact ⟨0, rfl, Nat.zero_le _, hide (Al.zero a b), Below.refl _ _⟩
  case round =>
    obtain ⟨k, rfl, hk, HA, hbw⟩ := hrel
    by_cases hlt : k < a.length
    · obtain ⟨x, hx⟩ : ∃ x, a[k]? = some x := ⟨a[k], List.getElem?_eq_getElem hlt⟩
      obtain ⟨b1, o1, rfl, hl1, hrow1⟩ := H1.out (by intro h; subst h; simp at hlt)
      obtain ⟨c0, c1, c2, c3⟩ := (hrow1 k x hx).below hbw hl1
      have hl1' := Nat.lt_of_lt_of_le hl1 hbw.size
      by_cases hlt2 : k < b.length
      · have hge : ¬ ((k : Int) ≥ (b.length : Int)) := by omega
        obtain ⟨y, hy⟩ : ∃ y, b[k]? = some y := ⟨b[k], List.getElem?_eq_getElem hlt2⟩
        obtain ⟨b2, o2, rfl, hl2, hrow2⟩ := H2.out (by intro h; subst h; simp at hlt2)
        obtain ⟨d0, d1, d2, d3⟩ := (hrow2 k y hy).below hbw hl2
        have hl2' := Nat.lt_of_lt_of_le hl2 hbw.size
        have HX := hide hx
        have HY := hide hy
        have hal := ((Below.refl wr.heap.size wr).alloc (Nat.le_refl _) (.cells (evarr x) 45)).alloc (by simp) (.cells (evarr y) 45)
        clear hrow1 hrow2 H1 H2 hx hy
        by_cases hz : cE x y = 0
        · have HN := hide (HA.out.succ HX.out HY.out hz)
          have hz' : (cE x y != 0) = false := by simp [hz]
          clear hz
          go_wp2_with fail
          refine (by_told x y _).mono ?_
          rintro e w2 ⟨rfl, hb2⟩
          have hbw2 := hbw.trans ((hal.trans (hb2.mono hal.size)).mono hbw.size)
          clear hb2 c0 c1 c2 c3 d0 d1 d2 d3 hal HA
          go_wp2
          go_roundw
          case rel => exact ⟨k + 1, by go_num, by omega, HN, hbw2⟩
          case measure => simp [intOf]; omega
        · have HN := hide (HA.out.parts HX.out HY.out hz).1
          have hz' : (cE x y != 0) = true := by simp [hz]
          clear hz
          go_wp2_with fail
          refine (by_told x y _).mono ?_
          rintro e w2 ⟨rfl, hb2⟩
          have hbw2 := hbw.trans ((hal.trans (hb2.mono hal.size)).mono hbw.size)
          clear hb2 c0 c1 c2 c3 d0 d1 d2 d3 hal HA
          go_wp2
          go_ret
          exact ⟨ret_int HN.out.symm, hbw2⟩
      · have hge : ((k : Int) ≥ (b.length : Int)) := by omega
        have hke : k = b.length := by have := HA.out.2.1; omega
        have HN := hide (show cL a b = 1 from (Al.endR (by rw [← hke]; exact HA.out) (by omega)).1)
        have hal := (Below.refl wr.heap.size wr).alloc (Nat.le_refl _) (.cells (evarr x) 45)
        have hbw2 := hbw.trans (hal.mono hbw.size)
        clear hrow1 H1 H2 hx hal HA hke
        go_wp2
        go_ret
        exact ⟨ret_int HN.out.symm, hbw2⟩
    · have hke : k = a.length := by omega
      subst hke
      clear H1 H2
      by_cases hl : a.length < b.length
      · have HN := hide (HA.out.endL hl).1
        have hl' : (a.length : Int) < (b.length : Int) := by omega
        clear HA
        go_wp2
        go_ret
        exact ⟨ret_int HN.out.symm, hbw⟩
      · have HN := hide (HA.out.endB (by have := HA.out.2.1; omega)).1
        have hl' : ¬ (a.length : Int) < (b.length : Int) := by omega
        clear HA
        go_wp2
        go_ret
        exact ⟨ret_int HN.out.symm, hbw⟩
set_option maxHeartbeats 2000000 in
theorem spec_ev (x y : Ev) (w : World) :
    Calls Tryd.prog 29 #[.agg #[.int .i64 x.id, .int .i64 x.ver, .int .i64 x.kind, .string x.name], .agg #[.int .i64 y.id, .int .i64 y.ver, .int .i64 y.kind, .string y.name]] w fun e w' => e = .returned (.int .i64 (cE x y)) ∧ Below w.heap.size w w' := by
  have hal := ((Below.refl w.heap.size w).alloc (Nat.le_refl _) (.cells (evarr x) 45)).alloc (by simp) (.cells (evarr y) 45)
  rcases (show x.ver < y.ver ∨ x.ver = y.ver ∨ y.ver < x.ver by omega) with h | h | h
  · have h1 : (x.ver != y.ver) = true := by simp; omega
    have HZ := hide (show cE x y = -1 from cE_neg (.inl h))
    go_enter Tryd.func29, Tryd.ntmps29
    go_wp2
    go_ret
    exact ⟨ret_int HZ.out.symm, hal⟩
  · have h1 : (x.ver != y.ver) = false := by simp; omega
    rcases (show x.kind < y.kind ∨ x.kind = y.kind ∨ y.kind < x.kind by omega) with k | k | k
    · have h2 : (x.kind != y.kind) = true := by simp; omega
      have HZ := hide (show cE x y = -1 from cE_neg (.inr ⟨h, .inl k⟩))
      clear h
      go_enter Tryd.func29, Tryd.ntmps29
      go_wp2
      go_ret
      exact ⟨ret_int HZ.out.symm, hal⟩
    · have h2 : (x.kind != y.kind) = false := by simp; omega
      rcases lt_tri x.name y.name with n | n | n
      · have h3 : Op.bytesLess x.name.toList y.name.toList = true := n
        have HZ := hide (show cE x y = -1 from cE_neg (.inr ⟨h, .inr ⟨k, n⟩⟩))
        clear h k n
        go_enter Tryd.func29, Tryd.ntmps29
        go_wp2
        go_ret
        exact ⟨ret_int HZ.out.symm, hal⟩
      · have h3 : Op.bytesLess x.name.toList y.name.toList = false := by rw [n]; exact lt_irr _
        have h4 : Op.bytesLess y.name.toList x.name.toList = false := by rw [n]; exact lt_irr _
        have h5 : (x.name.toList == y.name.toList) = true := by rw [n]; simp
        have HZ := hide (show cE x y = 0 from cE_same h k n)
        clear h k n
        go_enter Tryd.func29, Tryd.ntmps29
        go_wp2
        go_ret
        exact ⟨ret_int HZ.out.symm, hal⟩
      · have h3 : Op.bytesLess x.name.toList y.name.toList = false := lt_asym n
        have h4 : Op.bytesLess y.name.toList x.name.toList = true := n
        have h5 : (x.name.toList == y.name.toList) = false := by rw [eqS]; exact decide_eq_false (fun e => by rw [e, lt_irr] at n; cases n)
        have HZ := hide (show cE x y = 1 from cE_pos (.inr ⟨h.symm, .inr ⟨k.symm, n⟩⟩))
        clear h k n
        go_enter Tryd.func29, Tryd.ntmps29
        go_wp2
        go_ret
        exact ⟨ret_int HZ.out.symm, hal⟩
    · have h2 : (x.kind != y.kind) = true := by simp; omega
      have h3 : ¬ x.kind < y.kind := by omega
      have HZ := hide (show cE x y = 1 from cE_pos (.inr ⟨h.symm, .inl k⟩))
      clear h
      go_enter Tryd.func29, Tryd.ntmps29
      go_wp2
      go_ret
      exact ⟨ret_int HZ.out.symm, hal⟩
  · have h1 : (x.ver != y.ver) = true := by simp; omega
    have h2 : ¬ x.ver < y.ver := by omega
    have HZ := hide (show cE x y = 1 from cE_pos (.inl h))
    go_enter Tryd.func29, Tryd.ntmps29
    go_wp2
    go_ret
    exact ⟨ret_int HZ.out.symm, hal⟩
set_option maxRecDepth 20000 in
set_option maxHeartbeats 4000000 in
theorem spec_cmp (v u : Value) (a b : Evs) (w : World) (hv : SliceOf w v a) (hu : SliceOf w u b) (ha : a.length ≤ 1048576) (hb : b.length ≤ 1048576) :
    Calls Tryd.prog 19 #[v, u] w fun e w' => e = .returned (.tuple #[.int .i64 (cL a b), .int .i64 ((com a b : Nat) : Int)]) ∧ Below w.heap.size w w' := by
  obtain ⟨a1, cap1, rfl, hr1⟩ := hv
  obtain ⟨a2, cap2, rfl, hr2⟩ := hu
  have H1 := hide hr1
  have H2 := hide hr2
  clear hr1 hr2
  go_enter Tryd.func19, Tryd.ntmps19
  go_wp2
  go_loopw [6] (fun i wr => ∃ k : Nat, i = .int .i64 k ∧ k ≤ a.length ∧ Hid (Al a b k) ∧ Below w.heap.size w wr) (fun i _ => a.length - (intOf i).toNat)
  case atStart => exact ⟨0, rfl, Nat.zero_le _, hide (Al.zero a b), Below.refl _ _⟩
  case round =>
    obtain ⟨k, rfl, hk, HA, hbw⟩ := hrel
    by_cases hlt : k < a.length
    · by_cases hlt2 : k < b.length
      · obtain ⟨x, hx⟩ : ∃ x, a[k]? = some x := ⟨a[k], List.getElem?_eq_getElem hlt⟩
        obtain ⟨b1, o1, rfl, hl1, hrow1⟩ := H1.out (by intro h; subst h; simp at hlt)
        obtain ⟨c0, c1, c2, c3⟩ := (hrow1 k x hx).below hbw hl1
        obtain ⟨y, hy⟩ : ∃ y, b[k]? = some y := ⟨b[k], List.getElem?_eq_getElem hlt2⟩
        obtain ⟨b2, o2, rfl, hl2, hrow2⟩ := H2.out (by intro h; subst h; simp at hlt2)
        obtain ⟨d0, d1, d2, d3⟩ := (hrow2 k y hy).below hbw hl2
        have HX := hide hx
        have HY := hide hy
        have k0 := cell_regrown c0
        have k1 := cell_regrown c1
        have k2 := cell_regrown c2
        have k3 := cell_regrown c3
        have m0 := cell_regrown d0
        have m1 := cell_regrown d1
        have m2 := cell_regrown d2
        have m3 := cell_regrown d3
        have hi0 : (0 : Int) ≤ (k : Int) := by omega
        have hi1 : (k : Int) < (a.length : Int) := by omega
        have hi2 : (k : Int) < (b.length : Int) := by omega
        have HE := hide (show ∀ dd os, Calls Tryd.prog 29 #[.agg #[.int .i64 x.id, .int .i64 x.ver, .int .i64 x.kind, .string x.name], .agg #[.int .i64 y.id, .int .i64 y.ver, .int .i64 y.kind, .string y.name]] (grow (redrawn wr dd) os) fun e' w'' => e' = .returned (.int .i64 (cE x y)) ∧ ∃ p : Regrown, w'' = grow (redrawn wr p.d) p.os from fun dd os => Calls.regrown_of (spec_ev x y _))
        clear hrow1 hrow2 H1 H2 hx hy c0 c1 c2 c3 d0 d1 d2 d3
        go_wp2
        refine wp_region_quiet_below (by kernel_rfl) (by kernel_rfl) ?_
        repeat (go_big_quiet_step (exact HE.out _ _))
        refine wpQuiet_nil ?_
        intro _ hw'
        obtain ⟨⟨dq, osq⟩, hw''⟩ := hw'
        subst hw''
        have hbw2 := hbw.trans ((below_regrown wr dq osq).mono hbw.size)
        clear HE k0 k1 k2 k3 m0 m1 m2 m3
        by_cases hz : cE x y = 0
        · have HN := hide (HA.out.succ HX.out HY.out hz)
          have hz' : (cE x y != 0) = false := by simp [hz]
          clear hz HA
          go_wp2
          go_roundw
          case rel => exact ⟨k + 1, by go_num, by omega, HN, hbw2⟩
          case measure => simp [intOf]; omega
        · have HN := hide (HA.out.parts HX.out HY.out hz)
          have hz' : (cE x y != 0) = true := by simp [hz]
          clear hz HA
          go_wp2
          go_ret2
          exact ⟨by rw [HN.out.1, HN.out.2]; rfl, hbw2⟩
      · have hke : k = b.length := by have := HA.out.2.1; omega
        have HN := hide (show cL a b = 1 ∧ com a b = b.length from Al.endR (by rw [← hke]; exact HA.out) (by omega))
        have hg1 : ¬ (a.length : Int) < (b.length : Int) := by omega
        have hg2 : (a.length : Int) > (b.length : Int) := by omega
        clear H1 H2 HA hke
        go_wp2
        go_ret2
        exact ⟨by rw [HN.out.1, HN.out.2]; rfl, hbw⟩
    · have hke : k = a.length := by omega
      subst hke
      clear H1 H2
      by_cases hl : a.length < b.length
      · have HN := hide (HA.out.endL hl)
        have hl' : (a.length : Int) < (b.length : Int) := by omega
        clear HA
        go_wp2
        go_ret2
        exact ⟨by rw [HN.out.1, HN.out.2]; rfl, hbw⟩
      · have HN := hide (HA.out.endB (by have := HA.out.2.1; omega))
        have hl' : ¬ (a.length : Int) < (b.length : Int) := by omega
        have hl2 : ¬ (a.length : Int) > (b.length : Int) := by have := HA.out.2.1; omega
        clear HA
        go_wp2
        go_ret2
        exact ⟨by rw [HN.out.1, HN.out.2]; rfl, hbw⟩
end Go.Proofs.YtfkeokglifpkoaaDoor
