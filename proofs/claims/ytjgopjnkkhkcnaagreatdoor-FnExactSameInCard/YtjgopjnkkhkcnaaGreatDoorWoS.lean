/-
  Whether two regions know the same, in both texts; SameIn.
-/
import Derived.Test.YtjgopjnkkhkcnaaGreatDoorWoG
import Derived.Test.YtjgopjnkkhkcnaaGreatDoorBrF
import Derived.Test.YtjgopjnkkhkcnaaGreatDoorBrI
namespace Go.Proofs.YtjgopjnkkhkcnaaGreatDoor
open Go.RowKit M
open Go.Sort (grow)
namespace M
theorem cL0_at : ∀ {a b : Evs}, cL a b = 0 → ∀ (j : Nat) (x y : Ev), a[j]? = some x → b[j]? = some y → cE x y = 0
  | [], _, _, j, x, y, hx, _ => by simp at hx
  | _ :: _, [], _, j, x, y, _, hy => by simp at hy
  | a :: x, b :: y, h, j, u, v, hu, hv => by
    unfold cL at h
    by_cases e : cE a b = 0
    · rw [if_pos e] at h
      match j with
      | 0 => simp at hu hv; subst hu; subst hv; exact e
      | j + 1 => exact cL0_at h j u v (by simpa using hu) (by simpa using hv)
    · rw [if_neg e] at h; exact absurd h e
theorem cL_eq {a b : Evs} (ha : Pl a) (hb : Pl b) : cL a b = 0 ↔ a = b := by
  constructor
  · intro h
    have hl := (cL_zero h).2
    apply List.ext_getElem?
    intro i
    by_cases c : i < a.length
    · have hx : a[i]? = some a[i] := List.getElem?_eq_getElem c
      have hy : b[i]? = some (b[i]'(by omega)) := List.getElem?_eq_getElem (by omega)
      rw [hx, hy]
      exact congrArg some ((eqE_iff _ _).1 ((eqE_cE ha hb hx hy).2 (cL0_at h i _ _ hx hy)))
    · rw [List.getElem?_eq_none (by omega), List.getElem?_eq_none (by omega)]
  · intro h; subst h; exact cL_self a
end M
theorem neq_ev (x y : Ev) (w : World) : (binOp .neq 150 (.agg #[.int .i64 x.id, .int .i64 x.ver, .int .i64 x.kind, .string x.name]) (.agg #[.int .i64 y.id, .int .i64 y.ver, .int .i64 y.kind, .string y.name])).run Tryz.prog w = .ok (.bool (!eqE x y)) w := by
  have u9 := Tryz.underlying9
  have a9 := Tryz.isAgg9
  have z9 := Tryz.sizeOf9
  have u3 := Tryz.underlying3
  have a3 := Tryz.isAgg3
  have z3 := Tryz.sizeOf3
  have hS : Tryz.prog.underlying 150 = some (.struct (Tryz.prog.fieldsOf 150)) := by kernel_rfl
  have hp : Tryz.prog.stoodInHeld 150 = false := by kernel_rfl
  unfold eqE
  rw [run_neq_struct, show (10000 : Nat) = 9999 + 1 from rfl, run_equalIn_agg w 9999 150 _ _ hS hp]
  simp only [Program.fieldsOf, Tryz.underlying150]
  go_simp
  cases h1 : (x.id == y.id) <;> cases h2 : (x.ver == y.ver) <;> cases h3 : (x.kind == y.kind) <;> cases h4 : (x.name.toList == y.name.toList) <;> simp_all
set_option maxRecDepth 20000 in
set_option maxHeartbeats 2000000 in
theorem equal_evs (v u : Value) (l m : Evs) (t : Bool) (w : World) (hv : SliceOf w v l) (hu : SliceOf w u m) (hl : l.length ≤ 1048576) (hm : m.length ≤ 1048576) (ht : BP t (l = m)) :
    Calls Tryz.prog 159 #[v, u] w fun e w' => e = .returned (.bool t) ∧ Below w.heap.size w w' := by
  obtain ⟨a, cap, rfl, hr⟩ := hv
  obtain ⟨a2, cap2, rfl, hr2⟩ := hu
  have HR := hide hr
  have HR2 := hide hr2
  have HT := hide ht
  clear hr hr2 ht
  by_cases hlen : l.length = m.length
  case neg =>
    have hne : ((l.length : Int) != (m.length : Int)) = true := by simp; omega
    have HF := hide (show t = false from HT.out.no (fun h => hlen (congrArg List.length h)))
    clear hlen
    go_enter Tryz.func159, Tryz.ntmps159
    go_wp2
    go_ret
    exact ⟨ret_bool HF.out.symm, Below.refl _ _⟩
  have hne : ((l.length : Int) != (m.length : Int)) = false := by simp; omega
  have HLEN := hide hlen
  have hlen2 : l.length ≤ m.length := by omega
  clear hlen
  go_enter Tryz.func159, Tryz.ntmps159
  go_wp2
  go_loopw [13] (fun i wr => ∃ k : Nat, k ≤ l.length ∧ i = .int .i64 k ∧ Hid (∀ q, q < k → l[q]? = m[q]?) ∧ Below w.heap.size w wr) (fun i _ => l.length - (intOf i).toNat)
  case atStart => exact ⟨0, Nat.zero_le _, rfl, hide (fun q hq => by omega), Below.refl _ _⟩
  case round =>
    obtain ⟨k, hk, rfl, HU, hbw⟩ := hrel
    by_cases hlt : k < l.length
    · obtain ⟨b, off, rfl, hb, hrow⟩ := HR.out (by intro h; subst h; simp at hlt)
      obtain ⟨b2, off2, rfl, hb2, hrow2⟩ := HR2.out (by intro h; have h0 : m.length = 0 := (by rw [h]; rfl); omega)
      obtain ⟨x, hx⟩ : ∃ x, l[k]? = some x := ⟨l[k], List.getElem?_eq_getElem hlt⟩
      obtain ⟨y, hy⟩ : ∃ y, m[k]? = some y := ⟨m[k], List.getElem?_eq_getElem (by omega)⟩
      obtain ⟨c0, c1, c2, c3⟩ := (hrow k x hx).below hbw hb
      obtain ⟨e0, e1, e2, e3⟩ := (hrow2 k y hy).below hbw hb2
      have k0 := cell_regrown c0
      have k1 := cell_regrown c1
      have k2 := cell_regrown c2
      have k3 := cell_regrown c3
      have g0 := cell_regrown e0
      have g1 := cell_regrown e1
      have g2 := cell_regrown e2
      have g3 := cell_regrown e3
      have hi0 : (0 : Int) ≤ (k : Int) := by omega
      have hi1 : (k : Int) < (l.length : Int) := by omega
      have hi2 : (k : Int) < (m.length : Int) := by omega
      have hn := fun W => neq_ev x y W
      have hgd := fun op a b W => guard_ev op a b x y W
      have HX := hide hx
      have HY := hide hy
      clear hrow hrow2 HR HR2 hx hy c0 c1 c2 c3 e0 e1 e2 e3
      cases hd : eqE x y
      · have HF := hide (show t = false from HT.out.no (fun h => by
          have h1 := HX.out
          rw [h, HY.out] at h1
          simp only [Option.some.injEq] at h1
          rw [(eqE_iff x y).2 h1.symm] at hd; cases hd))
        rw [hd] at hn
        clear hd
        go_wp2
        refine wp_region_quiet_below (by kernel_rfl) (by kernel_rfl) ?_
        repeat (go_big_quiet_step (fail))
        refine wpQuiet_nil ?_
        intro _ hw'
        obtain ⟨⟨dq, osq⟩, hw''⟩ := hw'
        subst hw''
        have hbw2 := hbw.trans ((below_regrown wr dq osq).mono hbw.size)
        clear hn hgd
        go_wp2
        go_ret
        exact ⟨ret_bool HF.out.symm, hbw2⟩
      · have HU2 := hide (show ∀ q, q < k + 1 → l[q]? = m[q]? from fun q hq => by
          by_cases e : q = k
          · subst e; rw [HX.out, HY.out, (eqE_iff x y).1 hd]
          · exact HU.out q (by omega))
        rw [hd] at hn
        clear hd
        go_wp2
        refine wp_region_quiet_below (by kernel_rfl) (by kernel_rfl) ?_
        repeat (go_big_quiet_step (fail))
        refine wpQuiet_nil ?_
        intro _ hw'
        obtain ⟨⟨dq, osq⟩, hw''⟩ := hw'
        subst hw''
        have hbw2 := hbw.trans ((below_regrown wr dq osq).mono hbw.size)
        clear hn hgd
        go_wp2
        go_roundw
        case rel => exact ⟨k + 1, by omega, by go_num, HU2, hbw2⟩
        case measure => simp [intOf]; omega
    · have HY := hide (show t = true from HT.out.yes (by
        apply List.ext_getElem?
        intro q
        rcases Nat.lt_or_ge q k with c | c
        · exact HU.out q c
        · have := HLEN.out
          rw [List.getElem?_eq_none (by omega), List.getElem?_eq_none (by omega)]))
      clear HR HR2 HU HLEN
      go_wp2
      go_ret
      exact ⟨ret_bool HY.out.symm, hbw⟩
theorem know_one (v u : Value) (l m : Evs) (t : Bool) (w : World) (hv : SliceOf w v l) (hu : SliceOf w u m) (hl : l.length ≤ 1048576) (hm : m.length ≤ 1048576) (ht : BP t (l = m)) :
    Calls Tryz.prog 158 #[.agg #[v], .agg #[u]] w fun e w' => e = .returned (.bool t) ∧ Below w.heap.size w w' := by
  have hal := low2 w (.cells #[v] 148) (.cells #[u] 148)
  have HV := hide (hv.below hal)
  have HU := hide (hu.below hal)
  obtain ⟨a1, c1, rfl⟩ := hv.form
  obtain ⟨a2, c2, rfl⟩ := hu.form
  clear hv hu
  go_enter Tryz.func158, Tryz.ntmps158
  go_wp2_with fail
  refine (equal_evs _ _ l m t _ HV.out HU.out hl hm ht).mono ?_
  rintro e w1 ⟨rfl, hb1⟩
  have hbw := hal.trans (hb1.mono hal.size)
  clear hb1 hal
  go_wp2
  go_ret
  exact ⟨rfl, hbw⟩
set_option maxRecDepth 20000 in
set_option maxHeartbeats 2000000 in
theorem equal_brs (v u : Value) (l m : Brs) (t : Bool) (w : World) (hv : BrsOf w v l) (hu : BrsOf w u m) (hf : FineS l) (hf2 : FineS m) (ht : BP t (l = m)) :
    Calls Tryz.prog 157 #[v, u, .func (.func 158) #[] #[]] w fun e w' => e = .returned (.bool t) ∧ Below w.heap.size w w' := by
  have HV := hide hv
  have HU := hide hu
  have HF := hide hf
  have HF2 := hide hf2
  have HT := hide ht
  have hln := hf.1
  have hlm := hf2.1
  obtain ⟨a, cap, rfl⟩ := hv.form
  obtain ⟨a2, cap2, rfl⟩ := hu.form
  clear hv hu hf hf2 ht
  by_cases hlen : l.length = m.length
  case neg =>
    have hne : ((l.length : Int) != (m.length : Int)) = true := by simp; omega
    have HN := hide (show t = false from HT.out.no (fun h => hlen (congrArg List.length h)))
    clear hlen
    go_enter Tryz.func157, Tryz.ntmps157
    go_wp2
    go_ret
    exact ⟨ret_bool HN.out.symm, Below.refl _ _⟩
  have hne : ((l.length : Int) != (m.length : Int)) = false := by simp; omega
  have HLEN := hide hlen
  have hlen2 : l.length ≤ m.length := by omega
  clear hlen
  go_enter Tryz.func157, Tryz.ntmps157
  go_wp2
  go_loopw [17] (fun i wr => ∃ k : Nat, k ≤ l.length ∧ i = .int .i64 k ∧ Hid (∀ q, q < k → l[q]? = m[q]?) ∧ Below w.heap.size w wr) (fun i _ => l.length - (intOf i).toNat)
  case atStart => exact ⟨0, Nat.zero_le _, rfl, hide (fun q hq => by omega), Below.refl _ _⟩
  case round =>
    obtain ⟨k, hk, rfl, HQ, hbw⟩ := hrel
    by_cases hlt : k < l.length
    · obtain ⟨x, hx⟩ : ∃ x, l[k]? = some x := ⟨l[k], List.getElem?_eq_getElem hlt⟩
      obtain ⟨y, hy⟩ : ∃ y, m[k]? = some y := ⟨m[k], List.getElem?_eq_getElem (by omega)⟩
      obtain ⟨b1, o1, rfl, hl1, x1, y1, hc1, hs1⟩ := HV.out.at hx
      obtain ⟨b2, o2, rfl, hl2, x2, y2, hc2, hs2⟩ := HU.out.at hy
      have d1 := (hbw.cell (p := ⟨b1, o1 + k, none⟩) hl1).trans hc1
      have d2 := ((hbw.trans ((low1 wr (.cells #[.slice x1 x.length y1] 148)).mono hbw.size)).cell (p := ⟨b2, o2 + k, none⟩) hl2).trans hc2
      have d2' := (hbw.cell (p := ⟨b2, o2 + k, none⟩) hl2).trans hc2
      have hal := low2 wr (.cells #[.slice x1 x.length y1] 148) (.cells #[.slice x2 y.length y2] 148)
      have hbq := hbw.trans (hal.mono hbw.size)
      obtain ⟨tk, htk⟩ := bp_ex (x = y)
      have HK := hide (know_one _ _ x y tk _ (hs1.below hbq) (hs2.below hbq) (HF.out.at hx).1 (HF2.out.at hy).1 htk)
      have hi0 : (0 : Int) ≤ (k : Int) := by omega
      have hi1 : (k : Int) < (m.length : Int) := by omega
      have HX := hide hx
      have HY := hide hy
      have HTK := hide htk
      clear hc1 hc2 hs1 hs2 hx hy htk hal
      cases tk
      · have HN := hide (show t = false from HT.out.no (fun h => by
          have h1 := HX.out
          rw [h, HY.out] at h1
          simp only [Option.some.injEq] at h1
          have := HTK.out.2 h1.symm; cases this))
        clear HTK HQ
        go_wp2_with (go_at_call 158; refine HK.out.mono ?_; rintro e w2 ⟨rfl, hb2⟩)
        go_ret
        exact ⟨ret_bool HN.out.symm, hbq.trans (hb2.mono hbq.size)⟩
      · have HQ2 := hide (show ∀ q, q < k + 1 → l[q]? = m[q]? from fun q hq => by
          by_cases e : q = k
          · subst e; rw [HX.out, HY.out, HTK.out.1 rfl]
          · exact HQ.out q (by omega))
        clear HTK HQ
        go_wp2_with (go_at_call 158; refine HK.out.mono ?_; rintro e w2 ⟨rfl, hb2⟩; have hbw2 := hbq.trans (hb2.mono hbq.size); clear hb2)
        go_roundw
        case rel => exact ⟨k + 1, by omega, by go_num, HQ2, hbw2⟩
        case measure => simp [intOf]; omega
    · have HY := hide (show t = true from HT.out.yes (by
        apply List.ext_getElem?
        intro q
        rcases Nat.lt_or_ge q k with c | c
        · exact HQ.out q c
        · have := HLEN.out
          rw [List.getElem?_eq_none (by omega), List.getElem?_eq_none (by omega)]))
      clear HV HU HQ HLEN
      go_wp2
      go_ret
      exact ⟨ret_bool HY.out.symm, hbw⟩
set_option maxHeartbeats 2000000 in
theorem know_alike (id ver id2 ver2 : Int) (v u : Value) (l m : Brs) (t : Bool) (w : World) (hv : BrsOf w v l) (hu : BrsOf w u m) (hf : FineS l) (hf2 : FineS m) (ht : BP t (ver = ver2 ∧ l = m)) :
    Calls Tryz.prog 103 #[rv id ver v, rv id2 ver2 u] w fun e w' => e = .returned (.bool t) ∧ Below w.heap.size w w' := by
  have hal := low2 w (.cells #[.int .i64 id, .int .i64 ver, v] 32) (.cells #[.int .i64 id2, .int .i64 ver2, u] 32)
  have HV := hide (hv.below hal)
  have HU := hide (hu.below hal)
  have HT := hide ht
  obtain ⟨a1, c1, rfl⟩ := hv.form
  obtain ⟨a2, c2, rfl⟩ := hu.form
  clear hv hu ht
  by_cases hvv : ver = ver2
  · have he : (ver == ver2) = true := by simp [hvv]
    have HL := hide (show BP t (l = m) from ⟨fun h => (HT.out.1 h).2, fun h => HT.out.2 ⟨hvv, h⟩⟩)
    clear hvv HT
    go_enter Tryz.func103, Tryz.ntmps103
    go_wp2_with fail
    refine (equal_brs _ _ l m t _ HV.out HU.out hf hf2 HL.out).mono ?_
    rintro e w1 ⟨rfl, hb1⟩
    have hbw := hal.trans (hb1.mono hal.size)
    clear hb1 hal
    go_wp2
    go_ret
    exact ⟨rfl, hbw⟩
  · have he : (ver == ver2) = false := by simp [hvv]
    have HN := hide (show t = false from HT.out.no (fun h => hvv h.1))
    clear hvv HT
    go_enter Tryz.func103, Tryz.ntmps103
    go_wp2
    go_ret
    exact ⟨ret_bool HN.out.symm, hal⟩
set_option maxRecDepth 20000 in
set_option maxHeartbeats 2000000 in
theorem spec_tells (v u : Value) (l m : Brs) (t : Bool) (w : World) (hv : BrsOf w v l) (hu : BrsOf w u m) (hf : FineS l) (hf2 : FineS m) (hp : ∀ b ∈ l, Pl b) (hp2 : ∀ b ∈ m, Pl b) (ht : BP t (l = m)) :
    Calls Tryz.prog 154 #[.agg #[v], .agg #[u]] w fun e w' => e = .returned (.bool t) ∧ Below w.heap.size w w' := by
  have HF := hide hf
  have HF2 := hide hf2
  have HT := hide ht
  have HP := hide hp
  have HP2 := hide hp2
  have hln := hf.1
  have hlm := hf2.1
  have HV0 := hide hv
  have HU0 := hide hu
  obtain ⟨a, cap, rfl⟩ := hv.form
  obtain ⟨a2, cap2, rfl⟩ := hu.form
  obtain ⟨W0, hW⟩ : ∃ W0, (w.alloc (.cells #[.slice a l.length cap] 30)).alloc (.cells #[.slice a2 m.length cap2] 30) = W0 := ⟨_, rfl⟩
  obtain ⟨m0, m1, hb0, hsz⟩ := two1 w _ _ _ _ W0 hW.symm
  have HM0 := hide m0
  have HM1 := hide m1
  have HV := hide (HV0.out.below hb0)
  have HU := hide (HU0.out.below hb0)
  have HW := hide hW
  have HSZ := hide hsz
  have p0 := m0.cell
  have p1 := m1.cell
  clear hv hu hf hf2 ht hp hp2 hW m0 m1 hsz HV0 HU0
  by_cases hlen : l.length = m.length
  case neg =>
    have hne : ((l.length : Int) != (m.length : Int)) = true := by simp; omega
    have HN := hide (show t = false from HT.out.no (fun h => hlen (congrArg List.length h)))
    clear hlen
    go_enter Tryz.func154, Tryz.ntmps154
    go_wp2
    go_ret
    rw [HW.out]
    exact ⟨ret_bool HN.out.symm, hb0⟩
  have hne : ((l.length : Int) != (m.length : Int)) = false := by simp; omega
  have HLEN := hide hlen
  have hlen2 : l.length ≤ m.length := by omega
  clear hlen
  go_enter Tryz.func154, Tryz.ntmps154
  go_wp2
  rw [HW.out]
  clear p0 p1
  go_loopw [18] (fun i wr => ∃ k : Nat, k ≤ l.length ∧ i = .int .i64 k ∧ Hid (∀ q, q < k → l[q]? = m[q]?) ∧ Below W0.heap.size W0 wr) (fun i _ => l.length - (intOf i).toNat)
  case atStart => exact ⟨0, Nat.zero_le _, rfl, hide (fun q hq => by omega), Below.refl _ _⟩
  case round =>
    obtain ⟨k, hk, rfl, HQ, hbw⟩ := hrel
    by_cases hlt : k < l.length
    · obtain ⟨x, hx⟩ : ∃ x, l[k]? = some x := ⟨l[k], List.getElem?_eq_getElem hlt⟩
      obtain ⟨y, hy⟩ : ∃ y, m[k]? = some y := ⟨m[k], List.getElem?_eq_getElem (by omega)⟩
      obtain ⟨b1, o1, rfl, hl1, x1, y1, hc1, hs1⟩ := HV.out.at hx
      obtain ⟨b2, o2, rfl, hl2, x2, y2, hc2, hs2⟩ := HU.out.at hy
      have k1 := cell_regrown ((hbw.cell (p := ⟨b1, o1 + k, none⟩) hl1).trans hc1)
      have k2 := cell_regrown ((hbw.cell (p := ⟨b2, o2 + k, none⟩) hl2).trans hc2)
      have k3 := cell_regrown (HM0.out.down hbw).cell
      have k4 := cell_regrown (HM1.out.down hbw).cell
      have HC := hide (show ∀ d os, Calls Tryz.prog 162 #[.slice x1 x.length y1, .slice x2 y.length y2] (grow (redrawn wr d) os) fun e w'' => e = .returned (.tuple #[.int .i64 (cL x y), .int .i64 ((com x y : Nat) : Int)]) ∧ ∃ p : Regrown, w'' = grow (redrawn wr p.d) p.os from fun d os => Calls.regrown_of (spec_cmp _ _ x y _ (hs1.below (hbw.trans ((below_regrown wr d os).mono hbw.size))) (hs2.below (hbw.trans ((below_regrown wr d os).mono hbw.size))) (HF.out.at hx).1 (HF2.out.at hy).1))
      have hi0 : (0 : Int) ≤ (k : Int) := by omega
      have hi1 : (k : Int) < (l.length : Int) := by omega
      have hi2 : (k : Int) < (m.length : Int) := by omega
      have HX := hide hx
      have HY := hide hy
      have HE := hide (cL_eq (HP.out x (List.mem_of_getElem? hx)) (HP2.out y (List.mem_of_getElem? hy)))
      obtain ⟨z, hz⟩ : ∃ z, cL x y = z := ⟨_, rfl⟩
      rw [hz] at HC HE
      clear hc1 hc2 hs1 hs2 hx hy hz
      by_cases hz0 : z = 0
      · have hnz : (z != 0) = false := by simp [hz0]
        have HQ2 := hide (show ∀ q, q < k + 1 → l[q]? = m[q]? from fun q hq => by
          by_cases e : q = k
          · subst e; rw [HX.out, HY.out, HE.out.1 hz0]
          · exact HQ.out q (by omega))
        clear hz0 HQ HE
        go_wp2
        refine wp_region_quiet_below (by kernel_rfl) (by kernel_rfl) ?_
        repeat (go_big_quiet_step (exact HC.out _ _))
        refine wpQuiet_nil ?_
        intro _ hw'
        obtain ⟨⟨dq, osq⟩, hw''⟩ := hw'
        subst hw''
        have hbw2 := hbw.trans ((below_regrown wr dq osq).mono hbw.size)
        clear HC k1 k2 k3 k4
        go_wp2
        go_roundw
        case rel => exact ⟨k + 1, by omega, by go_num, HQ2, hbw2⟩
        case measure => simp [intOf]; omega
      · have hnz : (z != 0) = true := by simp [hz0]
        have HN := hide (show t = false from HT.out.no (fun h => by
          have h1 := HX.out
          rw [h, HY.out] at h1
          simp only [Option.some.injEq] at h1
          exact hz0 (HE.out.2 h1.symm)))
        clear hz0 HQ HE
        go_wp2
        refine wp_region_quiet_below (by kernel_rfl) (by kernel_rfl) ?_
        repeat (go_big_quiet_step (exact HC.out _ _))
        refine wpQuiet_nil ?_
        intro _ hw'
        obtain ⟨⟨dq, osq⟩, hw''⟩ := hw'
        subst hw''
        have hbw2 := hbw.trans ((below_regrown wr dq osq).mono hbw.size)
        clear HC k1 k2 k3 k4
        go_wp2
        go_ret
        exact ⟨ret_bool HN.out.symm, hb0.trans (hbw2.mono hb0.size)⟩
    · have HY := hide (show t = true from HT.out.yes (by
        apply List.ext_getElem?
        intro q
        rcases Nat.lt_or_ge q k with c | c
        · exact HQ.out q c
        · have := HLEN.out
          rw [List.getElem?_eq_none (by omega), List.getElem?_eq_none (by omega)]))
      clear HV HU HQ HLEN
      go_wp2
      go_ret
      exact ⟨ret_bool HY.out.symm, hb0.trans (hbw.mono hb0.size)⟩
set_option maxHeartbeats 2000000 in
theorem spec_alike (id ver id2 ver2 : Int) (v u : Value) (l m : Brs) (t : Bool) (w : World) (hv : BrsOf w v l) (hu : BrsOf w u m) (hf : FineS l) (hf2 : FineS m) (hp : ∀ b ∈ l, Pl b) (hp2 : ∀ b ∈ m, Pl b) (ht : BP t (ver = ver2 ∧ l = m)) :
    Calls Tryz.prog 99 #[rv id ver v, rv id2 ver2 u] w fun e w' => e = .returned (.bool t) ∧ Below w.heap.size w w' := by
  have hal := low2 w (.cells #[.int .i64 id, .int .i64 ver, v] 32) (.cells #[.int .i64 id2, .int .i64 ver2, u] 32)
  have HV := hide (hv.below hal)
  have HU := hide (hu.below hal)
  have HT := hide ht
  obtain ⟨a1, c1, rfl⟩ := hv.form
  obtain ⟨a2, c2, rfl⟩ := hu.form
  clear hv hu ht
  by_cases hvv : ver = ver2
  · have he : (ver == ver2) = true := by simp [hvv]
    have HL := hide (show BP t (l = m) from ⟨fun h => (HT.out.1 h).2, fun h => HT.out.2 ⟨hvv, h⟩⟩)
    clear hvv HT
    go_enter Tryz.func99, Tryz.ntmps99
    go_wp2_with fail
    refine (spec_tells _ _ l m t _ HV.out HU.out hf hf2 hp hp2 HL.out).mono ?_
    rintro e w1 ⟨rfl, hb1⟩
    have hbw := hal.trans (hb1.mono hal.size)
    clear hb1 hal
    go_wp2
    go_ret
    exact ⟨rfl, hbw⟩
  · have he : (ver == ver2) = false := by simp [hvv]
    have HN := hide (show t = false from HT.out.no (fun h => hvv h.1))
    clear hvv HT
    go_enter Tryz.func99, Tryz.ntmps99
    go_wp2
    go_ret
    exact ⟨ret_bool HN.out.symm, hal⟩
namespace M
open Classical in
/-- Whether both regions know the same. -/
noncomputable def smB (W : Wd) : Bool := decide (∃ r s, W.rs[0]? = some r ∧ W.rs[1]? = some s ∧ r.ver = s.ver ∧ r.bs = s.bs)
open Classical in
theorem smB_is {W : Wd} {r s : Rg} (hr : W.rs[0]? = some r) (hs : W.rs[1]? = some s) : BP (smB W) (r.ver = s.ver ∧ r.bs = s.bs) := by
  unfold smB BP
  rw [decide_eq_true_eq]
  constructor
  · rintro ⟨r', s', h1, h2, h3⟩
    rw [hr] at h1; rw [hs] at h2
    simp only [Option.some.injEq] at h1 h2
    subst h1; subst h2; exact h3
  · intro h; exact ⟨r, s, hr, hs, h⟩
end M
end Go.Proofs.YtjgopjnkkhkcnaaGreatDoor
