/-
  Texts that follow one another, joined: BrO, BrL2.
-/
import Derived.Test.YtcbkeabfnldmhaaDoorJoin13
import Derived.Test.YtcbkeabfnldmhaaDoorJoin35
import Derived.Deep.Slices
import Derived.Deep.SlicePairs
import Derived.Lib.SmallJoins
import Derived.ProofKit
import Derived.OpenShut
/-
  Tellings that came in, read as data, are branches in memory.
-/
namespace Go.Proofs.YtcbkeabfnldmhaaDoor
open Go.ChangeShapes Go.WideShapes Go.ChangeAt Go.RowKit Go.Joins Go.Deep
open M
theorem cellsLawEvsO : Tryd.prog.cellsOf 39 = 1 := by kernel_rfl
theorem cellsLawBrO : Tryd.prog.cellsOf 78 = 1 := by kernel_rfl
theorem cellsLawBrsO : Tryd.prog.cellsOf 22 = 1 := by kernel_rfl
theorem cellsLawTellO : Tryd.prog.cellsOf 24 = 1 := by kernel_rfl
theorem pick_list {α : Type} {Pn : Nat → α → Prop} : ∀ n : Nat, (∀ i, i < n → ∃ e : α, Pn i e) → ∃ l : List α, l.length = n ∧ ∀ i x, l[i]? = some x → Pn i x
  | 0, _ => ⟨[], rfl, fun i x h => by simp at h⟩
  | n + 1, h => by
    obtain ⟨l, hl, hp⟩ := pick_list n (fun i hi => h i (by omega))
    obtain ⟨e, he⟩ := h n (by omega)
    refine ⟨l ++ [e], by simp [hl], fun i x hi => ?_⟩
    by_cases hin : i < n
    · rw [List.getElem?_append_left (by omega)] at hi; exact hp i x hi
    · rw [List.getElem?_append_right (by omega)] at hi
      have hie : i = n := by
        rcases Nat.eq_zero_or_pos (i - l.length) with h0 | h0
        · omega
        · rw [List.getElem?_eq_none (by simp; omega)] at hi; cases hi
      subst hie
      rw [hl, Nat.sub_self] at hi
      simp at hi
      subst hi
      exact he
set_option maxRecDepth 100000 in
theorem trod_evs {H : Type} {enc : TypeId × Value → H} {W : World} {fuel : Nat} {v : Value} {x : DataW H × List MemPlace}
    (hf : DataW.trod enc Tryd.prog W 0 (fun _ => true) true fuel 39 [v] = some x) :
    ∃ es : List Ev, SliceOf W v es ∧ es.length ≤ maxLen ∧ ∀ e ∈ es, e.name.size ≤ maxLen := by
  rcases open_slice Tryd.underlying39 hf with ⟨hcs, _⟩ | ⟨a, len, cap, m, n, D, Pl, hcs, _, hl, hm, hmm, _, hx⟩
  · simp at hcs
    subst hcs
    exact ⟨[], ⟨none, 0, rfl, fun h => absurd rfl h⟩, Nat.zero_le _, fun e h => by simp at h⟩
  · simp at hcs
    subst hcs
    simp only [if_true] at hmm
    subst hmm
    by_cases h0 : len = 0
    · subst h0
      exact ⟨[], ⟨some a, _, rfl, fun h => absurd rfl h⟩, Nat.zero_le _, fun e h => by simp at h⟩
    · obtain ⟨b, off, spot⟩ := a
      have hspot : spot = none := by
        obtain ⟨cs', h1, _⟩ := hx 0 (by omega)
        rw [cellsLawEv] at h1
        obtain ⟨_, hlen, hcell⟩ := World.cells?_some h1
        have q := hcell 0 (by omega)
        have hs : ∃ c, W.cell? (((⟨b, off, spot⟩ : Addr).add (0 * 4)).add 0) = some c := by
          rw [q]
          match cs', hlen with
          | [c0, c1, c2, c3], _ => exact ⟨c0, rfl⟩
        obtain ⟨c, hc⟩ := hs
        have := World.cell?_spot hc
        simpa [Addr.add] using this
      subst hspot
      have ha : ∀ n, (⟨b, off, none⟩ : Addr).add n = ⟨b, off + n, none⟩ := fun n => by unfold Addr.add; split <;> simp_all
      have ha2 : ∀ k n, (⟨b, k, none⟩ : Addr).add n = ⟨b, k + n, none⟩ := fun k n => by unfold Addr.add; split <;> simp_all
      have key : ∀ i, i < len → ∃ e : Ev, EvAt W b (off + i * 4) e ∧ e.name.size ≤ maxLen := by
        intro i hi
        obtain ⟨cs', h1, h2⟩ := hx i (by omega)
        rw [cellsLawEv] at h1
        obtain ⟨_, hlen, hcell⟩ := World.cells?_some h1
        match cs', hlen with
        | [c0, c1, c2, c3], _ =>
          obtain ⟨y0, y1, y2, y3, k, _, _, t0, t1, t2, t3⟩ := trod_struct4 Tryd.underlying69 h2
          simp only [cellsInt, cellsStr] at t0 t1 t2 t3
          obtain ⟨id, e0, -, -⟩ := DataW.trod_int Tryd.underlying3 t0
          obtain ⟨ver, e1, -, -⟩ := DataW.trod_int Tryd.underlying3 t1
          obtain ⟨kind, e2, -, -⟩ := DataW.trod_int Tryd.underlying3 t2
          obtain ⟨name, e3, -, hn⟩ := DataW.trod_string Tryd.underlying9 t3
          simp at e0 e1 e2 e3
          have q0 := hcell 0 (by omega)
          have q1 := hcell 1 (by omega)
          have q2 := hcell 2 (by omega)
          have q3 := hcell 3 (by omega)
          simp only [List.getElem?_cons_zero, List.getElem?_cons_succ] at q0 q1 q2 q3
          rw [ha, ha2] at q0 q1 q2 q3
          subst e0 e1 e2 e3
          exact ⟨⟨id, ver, kind, name⟩, ⟨q0, q1, q2, q3⟩, hn⟩
      obtain ⟨es, hel, hrow, hp⟩ := rows_of len key
      subst hel
      have hlt : b < W.heap.size := by
        obtain ⟨e, he, _⟩ := key 0 (by omega)
        exact World.block_lt_of_cell? W _ he.1
      exact ⟨es, ⟨_, _, rfl, fun _ => ⟨b, off, rfl, hlt, hrow⟩⟩, by omega, hp⟩
set_option maxRecDepth 100000 in
theorem trod_brs {H : Type} {enc : TypeId × Value → H} {W : World} {fuel : Nat} {v : Value} {x : DataW H × List MemPlace}
    (hf : DataW.trod enc Tryd.prog W 0 (fun _ => true) true fuel 22 [v] = some x) : ∃ bs : Brs, BrsOf W v bs ∧ Fine bs := by
  rcases open_slice1 Tryd.underlying22 cellsLawBrO hf with ⟨hcs, _⟩ | ⟨a, len, cap, m, n, V, D, P0, hcs, _, hl, hm, hmm, _, hx⟩
  · simp at hcs
    subst hcs
    exact ⟨[], ⟨none, 0, rfl, fun h => absurd h (Nat.lt_irrefl _)⟩, Nat.zero_le _, fun b h => by cases h⟩
  · simp at hcs
    subst hcs
    simp only [if_true] at hmm
    subst hmm
    by_cases h0 : len = 0
    · subst h0
      exact ⟨[], ⟨some a, _, rfl, fun h => absurd h (Nat.lt_irrefl _)⟩, Nat.zero_le _, fun b h => by cases h⟩
    · obtain ⟨b, off, spot⟩ := a
      have hc0 := (hx 0 (by omega)).1
      have hspot : spot = none := by
        have := World.cell?_spot hc0
        simpa [Addr.add] using this
      subst hspot
      have ha : ∀ n, (⟨b, off, none⟩ : Addr).add n = ⟨b, off + n, none⟩ := fun n => by unfold Addr.add; split <;> simp_all
      obtain ⟨bs, hbl, hbs⟩ := pick_list (α := Evs) len (Pn := fun i es => SliceOf W (V i) es ∧ es.length ≤ maxLen ∧ ∀ e ∈ es, e.name.size ≤ maxLen) (fun i hi => by
        obtain ⟨y0, k, _, _, t0⟩ := trod_struct1 Tryd.underlying78 (hx i (by omega)).2
        simp [cellsLawEvsO] at t0
        exact trod_evs t0)
      rw [ha] at hc0
      subst hbl
      refine ⟨bs, ⟨_, _, rfl, fun _ => ⟨b, off, rfl, World.block_lt_of_cell? W _ hc0, fun i es hi => ?_⟩⟩, by omega, fun es hes => ?_⟩
      · have c0 := (hx i (by have := (List.getElem?_eq_some_iff.1 hi).1; omega)).1
        rw [ha] at c0
        exact ⟨V i, c0, (hbs i es hi).1⟩
      · obtain ⟨i, hi, rfl⟩ := List.mem_iff_getElem.1 hes
        exact (hbs i _ (List.getElem?_eq_getElem hi)).2
set_option maxRecDepth 100000 in
theorem open_tell {H : Type} {enc : TypeId × Value → H} {W : World} {b0 : Nat} {v : Value} {d : DataW H} {p : List MemPlace}
    (hv : Value.okWide Tryd.prog W .any b0 24 v) (h : DataW.Trod enc Tryd.prog W 0 (fun _ => true) true 24 v d p) :
    ∃ (u : Value) (bs : Brs), v = .agg #[u] ∧ BrsOf W u bs ∧ Fine bs := by
  obtain ⟨cs, rfl, hsz⟩ := okWide_struct Tryd.underlying24 hv
  obtain ⟨c0, rfl⟩ : ∃ c0, cs = #[c0] := by
    obtain ⟨l⟩ := cs
    match l, hsz.trans cellsLawTellO with
    | [a], _ => exact ⟨a, rfl⟩
  obtain ⟨fuel, hf⟩ := h
  obtain ⟨y0, k, _, _, t0⟩ := trod_struct1 Tryd.underlying24 hf
  simp [Value.cells, cellsLawBrsO] at t0
  obtain ⟨bs, h1, h2⟩ := trod_brs t0
  exact ⟨c0, bs, rfl, h1, h2⟩
end Go.Proofs.YtcbkeabfnldmhaaDoor

/-
  BranchLess in both texts, and its law. Condition: the table knownKinds reads as the program's text lays it.
-/
namespace Go.Proofs.YtcbkeabfnldmhaaDoor
open Go.RowKit M
open Go.Sort (grow)
set_option maxHeartbeats 2000000 in
theorem spec_less (v u : Value) (xs ys : Evs) (b1 b2 : Bool) (w : World) (hv : SliceOf w v xs) (hu : SliceOf w u ys) (s1 : SmE xs) (s2 : SmE ys) (h1 : BP b1 (Tl xs)) (h2 : BP b2 (Tl ys)) :
    Calls Tryd.prog 23 #[v, u] w fun e w' => e = .returned (.tuple #[.bool (b1 && b2 && decide (cL xs ys < 0)), .bool (b1 && b2)]) ∧ Below w.heap.size w w' := by
  have HV := hide hv
  have HU := hide hu
  have HS1 := hide s1
  have HS2 := hide s2
  have H1 := hide h1
  have H2 := hide h2
  obtain ⟨a1, c1, rfl⟩ := hv.form
  obtain ⟨a2, c2, rfl⟩ := hu.form
  clear hv hu s1 s2 h1 h2
  cases b1
  · go_enter Tryd.func23, Tryd.ntmps23
    go_wp2_with fail
    refine (spec_tl _ xs false _ HV.out HS1.out.1 HS1.out.2 H1.out).mono ?_
    rintro e w2 ⟨rfl, hb2⟩
    go_wp2
    go_ret2
    exact ⟨rfl, hb2⟩
  · cases b2
    · go_enter Tryd.func23, Tryd.ntmps23
      go_wp2_with fail
      refine (spec_tl _ xs true _ HV.out HS1.out.1 HS1.out.2 H1.out).mono ?_
      rintro e w2 ⟨rfl, hb2⟩
      go_wp2_with fail
      refine (spec_tl _ ys false _ (HU.out.below hb2) HS2.out.1 HS2.out.2 H2.out).mono ?_
      rintro e w3 ⟨rfl, hb3⟩
      have hb4 := hb2.trans (hb3.mono hb2.size)
      go_wp2
      go_ret2
      exact ⟨rfl, hb4⟩
    · obtain ⟨z, hz⟩ : ∃ z, decide (cL xs ys < 0) = z := ⟨_, rfl⟩
      rw [hz]
      go_enter Tryd.func23, Tryd.ntmps23
      go_wp2_with fail
      refine (spec_tl _ xs true _ HV.out HS1.out.1 HS1.out.2 H1.out).mono ?_
      rintro e w2 ⟨rfl, hb2⟩
      go_wp2_with fail
      refine (spec_tl _ ys true _ (HU.out.below hb2) HS2.out.1 HS2.out.2 H2.out).mono ?_
      rintro e w3 ⟨rfl, hb3⟩
      have hb4 := hb2.trans (hb3.mono hb2.size)
      clear hb2 hb3
      go_wp2_with fail
      refine (spec_cmp _ _ xs ys _ (HV.out.below hb4) (HU.out.below hb4) HS1.out.1 HS2.out.1).mono ?_
      rintro e w5 ⟨rfl, hb5⟩
      have hb6 := hb4.trans (hb5.mono hb4.size)
      clear hb5 hb4
      go_wp2
      go_ret2
      exact ⟨rfl, hb6⟩
set_option maxHeartbeats 2000000 in
theorem impl_less (v u : Value) (xs ys : Evs) (b1 b2 : Bool) (w : World) (hv : SliceOf w v xs) (hu : SliceOf w u ys) (s1 : SmE xs) (s2 : SmE ys) (hkk : KK w) (h1 : BP b1 (Tl xs)) (h2 : BP b2 (Tl ys)) :
    Calls Tryd.prog 24 #[v, u] w fun e w' => e = .returned (.tuple #[.bool (b1 && b2 && decide (cL xs ys < 0)), .bool (b1 && b2)]) ∧ Below w.heap.size w w' := by
  have HV := hide hv
  have HU := hide hu
  have HS1 := hide s1
  have HS2 := hide s2
  have H1 := hide h1
  have H2 := hide h2
  have HK := hide hkk
  obtain ⟨a1, c1, rfl⟩ := hv.form
  obtain ⟨a2, c2, rfl⟩ := hu.form
  clear hv hu s1 s2 h1 h2 hkk
  cases b1
  · go_enter Tryd.func24, Tryd.ntmps24
    go_wp2_with fail
    refine (impl_tl _ xs false _ HV.out HS1.out.1 HS1.out.2 HK.out H1.out).mono ?_
    rintro e w2 ⟨rfl, hb2⟩
    go_wp2
    go_ret2
    exact ⟨rfl, hb2⟩
  · cases b2
    · go_enter Tryd.func24, Tryd.ntmps24
      go_wp2_with fail
      refine (impl_tl _ xs true _ HV.out HS1.out.1 HS1.out.2 HK.out H1.out).mono ?_
      rintro e w2 ⟨rfl, hb2⟩
      go_wp2_with fail
      refine (impl_tl _ ys false _ (HU.out.below hb2) HS2.out.1 HS2.out.2 (HK.out.below hb2) H2.out).mono ?_
      rintro e w3 ⟨rfl, hb3⟩
      have hb4 := hb2.trans (hb3.mono hb2.size)
      go_wp2
      go_ret2
      exact ⟨rfl, hb4⟩
    · obtain ⟨z, hz⟩ : ∃ z, decide (cL xs ys < 0) = z := ⟨_, rfl⟩
      rw [hz]
      have HZ := hide hz
      clear hz
      go_enter Tryd.func24, Tryd.ntmps24
      go_wp2_with fail
      refine (impl_tl _ xs true _ HV.out HS1.out.1 HS1.out.2 HK.out H1.out).mono ?_
      rintro e w2 ⟨rfl, hb2⟩
      go_wp2_with fail
      refine (impl_tl _ ys true _ (HU.out.below hb2) HS2.out.1 HS2.out.2 (HK.out.below hb2) H2.out).mono ?_
      rintro e w3 ⟨rfl, hb3⟩
      have hb4 := hb2.trans (hb3.mono hb2.size)
      clear hb2 hb3
      go_wp2_with fail
      refine (ahead_ev _ _ xs ys _ (HV.out.below hb4) (HU.out.below hb4) HS1.out.1 HS2.out.1).mono ?_
      rw [HZ.out]
      rintro e w5 ⟨rfl, hb5⟩
      have hb6 := hb4.trans (hb5.mono hb4.size)
      clear hb5 hb4
      go_wp2
      go_ret2
      exact ⟨rfl, hb6⟩
set_option maxRecDepth 20000 in
set_option maxHeartbeats 4000000 in
theorem law_BranchLess_run (v u : Value) (xs ys : Evs) (w : World) (hv : SliceOf w v xs) (hl : xs.length ≤ maxLen) (hn : ∀ e ∈ xs, e.name.size ≤ maxLen) (hu : SliceOf w u ys) (hlu : ys.length ≤ maxLen) (hnu : ∀ e ∈ ys, e.name.size ≤ maxLen) (hkk : KK w)
    (hC : SmE xs → SmE ys → ∃ (r0 : Bool) (r1 : Bool), (∀ (v u : Value) (w : World), SliceOf w v xs → SliceOf w u ys → Calls Tryd.prog 23 #[v, u] w fun e w' => e = .returned (.tuple #[.bool r0, .bool r1]) ∧ Below w.heap.size w w') ∧
      (∀ (v u : Value) (w : World), SliceOf w v xs → SliceOf w u ys → KK w → Calls Tryd.prog 24 #[v, u] w fun e w' => e = .returned (.tuple #[.bool r0, .bool r1]) ∧ Below w.heap.size w w')) :
    Calls Tryd.prog 6 #[v, u] w fun e w' => e = .returned (.bool true) ∧ Below w.heap.size w w' := by
  obtain ⟨a, c, rfl⟩ := hv.form
  obtain ⟨a2, c2, rfl⟩ := hu.form
  have HV := hide hv
  have HU := hide hu
  have HN := hide hn
  have HM := hide hnu
  have HK := hide hkk
  have HC := hide hC
  clear hv hu hn hnu hkk hC
  by_cases hfit : wt xs ≤ 1048576
  case neg =>
    have hz := szr_no (left := 1048576) (n := wt xs) (by omega)
    have hge : szr 1048576 (wt xs) < 0 := by rw [hz]; omega
    clear hz HC
    go_enter Tryd.func6, Tryd.ntmps6
    go_wp2_with fail
    refine (sz_evs _ xs 1048576 _ HV.out hl HN.out (by decide) (by decide)).mono ?_
    rintro e w1 ⟨rfl, hb1⟩
    go_wp2
    go_ret
    exact ⟨rfl, hb1⟩
  have hz := szr_yes (left := 1048576) (n := wt xs) (by omega)
  have hge : ¬ ((1048576 : Int) - ((wt xs : Nat) : Int) < 0) := by omega
  have HZ := hide hz
  clear hz
  by_cases hfit2 : wt xs + wt ys ≤ 1048576
  case neg =>
    have hz := szr_no (left := (1048576 : Int) - ((wt xs : Nat) : Int)) (n := wt ys) (by omega)
    have hge2 : szr ((1048576 : Int) - ((wt xs : Nat) : Int)) (wt ys) < 0 := by rw [hz]; omega
    clear hz HC
    go_enter Tryd.func6, Tryd.ntmps6
    go_wp2_with fail
    refine (sz_evs _ xs 1048576 _ HV.out hl HN.out (by decide) (by decide)).mono ?_
    rw [HZ.out]
    rintro e w1 ⟨rfl, hb1⟩
    go_wp2_with fail
    refine (sz_evs _ ys _ _ (HU.out.below hb1) hlu HM.out (by omega) (by omega)).mono ?_
    rintro e w2 ⟨rfl, hb2⟩
    have hb2 := hb1.trans (hb2.mono hb1.size)
    go_wp2
    go_ret
    exact ⟨rfl, hb2⟩
  have hz := szr_yes (left := (1048576 : Int) - ((wt xs : Nat) : Int)) (n := wt ys) (by omega)
  have hge2 : ¬ ((1048576 : Int) - ((wt xs : Nat) : Int) - ((wt ys : Nat) : Int) < 0) := by omega
  have HZ2 := hide hz
  clear hz
  have HS1 := hide (sm_e HN.out (by omega))
  have HS2 := hide (sm_e HM.out (show wt ys ≤ 1048576 by omega))
  obtain ⟨r0, r1, hS, hI⟩ := HC.out HS1.out HS2.out
  have CS := hide hS
  have CI := hide hI
  have er0 : (r0 != r0) = false := by simp
  have er1 : (r1 != r1) = false := by simp
  clear HC hS hI
  go_enter Tryd.func6, Tryd.ntmps6
  go_wp2_with fail
  refine (sz_evs _ xs 1048576 _ HV.out hl HN.out (by decide) (by decide)).mono ?_
  rw [HZ.out]
  rintro e w1 ⟨rfl, hb1⟩
  go_wp2_with fail
  refine (sz_evs _ ys _ _ (HU.out.below hb1) hlu HM.out (by omega) (by omega)).mono ?_
  rw [HZ2.out]
  rintro e w2 ⟨rfl, hb⟩
  have hb2 := hb1.trans (hb.mono hb1.size)
  clear hb hb1 HZ HZ2
  go_wp2_with fail
  refine (to_all _ xs _ (HV.out.below hb2) HS1.out.1).mono ?_
  rintro e w3 ⟨⟨xA, rfl, hx⟩, hb⟩
  obtain ⟨qA, kA, rfl⟩ := hx.form
  have HA := hide hx
  have hb3 := hb2.trans (hb.mono hb2.size)
  clear hb hb2 hx
  go_wp2_with fail
  refine (to_all _ ys _ (HU.out.below hb3) HS2.out.1).mono ?_
  rintro e w4 ⟨⟨xB, rfl, hx⟩, hb⟩
  obtain ⟨qB, kB, rfl⟩ := hx.form
  have HB := hide hx
  have hb4 := hb3.trans (hb.mono hb3.size)
  have HA := hide (HA.out.below hb)
  clear hb hb3 hx
  go_wp2_with fail
  refine (CS.out _ _ _ HA.out HB.out).mono ?_
  rintro e w5 ⟨rfl, hb⟩
  have hb5 := hb4.trans (hb.mono hb4.size)
  clear hb hb4 HA HB CS
  go_wp2_with fail
  refine (to_all _ xs _ (HV.out.below hb5) HS1.out.1).mono ?_
  rintro e w6 ⟨⟨xD, rfl, hx⟩, hb⟩
  obtain ⟨qD, kD, rfl⟩ := hx.form
  have HD := hide hx
  have hb6 := hb5.trans (hb.mono hb5.size)
  clear hb hb5 hx
  go_wp2_with fail
  refine (to_all _ ys _ (HU.out.below hb6) HS2.out.1).mono ?_
  rintro e w7 ⟨⟨xE, rfl, hx⟩, hb⟩
  obtain ⟨qE, kE, rfl⟩ := hx.form
  have HE := hide hx
  have hb7 := hb6.trans (hb.mono hb6.size)
  have HD := hide (HD.out.below hb)
  clear hb hb6 hx
  go_wp2_with fail
  refine (CI.out _ _ _ HD.out HE.out (HK.out.below hb7)).mono ?_
  rintro e w8 ⟨rfl, hb⟩
  have hb8 := hb7.trans (hb.mono hb7.size)
  have HD := hide (HD.out.below hb)
  have HE := hide (HE.out.below hb)
  clear hb hb7 CI
  go_wp2_with fail
  refine (to_all _ xs _ (HV.out.below hb8) HS1.out.1).mono ?_
  rintro e w9 ⟨⟨xG, rfl, hx⟩, hb⟩
  obtain ⟨qG, kG, rfl⟩ := hx.form
  have HG := hide hx
  have hb9 := hb8.trans (hb.mono hb8.size)
  have HD := hide (HD.out.below hb)
  have HE := hide (HE.out.below hb)
  clear hb hb8 hx
  go_wp2_with fail
  refine (eq_all _ _ xs _ HD.out HG.out HS1.out.1 eq_ev).mono ?_
  rintro e w10 ⟨rfl, hb⟩
  have hb10 := hb9.trans (hb.mono hb9.size)
  have HE := hide (HE.out.below hb)
  clear hb hb9 HD HG
  go_wp2_with fail
  refine (to_all _ ys _ (HU.out.below hb10) HS2.out.1).mono ?_
  rintro e w11 ⟨⟨xJ, rfl, hx⟩, hb⟩
  obtain ⟨qJ, kJ, rfl⟩ := hx.form
  have HJ := hide hx
  have hb11 := hb10.trans (hb.mono hb10.size)
  have HE := hide (HE.out.below hb)
  clear hb hb10 hx
  go_wp2_with fail
  refine (eq_all _ _ ys _ HE.out HJ.out HS2.out.1 eq_ev).mono ?_
  rintro e w12 ⟨rfl, hb⟩
  have hb12 := hb11.trans (hb.mono hb11.size)
  clear hb hb11 HE HJ
  go_wp2
  go_ret
  exact ⟨rfl, hb12⟩
theorem law_branchLess (v : Value) (xs : Evs) (u : Value) (ys : Evs) (w : World) (hv : SliceOf w v xs) (hl : xs.length ≤ maxLen) (hn : ∀ e ∈ xs, e.name.size ≤ maxLen) (hu : SliceOf w u ys) (hlu : ys.length ≤ maxLen) (hnu : ∀ e ∈ ys, e.name.size ≤ maxLen) (hkk : KK w) :
    Calls Tryd.prog 6 #[v, u] w fun e w' => e = .returned (.bool true) ∧ Below w.heap.size w w' :=
  law_BranchLess_run v u xs ys w hv hl hn hu hlu hnu hkk (fun h1 h2 => by
    obtain ⟨b1, hb1⟩ := bp_ex (Tl xs)
    obtain ⟨b2, hb2⟩ := bp_ex (Tl ys)
    exact ⟨_, _, fun v u w hv hu => spec_less v u xs ys b1 b2 w hv hu h1 h2 hb1 hb2, fun v u w hv hu hk => impl_less v u xs ys b1 b2 w hv hu h1 h2 hk hb1 hb2⟩)
end Go.Proofs.YtcbkeabfnldmhaaDoor
