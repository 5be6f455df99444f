/-
  The items of a row of events: plain mathematics. How the program goes (one event after the other behind good items) and how the specification does tell the same.
-/
import Derived.Test.YtbajiamkgffhkaaDoorItM
import Derived.Test.YtbajiamkgffhkaaDoorRows4
namespace Go.Proofs.YtbajiamkgffhkaaDoor
open Go.RowKit M
open Clk (upd upd_same upd_other)
namespace M
def Ev.ok (e : Ev) : Bool := goodB e.id e.ver e.kind e.name
/-- The first k events are good, their Ids count from 1 on, and their Versions do not fall. -/
def Pf (es : List Ev) (k : Nat) : Prop := ∀ i e, i < k → es[i]? = some e → e.ok = true ∧ e.id = (i : Int) + 1 ∧ (∀ j d, i = j + 1 → es[j]? = some d → d.ver ≤ e.ver)
/-- Items gathered of the first k events: how many, and which. -/
def ga (es : List Ev) : Nat → Nat × (Nat → Im)
  | 0 => (0, fun _ => im0)
  | k + 1 => match es[k]? with
    | none => ga es k
    | some e => (kpt (ga es k).1 (ga es k).2 e.ver + 1, apL (ga es k).1 (ga es k).2 e.id e.ver)
theorem ga_succ {es : List Ev} {k : Nat} {e : Ev} (h : es[k]? = some e) : ga es (k + 1) = (kpt (ga es k).1 (ga es k).2 e.ver + 1, apL (ga es k).1 (ga es k).2 e.id e.ver) := by
  simp only [ga, h]
theorem kpt_ge (n : Nat) (l : Nat → Im) (x : Int) : n ≤ kpt n l x + 1 := by unfold kpt; split <;> omega
theorem ga_mono (es : List Ev) {k m : Nat} (h : k ≤ m) : (ga es k).1 ≤ (ga es m).1 := by
  induction m with
  | zero => obtain rfl : k = 0 := by omega
            exact Nat.le_refl _
  | succ m ih =>
    by_cases e : k = m + 1
    · subst e; exact Nat.le_refl _
    · refine Nat.le_trans (ih (by omega)) ?_
      cases hm : es[m]? with
      | none => simp only [ga, hm]; exact Nat.le_refl _
      | some d => rw [ga_succ hm]; exact kpt_ge _ _ _
theorem ga_le (es : List Ev) (k : Nat) : (ga es k).1 ≤ k := by
  induction k with
  | zero => exact Nat.le_refl _
  | succ k ih =>
    cases hm : es[k]? with
    | none => simp only [ga, hm]; omega
    | some d => rw [ga_succ hm]; have := kpt_le (ga es k).1 (ga es k).2 d.ver; show kpt _ _ _ + 1 ≤ _; omega
theorem Ev.ok_id {e : Ev} (h : e.ok = true) : 1 ≤ e.id ∧ e.id ≤ 1000 ∧ 0 ≤ e.ver ∧ e.ver ≤ 1000000 := by
  unfold Ev.ok goodB inB at h
  simp only [Bool.and_eq_true, decide_eq_true_eq] at h
  omega
/-- One more event keeps items rising, if its Id is one more and its Version not less. -/
theorem ris_ap {n : Nat} {l : Nat → Im} {id x : Int} (h : Ris n l) (hid : id = ah l n + 1) (h1 : id ≤ 1000) (h0 : 0 ≤ x) (hx : x ≤ 1000000) (hv : 0 < n → (lst l n).v ≤ x) : Ris (kpt n l x + 1) (apL n l id x) ∧ ah (apL n l id x) (kpt n l x + 1) = id ∧ (lst (apL n l id x) (kpt n l x + 1)).v = x := by
  refine ⟨fun i hi => ?_, ?_, ?_⟩
  · unfold apL
    have hk := kpt_le n l x
    by_cases e : i = kpt n l x
    · rw [e, upd_same, pre_ext (l' := l) (n := kpt n l x) (fun j hj => upd_other _ _ _ _ (by omega)) (Nat.le_refl _)]
      by_cases c : 0 < n ∧ (lst l n).v = x
      · obtain ⟨m, rfl⟩ : ∃ m, n = m + 1 := ⟨n - 1, by omega⟩
        have hke : kpt (m + 1) l x = m := by unfold kpt; rw [if_pos c]; rfl
        rw [hke]
        have := h m (by omega)
        unfold okI at this ⊢
        have hl : (lst l (m + 1)).v = (l m).v := rfl
        have ha : ah l (m + 1) = (l m).u := rfl
        show _ < id ∧ id ≤ 1000 ∧ _ < x ∧ x ≤ 1000000
        omega
      · have hke : kpt n l x = n := by unfold kpt; rw [if_neg c]
        rw [hke]
        unfold okI
        show _ < id ∧ id ≤ 1000 ∧ _ < x ∧ x ≤ 1000000
        rw [ah_pre]
        refine ⟨by omega, h1, ?_, hx⟩
        cases n with
        | zero => show (-1 : Int) < x; omega
        | succ m =>
          have := hv (by omega)
          show (l m).v < x
          have hne : ¬ (l m).v = x := fun q => c ⟨by omega, q⟩
          have : (l m).v ≤ x := this
          omega
    · rw [upd_other _ _ _ _ e, pre_ext (l' := l) (n := kpt n l x) (fun j hj => upd_other _ _ _ _ (by omega)) (by omega)]
      exact h i (by omega)
  · rw [ah_succ]; unfold apL; rw [upd_same]
  · show (apL n l id x (kpt n l x)).v = x
    unfold apL; rw [upd_same]
theorem ga_inv (es : List Ev) : ∀ k : Nat, k ≤ es.length → Pf es k → Ris (ga es k).1 (ga es k).2 ∧ ah (ga es k).2 (ga es k).1 = (k : Int) ∧ (∀ j d, k = j + 1 → es[j]? = some d → 0 < (ga es k).1 ∧ (lst (ga es k).2 (ga es k).1).v = d.ver) ∧ (k = 0 → (ga es k).1 = 0)
  | 0, _, _ => ⟨fun i h => absurd h (by simp [ga]), rfl, fun j d h => absurd h (by omega), fun _ => rfl⟩
  | k + 1, hk, hp => by
    obtain ⟨i1, i2, i3, i4⟩ := ga_inv es k (by omega) (fun i e hi he => hp i e (by omega) he)
    obtain ⟨e, he⟩ : ∃ e, es[k]? = some e := ⟨es[k], List.getElem?_eq_getElem (by omega)⟩
    obtain ⟨p1, p2, p3⟩ := hp k e (by omega) he
    have q := Ev.ok_id p1
    rw [ga_succ he]
    have hv : 0 < (ga es k).1 → (lst (ga es k).2 (ga es k).1).v ≤ e.ver := fun hn => by
      cases k with
      | zero => have := i4 rfl; omega
      | succ j =>
        obtain ⟨d, hd⟩ : ∃ d, es[j]? = some d := ⟨es[j], List.getElem?_eq_getElem (by omega)⟩
        rw [(i3 j d rfl hd).2]
        exact p3 j d rfl hd
    obtain ⟨r1, r2, r3⟩ := ris_ap i1 (by rw [i2, p2]) q.2.1 q.2.2.1 q.2.2.2 hv
    refine ⟨r1, by rw [r2, p2]; omega, fun j d hj hd => ?_, fun h => by omega⟩
    obtain rfl : k = j := by omega
    rw [he] at hd
    obtain rfl : e = d := by simpa using hd
    exact ⟨by show 0 < kpt _ _ _ + 1; omega, r3⟩
/-- All is well: then the items are told. -/
def IOk (es : List Ev) : Prop := es.length ≤ 60 ∧ Pf es es.length ∧ (ga es es.length).1 ≤ 20
theorem Pf.mono {es : List Ev} {k m : Nat} (h : Pf es m) (hk : k ≤ m) : Pf es k := fun i e hi he => h i e (by omega) he
theorem Pf.succ {es : List Ev} {k : Nat} {e : Ev} (h : Pf es k) (he : es[k]? = some e) (h1 : e.ok = true) (h2 : e.id = (k : Int) + 1) (h3 : ∀ j d, k = j + 1 → es[j]? = some d → d.ver ≤ e.ver) : Pf es (k + 1) := fun i x hi hx => by
  by_cases q : i = k
  · subst q
    rw [he] at hx
    obtain rfl : e = x := by simpa using hx
    exact ⟨h1, h2, h3⟩
  · exact h i x (by omega) hx
/-- The program's step. -/
theorem step_yes {es : List Ev} {k : Nat} {e : Ev} (hk : k < es.length) (hp : Pf es k) (he : es[k]? = some e) (hg : GoodP (ga es k).1 (ga es k).2 e.id e.ver) (h1 : e.ok = true) : Pf es (k + 1) := by
  obtain ⟨i1, i2, i3, i4⟩ := ga_inv es k (by omega) hp
  refine hp.succ he h1 (by rw [hg.2.1, i2]) (fun j d hj hd => ?_)
  obtain ⟨h0, hl⟩ := i3 j d hj hd
  have := hg.ver h0
  omega
theorem step_no {es : List Ev} {k : Nat} {e : Ev} (hk : k < es.length) (he : es[k]? = some e) (hn : ¬ (GoodP (ga es k).1 (ga es k).2 e.id e.ver ∧ e.ok = true)) : ¬ IOk es := by
  rintro ⟨h60, hp, h20⟩
  obtain ⟨i1, i2, -, -⟩ := ga_inv es k (by omega) (hp.mono (by omega))
  obtain ⟨j1, -, -, -⟩ := ga_inv es (k + 1) (by omega) (hp.mono (by omega))
  have m1 := ga_mono es (show k ≤ es.length by omega)
  have m2 := ga_mono es (show k + 1 ≤ es.length by omega)
  obtain ⟨p1, p2, p3⟩ := hp k e hk he
  rw [ga_succ he] at j1 m2
  exact hn ⟨⟨⟨by omega, i1⟩, by rw [i2, p2], ⟨by simpa using Nat.le_trans m2 h20, j1⟩⟩, p1⟩
end M
end Go.Proofs.YtbajiamkgffhkaaDoor
