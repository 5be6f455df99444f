/-
  What can be come to: the search finds just that; the searches of those that were found end as well; going back from the end. Plain mathematics for IsSound.
-/
import Derived.Test.YthilapalgakhhaaNetBfsM
namespace Go.Proofs.Ythilapalgakhhaa
namespace M
open Clk (upd upd_same upd_other)
theorem mk_eq {p : Nat} {x y : Nat → Int} (hp : p ≤ 8) (hx : Mk p x) (hy : Mk p y) : veq8 x y = true ↔ x = y := by
  rw [veq8_iff]
  constructor
  · intro h
    funext q
    by_cases hq : q < 8
    · exact h q hq
    · rw [hx.2 q (by omega), hy.2 q (by omega)]
  · rintro rfl q _; rfl
/-- x is among the first c of K. -/
def Is (K : Nat → Nat → Int) (c : Nat) (x : Nat → Int) : Prop := ∃ j, j < c ∧ K j = x
theorem kn_is {p : Nat} (hp : p ≤ 8) {K : Nat → Nat → Int} {c : Nat} {x : Nat → Int} (h : ∀ j, j < c → Mk p (K j)) (hx : Mk p x) : kn K x c = true ↔ Is K c x := by
  constructor
  · intro e
    obtain ⟨d, hd, _, h2⟩ := kn_true e
    exact ⟨d, hd, ((mk_eq hp hx (h d hd)).1 h2).symm⟩
  · rintro ⟨j, hj, e⟩
    cases hk : kn K x c with
    | true => rfl
    | false =>
      have h1 := kn_false.1 hk j hj
      rw [(mk_eq hp hx (h j hj)).2 e.symm] at h1
      cases h1
/-- What s has, s' has at the same places. -/
def Ext (s s' : Bs) : Prop := s.c ≤ s'.c ∧ ∀ j, j < s.c → s'.M j = s.M j
theorem Ext.refl (s : Bs) : Ext s s := ⟨Nat.le_refl _, fun _ _ => rfl⟩
theorem Ext.trans {a b c : Bs} (h : Ext a b) (h2 : Ext b c) : Ext a c := ⟨Nat.le_trans h.1 h2.1, fun j hj => (h2.2 j (Nat.lt_of_lt_of_le hj h.1)).trans (h.2 j hj)⟩
theorem Ext.is {s s' : Bs} (h : Ext s s') {x : Nat → Int} (hx : Is s.M s.c x) : Is s'.M s'.c x := by
  obtain ⟨j, hj, e⟩ := hx
  exact ⟨j, Nat.lt_of_lt_of_le hj h.1, (h.2 j hj).trans e⟩
theorem add_ext (s : Bs) (x : Nat → Int) (i t : Nat) : Ext s (s.add x i t) := ⟨Nat.le_succ _, fun j hj => upd_other _ _ _ _ (by omega)⟩
theorem stepB_ext {s s' : Bs} {i t : Nat} {sp : Sp} (e : stepB s i t sp = some s') : Ext s s' := by
  unfold stepB at e
  cases hf : fire sp (s.M i) with
  | none => rw [hf] at e; cases e; exact Ext.refl _
  | some x =>
    rw [hf] at e
    simp only at e
    split at e
    · cases e; exact Ext.refl _
    · split at e
      · cases e
      · cases e; exact add_ext _ _ _ _
theorem stepB_is {p k : Nat} (hp : p ≤ 8) {s s' : Bs} {i t : Nat} {sp : Sp} (hg : GoodS p sp) (h : BOk p k s) (hi : i < s.c) (e : stepB s i t sp = some s') {y : Nat → Int} (hy : fire sp (s.M i) = some y) : Is s'.M s'.c y := by
  unfold stepB at e
  rw [hy] at e
  simp only at e
  split at e
  · rename_i hk
    cases e
    exact (kn_is hp h.mark (fire_mk hg (h.mark i hi) hy)).1 hk
  · split at e
    · cases e
    · cases e; exact ⟨s.c, Nat.lt_succ_self _, upd_same _ _ _⟩
theorem rowB_ext {st : Nat → Sp} {s : Bs} {i : Nat} : ∀ {t : Nat} {s' : Bs}, rowB st s i t = some s' → Ext s s'
  | 0, s', e => by simp [rowB] at e; subst e; exact Ext.refl _
  | t + 1, s', e => by
    cases e1 : rowB st s i t with
    | none => simp [rowB, e1] at e
    | some s1 =>
      simp only [rowB, e1] at e
      exact (rowB_ext e1).trans (stepB_ext e)
theorem rowB_is {p k : Nat} (hp : p ≤ 8) {st : Nat → Sp} {s : Bs} {i : Nat} (hg : ∀ t, t < k → GoodS p (st t)) (h : BOk p k s) (hi : i < s.c) : ∀ {t : Nat} {s' : Bs}, t ≤ k → rowB st s i t = some s' → ∀ t', t' < t → ∀ y, fire (st t') (s.M i) = some y → Is s'.M s'.c y
  | 0, s', _, _, t', ht', _, _ => by omega
  | t + 1, s', ht, e, t', ht', y, hy => by
    cases e1 : rowB st s i t with
    | none => simp [rowB, e1] at e
    | some s1 =>
      simp only [rowB, e1] at e
      obtain ⟨h1, h2⟩ := rowB_ok hg h hi (by omega) e1
      rcases (show t' < t ∨ t' = t by omega) with h3 | h3
      · exact (stepB_ext e).is (rowB_is hp hg h hi (by omega) e1 t' h3 y hy)
      · subst h3
        exact stepB_is hp (hg t' (by omega)) h1 (by omega) e (by rw [(rowB_ext e1).2 i hi]; exact hy)
/-- The first i rows lead to nothing that is not there. -/
def Clo (st : Nat → Sp) (k : Nat) (s : Bs) (i : Nat) : Prop := ∀ j, j < i → j < s.c → ∀ t, t < k → ∀ y, fire (st t) (s.M j) = some y → Is s.M s.c y
theorem allB_clo {p k : Nat} (hp : p ≤ 8) {st : Nat → Sp} {m : Nat → Int} (hg : ∀ t, t < k → GoodS p (st t)) (hm : Mk p m) : ∀ {i : Nat} {s : Bs}, allB st k m i = some s → Clo st k s i
  | 0, s, _, j, hj, _, _, _, _, _ => by omega
  | i + 1, s, e, j, hj, hjc, t, ht, y, hy => by
    cases e1 : allB st k m i with
    | none => simp [allB, e1] at e
    | some s1 =>
      have h1 := allB_ok hg hm e1
      have hc := allB_clo hp hg hm e1
      simp only [allB, e1] at e
      by_cases hi : i < s1.c
      · rw [if_pos hi] at e
        have hx := rowB_ext e
        by_cases hji : j < i
        · have hj1 : j < s1.c := by omega
          exact hx.is (hc j hji hj1 t ht y (by rw [← hx.2 j hj1]; exact hy))
        · obtain rfl : j = i := by omega
          exact rowB_is hp hg h1 hi (Nat.le_refl _) e t ht y (by rw [← hx.2 j hi]; exact hy)
      · rw [if_neg hi] at e
        cases e
        exact hc j (by omega) hjc t ht y hy
/-- y can be come to from x. -/
inductive Rch (st : Nat → Sp) (k : Nat) (x : Nat → Int) : (Nat → Int) → Prop
  | refl : Rch st k x x
  | step {y z : Nat → Int} {t : Nat} (h : Rch st k x y) (ht : t < k) (hf : fire (st t) y = some z) : Rch st k x z
theorem Rch.trans {st : Nat → Sp} {k : Nat} {x y z : Nat → Int} (h : Rch st k x y) (h2 : Rch st k y z) : Rch st k x z := by
  induction h2 with
  | refl => exact h
  | step _ ht hf ih => exact ih.step ht hf
theorem Rch.back {st : Nat → Sp} {k : Nat} {P : (Nat → Int) → Prop} (hs : ∀ a b t, t < k → fire (st t) a = some b → P b → P a) {x y : Nat → Int} (h : Rch st k x y) : P y → P x := by
  induction h with
  | refl => exact id
  | step _ ht hf ih => exact fun hz => ih (hs _ _ _ ht hf hz)
theorem stepB_rch {st : Nat → Sp} {k : Nat} {m : Nat → Int} {s s' : Bs} {i t : Nat} (h : ∀ j, j < s.c → Rch st k m (s.M j)) (hi : i < s.c) (ht : t < k) (e : stepB s i t (st t) = some s') : ∀ j, j < s'.c → Rch st k m (s'.M j) := by
  unfold stepB at e
  cases hf : fire (st t) (s.M i) with
  | none => rw [hf] at e; cases e; exact h
  | some x =>
    rw [hf] at e
    simp only at e
    split at e
    · cases e; exact h
    · split at e
      · cases e
      · cases e
        intro j hj
        have hj' : j < s.c + 1 := hj
        show Rch st k m (Clk.upd s.M s.c x j)
        rcases (show j < s.c ∨ j = s.c by omega) with h1 | h1
        · rw [upd_other _ _ _ _ (by omega)]; exact h j h1
        · subst h1; rw [upd_same]; exact (h i hi).step ht hf
theorem rowB_rch {st : Nat → Sp} {k : Nat} {m : Nat → Int} {s : Bs} {i : Nat} (h : ∀ j, j < s.c → Rch st k m (s.M j)) (hi : i < s.c) : ∀ {t : Nat} {s' : Bs}, t ≤ k → rowB st s i t = some s' → ∀ j, j < s'.c → Rch st k m (s'.M j)
  | 0, s', _, e => by simp [rowB] at e; subst e; exact h
  | t + 1, s', ht, e => by
    cases e1 : rowB st s i t with
    | none => simp [rowB, e1] at e
    | some s1 =>
      simp only [rowB, e1] at e
      exact stepB_rch (rowB_rch h hi (by omega) e1) (Nat.lt_of_lt_of_le hi (rowB_ext e1).1) (by omega) e
theorem allB_rch {st : Nat → Sp} {k : Nat} {m : Nat → Int} : ∀ {i : Nat} {s : Bs}, allB st k m i = some s → ∀ j, j < s.c → Rch st k m (s.M j)
  | 0, s, e => by
    simp only [allB, Option.some.injEq] at e
    subst e
    exact fun _ _ => Rch.refl
  | i + 1, s, e => by
    cases e1 : allB st k m i with
    | none => simp [allB, e1] at e
    | some s1 =>
      simp only [allB, e1] at e
      by_cases hi : i < s1.c
      · rw [if_pos hi] at e; exact rowB_rch (allB_rch e1) hi (Nat.le_refl _) e
      · rw [if_neg hi] at e; cases e; exact allB_rch e1
theorem allB_first {st : Nat → Sp} {k : Nat} {m : Nat → Int} : ∀ {i : Nat} {s : Bs}, allB st k m i = some s → 0 < s.c ∧ s.M 0 = m
  | 0, s, e => by simp only [allB, Option.some.injEq] at e; subst e; exact ⟨Nat.one_pos, rfl⟩
  | i + 1, s, e => by
    cases e1 : allB st k m i with
    | none => simp [allB, e1] at e
    | some s1 =>
      obtain ⟨h0, h1⟩ := allB_first e1
      simp only [allB, e1] at e
      by_cases hi : i < s1.c
      · rw [if_pos hi] at e
        have hx := rowB_ext e
        exact ⟨Nat.lt_of_lt_of_le h0 hx.1, (hx.2 0 h0).trans h1⟩
      · rw [if_neg hi] at e; cases e; exact ⟨h0, h1⟩
/-- The search finds just what can be come to. -/
theorem found_iff {p k : Nat} (hp : p ≤ 8) {st : Nat → Sp} {m : Nat → Int} {s : Bs} (hg : ∀ t, t < k → GoodS p (st t)) (hm : Mk p m) (e : foundB st k m = some s) (x : Nat → Int) : Is s.M s.c x ↔ Rch st k m x := by
  have hk := allB_ok hg hm e
  have hc := allB_clo hp hg hm e
  obtain ⟨h0, h1⟩ := allB_first e
  constructor
  · rintro ⟨j, hj, rfl⟩; exact allB_rch e j hj
  · intro h
    induction h with
    | refl => exact ⟨0, h0, h1⟩
    | step _ ht hf ih =>
      obtain ⟨j, hj, rfl⟩ := ih
      exact hc j (Nat.lt_of_lt_of_le hj hk.most) hj _ ht _ hf
/-- No more pigeons than holes. -/
theorem pigeon : ∀ (c n : Nat) (f : Nat → Nat), (∀ i, i < n → f i < c) → (∀ i j, i < n → j < n → f i = f j → i = j) → n ≤ c
  | 0, n, f, hf, _ => by
    rcases Nat.eq_zero_or_pos n with h | h
    · omega
    · have := hf 0 h; omega
  | c + 1, 0, _, _, _ => Nat.zero_le _
  | c + 1, n + 1, f, hf, hi => by
    have h := pigeon c n (fun i => if f i = c then f n else f i) (fun i hin => ?_) (fun i j hin hjn e => ?_)
    · omega
    · have h1 := hf i (by omega)
      have h2 := hf n (by omega)
      by_cases e : f i = c
      · simp only [if_pos e]
        have : f n ≠ c := fun e2 => by have := hi i n (by omega) (by omega) (by omega); omega
        omega
      · simp only [if_neg e]; omega
    · by_cases e1 : f i = c <;> by_cases e2 : f j = c
      · exact hi i j (by omega) (by omega) (by omega)
      · simp only [if_pos e1, if_neg e2] at e
        have := hi n j (by omega) (by omega) e; omega
      · simp only [if_neg e1, if_pos e2] at e
        have := hi i n (by omega) (by omega) e; omega
      · simp only [if_neg e1, if_neg e2] at e
        exact hi i j (by omega) (by omega) e
/-- Markings that differ, all of them among c others: no more than c. -/
theorem few {K B : Nat → Nat → Int} {c n : Nat} (hd : ∀ i j, i < n → j < n → B i = B j → i = j) (hin : ∀ j, j < n → Is K c (B j)) : n ≤ c := by
  have hch : ∀ j, ∃ i, j < n → i < c ∧ K i = B j := fun j => by
    by_cases hj : j < n
    · obtain ⟨i, h1, h2⟩ := hin j hj; exact ⟨i, fun _ => ⟨h1, h2⟩⟩
    · exact ⟨0, fun h => absurd h hj⟩
  refine pigeon c n (fun j => Classical.choose (hch j)) (fun j hj => (Classical.choose_spec (hch j) hj).1) (fun i j hi hj e => hd i j hi hj ?_)
  rw [← (Classical.choose_spec (hch i) hi).2, ← (Classical.choose_spec (hch j) hj).2]
  exact congrArg K e
theorem BOk.differ {p k : Nat} (hp : p ≤ 8) {s : Bs} (h : BOk p k s) : ∀ i j, i < s.c → j < s.c → s.M i = s.M j → i = j := fun i j hi hj e => by
  rcases Nat.lt_trichotomy i j with h1 | h1 | h1
  · have h2 := h.new j hj i h1
    rw [(mk_eq hp (h.mark j hj) (h.mark i hi)).2 e.symm] at h2; cases h2
  · exact h1
  · have h2 := h.new i hi j h1
    rw [(mk_eq hp (h.mark i hi) (h.mark j hj)).2 e] at h2; cases h2
/-- Where all that can be come to is among few, the search comes to its end. -/
theorem allB_some {p k : Nat} (hp : p ≤ 8) {st : Nat → Sp} {m : Nat → Int} (hg : ∀ t, t < k → GoodS p (st t)) (hm : Mk p m) {K : Nat → Nat → Int} {c : Nat} (hc : c ≤ 400) (hK : ∀ x, Rch st k m x → Is K c x) : ∀ i, ∃ s, allB st k m i = some s
  | 0 => ⟨_, rfl⟩
  | i + 1 => by
    obtain ⟨s, e⟩ := allB_some hp hg hm hc hK i
    simp only [allB, e]
    have hb := allB_ok hg hm e
    by_cases hi : i < s.c
    · rw [if_pos hi]
      have hr := allB_rch e
      have row : ∀ t, t ≤ k → ∃ s', rowB st s i t = some s' := fun t => by
        induction t with
        | zero => exact fun _ => ⟨_, rfl⟩
        | succ t ih =>
          intro ht
          obtain ⟨s', e'⟩ := ih (by omega)
          simp only [rowB, e']
          obtain ⟨hb', _⟩ := rowB_ok hg hb hi (by omega) e'
          have hr' := rowB_rch hr hi (by omega) e'
          have hi' : i < s'.c := Nat.lt_of_lt_of_le hi (rowB_ext e').1
          unfold stepB
          cases hf : fire (st t) (s'.M i) with
          | none => exact ⟨_, rfl⟩
          | some x =>
            simp only
            by_cases hk : kn s'.M x s'.c = true
            · rw [if_pos hk]; exact ⟨_, rfl⟩
            · rw [if_neg hk]
              by_cases h4 : s'.c = 400
              · exfalso
                have hx := fire_mk (hg t (by omega)) (hb'.mark i hi') hf
                have h5 : 401 ≤ c := few (K := K) (B := upd s'.M 400 x) (n := 401) (fun a b ha hb2 e2 => by
                  have hno : ∀ q, q < 400 → s'.M q ≠ x := fun q hq e3 => hk ((kn_is hp hb'.mark hx).2 ⟨q, by omega, e3⟩)
                  by_cases ha4 : a = 400 <;> by_cases hb4 : b = 400
                  · omega
                  · rw [ha4, upd_same, upd_other _ _ _ _ hb4] at e2; exact absurd e2.symm (hno b (by omega))
                  · rw [hb4, upd_same, upd_other _ _ _ _ ha4] at e2; exact absurd e2 (hno a (by omega))
                  · rw [upd_other _ _ _ _ ha4, upd_other _ _ _ _ hb4] at e2
                    exact hb'.differ hp a b (by omega) (by omega) e2) (fun q hq => by
                  by_cases hq4 : q = 400
                  · rw [hq4, upd_same]; exact hK x ((hr' i hi').step (by omega) hf)
                  · rw [upd_other _ _ _ _ hq4]; exact hK _ (hr' q (by omega)))
                omega
              · rw [if_neg h4]; exact ⟨_, rfl⟩
      exact row k (Nat.le_refl _)
    · rw [if_neg hi]; exact ⟨_, rfl⟩
/-- The search of one that was found ends as well. -/
theorem sub_found {p k : Nat} (hp : p ≤ 8) {st : Nat → Sp} {m : Nat → Int} {s : Bs} (hg : ∀ t, t < k → GoodS p (st t)) (hm : Mk p m) (e : foundB st k m = some s) {i : Nat} (hi : i < s.c) : ∃ l, foundB st k (s.M i) = some l ∧ ∀ x, Is l.M l.c x ↔ Rch st k (s.M i) x := by
  have hb := allB_ok hg hm e
  obtain ⟨l, hl⟩ := allB_some hp hg (hb.mark i hi) hb.most (fun x hx => (found_iff hp hg hm e x).2 ((allB_rch e i hi).trans hx)) 400
  exact ⟨l, hl, fun x => found_iff hp hg (hb.mark i hi) hl x⟩
/-- Going back from e: what is met on the way is as much as was found just where all that was found can come to e. -/
theorem back_all {p k : Nat} (hp : p ≤ 8) {st : Nat → Sp} {m e : Nat → Int} {s : Bs} (hg : ∀ t, t < k → GoodS p (st t)) (hm : Mk p m) (es : foundB st k m = some s) {B : Nat → Nat → Int} {n : Nat} (hd : ∀ i j, i < n → j < n → B i = B j → i = j) (h0 : Is B n e) (hin : ∀ j, j < n → Is s.M s.c (B j)) (hr : ∀ j, j < n → Rch st k (B j) e)
    (hcl : ∀ j, j < n → ∀ i, i < s.c → ∀ t, t < k → fire (st t) (s.M i) = some (B j) → Is B n (s.M i)) : n = s.c ↔ ∀ i, i < s.c → Rch st k (s.M i) e := by
  have hb := allB_ok hg hm es
  have hclo := allB_clo hp hg hm es
  constructor
  · intro hn i hi
    -- were it not there, one more than there are places would be
    by_cases hI : Is B n (s.M i)
    · obtain ⟨j, hj, ej⟩ := hI
      rw [← ej]; exact hr j hj
    · exfalso
      have h5 : n + 1 ≤ s.c := few (K := s.M) (B := upd B n (s.M i)) (n := n + 1) (fun a b ha hb2 e2 => by
        by_cases ha4 : a = n <;> by_cases hb4 : b = n
        · omega
        · rw [ha4, upd_same, upd_other _ _ _ _ hb4] at e2; exact absurd ⟨b, by omega, e2.symm⟩ hI
        · rw [hb4, upd_same, upd_other _ _ _ _ ha4] at e2; exact absurd ⟨a, by omega, e2⟩ hI
        · rw [upd_other _ _ _ _ ha4, upd_other _ _ _ _ hb4] at e2
          exact hd a b (by omega) (by omega) e2) (fun q hq => by
        by_cases hq4 : q = n
        · rw [hq4, upd_same]; exact ⟨i, hi, rfl⟩
        · rw [upd_other _ _ _ _ hq4]; exact hin q (by omega))
      omega
  · intro hall
    have h1 : n ≤ s.c := few hd hin
    have hin2 : ∀ x, Rch st k x e → Is s.M s.c x → Is B n x := fun x hx => Rch.back (P := fun x => Is s.M s.c x → Is B n x) (fun a b t ht hf hPb ha => by
      obtain ⟨i, hi, rfl⟩ := ha
      obtain ⟨j, hj, ej⟩ := hPb (hclo i (Nat.lt_of_lt_of_le hi hb.most) hi t ht b hf)
      exact hcl j hj i hi t ht (by rw [ej]; exact hf)) hx (fun _ => h0)
    have h2 : s.c ≤ n := few (hb.differ hp) (fun i hi => hin2 _ (hall i hi) ⟨i, hi, rfl⟩)
    omega
/-- What both texts tell of a net whose markings were found. -/
def Snd (st : Nat → Sp) (k : Nat) (s : Bs) (last : Nat) (e : Nat → Int) : Prop :=
  (∀ i, i < s.c → (0 < s.M i last → s.M i = e) ∧ Rch st k (s.M i) e) ∧ ∀ t, t < k → ∃ i, i < s.c ∧ ∃ y, fire (st t) (s.M i) = some y
end M
end Go.Proofs.Ythilapalgakhhaa
