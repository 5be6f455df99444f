/-
  Going back from the end: what is known on the way.
-/
import Derived.Test.YthilapalgakhhaaNetSndA
namespace Go.Proofs.Ythilapalgakhhaa
open Go.RowKit M
open Clk (upd upd_same upd_other)
namespace M
theorem Is.mono {K : Nat → Nat → Int} {c : Nat} {x : Nat → Int} (h : Is K c x) (y : Nat → Int) : Is (upd K c y) (c + 1) x := by
  obtain ⟨j, hj, e⟩ := h
  exact ⟨j, by omega, by rw [upd_other _ _ _ _ (by omega)]; exact e⟩
/-- i were taken, nb met: B 0, B 1, ..; of the row l of the marking i the first r were looked at. -/
structure BI (st : Nat → Sp) (k p : Nat) (s : Bs) (e : Nat → Int) (i nb : Nat) (B : Nat → Nat → Int) (l : List (Nat → Int)) (r : Nat) : Prop where
  pos : 1 ≤ nb
  le : i ≤ nb
  first : B 0 = e
  mark : ∀ j, j < nb → Mk p (B j)
  new : ∀ j, j < nb → NoKey j B (B j)
  inn : ∀ j, j < nb → Is s.M s.c (B j)
  rch : ∀ j, j < nb → Rch st k (B j) e
  clo : ∀ j, j < i → ∀ q, q < s.c → ∀ t, t < k → fire (st t) (s.M q) = some (B j) → Is B nb (s.M q)
  seen : ∀ q x, q < r → l[q]? = some x → Is B nb x
theorem BI.differ {st : Nat → Sp} {k p : Nat} {s : Bs} {e : Nat → Int} {i nb : Nat} {B : Nat → Nat → Int} {l : List (Nat → Int)} {r : Nat} (h : BI st k p s e i nb B l r) (hp : p ≤ 8) : ∀ a b, a < nb → b < nb → B a = B b → a = b := fun a b ha hb eq => by
  rcases Nat.lt_trichotomy a b with h1 | h1 | h1
  · have := h.new b hb a h1
    rw [(mk_eq hp (h.mark b hb) (h.mark a ha)).2 eq.symm] at this; cases this
  · exact h1
  · have := h.new a ha b h1
    rw [(mk_eq hp (h.mark a ha) (h.mark b hb)).2 eq] at this; cases this
theorem BI.most {st : Nat → Sp} {k p : Nat} {s : Bs} {e : Nat → Int} {i nb : Nat} {B : Nat → Nat → Int} {l : List (Nat → Int)} {r : Nat} (h : BI st k p s e i nb B l r) (hp : p ≤ 8) : nb ≤ s.c := few (h.differ hp) h.inn
theorem BI.start {st : Nat → Sp} {k p : Nat} {s : Bs} {e : Nat → Int} (he : Mk p e) (hin : Is s.M s.c e) : BI st k p s e 0 1 (fun _ => e) [] 0 :=
  ⟨Nat.le_refl _, Nat.zero_le _, rfl, fun _ _ => he, fun j hj q hq => by omega, fun _ _ => hin, fun _ _ => Rch.refl, fun j hj => absurd hj (Nat.not_lt_zero _), fun _ _ hq => absurd hq (Nat.not_lt_zero _)⟩
theorem BI.take {st : Nat → Sp} {k p : Nat} {s : Bs} {e : Nat → Int} {i nb : Nat} {B : Nat → Nat → Int} {l0 : List (Nat → Int)} {r0 : Nat} (h : BI st k p s e i nb B l0 r0) (l : List (Nat → Int)) : BI st k p s e i nb B l 0 :=
  ⟨h.pos, h.le, h.first, h.mark, h.new, h.inn, h.rch, h.clo, fun _ _ hq => absurd hq (Nat.not_lt_zero _)⟩
theorem BI.skip {st : Nat → Sp} {k p : Nat} {s : Bs} {e : Nat → Int} {i nb : Nat} {B : Nat → Nat → Int} {l : List (Nat → Int)} {r : Nat} (h : BI st k p s e i nb B l r) {x : Nat → Int} (hx : l[r]? = some x) (hI : Is B nb x) : BI st k p s e i nb B l (r + 1) :=
  ⟨h.pos, h.le, h.first, h.mark, h.new, h.inn, h.rch, h.clo, fun q y hq hy => by
    by_cases e1 : q = r
    · subst e1; rw [hx] at hy; cases hy; exact hI
    · exact h.seen q y (by omega) hy⟩
theorem BI.more {st : Nat → Sp} {k p : Nat} {s : Bs} {e : Nat → Int} {i nb : Nat} {B : Nat → Nat → Int} {l : List (Nat → Int)} {r : Nat} (h : BI st k p s e i nb B l r) {x : Nat → Int} (hx : l[r]? = some x) (hm : Mk p x) (hn : NoKey nb B x) (hin : Is s.M s.c x) (hr : Rch st k x e) : BI st k p s e i (nb + 1) (upd B nb x) l (r + 1) := by
  have hp := h.pos
  have key : ∀ {P : (Nat → Int) → Prop}, (∀ j, j < nb → P (B j)) → P x → ∀ j, j < nb + 1 → P (upd B nb x j) := fun h1 h2 j hj => by
    by_cases e1 : j = nb
    · rw [e1, upd_same]; exact h2
    · rw [upd_other _ _ _ _ e1]; exact h1 j (by omega)
  refine ⟨by omega, Nat.le_trans h.le (Nat.le_succ _), by rw [upd_other _ _ _ _ (by omega)]; exact h.first, key (P := Mk p) h.mark hm, fun j hj => ?_, key (P := Is s.M s.c) h.inn hin, key (P := fun y => Rch st k y e) h.rch hr, fun j hj q hq t ht hf => ?_, fun q y hq hy => ?_⟩
  · by_cases e1 : j = nb
    · rw [e1, upd_same]; exact hn.upd (Nat.le_refl _) _
    · rw [upd_other _ _ _ _ e1]; exact (h.new j (by omega)).upd (by omega) _
  · have hle := h.le
    rw [upd_other _ _ _ _ (by omega)] at hf
    exact (h.clo j hj q hq t ht hf).mono _
  · by_cases e1 : q = r
    · subst e1; rw [hx] at hy; cases hy; exact ⟨nb, by omega, upd_same _ _ _⟩
    · exact (h.seen q y (by omega) hy).mono _
/-- The row of the marking i is through. -/
theorem BI.row {st : Nat → Sp} {k p : Nat} {s : Bs} {e : Nat → Int} {i nb : Nat} {B : Nat → Nat → Int} {l : List (Nat → Int)} {r : Nat} (h : BI st k p s e i nb B l r) (hi : i < nb) (hr : l.length ≤ r) (hl : ∀ q, q < s.c → ∀ t, t < k → fire (st t) (s.M q) = some (B i) → s.M q ∈ l) : BI st k p s e (i + 1) nb B [] 0 :=
  ⟨h.pos, hi, h.first, h.mark, h.new, h.inn, h.rch, fun j hj q hq t ht hf => by
    by_cases e1 : j = i
    · subst e1
      obtain ⟨z, hz⟩ := List.getElem?_of_mem (hl q hq t ht hf)
      have hzl : z < l.length := (List.getElem?_eq_some_iff.1 hz).1
      exact h.seen z _ (by omega) hz
    · exact h.clo j (by omega) q hq t ht hf, fun _ _ hq => absurd hq (Nat.not_lt_zero _)⟩
/-- All are taken. -/
theorem BI.over {p k : Nat} (hp : p ≤ 8) {st : Nat → Sp} {m e : Nat → Int} {s : Bs} (hg : ∀ t, t < k → GoodS p (st t)) (hm : Mk p m) (es : foundB st k m = some s) {nb : Nat} {B : Nat → Nat → Int} {l : List (Nat → Int)} {r : Nat} (h : BI st k p s e nb nb B l r) : nb = s.c ↔ ∀ i, i < s.c → Rch st k (s.M i) e :=
  back_all hp hg hm es (h.differ hp) ⟨0, h.pos, h.first⟩ h.inn h.rch (fun j hj q hq t ht hf => h.clo j hj q hq t ht hf)
/-- What the rows tell of a marking: all those out of which a step leads to it. -/
theorem AI.has {st : Nat → Sp} {k p : Nat} {s : Bs} {a : Ah} (h : AI st k p s s.c 0 a) (hp : p ≤ 8) {y : Nat → Int} {d : Nat} (hd : d < a.n) (hy : a.K d = y) {q t : Nat} (hq : q < s.c) (ht : t < k) (hf : fire (st t) (s.M q) = some y) : s.M q ∈ a.L d := by
  obtain ⟨j, h1, h2, h3⟩ := h.whole q t (.inl hq) hq ht y hf
  have : j = d := by
    rcases Nat.lt_trichotomy j d with h4 | h4 | h4
    · have := h.new d hd j h4
      rw [(mk_eq hp (h.mark d hd) (h.mark j h1)).2 (hy.trans h2.symm)] at this; cases this
    · exact h4
    · have := h.new j h1 d h4
      rw [(mk_eq hp (h.mark j h1) (h.mark d hd)).2 (h2.trans hy.symm)] at this; cases this
  rw [← this]; exact h3
theorem AI.none {st : Nat → Sp} {k p : Nat} {s : Bs} {a : Ah} (h : AI st k p s s.c 0 a) (hp : p ≤ 8) {y : Nat → Int} (hy : Mk p y) (hn : NoKey a.n a.K y) {q t : Nat} (hq : q < s.c) (ht : t < k) (hf : fire (st t) (s.M q) = some y) : False := by
  obtain ⟨j, h1, h2, h3⟩ := h.whole q t (.inl hq) hq ht y hf
  have := hn j h1
  rw [(mk_eq hp hy (h.mark j h1)).2 h2.symm] at this; cases this
end M
end Go.Proofs.Ythilapalgakhhaa
