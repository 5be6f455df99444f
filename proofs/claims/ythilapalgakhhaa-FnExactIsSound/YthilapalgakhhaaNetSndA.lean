/-
  Of each marking those out of which one step leads to it: the mathematics, and a map of rows in memory.
-/
import Derived.Test.YthilapalgakhhaaNetSndM
import Derived.Test.YthilapalgakhhaaNetSndE
import Derived.Test.YthilapalgakhhaaNetSpread
import Derived.Test.YthilapalgakhhaaOwnR
namespace Go.Proofs.Ythilapalgakhhaa
open Go.RowKit M
open Clk (upd upd_same upd_other)
namespace M
structure Ah where
  n : Nat
  K : Nat → Nat → Int
  L : Nat → List (Nat → Int)
def Ah.put (a : Ah) (d : Nat) (m : Nat → Int) : Ah := ⟨a.n, a.K, upd a.L d (a.L d ++ [m])⟩
def Ah.add (a : Ah) (y : Nat → Int) : Ah := ⟨a.n + 1, upd a.K a.n y, upd a.L a.n []⟩
/-- What is known of the rows when t steps of the marking i were tried. -/
structure AI (st : Nat → Sp) (k p : Nat) (s : Bs) (i t : Nat) (a : Ah) : Prop where
  mark : ∀ j, j < a.n → Mk p (a.K j)
  new : ∀ j, j < a.n → NoKey j a.K (a.K j)
  sound : ∀ j, j < a.n → ∀ x, x ∈ a.L j → Is s.M s.c x ∧ ∃ t', t' < k ∧ fire (st t') x = some (a.K j)
  whole : ∀ q t', (q < i ∨ (q = i ∧ t' < t)) → q < s.c → t' < k → ∀ y, fire (st t') (s.M q) = some y → ∃ j, j < a.n ∧ a.K j = y ∧ s.M q ∈ a.L j
  len : ∀ j, j < a.n → (a.L j).length ≤ i * k + t
theorem AI.start {st : Nat → Sp} {k p : Nat} {s : Bs} : AI st k p s 0 0 ⟨0, fun _ _ => 0, fun _ => []⟩ :=
  ⟨fun j hj => absurd hj (Nat.not_lt_zero _), fun j hj => absurd hj (Nat.not_lt_zero _), fun j hj => absurd hj (Nat.not_lt_zero _), fun q t' h => by omega, fun j hj => absurd hj (Nat.not_lt_zero _)⟩
theorem AI.row {st : Nat → Sp} {k p : Nat} {s : Bs} {i : Nat} {a : Ah} (h : AI st k p s i k a) : AI st k p s (i + 1) 0 a :=
  ⟨h.mark, h.new, h.sound, fun q t' hq hc hk => h.whole q t' (by omega) hc hk, fun j hj => by have := h.len j hj; rw [Nat.add_mul]; omega⟩
theorem AI.no {st : Nat → Sp} {k p : Nat} {s : Bs} {i t : Nat} {a : Ah} (h : AI st k p s i t a) (hf : fire (st t) (s.M i) = none) : AI st k p s i (t + 1) a :=
  ⟨h.mark, h.new, h.sound, fun q t' hq hc hk y hy => by
    by_cases hn : q = i ∧ t' = t
    · obtain ⟨rfl, rfl⟩ := hn; rw [hf] at hy; cases hy
    · exact h.whole q t' (by omega) hc hk y hy, fun j hj => by have := h.len j hj; omega⟩
theorem AI.put {st : Nat → Sp} {k p : Nat} {s : Bs} {i t : Nat} {a : Ah} (h : AI st k p s i t a) {y : Nat → Int} (hf : fire (st t) (s.M i) = some y) (hi : i < s.c) (ht : t < k) {d : Nat} (hd : d < a.n) (hy : a.K d = y) : AI st k p s i (t + 1) (a.put d (s.M i)) := by
  have hin : ∀ j x, x ∈ a.L j → x ∈ upd a.L d (a.L d ++ [s.M i]) j := fun j x hx => by
    by_cases hj : j = d
    · subst hj; rw [upd_same]; exact List.mem_append_left _ hx
    · rw [upd_other _ _ _ _ hj]; exact hx
  refine ⟨h.mark, h.new, fun j hj x hx => ?_, fun q t' hq hc hk y' hy' => ?_, fun j hj => ?_⟩
  · by_cases hjd : j = d
    · subst hjd
      have hx' : x ∈ a.L j ++ [s.M i] := by have := hx; unfold Ah.put at this; simp only [upd_same] at this; exact this
      rcases List.mem_append.1 hx' with h1 | h1
      · exact h.sound j hj x h1
      · obtain rfl : x = s.M i := by simpa using h1
        exact ⟨⟨i, hi, rfl⟩, t, ht, by rw [hf, ← hy]; rfl⟩
    · have hx' : x ∈ a.L j := by have := hx; unfold Ah.put at this; simp only [upd_other _ _ _ _ hjd] at this; exact this
      exact h.sound j hj x hx'
  · by_cases hn : q = i ∧ t' = t
    · obtain ⟨rfl, rfl⟩ := hn
      rw [hf] at hy'; cases hy'
      exact ⟨d, hd, hy, by show s.M q ∈ upd a.L d (a.L d ++ [s.M q]) d; rw [upd_same]; simp⟩
    · obtain ⟨j, h1, h2, h3⟩ := h.whole q t' (by omega) hc hk y' hy'
      exact ⟨j, h1, h2, hin j _ h3⟩
  · show (upd a.L d (a.L d ++ [s.M i]) j).length ≤ _
    by_cases hjd : j = d
    · subst hjd; rw [upd_same, List.length_append]; have := h.len j hj; simp; omega
    · rw [upd_other _ _ _ _ hjd]; have := h.len j hj; omega
theorem AI.addK {st : Nat → Sp} {k p : Nat} {s : Bs} {i t : Nat} {a : Ah} (h : AI st k p s i t a) {y : Nat → Int} (hy : Mk p y) (hn : NoKey a.n a.K y) : AI st k p s i t (a.add y) := by
  refine ⟨fun j hj => ?_, fun j hj => ?_, fun j hj x hx => ?_, fun q t' hq hc hk y' hy' => ?_, fun j hj => ?_⟩
  · have hj' : j < a.n + 1 := hj
    show Mk p (upd a.K a.n y j)
    by_cases e : j = a.n
    · rw [e, upd_same]; exact hy
    · rw [upd_other _ _ _ _ e]; exact h.mark j (by omega)
  · have hj' : j < a.n + 1 := hj
    show NoKey j (upd a.K a.n y) (upd a.K a.n y j)
    by_cases e : j = a.n
    · rw [e, upd_same]; exact hn.upd (Nat.le_refl _) _
    · rw [upd_other _ _ _ _ e]; exact (h.new j (by omega)).upd (by omega) _
  · have hj' : j < a.n + 1 := hj
    have hx' : x ∈ upd a.L a.n [] j := hx
    by_cases e : j = a.n
    · rw [e, upd_same] at hx'; cases hx'
    · rw [upd_other _ _ _ _ e] at hx'
      obtain ⟨h1, t', h2, h3⟩ := h.sound j (by omega) x hx'
      exact ⟨h1, t', h2, by show _ = some (upd a.K a.n y j); rw [upd_other _ _ _ _ e]; exact h3⟩
  · obtain ⟨j, h1, h2, h3⟩ := h.whole q t' hq hc hk y' hy'
    have e : j ≠ a.n := by omega
    exact ⟨j, by show j < a.n + 1; omega, by show upd a.K a.n y j = y'; rw [upd_other _ _ _ _ e]; exact h2, by show s.M q ∈ upd a.L a.n [] j; rw [upd_other _ _ _ _ e]; exact h3⟩
  · have hj' : j < a.n + 1 := hj
    show (upd a.L a.n [] j).length ≤ _
    by_cases e : j = a.n
    · rw [e, upd_same]; exact Nat.zero_le _
    · rw [upd_other _ _ _ _ e]; exact h.len j (by omega)
/-- The cells of a row of markings. -/
def cl8 : List (Nat → Int) → List Value
  | [] => []
  | x :: l => L8 x ++ cl8 l
theorem cl8_len : ∀ l, (cl8 l).length = l.length * 8
  | [] => rfl
  | x :: l => by rw [cl8, List.length_append, L8_len, cl8_len l, List.length_cons]; omega
theorem cl8_snoc : ∀ l x, cl8 (l ++ [x]) = cl8 l ++ L8 x
  | [], x => by simp [cl8]
  | y :: l, x => by rw [List.cons_append, cl8, cl8_snoc l x, cl8, List.append_assoc]
theorem cl8_at : ∀ (l : List (Nat → Int)) (j q : Nat) (x : Nat → Int), l[j]? = some x → q < 8 → (cl8 l)[j * 8 + q]? = some (.int .i64 (x q))
  | [], j, q, x, h, _ => by simp at h
  | y :: l, 0, q, x, h, hq => by
    simp at h; subst h
    rw [cl8, Nat.zero_mul, Nat.zero_add, List.getElem?_append_left (by rw [L8_len]; exact hq)]
    exact L8_at y q hq
  | y :: l, j + 1, q, x, h, hq => by
    have h' : l[j]? = some x := by simpa using h
    rw [cl8, List.getElem?_append_right (by rw [L8_len]; omega), L8_len, show (j + 1) * 8 + q - 8 = j * 8 + q by omega]
    exact cl8_at l j q x h' hq
/-- The rows as they lie in memory. -/
structure AH (W : World) (B bm : Nat) (V : Nat → Value) (a : Ah) : Prop where
  map : MapB W bm a.n a.K V
  row : ∀ j, j < a.n → W.ownsRow B 68 8 (V j) (a.L j).length (cl8 (a.L j))
  apart : ∀ i j, i < a.n → j < a.n → i ≠ j → ∀ g, (V i).ownBlock = some g → some g ≠ (V j).ownBlock
theorem AH.down {W W' : World} {B bm : Nat} {V : Nat → Value} {a : Ah} (h : AH W B bm V a) (hb : Below W.heap.size W W') : AH W' B bm V a :=
  ⟨h.map.down hb, fun j hj => owns_below (h.row j hj) hb, h.apart⟩
theorem own_ne_map {W : World} {B e s n bm m : Nat} {K : Nat → Nat → Int} {V : Nat → Value} {v : Value} {xs : List Value} (h : W.ownsRow B e s v n xs) (hm : MapB W bm m K V) : v.ownBlock ≠ some bm := by
  intro he
  rcases h.2 with ⟨rfl, _⟩ | ⟨g, cap, cur, rfl, _, hg, _⟩
  · simp [Value.ownBlock] at he
  · simp only [Value.ownBlock, Option.some.injEq] at he
    subst he
    unfold MapB at hm
    rw [hm] at hg; cases hg
theorem own_lt {W : World} {B e s n : Nat} {v : Value} {xs : List Value} (h : W.ownsRow B e s v n xs) {g : Nat} (hg : v.ownBlock = some g) : g < W.heap.size ∧ B ≤ g := by
  rcases h.2 with ⟨rfl, _⟩ | ⟨g', cap, cur, rfl, hB, hg', _⟩
  · simp [Value.ownBlock] at hg
  · simp only [Value.ownBlock, Option.some.injEq] at hg
    subst hg
    refine ⟨?_, hB⟩
    rcases Nat.lt_or_ge g' W.heap.size with h' | h'
    · exact h'
    · rw [Array.getElem?_eq_none h'] at hg'; cases hg'
theorem own_only {W W' : World} {B e s n g : Nat} {v : Value} {xs : List Value} (h : W.ownsRow B e s v n xs) (ho : Only g W W') (hne : v.ownBlock ≠ some g) : W'.ownsRow B e s v n xs := by
  refine ⟨h.1, ?_⟩
  rcases h.2 with h0 | ⟨g', cap, cur, hv, hB, hg, r⟩
  · exact .inl h0
  · refine .inr ⟨g', cap, cur, hv, hB, ?_, r⟩
    rw [ho.block g' (fun e => hne (by rw [hv, ← e]; rfl))]; exact hg
/-- A new key with no row yet. -/
theorem AH.addK {W W' : World} {B bm : Nat} {V : Nat → Value} {a : Ah} (h : AH W B bm V a) {y : Nat → Int} (hm : MapB W' bm (a.n + 1) (upd a.K a.n y) (upd V a.n (.slice none 0 0))) (ho : Only bm W W') : AH W' B bm (upd V a.n (.slice none 0 0)) (a.add y) := by
  refine ⟨hm, fun j hj => ?_, fun i j hi hj hij g hg => ?_⟩
  · have hj' : j < a.n + 1 := hj
    show W'.ownsRow B 68 8 (upd V a.n (.slice none 0 0) j) (upd a.L a.n [] j).length (cl8 (upd a.L a.n [] j))
    by_cases e : j = a.n
    · rw [e, upd_same, upd_same]; exact ⟨rfl, .inl ⟨rfl, rfl⟩⟩
    · rw [upd_other _ _ _ _ e, upd_other _ _ _ _ e]
      exact own_only (h.row j (by omega)) ho (own_ne_map (h.row j (by omega)) h.map)
  · have hi' : i < a.n + 1 := hi
    have hj' : j < a.n + 1 := hj
    by_cases ei : i = a.n
    · rw [ei, upd_same] at hg; simp [Value.ownBlock] at hg
    · rw [upd_other _ _ _ _ ei] at hg
      by_cases ej : j = a.n
      · rw [ej, upd_same]; simp [Value.ownBlock]
      · rw [upd_other _ _ _ _ ej]; exact h.apart i j (by omega) (by omega) hij g hg
/-- One more in the row of a key: the row grows, and lies under the key. -/
theorem AH.put {W W1 W2 : World} {B bm : Nat} {V : Nat → Value} {a : Ah} (h : AH W B bm V a) {d : Nat} (hd : d < a.n) {x : Nat → Int} {v' : Value} (hr : W1.ownsRow B 68 8 v' ((a.L d).length + 1) (cl8 (a.L d) ++ L8 x)) (hg : W.grownBy W1 (V d).ownBlock) (hat : v'.ownBlock = (V d).ownBlock ∨ v'.ownBlock = some W.heap.size)
    (hm : MapB W2 bm a.n a.K (upd V d v')) (ho : Only bm W1 W2) : AH W2 B bm (upd V d v') (a.put d x) := by
  have hm1 : MapB W1 bm a.n a.K V := h.map.only (hg.block bm h.map.lt (fun e => own_ne_map (h.row d hd) h.map e.symm))
  have hoth : ∀ j, j < a.n → j ≠ d → W1.ownsRow B 68 8 (V j) (a.L j).length (cl8 (a.L j)) := fun j hj hjd => owns_other (h.row j hj) hg (fun g hgj => h.apart j d hj hd hjd g hgj)
  refine ⟨hm, fun j hj => ?_, fun i j hi hj hij g hgi => ?_⟩
  · show W2.ownsRow B 68 8 (upd V d v' j) (upd a.L d (a.L d ++ [x]) j).length (cl8 (upd a.L d (a.L d ++ [x]) j))
    by_cases e : j = d
    · rw [e, upd_same, upd_same, cl8_snoc, List.length_append]
      exact own_only hr ho (own_ne_map hr hm1)
    · rw [upd_other _ _ _ _ e, upd_other _ _ _ _ e]
      exact own_only (hoth j hj e) ho (own_ne_map (hoth j hj e) hm1)
  · have hne : ∀ j, j < a.n → j ≠ d → ∀ g, (V j).ownBlock = some g → some g ≠ v'.ownBlock := fun j hj hjd g hgj => by
      rcases hat with e | e
      · rw [e]; exact h.apart j d hj hd hjd g hgj
      · rw [e]; intro e2; cases e2; have := (own_lt (h.row j hj) hgj).1; omega
    by_cases ei : i = d
    · rw [ei, upd_same] at hgi
      have ej : j ≠ d := fun e => hij (ei.trans e.symm)
      rw [upd_other _ _ _ _ ej]
      intro e2
      exact hne j hj ej g e2.symm hgi.symm
    · rw [upd_other _ _ _ _ ei] at hgi
      by_cases ej : j = d
      · rw [ej, upd_same]; exact hne i hi ei g hgi
      · rw [upd_other _ _ _ _ ej]; exact h.apart i j hi hj hij g hgi
end M
end Go.Proofs.Ythilapalgakhhaa
