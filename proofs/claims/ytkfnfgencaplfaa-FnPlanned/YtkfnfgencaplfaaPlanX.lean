/-
  What the earliest and the latest beginnings of a good plan are: the equations that make a critical way.
-/
import Derived.Test.YtkfnfgencaplfaaPlanK
import Derived.Test.YtkfnfgencaplfaaPlanN
namespace Go.Proofs.Ytkfnfgencaplfaa
open Go.RowKit M
open Clk (upd upd_same upd_other)
namespace M
/-- What is known of the earliest beginnings once the tasks of l were looked at. -/
structure EOk (ts : Nat → Tk) (l : List Nat) (c : Nat → Int) (A : Int) : Prop where
  pos : ∀ x, 0 ≤ c x
  out : ∀ x, x ∉ l → c x = 0
  ge : ∀ x, x ∈ l → ∀ j, j < (ts x).nn → c (need ts x j) + (ts (need ts x j)).long ≤ c x
  eq : ∀ x, x ∈ l → c x = 0 ∨ ∃ j, j < (ts x).nn ∧ c x = c (need ts x j) + (ts (need ts x j)).long
  all0 : 0 ≤ A
  all : ∀ x, x ∈ l → c x + (ts x).long ≤ A
  allEq : A = 0 ∨ ∃ x, x ∈ l ∧ c x + (ts x).long = A
theorem bN_other (ts : Nat → Tk) (b : Nat → Int) (x : Nat) {y : Nat} (h : y ≠ x) : ∀ j, bN ts b x j y = b y
  | 0 => rfl
  | j + 1 => by simp only [bN]; rw [upd_other _ _ _ _ h]; exact bN_other ts b x h j
theorem bN_own (ts : Nat → Tk) (b : Nat → Int) (x : Nat) : ∀ j, (∀ i, i < j → need ts x i ≠ x) → b x ≤ bN ts b x j x ∧ (∀ i, i < j → b (need ts x i) + (ts (need ts x i)).long ≤ bN ts b x j x) ∧ (bN ts b x j x = b x ∨ ∃ i, i < j ∧ bN ts b x j x = b (need ts x i) + (ts (need ts x i)).long)
  | 0, _ => ⟨Int.le_refl _, fun i hi => by omega, .inl rfl⟩
  | j + 1, h => by
    obtain ⟨h1, h2, h3⟩ := bN_own ts b x j fun i hi => h i (by omega)
    have e : bN ts b x (j + 1) x = max (bN ts b x j x) (b (need ts x j) + (ts (need ts x j)).long) := by
      simp only [bN]; rw [upd_same]
      show max _ (bN ts b x j (need ts x j) + _) = _
      rw [bN_other ts b x (h j (by omega)) j]
      rfl
    rw [e]
    refine ⟨by omega, fun i hi => ?_, ?_⟩
    · rcases (show i < j ∨ i = j by omega) with h4 | h4
      · have := h2 i h4; omega
      · subst h4; omega
    · by_cases hm : bN ts b x j x < b (need ts x j) + (ts (need ts x j)).long
      · exact .inr ⟨j, by omega, by omega⟩
      · rw [show max (bN ts b x j x) (b (need ts x j) + (ts (need ts x j)).long) = bN ts b x j x by omega]
        rcases h3 with h3 | ⟨i, hi, h3⟩
        · exact .inl h3
        · exact .inr ⟨i, by omega, h3⟩
theorem EOk.snoc {k : Nat} {ts : Nat → Tk} (hB : Bnd k ts) {l : List Nat} {x : Nat} (h : EOk ts l (est ts l) (eal ts l)) (hx : x < k) (hn : x ∉ l) (hN : ∀ j, j < (ts x).nn → need ts x j ∈ l) (hc : ∀ y, y ∈ l → ∀ j, j < (ts y).nn → need ts y j ∈ l) : EOk ts (l ++ [x]) (est ts (l ++ [x])) (eal ts (l ++ [x])) := by
  have hne : ∀ j, j < (ts x).nn → need ts x j ≠ x := fun j hj e => hn (by rw [← e]; exact hN j hj)
  obtain ⟨b1, b2, b3⟩ := bN_own ts (est ts l) x (ts x).nn hne
  have hl := (hB.2 x hx).1
  rw [eal_snoc, est_snoc]
  have ho : ∀ y, y ≠ x → bN ts (est ts l) x (ts x).nn y = est ts l y := fun y hy => bN_other ts _ x hy _
  have hol : ∀ y, y ∈ l → bN ts (est ts l) x (ts x).nn y = est ts l y := fun y hy => ho y (fun e => hn (by rw [← e]; exact hy))
  have h0 := h.out x hn
  generalize bN ts (est ts l) x (ts x).nn = c at *
  have hp := h.pos x
  refine ⟨fun y => ?_, fun y hy => ?_, fun y hy j hj => ?_, fun y hy => ?_, ?_, fun y hy => ?_, ?_⟩
  · by_cases e : y = x
    · subst e; omega
    · rw [ho y e]; exact h.pos y
  · simp at hy
    rw [ho y hy.2]; exact h.out y hy.1
  · rcases List.mem_append.1 hy with hy | hy
    · rw [hol y hy, hol _ (hc y hy j hj)]; exact h.ge y hy j hj
    · simp at hy; subst hy
      rw [hol _ (hN j hj)]; exact b2 j hj
  · rcases List.mem_append.1 hy with hy | hy
    · rw [hol y hy]
      rcases h.eq y hy with h1 | ⟨j, hj, h1⟩
      · exact .inl h1
      · exact .inr ⟨j, hj, by rw [hol _ (hc y hy j hj)]; exact h1⟩
    · simp at hy; subst hy
      rcases b3 with h1 | ⟨j, hj, h1⟩
      · exact .inl (by omega)
      · exact .inr ⟨j, hj, by rw [hol _ (hN j hj)]; exact h1⟩
  · have := h.all0; omega
  · rcases List.mem_append.1 hy with hy | hy
    · rw [hol y hy]; have := h.all y hy; omega
    · simp at hy; subst hy; omega
  · by_cases hm : eal ts l < c x + (ts x).long
    · exact .inr ⟨x, by simp, by omega⟩
    · rw [show max (eal ts l) (c x + (ts x).long) = eal ts l by omega]
      rcases h.allEq with h1 | ⟨y, hy, h1⟩
      · exact .inl h1
      · exact .inr ⟨y, by simp [hy], by rw [hol y hy]; exact h1⟩
theorem take_split {o : List Nat} {m : Nat} (h : m < o.length) : o = o.take m ++ o[m] :: o.drop (m + 1) := by
  rw [List.getElem_cons_drop, List.take_append_drop]
theorem ord_take_closed {ts : Nat → Tk} {k m : Nat} {y : Nat} (hy : y ∈ (ord ts k k).take m) {j : Nat} (hj : j < (ts y).nn) : need ts y j ∈ (ord ts k k).take m := by
  obtain ⟨A, B, e⟩ := List.append_of_mem hy
  have h1 : ord ts k k = A ++ y :: (B ++ (ord ts k k).drop m) := by
    have := List.take_append_drop m (ord ts k k)
    rw [e] at this
    exact this.symm.trans (by simp)
  have := ord_topo ts k k A y _ h1 j hj
  rw [e]; simp [this]
theorem eok {k : Nat} {ts : Nat → Tk} (hB : Bnd k ts) : ∀ m, m ≤ (ord ts k k).length → EOk ts ((ord ts k k).take m) (est ts ((ord ts k k).take m)) (eal ts ((ord ts k k).take m))
  | 0, _ => ⟨fun x => by simp [est, estP], fun x _ => by simp [est, estP], fun x hx => by simp at hx, fun x hx => by simp at hx, by simp [eal, estP], fun x hx => by simp at hx, .inl (by simp [eal, estP])⟩
  | m + 1, hm => by
    have hml : m < (ord ts k k).length := by omega
    have ih := eok hB m (by omega)
    rw [take_snoc hml]
    have hs := take_split hml
    have hnd := ord_nodup ts k k
    refine ih.snoc hB (ord_lt ts k k _ (List.getElem_mem hml)) (fun hx => ?_) (fun j hj => ord_topo ts k k _ _ _ hs j hj) (fun y hy j hj => ord_take_closed hy hj)
    rw [hs, List.nodup_append] at hnd
    exact hnd.2.2 _ hx _ List.mem_cons_self rfl
/-- What is known of the latest beginnings once the tasks of pre were looked at. -/
structure LOk (k : Nat) (ts : Nat → Tk) (all : Int) (pre : List Nat) (c : Nat → Int) : Prop where
  le : ∀ y, c y ≤ all - (ts y).long
  ge : ∀ x, x ∈ pre → ∀ j, j < (ts x).nn → c (need ts x j) ≤ c x - (ts (need ts x j)).long
  eq : ∀ y, c y = all - (ts y).long ∨ ∃ x, x ∈ pre ∧ ∃ j, j < (ts x).nn ∧ need ts x j = y ∧ c y = c x - (ts y).long
theorem lN_other (ts : Nat → Tk) (b : Nat → Int) (x : Nat) {y : Nat} : ∀ j, (∀ i, i < j → need ts x i ≠ y) → lN ts b x j y = b y
  | 0, _ => rfl
  | j + 1, h => by
    simp only [lN]
    show upd (lN ts b x j) (need ts x j) _ y = b y
    rw [upd_other _ _ _ _ (fun e => h j (by omega) e.symm)]
    exact lN_other ts b x j fun i hi => h i (by omega)
theorem lN_le (ts : Nat → Tk) (b : Nat → Int) (x : Nat) (y : Nat) : ∀ j, lN ts b x j y ≤ b y
  | 0 => Int.le_refl _
  | j + 1 => by
    have ih := lN_le ts b x y j
    simp only [lN]
    unfold upd
    split
    · rename_i e; rw [← e]; omega
    · exact ih
theorem lN_own (ts : Nat → Tk) (b : Nat → Int) (x : Nat) : ∀ j, (∀ i, i < j → need ts x i ≠ x) → (∀ i, i < j → lN ts b x j (need ts x i) ≤ b x - (ts (need ts x i)).long) ∧ ∀ y, lN ts b x j y = b y ∨ ∃ i, i < j ∧ need ts x i = y ∧ lN ts b x j y = b x - (ts y).long
  | 0, _ => ⟨fun i hi => by omega, fun y => .inl rfl⟩
  | j + 1, h => by
    obtain ⟨h1, h2⟩ := lN_own ts b x j fun i hi => h i (by omega)
    have hx := lN_other ts b x (y := x) j fun i hi => h i (by omega)
    have e : lN ts b x (j + 1) = upd (lN ts b x j) (need ts x j) (min (lN ts b x j (need ts x j)) (b x - (ts (need ts x j)).long)) := by
      simp only [lN]; rw [hx]; rfl
    rw [e]
    refine ⟨fun i hi => ?_, fun y => ?_⟩
    · unfold upd
      split
      · rename_i e2; rw [e2]; omega
      · rename_i e2
        rcases (show i < j ∨ i = j by omega) with h4 | h4
        · exact h1 i h4
        · subst h4; exact absurd rfl e2
    · unfold upd
      split
      · rename_i e2
        subst e2
        by_cases hm : b x - (ts (need ts x j)).long < lN ts b x j (need ts x j)
        · exact .inr ⟨j, by omega, rfl, by omega⟩
        · rw [show min (lN ts b x j (need ts x j)) (b x - (ts (need ts x j)).long) = lN ts b x j (need ts x j) by omega]
          rcases h2 (need ts x j) with h3 | ⟨i, hi, h3, h4⟩
          · exact .inl h3
          · exact .inr ⟨i, by omega, h3, h4⟩
      · rcases h2 y with h3 | ⟨i, hi, h3, h4⟩
        · exact .inl h3
        · exact .inr ⟨i, by omega, h3, h4⟩
theorem LOk.snoc {k : Nat} {ts : Nat → Tk} {all : Int} {pre : List Nat} {x : Nat} (h : LOk k ts all pre (lat ts all pre)) (hN : ∀ j, j < (ts x).nn → need ts x j ∉ pre ++ [x]) : LOk k ts all (pre ++ [x]) (lat ts all (pre ++ [x])) := by
  have hne : ∀ j, j < (ts x).nn → need ts x j ≠ x := fun j hj e => hN j hj (by rw [e]; simp)
  obtain ⟨b1, b2⟩ := lN_own ts (lat ts all pre) x (ts x).nn hne
  rw [lat_snoc]
  have hle := fun y => lN_le ts (lat ts all pre) x y (ts x).nn
  have hol : ∀ y, y ∈ pre ++ [x] → lN ts (lat ts all pre) x (ts x).nn y = lat ts all pre y := fun y hy => lN_other ts _ x _ fun i hi e => hN i hi (by rw [e]; exact hy)
  generalize lN ts (lat ts all pre) x (ts x).nn = c at *
  refine ⟨fun y => ?_, fun y hy j hj => ?_, fun y => ?_⟩
  · have := hle y; have := h.le y; omega
  · rcases List.mem_append.1 hy with hy1 | hy1
    · rw [hol y hy]; have := hle (need ts y j); have := h.ge y hy1 j hj; omega
    · simp at hy1; subst hy1
      rw [hol _ hy]; exact b1 j hj
  · rcases b2 y with h1 | ⟨i, hi, h1, h2⟩
    · rcases h.eq y with h3 | ⟨z, hz, j, hj, h3, h4⟩
      · exact .inl (by omega)
      · exact .inr ⟨z, by simp [hz], j, hj, h3, by rw [hol z (by simp [hz])]; omega⟩
    · exact .inr ⟨x, by simp, i, hi, h1, by rw [hol x (by simp)]; exact h2⟩
theorem lok {k : Nat} {ts : Nat → Tk} (all : Int) : ∀ m, m ≤ (ord ts k k).reverse.length → LOk k ts all ((ord ts k k).reverse.take m) (lat ts all ((ord ts k k).reverse.take m))
  | 0, _ => ⟨fun y => by simp [lat], fun x hx => by simp at hx, fun y => .inl (by simp [lat])⟩
  | m + 1, hm => by
    have hml : m < (ord ts k k).reverse.length := by omega
    have ih := lok (k := k) (ts := ts) all m (by omega)
    have hp : (ord ts k k).reverse.take m ++ [(ord ts k k).reverse[m]] <+: (ord ts k k).reverse := by rw [← take_snoc hml]; exact List.take_prefix _ _
    rw [take_snoc hml]
    exact ih.snoc fun j hj => rev_topo hp hj
/-- The times of a good plan. -/
structure Tm (k : Nat) (ts : Nat → Tk) (E L : Nat → Int) (all : Int) : Prop where
  e0 : ∀ x, 0 ≤ E x
  e1 : ∀ x, x < k → ∀ j, j < (ts x).nn → E (need ts x j) + (ts (need ts x j)).long ≤ E x
  e2 : ∀ x, x < k → E x = 0 ∨ ∃ j, j < (ts x).nn ∧ E x = E (need ts x j) + (ts (need ts x j)).long
  a0 : 0 ≤ all
  a1 : ∀ x, x < k → E x + (ts x).long ≤ all
  a2 : all = 0 ∨ ∃ x, x < k ∧ E x + (ts x).long = all
  l1 : ∀ x, x < k → ∀ j, j < (ts x).nn → L (need ts x j) ≤ L x - (ts (need ts x j)).long
  l2 : ∀ y, L y ≤ all - (ts y).long
  l3 : ∀ y, L y = all - (ts y).long ∨ ∃ x, x < k ∧ ∃ j, j < (ts x).nn ∧ need ts x j = y ∧ L y = L x - (ts y).long
  nlt : ∀ x, x < k → ∀ j, j < (ts x).nn → need ts x j < k
  lng : ∀ x, x < k → 1 ≤ (ts x).long
theorem tm {k : Nat} {ts : Nat → Tk} (hg : GoodP k ts) : Tm k ts (est ts (ord ts k k)) (lat ts (eal ts (ord ts k k)) (ord ts k k).reverse) (eal ts (ord ts k k)) := by
  have h1 := eok hg.1 (ord ts k k).length (Nat.le_refl _)
  have h2 := lok (k := k) (ts := ts) (eal ts (ord ts k k)) (ord ts k k).reverse.length (Nat.le_refl _)
  rw [List.take_length] at h1 h2
  have hm : ∀ x, x < k → x ∈ ord ts k k := fun x hx => whole_mem hg.2 hx
  have hm' : ∀ x, x < k → x ∈ (ord ts k k).reverse := fun x hx => List.mem_reverse.2 (hm x hx)
  refine ⟨h1.pos, fun x hx => h1.ge x (hm x hx), fun x hx => h1.eq x (hm x hx), h1.all0, fun x hx => h1.all x (hm x hx), ?_, fun x hx => h2.ge x (hm' x hx), h2.le, fun y => ?_, fun x hx j hj => ?_, fun x hx => (hg.1.2 x hx).1.1⟩
  · rcases h1.allEq with h | ⟨x, hx, h⟩
    · exact .inl h
    · exact .inr ⟨x, ord_lt ts k k x hx, h⟩
  · rcases h2.eq y with h | ⟨x, hx, h⟩
    · exact .inl h
    · exact .inr ⟨x, ord_lt ts k k x (List.mem_reverse.1 hx), h⟩
  · obtain ⟨z, _, hz, e⟩ := hg.1.need hx hj
    unfold need; omega
theorem Tm.le {k : Nat} {ts : Nat → Tk} {E L : Nat → Int} {all : Int} (h : Tm k ts E L all) : ∀ (n : Nat) (y : Nat), y < k → (all - L y).toNat ≤ n → E y ≤ L y
  | 0, y, hy, hn => by have := h.l2 y; have := h.lng y hy; omega
  | n + 1, y, hy, hn => by
    have hl := h.lng y hy
    rcases h.l3 y with h1 | ⟨x, hx, j, hj, e, h1⟩
    · have := h.a1 y hy; omega
    · have h2 := h.l2 x
      have h3 := h.lng x hx
      have ih := Tm.le h n x hx (by omega)
      have h4 := h.e1 x hx j hj
      rw [e] at h4
      omega
/-- A way's end: nothing yet, or behind its last task, whose time is settled. -/
def AtE (k : Nat) (ts : Nat → Tk) (E L : Nat → Int) (last : Option Nat) (e : Int) : Prop :=
  match last with
  | none => e = 0
  | some l => l < k ∧ E l = L l ∧ e = L l + (ts l).long
def Goes (ts : Nat → Tk) (last : Option Nat) (x : Nat) : Prop :=
  match last with
  | none => (ts x).nn = 0
  | some l => ∃ j, j < (ts x).nn ∧ need ts x j = l
theorem Tm.early {k : Nat} {ts : Nat → Tk} {E L : Nat → Int} {all : Int} (h : Tm k ts E L all) {last : Option Nat} {e : Int} (ha : AtE k ts E L last e) {x : Nat} (hx : x < k) (hl : L x = e) (hgo : Goes ts last x) : E x = e := by
  have h1 := h.le _ x hx (Nat.le_refl _)
  have h0 := h.e0 x
  cases last with
  | none => have ha : e = 0 := ha; omega
  | some l =>
    obtain ⟨hlk, hel, he⟩ := ha
    obtain ⟨j, hj, e2⟩ := hgo
    have h2 := h.e1 x hx j hj
    rw [e2] at h2
    omega
theorem Tm.first {k : Nat} {ts : Nat → Tk} {E L : Nat → Int} {all : Int} (h : Tm k ts E L all) : ∀ (n y : Nat), y < k → E y = L y → (E y).toNat ≤ n → ∃ x, x < k ∧ L x = 0 ∧ (ts x).nn = 0
  | n, y, hy, he, hn => by
    rcases h.e2 y hy with h0 | ⟨j, hj, h1⟩
    · refine ⟨y, hy, by omega, ?_⟩
      cases hnn : (ts y).nn with
      | zero => rfl
      | succ m =>
        have h2 := h.e1 y hy 0 (by omega)
        have h3 := h.e0 (need ts y 0)
        have h4 := h.lng _ (h.nlt y hy 0 (by omega))
        omega
    · have hz := h.nlt y hy j hj
      have h2 := h.l1 y hy j hj
      have h3 := h.le _ _ hz (Nat.le_refl _)
      have h4 := h.lng _ hz
      have h5 := h.e0 (need ts y j)
      cases n with
      | zero => omega
      | succ n => exact Tm.first h n (need ts y j) hz (by omega) (by omega)
theorem Tm.next {k : Nat} {ts : Nat → Tk} {E L : Nat → Int} {all : Int} (h : Tm k ts E L all) {last : Option Nat} {e : Int} (ha : AtE k ts E L last e) (he : e < all) : ∃ x, x < k ∧ L x = e ∧ Goes ts last x := by
  cases last with
  | none =>
    have ha : e = 0 := ha
    rcases h.a2 with h1 | ⟨y, hy, h1⟩
    · omega
    · have h2 := h.l2 y
      have h3 := h.le _ y hy (Nat.le_refl _)
      obtain ⟨x, hx, h4, h5⟩ := h.first _ y hy (by omega) (Nat.le_refl _)
      exact ⟨x, hx, by omega, h5⟩
  | some l =>
    obtain ⟨hlk, hel, hle⟩ := ha
    rcases h.l3 l with h1 | ⟨x, hx, j, hj, h1, h2⟩
    · omega
    · exact ⟨x, hx, by omega, j, hj, h1⟩
theorem Tm.stop {k : Nat} {ts : Nat → Tk} {E L : Nat → Int} {all : Int} (h : Tm k ts E L all) {e : Int} (he : ¬ e < all) {x : Nat} (hx : x < k) : L x ≠ e := by
  have h1 := h.l2 x
  have h2 := h.lng x hx
  omega
theorem AtE.step {k : Nat} {ts : Nat → Tk} {E L : Nat → Int} {e : Int} {x : Nat} (hx : x < k) (hl : L x = e) (he : E x = e) : AtE k ts E L (some x) (e + (ts x).long) := ⟨hx, by omega, by omega⟩
/-- The first of the first m that fits. -/
def fst (p : Nat → Bool) : Nat → Option Nat
  | 0 => none
  | m + 1 => match fst p m with
    | some x => some x
    | none => if p m = true then some m else none
theorem fst_some {p : Nat → Bool} : ∀ {m x : Nat}, fst p m = some x → x < m ∧ p x = true
  | 0, x, h => by simp [fst] at h
  | m + 1, x, h => by
    cases h1 : fst p m with
    | some y =>
      simp only [fst, h1, Option.some.injEq] at h
      subst h
      have := fst_some h1
      exact ⟨by omega, this.2⟩
    | none =>
      simp only [fst, h1] at h
      split at h
      · simp only [Option.some.injEq] at h; subst h; rename_i hr; exact ⟨by omega, hr⟩
      · cases h
theorem fst_none {p : Nat → Bool} : ∀ {m : Nat}, fst p m = none → ∀ x, x < m → p x = false
  | 0, _, x, hx => by omega
  | m + 1, h, x, hx => by
    cases h1 : fst p m with
    | some y => simp only [fst, h1] at h; cases h
    | none =>
      simp only [fst, h1] at h
      rcases (show x < m ∨ x = m by omega) with h2 | h2
      · exact fst_none h1 x h2
      · subst h2
        split at h
        · cases h
        · rename_i hr; simpa using hr
theorem fst_stop {p : Nat → Bool} {j : Nat} (h : fst p j = none) (hr : p j = true) : ∀ m, j < m → fst p m = some j
  | 0, hm => absurd hm (by omega)
  | m + 1, hm => by
    rcases (show j < m ∨ j = m by omega) with h1 | h1
    · simp only [fst, fst_stop h hr m h1]
    · subst h1; simp only [fst, h, if_pos hr]
theorem fst_go {p : Nat → Bool} {j : Nat} (h : fst p j = none) (hr : p j = false) : fst p (j + 1) = none := by
  simp only [fst, h]; rw [if_neg (by rw [hr]; simp)]
theorem fst_congr {p q : Nat → Bool} : ∀ m, (∀ x, x < m → p x = q x) → fst p m = fst q m
  | 0, _ => rfl
  | m + 1, h => by simp only [fst, fst_congr m fun x hx => h x (by omega), h m (by omega)]
end M
end Go.Proofs.Ytkfnfgencaplfaa
