/-
  The mathematics of branches: the order of events and of histories, how much two have in common, good tellings, one history more, which one counts.
-/
import Derived.Test.YtfkeokglifpkoaaGreatDoorJoin2
namespace Go.Proofs.YtfkeokglifpkoaaGreatDoor
open Go.RowKit M
namespace M
abbrev Evs := List Ev
/-- The order of two events at one place: by Version, then by Kind, then by Name. -/
def cE (a b : Ev) : Int := if a.ver < b.ver then -1 else if b.ver < a.ver then 1 else if a.kind < b.kind then -1 else if b.kind < a.kind then 1 else if ltS a.name b.name = true then -1 else if ltS b.name a.name = true then 1 else 0
theorem cE_cases (a b : Ev) : (cE a b = -1 ∧ (a.ver < b.ver ∨ a.ver = b.ver ∧ (a.kind < b.kind ∨ a.kind = b.kind ∧ ltS a.name b.name = true))) ∨ (cE a b = 0 ∧ a.ver = b.ver ∧ a.kind = b.kind ∧ a.name = b.name) ∨ (cE a b = 1 ∧ (b.ver < a.ver ∨ b.ver = a.ver ∧ (b.kind < a.kind ∨ b.kind = a.kind ∧ ltS b.name a.name = true))) := by
  unfold cE
  split
  · exact .inl ⟨rfl, .inl (by assumption)⟩
  · split
    · exact .inr (.inr ⟨rfl, .inl (by assumption)⟩)
    · have hv : a.ver = b.ver := by omega
      split
      · exact .inl ⟨rfl, .inr ⟨hv, .inl (by assumption)⟩⟩
      · split
        · exact .inr (.inr ⟨rfl, .inr ⟨hv.symm, .inl (by assumption)⟩⟩)
        · have hk : a.kind = b.kind := by omega
          split
          · exact .inl ⟨rfl, .inr ⟨hv, .inr ⟨hk, by assumption⟩⟩⟩
          · split
            · exact .inr (.inr ⟨rfl, .inr ⟨hv.symm, .inr ⟨hk.symm, by assumption⟩⟩⟩)
            · rename_i h1 h2
              refine .inr (.inl ⟨rfl, hv, hk, ?_⟩)
              rcases lt_tri a.name b.name with h | h | h
              · exact absurd h h1
              · exact h
              · exact absurd h h2
theorem cE_neg {a b : Ev} (h : a.ver < b.ver ∨ a.ver = b.ver ∧ (a.kind < b.kind ∨ a.kind = b.kind ∧ ltS a.name b.name = true)) : cE a b = -1 := by
  unfold cE
  rcases h with h | ⟨h, h1 | ⟨h1, h2⟩⟩
  · rw [if_pos h]
  · rw [if_neg (by omega), if_neg (by omega), if_pos h1]
  · rw [if_neg (by omega), if_neg (by omega), if_neg (by omega), if_neg (by omega), if_pos h2]
theorem cE_pos {a b : Ev} (h : b.ver < a.ver ∨ b.ver = a.ver ∧ (b.kind < a.kind ∨ b.kind = a.kind ∧ ltS b.name a.name = true)) : cE a b = 1 := by
  unfold cE
  rcases h with h | ⟨h, h1 | ⟨h1, h2⟩⟩
  · rw [if_neg (by omega), if_pos h]
  · rw [if_neg (by omega), if_neg (by omega), if_neg (by omega), if_pos h1]
  · rw [if_neg (by omega), if_neg (by omega), if_neg (by omega), if_neg (by omega), if_neg (by rw [lt_asym h2]; simp), if_pos h2]
theorem cE_same {a b : Ev} (h1 : a.ver = b.ver) (h2 : a.kind = b.kind) (h3 : a.name = b.name) : cE a b = 0 := by
  unfold cE
  rw [if_neg (by omega), if_neg (by omega), if_neg (by omega), if_neg (by omega), h3, lt_irr]; simp
theorem cE_self (a : Ev) : cE a a = 0 := cE_same rfl rfl rfl
theorem cE_zero {a b : Ev} (h : cE a b = 0) : a.ver = b.ver ∧ a.kind = b.kind ∧ a.name = b.name := by
  rcases cE_cases a b with ⟨h1, _⟩ | ⟨_, h1⟩ | ⟨h1, _⟩
  · omega
  · exact h1
  · omega
theorem cE_anti (a b : Ev) : cE b a = - cE a b := by
  rcases cE_cases a b with ⟨h, h1⟩ | ⟨h, h1, h2, h3⟩ | ⟨h, h1⟩
  · rw [h, cE_pos h1]; rfl
  · rw [h, cE_same h1.symm h2.symm h3.symm]; rfl
  · rw [h, cE_neg h1]
theorem cE_lt {a b : Ev} (h : cE a b < 0) : cE a b = -1 := by rcases cE_cases a b with ⟨h1, _⟩ | ⟨h1, _⟩ | ⟨h1, _⟩ <;> omega
theorem cE_gt {a b : Ev} (h : 0 < cE a b) : cE a b = 1 := by rcases cE_cases a b with ⟨h1, _⟩ | ⟨h1, _⟩ | ⟨h1, _⟩ <;> omega
theorem cE_trans {a b c : Ev} (h1 : cE a b < 0) (h2 : cE b c < 0) : cE a c < 0 := by
  rcases cE_cases a b with ⟨_, h1⟩ | ⟨h, _⟩ | ⟨h, _⟩
  · rcases cE_cases b c with ⟨_, h2⟩ | ⟨h, _⟩ | ⟨h, _⟩
    · have : cE a c = -1 := cE_neg (by
        rcases h1 with h1 | ⟨h1, h3 | ⟨h3, h4⟩⟩
        · rcases h2 with h2 | ⟨h2, _⟩
          · exact .inl (by omega)
          · exact .inl (by omega)
        · rcases h2 with h2 | ⟨h2, h5 | ⟨h5, h6⟩⟩
          · exact .inl (by omega)
          · exact .inr ⟨by omega, .inl (by omega)⟩
          · exact .inr ⟨by omega, .inl (by omega)⟩
        · rcases h2 with h2 | ⟨h2, h5 | ⟨h5, h6⟩⟩
          · exact .inl (by omega)
          · exact .inr ⟨by omega, .inl (by omega)⟩
          · exact .inr ⟨by omega, .inr ⟨by omega, lt_trans h4 h6⟩⟩)
      omega
    · omega
    · omega
  · omega
  · omega
theorem cE_left {a b c : Ev} (h : cE a b = 0) : cE a c = cE b c := by
  obtain ⟨h1, h2, h3⟩ := cE_zero h
  unfold cE; rw [h1, h2, h3]
theorem cE_right {a b c : Ev} (h : cE a b = 0) : cE c a = cE c b := by
  obtain ⟨h1, h2, h3⟩ := cE_zero h
  unfold cE; rw [h1, h2, h3]
/-- The order of two histories, and how much they have in common. -/
def cL : Evs → Evs → Int
  | [], [] => 0
  | [], _ :: _ => -1
  | _ :: _, [] => 1
  | a :: x, b :: y => if cE a b = 0 then cL x y else cE a b
def com : Evs → Evs → Nat
  | a :: x, b :: y => if cE a b = 0 then com x y + 1 else 0
  | _, _ => 0
theorem com_nil_l (x : Evs) : com [] x = 0 := by cases x <;> rfl
theorem com_nil_r (x : Evs) : com x [] = 0 := by cases x <;> rfl
theorem cL_three : ∀ a b : Evs, cL a b = -1 ∨ cL a b = 0 ∨ cL a b = 1
  | [], [] => .inr (.inl rfl)
  | [], _ :: _ => .inl rfl
  | _ :: _, [] => .inr (.inr rfl)
  | a :: x, b :: y => by
    unfold cL
    split
    · exact cL_three x y
    · rcases cE_cases a b with ⟨h1, _⟩ | ⟨h1, _⟩ | ⟨h1, _⟩ <;> omega
theorem cL_anti : ∀ a b : Evs, cL b a = - cL a b
  | [], [] => rfl
  | [], _ :: _ => rfl
  | _ :: _, [] => rfl
  | a :: x, b :: y => by
    unfold cL
    have := cE_anti a b
    by_cases h : cE a b = 0
    · rw [if_pos h, if_pos (by omega)]; exact cL_anti x y
    · rw [if_neg h, if_neg (by omega)]; exact this
theorem com_comm : ∀ a b : Evs, com a b = com b a
  | [], b => by rw [com_nil_l, com_nil_r]
  | a :: x, [] => rfl
  | a :: x, b :: y => by
    unfold com
    have := cE_anti a b
    by_cases h : cE a b = 0
    · rw [if_pos h, if_pos (by omega), com_comm x y]
    · rw [if_neg h, if_neg (by omega)]
theorem com_le : ∀ a b : Evs, com a b ≤ a.length
  | [], b => by rw [com_nil_l]; exact Nat.zero_le _
  | a :: x, [] => Nat.zero_le _
  | a :: x, b :: y => by
    unfold com
    split
    · have := com_le x y; simp; exact this
    · exact Nat.zero_le _
theorem com_le2 (a b : Evs) : com a b ≤ b.length := by rw [com_comm]; exact com_le b a
theorem cL_self : ∀ a : Evs, cL a a = 0
  | [] => rfl
  | a :: x => by unfold cL; rw [if_pos (cE_self a)]; exact cL_self x
theorem com_self : ∀ a : Evs, com a a = a.length
  | [] => rfl
  | a :: x => by unfold com; rw [if_pos (cE_self a), com_self x]; rfl
theorem cL_trans : ∀ {a b c : Evs}, cL a b < 0 → cL b c < 0 → cL a c < 0
  | [], [], c => fun h _ => by simp [cL] at h
  | [], _ :: _, [] => fun _ h => by simp [cL] at h
  | [], _ :: _, _ :: _ => fun _ _ => by simp [cL]
  | _ :: _, [], _ => fun h _ => by simp [cL] at h
  | _ :: _, _ :: _, [] => fun _ h => by simp [cL] at h
  | a :: x, b :: y, c :: z => fun h1 h2 => by
    unfold cL at h1 h2 ⊢
    by_cases e1 : cE a b = 0
    · rw [if_pos e1] at h1
      rw [cE_left e1]
      by_cases e2 : cE b c = 0
      · rw [if_pos e2] at h2 ⊢; exact cL_trans h1 h2
      · rw [if_neg e2] at h2 ⊢; exact h2
    · rw [if_neg e1] at h1
      by_cases e2 : cE b c = 0
      · rw [← cE_right e2, if_neg e1]; exact h1
      · rw [if_neg e2] at h2
        have := cE_trans h1 h2
        rw [if_neg (by omega)]; exact this
/-- Of three that rise the outer ones have no more in common than either has with the one between. -/
theorem com_mid : ∀ {a b c : Evs}, cL a b < 0 → cL b c < 0 → com a c ≤ com a b ∧ com a c ≤ com b c
  | [], b, c => fun _ _ => by rw [com_nil_l]; exact ⟨Nat.zero_le _, Nat.zero_le _⟩
  | _ :: _, [], _ => fun h _ => by simp [cL] at h
  | _ :: _, _ :: _, [] => fun _ h => by simp [cL] at h
  | a :: x, b :: y, c :: z => fun h1 h2 => by
    unfold cL at h1 h2
    unfold com
    by_cases e1 : cE a b = 0
    · rw [if_pos e1] at h1
      by_cases e2 : cE b c = 0
      · rw [if_pos e2] at h2
        have e3 : cE a c = 0 := by rw [cE_left e1]; exact e2
        rw [if_pos e1, if_pos e2, if_pos e3]
        have := com_mid h1 h2
        omega
      · have e3 : ¬ cE a c = 0 := by rw [cE_left e1]; exact e2
        rw [if_neg e3]; exact ⟨Nat.zero_le _, Nat.zero_le _⟩
    · rw [if_neg e1] at h1
      by_cases e2 : cE b c = 0
      · have e3 : ¬ cE a c = 0 := by rw [← cE_right e2]; exact e1
        rw [if_neg e3]; exact ⟨Nat.zero_le _, Nat.zero_le _⟩
      · rw [if_neg e2] at h2
        have := cE_trans h1 h2
        rw [if_neg (by omega)]; exact ⟨Nat.zero_le _, Nat.zero_le _⟩
theorem cL_zero : ∀ {a b : Evs}, cL a b = 0 → com a b = a.length ∧ a.length = b.length
  | [], [] => fun _ => ⟨rfl, rfl⟩
  | [], _ :: _ => fun h => by simp [cL] at h
  | _ :: _, [] => fun h => by simp [cL] at h
  | a :: x, b :: y => fun h => by
    unfold cL at h
    by_cases e : cE a b = 0
    · rw [if_pos e] at h
      obtain ⟨h1, h2⟩ := cL_zero h
      unfold com; rw [if_pos e]; simp [h1, h2]
    · rw [if_neg e] at h; exact absurd h e
/-- A beginning of another one is not behind it. -/
theorem cL_begin : ∀ {a b : Evs}, com a b = a.length → cL a b ≤ 0
  | [], [] => fun _ => by simp [cL]
  | [], _ :: _ => fun _ => by simp [cL]
  | _ :: _, [] => fun h => by simp [com] at h
  | a :: x, b :: y => fun h => by
    unfold com at h
    by_cases e : cE a b = 0
    · rw [if_pos e] at h
      unfold cL; rw [if_pos e]
      exact cL_begin (by simpa using h)
    · rw [if_neg e] at h; simp at h
/-- Two walked side by side: alike up to place i. -/
def Al (a b : Evs) (i : Nat) : Prop := i ≤ a.length ∧ i ≤ b.length ∧ ∀ j x y, j < i → a[j]? = some x → b[j]? = some y → cE x y = 0
theorem Al.zero (a b : Evs) : Al a b 0 := ⟨Nat.zero_le _, Nat.zero_le _, fun _ _ _ h => absurd h (Nat.not_lt_zero _)⟩
theorem Al.succ {a b : Evs} {i : Nat} {x y : Ev} (h : Al a b i) (hx : a[i]? = some x) (hy : b[i]? = some y) (he : cE x y = 0) : Al a b (i + 1) := by
  have h1 := (List.getElem?_eq_some_iff.1 hx).1
  have h2 := (List.getElem?_eq_some_iff.1 hy).1
  refine ⟨h1, h2, fun j u v hj hu hv => ?_⟩
  by_cases c : j = i
  · subst c; rw [hx] at hu; rw [hy] at hv
    simp only [Option.some.injEq] at hu hv
    subst hu; subst hv; exact he
  · exact h.2.2 j u v (by omega) hu hv
theorem Al.drop : ∀ {a b : Evs} {i : Nat}, Al a b i → cL a b = cL (a.drop i) (b.drop i) ∧ com a b = i + com (a.drop i) (b.drop i)
  | a, b, 0 => fun _ => ⟨by simp, by simp⟩
  | [], b, i + 1 => fun h => by have := h.1; simp at this
  | _ :: _, [], i + 1 => fun h => by have := h.2.1; simp at this
  | a :: x, b :: y, i + 1 => fun h => by
    have e := h.2.2 0 a b (by omega) rfl rfl
    have ih := Al.drop (a := x) (b := y) (i := i) ⟨by have := h.1; simp at this; exact this, by have := h.2.1; simp at this; exact this, fun j u v hj hu hv => h.2.2 (j + 1) u v (by omega) (by simpa using hu) (by simpa using hv)⟩
    constructor
    · show cL (a :: x) (b :: y) = _
      rw [cL, if_pos e, ih.1]; rfl
    · show com (a :: x) (b :: y) = _
      rw [com, if_pos e, ih.2, List.drop_succ_cons, List.drop_succ_cons]; omega
theorem drop_at {a : Evs} {i : Nat} {x : Ev} (h : a[i]? = some x) : a.drop i = x :: a.drop (i + 1) := by
  have hl := (List.getElem?_eq_some_iff.1 h).1
  rw [List.drop_eq_getElem_cons hl]
  have := (List.getElem?_eq_some_iff.1 h).2
  rw [this]
theorem Al.parts {a b : Evs} {i : Nat} {x y : Ev} (h : Al a b i) (hx : a[i]? = some x) (hy : b[i]? = some y) (he : cE x y ≠ 0) : cL a b = cE x y ∧ com a b = i := by
  obtain ⟨h1, h2⟩ := h.drop
  rw [drop_at hx, drop_at hy] at h1 h2
  rw [h1, h2, cL, com, if_neg he, if_neg he]
  exact ⟨rfl, rfl⟩
theorem Al.endL {a b : Evs} (h : Al a b a.length) (hl : a.length < b.length) : cL a b = -1 ∧ com a b = a.length := by
  obtain ⟨h1, h2⟩ := h.drop
  obtain ⟨y, hy⟩ : ∃ y, b[a.length]? = some y := ⟨_, List.getElem?_eq_getElem hl⟩
  rw [List.drop_length, drop_at hy] at h1
  rw [List.drop_length, com_nil_l] at h2
  exact ⟨h1, h2⟩
theorem Al.endR {a b : Evs} (h : Al a b b.length) (hl : b.length < a.length) : cL a b = 1 ∧ com a b = b.length := by
  obtain ⟨h1, h2⟩ := h.drop
  obtain ⟨y, hy⟩ : ∃ y, a[b.length]? = some y := ⟨_, List.getElem?_eq_getElem hl⟩
  rw [List.drop_length, drop_at hy] at h1
  rw [List.drop_length, com_nil_r] at h2
  exact ⟨h1, h2⟩
theorem Al.endB {a b : Evs} (h : Al a b a.length) (hl : a.length = b.length) : cL a b = 0 ∧ com a b = a.length := by
  obtain ⟨h1, h2⟩ := h.drop
  rw [List.drop_length, hl, List.drop_length] at h1
  rw [List.drop_length, com_nil_l] at h2
  exact ⟨h1, h2⟩
theorem Al.short {a b : Evs} {i : Nat} (h : Al a b i) (hl : i = a.length ∨ i = b.length) : com a b = i := by
  rcases hl with hl | hl
  · obtain ⟨_, h2⟩ := h.drop
    rw [hl, List.drop_length, com_nil_l] at h2; omega
  · obtain ⟨_, h2⟩ := h.drop
    rw [hl, List.drop_length, com_nil_r] at h2; omega
/-- Ids that are places. -/
def Pl (a : Evs) : Prop := ∀ (i : Nat) (e : Ev), a[i]? = some e → e.id = (i : Int) + 1
theorem sk_nx : ∀ (es : Evs) (k : Nat), k ≤ es.length → (sk es k).nx = (k : Int) + 1
  | es, 0, _ => rfl
  | es, k + 1, h => by
    have he : es[k]? = some es[k] := List.getElem?_eq_getElem (by omega)
    rw [sk_succ he]
    have := sk_nx es k (by omega)
    have hr : (raw (sk es k) es[k]).nx = (sk es k).nx + 1 := by
      unfold raw
      split
      · rfl
      · split
        · rfl
        · split
          · rfl
          · split
            · rfl
            · split <;> rfl
    rw [hr, this]; omega
theorem Hist.pl {es : Evs} (h : Hist es) : Pl es := fun i e he => by
  have hl := (List.getElem?_eq_some_iff.1 he).1
  have := (h.2.1.2.1 i e hl he).2.1
  rw [sk_nx es i (by omega)] at this
  exact this
theorem Pl.same {a b : Evs} (ha : Pl a) (hb : Pl b) {i : Nat} {x y : Ev} (hx : a[i]? = some x) (hy : b[i]? = some y) : cE x y = 0 ↔ x = y := by
  constructor
  · intro h
    obtain ⟨h1, h2, h3⟩ := cE_zero h
    have h4 := ha i x hx
    have h5 := hb i y hy
    cases x; cases y; simp_all
  · intro h; subst h; exact cE_self x
/-- A history that may be told: not empty. -/
def Tl (es : Evs) : Prop := es ≠ [] ∧ Hist es
abbrev Brs := List Evs
/-- They rise, and none is a beginning of another one. -/
def Up (bs : Brs) : Prop := ∀ (i j : Nat) (a b : Evs), i < j → bs[i]? = some a → bs[j]? = some b → cL a b < 0 ∧ com a b ≠ a.length
def Ups (bs : Brs) : Prop := ∀ (i : Nat) (a b : Evs), bs[i]? = some a → bs[i + 1]? = some b → cL a b < 0 ∧ com a b ≠ a.length
theorem Ups.up {bs : Brs} (h : Ups bs) : Up bs := by
  have key : ∀ d i a b, bs[i]? = some a → bs[i + d + 1]? = some b → cL a b < 0 ∧ com a b ≠ a.length := fun d => by
    induction d with
    | zero => exact fun i a b ha hb => h i a b ha hb
    | succ d ih =>
      intro i a b ha hb
      have hl := (List.getElem?_eq_some_iff.1 hb).1
      obtain ⟨c, hc⟩ : ∃ c, bs[i + d + 1]? = some c := ⟨_, List.getElem?_eq_getElem (by omega)⟩
      obtain ⟨h1, h2⟩ := ih i a c ha hc
      obtain ⟨h3, _⟩ := h (i + d + 1) c b hc hb
      refine ⟨cL_trans h1 h3, fun e => ?_⟩
      have h5 := (com_mid h1 h3).1
      have h6 := com_le a c
      omega
  intro i j a b hij ha hb
  exact key (j - i - 1) i a b ha (by rw [show i + (j - i - 1) + 1 = j by omega]; exact hb)
theorem Up.ups {bs : Brs} (h : Up bs) : Ups bs := fun i a b ha hb => h i (i + 1) a b (by omega) ha hb
/-- Tellings that are good but for how many there are. -/
def GdU (bs : Brs) : Prop := (∀ b ∈ bs, Tl b) ∧ Up bs
def GdT (bs : Brs) : Prop := bs.length ≤ 12 ∧ GdU bs
/-- Told by one of them; one history more. -/
def told (bs : Brs) (h : Evs) : Bool := bs.any (fun b => com h b == h.length)
def lft (bs : Brs) (h : Evs) : Brs := bs.filter (fun b => !(com b h == b.length))
def plc (bs : Brs) (h : Evs) : Nat := (bs.takeWhile (fun b => decide (cL b h < 0))).length
def add (bs : Brs) (h : Evs) : Brs := if told bs h = true then bs else (lft bs h).take (plc (lft bs h) h) ++ h :: (lft bs h).drop (plc (lft bs h) h)
def mge (a b : Brs) : Brs := b.foldl add a
theorem told_iff {bs : Brs} {h : Evs} : told bs h = true ↔ ∃ b ∈ bs, com h b = h.length := by
  unfold told; simp
theorem plc_le (bs : Brs) (h : Evs) : plc bs h ≤ bs.length := (List.takeWhile_sublist _).length_le
theorem plc_lt : ∀ {bs : Brs} {h : Evs} {i : Nat} {b : Evs}, i < plc bs h → bs[i]? = some b → cL b h < 0
  | [], h, i, b => fun _ hb => by simp at hb
  | a :: bs, h, i, b => fun hi hb => by
    unfold plc at hi
    rw [List.takeWhile_cons] at hi
    by_cases ha : cL a h < 0
    · simp only [ha, decide_true, if_true, List.length_cons] at hi
      cases i with
      | zero => simp at hb; subst hb; exact ha
      | succ i => exact plc_lt (bs := bs) (i := i) (by unfold plc; omega) (by simpa using hb)
    · simp [ha] at hi
theorem plc_at : ∀ {bs : Brs} {h : Evs} {b : Evs}, bs[plc bs h]? = some b → ¬ cL b h < 0
  | [], h, b => fun hb => by simp at hb
  | a :: bs, h, b => fun hb => by
    unfold plc at hb
    rw [List.takeWhile_cons] at hb
    by_cases ha : cL a h < 0
    · simp only [ha, decide_true, if_true, List.length_cons, List.getElem?_cons_succ] at hb
      exact plc_at (bs := bs) hb
    · simp [ha] at hb; subst hb; exact ha
theorem plc_eq {bs : Brs} {h : Evs} {k : Nat} (hk : k ≤ bs.length) (h1 : ∀ i b, i < k → bs[i]? = some b → cL b h < 0) (h2 : ∀ b, bs[k]? = some b → ¬ cL b h < 0) : plc bs h = k := by
  rcases (show plc bs h < k ∨ plc bs h = k ∨ k < plc bs h by omega) with c | c | c
  · obtain ⟨b, hb⟩ : ∃ b, bs[plc bs h]? = some b := ⟨_, List.getElem?_eq_getElem (by omega)⟩
    exact absurd (h1 _ b c hb) (plc_at hb)
  · exact c
  · have := plc_le bs h
    obtain ⟨b, hb⟩ : ∃ b, bs[k]? = some b := ⟨_, List.getElem?_eq_getElem (by omega)⟩
    exact absurd (plc_lt c hb) (h2 b hb)
theorem Up.pairwise {bs : Brs} : Up bs ↔ bs.Pairwise (fun a b => cL a b < 0 ∧ com a b ≠ a.length) := by
  rw [List.pairwise_iff_getElem]
  constructor
  · intro h i j hi hj hij
    exact h i j _ _ hij (List.getElem?_eq_getElem hi) (List.getElem?_eq_getElem hj)
  · intro h i j a b hij ha hb
    obtain ⟨hi, rfl⟩ := List.getElem?_eq_some_iff.1 ha
    obtain ⟨hj, rfl⟩ := List.getElem?_eq_some_iff.1 hb
    exact h i j hi hj hij
theorem lft_up {bs : Brs} (h : Evs) (hu : Up bs) : Up (lft bs h) := by
  rw [Up.pairwise] at hu ⊢
  exact hu.sublist List.filter_sublist
/-- Neither a beginning of the other: the order of the two is strict. -/
theorem cL_ne {a h : Evs} (h1 : com a h ≠ a.length) : cL a h ≠ 0 := fun e => h1 (cL_zero e).1
theorem mem_lft {bs : Brs} {h b : Evs} : b ∈ lft bs h ↔ b ∈ bs ∧ com b h ≠ b.length := by
  unfold lft; simp
theorem add_good {bs : Brs} {h : Evs} (hg : GdU bs) (hh : Tl h) : GdU (add bs h) := by
  unfold add
  split
  · exact hg
  · rename_i ht
    have hnt : ∀ b ∈ bs, com h b ≠ h.length := fun b hb e => ht (told_iff.2 ⟨b, hb, e⟩)
    have hu := lft_up h hg.2
    refine ⟨fun b hb => ?_, ?_⟩
    · rw [List.mem_append, List.mem_cons] at hb
      rcases hb with hb | hb | hb
      · exact hg.1 b (mem_lft.1 (List.mem_of_mem_take hb)).1
      · subst hb; exact hh
      · exact hg.1 b (mem_lft.1 (List.mem_of_mem_drop hb)).1
    · have hlo : ∀ a ∈ (lft bs h).take (plc (lft bs h) h), cL a h < 0 ∧ com a h ≠ a.length := fun a ha => by
        obtain ⟨i, hi, he⟩ := List.mem_iff_getElem.1 ha
        rw [List.length_take] at hi
        rw [List.getElem_take] at he
        refine ⟨plc_lt (bs := lft bs h) (i := i) (by omega) (by rw [← he]; exact List.getElem?_eq_getElem (by omega)), (mem_lft.1 (List.mem_of_mem_take ha)).2⟩
      have hhi : ∀ a ∈ (lft bs h).drop (plc (lft bs h) h), cL h a < 0 ∧ com h a ≠ h.length := fun a ha => by
        have hm := mem_lft.1 (List.mem_of_mem_drop ha)
        refine ⟨?_, hnt a hm.1⟩
        obtain ⟨i, hi, he⟩ := List.mem_iff_getElem.1 ha
        rw [List.length_drop] at hi
        rw [List.getElem_drop] at he
        have hg1 : (lft bs h)[plc (lft bs h) h + i]? = some a := by rw [← he]; exact List.getElem?_eq_getElem (by omega)
        have key : ¬ cL a h < 0 := by
          cases i with
          | zero => exact plc_at hg1
          | succ i =>
            intro hlt
            obtain ⟨c, hc⟩ : ∃ c, (lft bs h)[plc (lft bs h) h]? = some c := ⟨_, List.getElem?_eq_getElem (by omega)⟩
            exact plc_at hc (cL_trans (hu _ _ c a (by omega) hc hg1).1 hlt)
        have h3 := cL_ne hm.2
        rw [cL_anti a h]; omega
      rw [Up.pairwise] at hu ⊢
      have hs : (lft bs h).take (plc (lft bs h) h) ++ (lft bs h).drop (plc (lft bs h) h) = lft bs h := List.take_append_drop _ _
      rw [← hs, List.pairwise_append] at hu
      rw [List.pairwise_append, List.pairwise_cons]
      refine ⟨hu.1, ⟨hhi, hu.2.1⟩, fun a ha b hb => ?_⟩
      rw [List.mem_cons] at hb
      rcases hb with hb | hb
      · subst hb; exact hlo a ha
      · exact hu.2.2 a ha b hb
theorem mge_good : ∀ {b a : Brs}, GdU a → (∀ x ∈ b, Tl x) → GdU (mge a b)
  | [], a, ha, _ => ha
  | x :: b, a, ha, hb => mge_good (b := b) (a := add a x) (add_good ha (hb x (by simp))) (fun y hy => hb y (by simp [hy]))
theorem add_len (bs : Brs) (h : Evs) : (add bs h).length ≤ bs.length + 1 := by
  unfold add
  split
  · omega
  · have h1 : (lft bs h).length ≤ bs.length := List.length_filter_le _ _
    simp
    omega
theorem mge_snoc {a b : Brs} {k : Nat} {x : Evs} (h : b[k]? = some x) : mge a (b.take (k + 1)) = add (mge a (b.take k)) x := by
  obtain ⟨hk, rfl⟩ := List.getElem?_eq_some_iff.1 h
  unfold mge
  rw [List.take_succ_eq_append_getElem hk, List.foldl_append]; rfl
theorem mge_len {a b : Brs} : ∀ k, k ≤ b.length → (mge a (b.take k)).length ≤ a.length + k
  | 0, _ => by simp [mge]
  | k + 1, h => by
    have he : b[k]? = some b[k] := List.getElem?_eq_getElem (by omega)
    rw [mge_snoc he]
    have := add_len (mge a (b.take k)) b[k]
    have := mge_len (a := a) (b := b) k (by omega)
    omega
/-- The specification's way of adding, branch by branch. -/
def ast (h : Evs) (s : Brs × Bool) (b : Evs) : Brs × Bool := if com b h = b.length then s else if 0 < cL b h ∧ s.2 = false then (s.1 ++ [h] ++ [b], true) else (s.1 ++ [b], s.2)
def afn (h : Evs) (s : Brs × Bool) : Brs := if s.2 = true then s.1 else s.1 ++ [h]
theorem afn_true (h : Evs) : ∀ (bs out : Brs), (bs.foldl (ast h) (out, true)) = (out ++ lft bs h, true)
  | [], out => by simp [lft]
  | b :: bs, out => by
    rw [List.foldl_cons]
    by_cases c : com b h = b.length
    · have : ast h (out, true) b = (out, true) := by unfold ast; rw [if_pos c]
      rw [this, afn_true h bs out]
      simp [lft, c]
    · have : ast h (out, true) b = (out ++ [b], true) := by unfold ast; rw [if_neg c, if_neg (by simp)]
      rw [this, afn_true h bs]
      simp [lft, c]
theorem afn_false (h : Evs) : ∀ (bs out : Brs), afn h (bs.foldl (ast h) (out, false)) = out ++ ((lft bs h).take (plc (lft bs h) h) ++ h :: (lft bs h).drop (plc (lft bs h) h))
  | [], out => by simp [lft, afn, plc]
  | b :: bs, out => by
    rw [List.foldl_cons]
    by_cases c : com b h = b.length
    · have h1 : ast h (out, false) b = (out, false) := by unfold ast; rw [if_pos c]
      have h2 : lft (b :: bs) h = lft bs h := by simp [lft, c]
      rw [h1, h2, afn_false h bs out]
    · have h2 : lft (b :: bs) h = b :: lft bs h := by simp [lft, c]
      rw [h2]
      have hne := cL_ne c
      by_cases d : 0 < cL b h
      · have h1 : ast h (out, false) b = (out ++ [h] ++ [b], true) := by unfold ast; rw [if_neg c, if_pos ⟨d, rfl⟩]
        have h3 : plc (b :: lft bs h) h = 0 := by
          unfold plc; rw [List.takeWhile_cons, decide_eq_false (by omega)]; simp
        rw [h1, afn_true, h3]
        simp [afn]
      · have h1 : ast h (out, false) b = (out ++ [b], false) := by unfold ast; rw [if_neg c, if_neg (by simp; omega)]
        have h3 : plc (b :: lft bs h) h = plc (lft bs h) h + 1 := by
          unfold plc; rw [List.takeWhile_cons, decide_eq_true (by omega)]; simp
        rw [h1, afn_false h bs, h3]
        simp
theorem add_fold {bs : Brs} {h : Evs} (ht : told bs h = false) : add bs h = afn h (bs.foldl (ast h) ([], false)) := by
  rw [afn_false]
  unfold add
  rw [ht]; simp
theorem fold_snoc {α : Type} (f : α → Evs → α) (s : α) {bs : Brs} {k : Nat} {b : Evs} (h : bs[k]? = some b) : (bs.take (k + 1)).foldl f s = f ((bs.take k).foldl f s) b := by
  obtain ⟨hk, rfl⟩ := List.getElem?_eq_some_iff.1 h
  rw [List.take_succ_eq_append_getElem hk, List.foldl_append]; rfl
theorem ast_len (h : Evs) : ∀ (k : Nat) (bs : Brs), k ≤ bs.length → ((bs.take k).foldl (ast h) ([], false)).1.length ≤ k + 1 ∧ (((bs.take k).foldl (ast h) ([], false)).2 = false → ((bs.take k).foldl (ast h) ([], false)).1.length ≤ k)
  | 0, bs, _ => by simp
  | k + 1, bs, hk => by
    have he : bs[k]? = some bs[k] := List.getElem?_eq_getElem (by omega)
    rw [fold_snoc _ _ he]
    obtain ⟨h1, h2⟩ := ast_len h k bs (by omega)
    generalize (bs.take k).foldl (ast h) ([], false) = s at *
    unfold ast
    split
    · exact ⟨by omega, fun e => by have := h2 e; omega⟩
    · split
      · rename_i c
        have := h2 c.2
        simp; omega
      · simp; exact ⟨h1, h2⟩
/-- The Version of the last event; the branch that counts among the first k. -/
def lv (b : Evs) : Int := match b.getLast? with | some e => e.ver | none => 0
def btr (b o : Evs) : Bool := decide (lv o < lv b) || (decide (lv o = lv b) && decide (o.length ≤ b.length))
def cur (bs : Brs) : Nat → Nat
  | 0 => 0
  | k + 1 => if btr (bs.getD k []) (bs.getD (cur bs k) []) = true then k else cur bs k
theorem cur_lt (bs : Brs) : ∀ k, cur bs (k + 1) ≤ k
  | 0 => by unfold cur; split <;> simp [cur]
  | k + 1 => by
    have := cur_lt bs k
    rw [cur]; split <;> omega
theorem getD_at {bs : Brs} {i : Nat} {b : Evs} (h : bs[i]? = some b) : bs.getD i [] = b := by simp [List.getD, h]
/-- The program's order of weights, for two of which the second stands behind the first. -/
def wgt (a b : Evs) : Bool := decide (lv a < lv b) || (decide (lv a = lv b) && (decide (a.length < b.length) || (decide (a.length = b.length) && decide (cL a b < 0))))
theorem wgt_btr {a b : Evs} (h : cL a b < 0) : wgt a b = btr b a := by
  unfold wgt btr
  rw [decide_eq_true h, Bool.and_true]
  by_cases h1 : lv a < lv b
  · rw [decide_eq_true h1]; simp
  · by_cases h2 : lv a = lv b
    · rw [decide_eq_false h1, decide_eq_true h2]
      simp only [Bool.false_or, Bool.true_and]
      rw [← Bool.decide_or]
      exact decide_eq_decide.2 (by omega)
    · rw [decide_eq_false h1, decide_eq_false h2]; simp
theorem wgt_self (a : Evs) : wgt a a = false := by unfold wgt; rw [cL_self]; simp
/-- The next one is weighed. -/
theorem cur_step {bs : Brs} (hu : Up bs) {k : Nat} {o b : Evs} (hb : bs[k]? = some b) (ho : bs[cur bs k]? = some o) (hlt : cur bs k < k ∨ k = 0) : cur bs (k + 1) = if wgt o b = true then k else cur bs k := by
  rw [cur, getD_at hb, getD_at ho]
  rcases hlt with hlt | hlt
  · rw [wgt_btr (hu _ _ o b hlt ho hb).1]
  · subst hlt
    simp only [cur]
    split <;> split <;> rfl
theorem lv_at {b : Evs} {e : Ev} (h : b[b.length - 1]? = some e) : lv b = e.ver := by
  unfold lv; rw [List.getLast?_eq_getElem?, h]
/-- How many events there are in the first k branches. -/
def mst (bs : Brs) (i : Nat) : Nat := if i = 0 then 0 else com (bs.getD (i - 1) []) (bs.getD i [])
def cnt (bs : Brs) : Nat → Nat
  | 0 => 0
  | k + 1 => cnt bs k + ((bs.getD k []).length - mst bs k)
theorem mst_le (bs : Brs) (i : Nat) : mst bs i ≤ (bs.getD i []).length := by
  unfold mst; split
  · exact Nat.zero_le _
  · exact com_le2 _ _
theorem cnt_le {bs : Brs} (h : ∀ b ∈ bs, b.length ≤ 60) : ∀ k, k ≤ bs.length → cnt bs k ≤ 60 * k
  | 0, _ => by simp [cnt]
  | k + 1, hk => by
    have he : bs[k]? = some bs[k] := List.getElem?_eq_getElem (by omega)
    have := cnt_le h k (by omega)
    have h2 := h bs[k] (List.getElem_mem _)
    rw [cnt, getD_at he]; omega
/-- The most that one of the first j branches has in common with branch i. -/
def mx (bs : Brs) (i : Nat) : Nat → Nat
  | 0 => 0
  | j + 1 => if mx bs i j < com (bs.getD j []) (bs.getD i []) then com (bs.getD j []) (bs.getD i []) else mx bs i j
theorem mx_up {bs : Brs} (hu : Up bs) {i : Nat} (hi : i < bs.length) : ∀ j, j < i → mx bs i (j + 1) = com (bs.getD j []) (bs.getD i [])
  | 0, _ => by unfold mx; simp [mx]; omega
  | j + 1, hj => by
    have ih := mx_up hu hi j (by omega)
    rw [mx, ih]
    have h0 : bs[j]? = some bs[j] := List.getElem?_eq_getElem (by omega)
    have h1 : bs[j + 1]? = some bs[j + 1] := List.getElem?_eq_getElem (by omega)
    have h2 : bs[i]? = some bs[i] := List.getElem?_eq_getElem hi
    rw [getD_at h0, getD_at h1, getD_at h2]
    have := (com_mid (hu j (j + 1) _ _ (by omega) h0 h1).1 (hu (j + 1) i _ _ hj h1 h2).1).2
    split
    · rfl
    · omega
theorem mx_mst {bs : Brs} (hu : Up bs) {i : Nat} (hi : i < bs.length) : mx bs i i = mst bs i := by
  unfold mst
  cases i with
  | zero => rfl
  | succ i => rw [if_neg (by omega), mx_up hu hi i (by omega)]; rfl
theorem mx_le (bs : Brs) (i : Nat) : ∀ j, mx bs i j ≤ (bs.getD i []).length
  | 0 => Nat.zero_le _
  | j + 1 => by
    rw [mx]; split
    · exact com_le2 _ _
    · exact mx_le bs i j
end M
end Go.Proofs.YtfkeokglifpkoaaGreatDoor
