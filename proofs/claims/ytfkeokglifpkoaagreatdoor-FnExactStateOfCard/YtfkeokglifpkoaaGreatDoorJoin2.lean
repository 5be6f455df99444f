/-
  Texts that follow one another, joined: StN, GoodAid, Rows4, StM.
-/
import Derived.Test.YtfkeokglifpkoaaGreatDoorJoin1
/-
  Texts in order, lists of names, states and which are good: plain mathematics.
-/
namespace Go.Proofs.YtfkeokglifpkoaaGreatDoor
open Go.RowKit M
namespace M
theorem bl_irr : ∀ x : List UInt8, Op.bytesLess x x = false
  | [] => rfl
  | a :: x => by simp [Op.bytesLess, bl_irr x]
theorem bl_tri : ∀ x y : List UInt8, Op.bytesLess x y = true ∨ x = y ∨ Op.bytesLess y x = true
  | [], [] => .inr (.inl rfl)
  | [], _ :: _ => .inl rfl
  | _ :: _, [] => .inr (.inr rfl)
  | a :: x, b :: y => by
    simp only [Op.bytesLess, Bool.or_eq_true, Bool.and_eq_true, decide_eq_true_eq, beq_iff_eq]
    rcases bl_tri x y with h | h | h
    · rcases (show a < b ∨ a = b ∨ b < a by rcases a with ⟨⟨a⟩⟩; rcases b with ⟨⟨b⟩⟩; simp [UInt8.lt_iff_toNat_lt, ← UInt8.toNat_inj]; omega) with k | k | k
      · exact .inl (.inl k)
      · exact .inl (.inr ⟨k, h⟩)
      · exact .inr (.inr (.inl k))
    · rcases (show a < b ∨ a = b ∨ b < a by rcases a with ⟨⟨a⟩⟩; rcases b with ⟨⟨b⟩⟩; simp [UInt8.lt_iff_toNat_lt, ← UInt8.toNat_inj]; omega) with k | k | k
      · exact .inl (.inl k)
      · exact .inr (.inl (by rw [k, h]))
      · exact .inr (.inr (.inl k))
    · rcases (show a < b ∨ a = b ∨ b < a by rcases a with ⟨⟨a⟩⟩; rcases b with ⟨⟨b⟩⟩; simp [UInt8.lt_iff_toNat_lt, ← UInt8.toNat_inj]; omega) with k | k | k
      · exact .inl (.inl k)
      · exact .inr (.inr (.inr ⟨k.symm, h⟩))
      · exact .inr (.inr (.inl k))
theorem bl_trans : ∀ x y z : List UInt8, Op.bytesLess x y = true → Op.bytesLess y z = true → Op.bytesLess x z = true
  | [], _, z => fun h1 h2 => by
    cases z with
    | nil => simp [Op.bytesLess] at h2
    | cons c z => rfl
  | a :: x, [], z => fun h1 h2 => by simp [Op.bytesLess] at h1
  | a :: x, b :: y, [] => fun h1 h2 => by simp [Op.bytesLess] at h2
  | a :: x, b :: y, c :: z => fun h1 h2 => by
    simp only [Op.bytesLess, Bool.or_eq_true, Bool.and_eq_true, decide_eq_true_eq, beq_iff_eq] at h1 h2 ⊢
    rcases h1 with h1 | ⟨h1, h1'⟩
    · rcases h2 with h2 | ⟨h2, h2'⟩
      · exact .inl (UInt8.lt_trans h1 h2)
      · subst h2; exact .inl h1
    · subst h1
      rcases h2 with h2 | ⟨h2, h2'⟩
      · exact .inl h2
      · exact .inr ⟨h2, bl_trans x y z h1' h2'⟩
/-- One text is less than another. -/
def ltS (a b : ByteArray) : Bool := Op.bytesLess a.toList b.toList
theorem toL (s : ByteArray) : s.toList = s.data.toList := ByteArray.toList_eq s
theorem toL_inj {a b : ByteArray} (h : a.toList = b.toList) : a = b := by
  rw [toL, toL] at h
  cases a; cases b; simp only [ByteArray.mk.injEq]; exact Array.toList_inj.1 h
theorem eqS (a b : ByteArray) : (a.toList == b.toList) = decide (a = b) := by
  by_cases h : a = b
  · subst h; simp
  · rw [decide_eq_false h, beq_eq_false_iff_ne]
    exact fun e => h (toL_inj e)
theorem lt_irr (a : ByteArray) : ltS a a = false := bl_irr _
theorem lt_tri (a b : ByteArray) : ltS a b = true ∨ a = b ∨ ltS b a = true := by
  rcases bl_tri a.toList b.toList with h | h | h
  · exact .inl h
  · exact .inr (.inl (toL_inj h))
  · exact .inr (.inr h)
theorem lt_trans {a b c : ByteArray} (h1 : ltS a b = true) (h2 : ltS b c = true) : ltS a c = true := bl_trans _ _ _ h1 h2
theorem lt_asym {a b : ByteArray} (h : ltS a b = true) : ltS b a = false := by
  cases h2 : ltS b a with
  | false => rfl
  | true => have := lt_trans h h2; rw [lt_irr] at this; cases this
abbrev Txs := List ByteArray
def gN (x : ByteArray) : Bool := goodName x.data.toList
theorem gN_size {x : ByteArray} (h : gN x = true) : x.size ≤ 12 := by
  unfold gN goodName at h
  simp only [Bool.and_eq_true, decide_eq_true_eq] at h
  have h1 := h.1
  rw [Array.length_toList] at h1
  exact h1
/-- A name at place i is good, and told apart from those ahead of it (r: rising, too). -/
def NmAt (r : Bool) (l : Txs) (i : Nat) : Prop := ∀ x, l[i]? = some x → gN x = true ∧ ∀ k y, k < i → l[k]? = some y → y ≠ x ∧ (r = true → k + 1 = i → ltS x y = false)
def NmUp (r : Bool) (l : Txs) (n : Nat) : Prop := ∀ i, i < n → NmAt r l i
def Nms (r : Bool) (l : Txs) : Prop := l.length ≤ 30 ∧ NmUp r l l.length
theorem NmUp.succ {r : Bool} {l : Txs} {n : Nat} (h : NmUp r l n) (h2 : NmAt r l n) : NmUp r l (n + 1) := fun i hi => by
  by_cases e : i = n
  · subst e; exact h2
  · exact h i (by omega)
theorem Nms.good {r : Bool} {l : Txs} (h : Nms r l) : ∀ x ∈ l, gN x = true := fun x hx => by
  obtain ⟨i, hi, rfl⟩ := List.mem_iff_getElem.1 hx
  exact (h.2 i hi _ (List.getElem?_eq_getElem hi)).1
theorem Nms.size {r : Bool} {l : Txs} (h : Nms r l) : ∀ x ∈ l, x.size ≤ 12 := fun x hx => gN_size (h.good x hx)
/-- Rising, one by one. -/
def Rise (l : Txs) : Prop := ∀ i x y, l[i]? = some x → l[i + 1]? = some y → ltS x y = true
theorem Nms.rise {l : Txs} (h : Nms true l) : Rise l := fun i x y hx hy => by
  have hi : i + 1 < l.length := by
    rcases Nat.lt_or_ge (i + 1) l.length with h' | h'
    · exact h'
    · rw [List.getElem?_eq_none h'] at hy; cases hy
  obtain ⟨_, h2⟩ := h.2 (i + 1) hi y hy
  obtain ⟨h3, h4⟩ := h2 i x (by omega) hx
  rcases lt_tri x y with h5 | h5 | h5
  · exact h5
  · exact absurd h5 h3
  · rw [h4 rfl rfl] at h5; cases h5
theorem Rise.lt {l : Txs} (h : Rise l) : ∀ (d i : Nat) (x y : ByteArray), l[i]? = some x → l[i + d + 1]? = some y → ltS x y = true
  | 0, i, x, y, hx, hy => h i x y hx hy
  | d + 1, i, x, y, hx, hy => by
    have hi : i + d + 1 < l.length := by
      rcases Nat.lt_or_ge (i + (d + 1) + 1) l.length with h' | h'
      · omega
      · rw [List.getElem?_eq_none h'] at hy; cases hy
    have hz : l[i + d + 1]? = some l[i + d + 1] := List.getElem?_eq_getElem hi
    exact lt_trans (Rise.lt h d i x _ hx hz) (h (i + d + 1) _ y hz (by rw [show i + d + 1 + 1 = i + (d + 1) + 1 by omega]; exact hy))
theorem Rise.lt2 {l : Txs} (h : Rise l) {i j : Nat} {x y : ByteArray} (hij : i < j) (hx : l[i]? = some x) (hy : l[j]? = some y) : ltS x y = true :=
  h.lt (j - i - 1) i x y hx (by rw [show i + (j - i - 1) + 1 = j by omega]; exact hy)
/-- The program's test of a name among timers: good, and the one ahead of it is less. -/
def TmAt (l : Txs) (i : Nat) : Prop := ∀ x, l[i]? = some x → gN x = true ∧ ∀ k y, k + 1 = i → l[k]? = some y → ltS y x = true
theorem tm_iff {l : Txs} {n : Nat} : (∀ i, i < n → TmAt l i) ↔ NmUp true l n := by
  constructor
  · intro h
    have hr : Rise (l.take n) := fun i x y hx hy => by
      rw [List.getElem?_take] at hx hy
      split at hy
      · rename_i hi
        rw [if_pos (by omega)] at hx
        exact ((h (i + 1) hi) y hy).2 i x rfl hx
      · cases hy
    intro i hi x hx
    refine ⟨(h i hi x hx).1, fun k y hk hy => ?_⟩
    have h1 := hr.lt2 hk (show (l.take n)[k]? = some y by rw [List.getElem?_take, if_pos (by omega)]; exact hy) (show (l.take n)[i]? = some x by rw [List.getElem?_take, if_pos hi]; exact hx)
    exact ⟨fun e => (by subst e; rw [lt_irr] at h1; cases h1), fun _ _ => lt_asym h1⟩
  · intro h i hi x hx
    refine ⟨(h i hi x hx).1, fun k y hk hy => ?_⟩
    obtain ⟨h3, h4⟩ := (h i hi x hx).2 k y (by omega) hy
    rcases lt_tri y x with h5 | h5 | h5
    · exact h5
    · exact absurd h5 h3
    · rw [h4 rfl hk] at h5; cases h5
theorem sg_iff (l : Txs) (i : Nat) : NmAt false l i ↔ ∀ x, l[i]? = some x → gN x = true ∧ x ∉ l.take i := by
  constructor
  · intro h x hx
    refine ⟨(h x hx).1, fun hm => ?_⟩
    obtain ⟨k, hk, e⟩ := List.mem_iff_getElem.1 hm
    rw [List.length_take] at hk
    have hkl : k < l.length := by omega
    exact ((h x hx).2 k x (by omega) (by rw [← e, List.getElem_take]; exact List.getElem?_eq_getElem hkl)).1 rfl
  · intro h x hx
    refine ⟨(h x hx).1, fun k y hk hy => ⟨fun e => ?_, fun e => by cases e⟩⟩
    subst e
    exact (h y hx).2 (List.mem_iff_getElem?.2 ⟨k, by rw [List.getElem?_take, if_pos hk]; exact hy⟩)
theorem nms_snoc {l : Txs} {x : ByteArray} (h : Nms false (l ++ [x])) : x ∉ l ∧ l.length < 30 := by
  refine ⟨fun hm => ?_, by have := h.1; simp at this; omega⟩
  have := ((sg_iff _ _).1 (h.2 l.length (by simp))) x (by simp)
  exact this.2 (by simpa using hm)
theorem nms_nil (r : Bool) : Nms r [] := ⟨Nat.zero_le _, fun i hi => absurd hi (by simp)⟩
/-- Where a text belongs in a rising list, and the list with it put there or taken away. -/
def ps (l : Txs) (x : ByteArray) : Nat := (l.takeWhile (fun y => ltS y x)).length
theorem ps_le (l : Txs) (x : ByteArray) : ps l x ≤ l.length := (List.takeWhile_sublist _).length_le
theorem ps_lt : ∀ (l : Txs) (x : ByteArray) (i : Nat) (y : ByteArray), i < ps l x → l[i]? = some y → ltS y x = true
  | [], x, i, y, h, hy => by simp at hy
  | a :: l, x, i, y, h, hy => by
    unfold ps at h
    cases ha : ltS a x with
    | false => rw [List.takeWhile_cons, ha] at h; simp at h
    | true =>
      rw [List.takeWhile_cons, ha] at h
      cases i with
      | zero => simp at hy; subst hy; exact ha
      | succ i => exact ps_lt l x i y (by simp at h; exact h) (by simpa using hy)
theorem ps_at : ∀ (l : Txs) (x y : ByteArray), l[ps l x]? = some y → ltS y x = false
  | [], x, y, hy => by simp at hy
  | a :: l, x, y, hy => by
    cases ha : ltS a x with
    | false =>
      have : ps (a :: l) x = 0 := by unfold ps; rw [List.takeWhile_cons, ha]; simp
      rw [this] at hy; simp at hy; subst hy; exact ha
    | true =>
      have : ps (a :: l) x = ps l x + 1 := by unfold ps; rw [List.takeWhile_cons, ha]; simp
      rw [this] at hy
      exact ps_at l x y (by simpa using hy)
theorem ps_gt {l : Txs} (h : Rise l) {x y : ByteArray} {i : Nat} (hi : ps l x < i) (hy : l[i]? = some y) : ltS x y = true := by
  have hl : i < l.length := by
    rcases Nat.lt_or_ge i l.length with h' | h'
    · exact h'
    · rw [List.getElem?_eq_none h'] at hy; cases hy
  have hz : l[ps l x]? = some l[ps l x] := List.getElem?_eq_getElem (by omega)
  have h1 := h.lt2 hi hz hy
  have h2 := ps_at l x _ hz
  rcases lt_tri l[ps l x] x with h3 | h3 | h3
  · rw [h3] at h2; cases h2
  · rw [← h3]; exact h1
  · exact lt_trans h3 h1
theorem ps_ge {l : Txs} (h : Rise l) {x y : ByteArray} {i : Nat} (hi : ps l x ≤ i) (hy : l[i]? = some y) : ltS y x = false := by
  by_cases e : i = ps l x
  · subst e; exact ps_at l x y hy
  · exact lt_asym (ps_gt h (by omega) hy)
def fnd (l : Txs) (x : ByteArray) : Bool := decide (l[ps l x]? = some x)
theorem fnd_iff {l : Txs} (h : Rise l) (x : ByteArray) : fnd l x = true ↔ x ∈ l := by
  unfold fnd
  rw [decide_eq_true_eq]
  constructor
  · exact fun e => List.mem_iff_getElem?.2 ⟨_, e⟩
  · intro hm
    obtain ⟨i, hi⟩ := List.mem_iff_getElem?.1 hm
    rcases (show i < ps l x ∨ i = ps l x ∨ ps l x < i by omega) with k | k | k
    · have := ps_lt l x i x k hi; rw [lt_irr] at this; cases this
    · subst k; exact hi
    · have := ps_gt h k hi; rw [lt_irr] at this; cases this
def tog (l : Txs) (x : ByteArray) : Txs := if fnd l x = true then l.take (ps l x) ++ l.drop (ps l x + 1) else l.take (ps l x) ++ x :: l.drop (ps l x)
/-- What of it is gathered behind k names. -/
def pt (l : Txs) (x : ByteArray) (k : Nat) : Txs := if k ≤ ps l x then l.take k else if fnd l x = true then l.take (ps l x) ++ (l.take k).drop (ps l x + 1) else l.take (ps l x) ++ x :: (l.take k).drop (ps l x)
def pu (l : Txs) (x : ByteArray) (k : Nat) : Bool := fnd l x || decide (ps l x < k)
theorem pt_zero (l : Txs) (x : ByteArray) : pt l x 0 = [] := by unfold pt; rw [if_pos (Nat.zero_le _)]; simp
theorem pu_zero (l : Txs) (x : ByteArray) : pu l x 0 = fnd l x := by unfold pu; simp
theorem take_snoc' {l : Txs} {k : Nat} {y : ByteArray} (hy : l[k]? = some y) : l.take (k + 1) = l.take k ++ [y] := by
  have hk : k < l.length := by
    rcases Nat.lt_or_ge k l.length with h' | h'
    · exact h'
    · rw [List.getElem?_eq_none h'] at hy; cases hy
  rw [List.getElem?_eq_getElem hk] at hy
  rw [List.take_succ_eq_append_getElem hk]
  simp at hy; rw [hy]
theorem lt_of_get {l : Txs} {k : Nat} {y : ByteArray} (hy : l[k]? = some y) : k < l.length := by
  rcases Nat.lt_or_ge k l.length with h' | h'
  · exact h'
  · rw [List.getElem?_eq_none h'] at hy; cases hy
/-- The same text: passed over. -/
theorem pt_same {l : Txs} (h : Rise l) {x : ByteArray} {k : Nat} (hy : l[k]? = some x) : pt l x (k + 1) = pt l x k ∧ pu l x (k + 1) = pu l x k := by
  have hf : fnd l x = true := (fnd_iff h x).2 (List.mem_iff_getElem?.2 ⟨k, hy⟩)
  have hp : ps l x = k := by
    rcases (show k < ps l x ∨ k = ps l x ∨ ps l x < k by omega) with c | c | c
    · have := ps_lt l x k x c hy; rw [lt_irr] at this; cases this
    · exact c.symm
    · have := ps_gt h c hy; rw [lt_irr] at this; cases this
  refine ⟨?_, by unfold pu; rw [hf]; rfl⟩
  unfold pt
  rw [hp, if_neg (by omega), if_pos hf, if_pos (Nat.le_refl _)]
  rw [List.drop_eq_nil_of_le (by rw [List.length_take]; omega)]
  simp
/-- Another one that is not greater, or behind what is put already. -/
theorem pt_other {l : Txs} {x y : ByteArray} {k : Nat} (hy : l[k]? = some y) (hne : y ≠ x) (hc : pu l x k = true ∨ ltS x y = false) : pt l x (k + 1) = pt l x k ++ [y] ∧ pu l x (k + 1) = pu l x k := by
  have hk := lt_of_get hy
  rcases (show k < ps l x ∨ k = ps l x ∨ ps l x < k by omega) with c | c | c
  · refine ⟨?_, ?_⟩
    · unfold pt; rw [if_pos (by omega), if_pos (by omega)]; exact take_snoc' hy
    · unfold pu; rw [decide_eq_false (by omega), decide_eq_false (by omega)]
  · exfalso
    have hg : ltS x y = true := by
      rcases lt_tri x y with h1 | h1 | h1
      · exact h1
      · exact absurd h1.symm hne
      · rw [c] at hy; rw [ps_at l x y hy] at h1; cases h1
    have hf : fnd l x = false := by
      unfold fnd; rw [decide_eq_false_iff_not]; rw [c] at hy; rw [hy]; simpa using hne
    rcases hc with hc | hc
    · unfold pu at hc; rw [hf, decide_eq_false (by omega)] at hc; cases hc
    · rw [hg] at hc; cases hc
  · refine ⟨?_, ?_⟩
    · unfold pt
      rw [if_neg (show ¬ k + 1 ≤ ps l x by omega), if_neg (show ¬ k ≤ ps l x by omega), take_snoc' hy]
      split
      · rw [List.drop_append_of_le_length (by rw [List.length_take]; omega), List.append_assoc]
      · rw [List.drop_append_of_le_length (by rw [List.length_take]; omega)]; simp
    · unfold pu; rw [decide_eq_true (by omega), decide_eq_true (by omega)]
/-- The first one that is greater: the text is put ahead of it. -/
theorem pt_put {l : Txs} {x y : ByteArray} {k : Nat} (hy : l[k]? = some y) (hc : pu l x k = false) (hg : ltS x y = true) : pt l x (k + 1) = pt l x k ++ [x] ++ [y] ∧ pu l x (k + 1) = true := by
  have hk := lt_of_get hy
  have hf : fnd l x = false := by unfold pu at hc; simp at hc; simp [hc.1]
  have hkp : k ≤ ps l x := by unfold pu at hc; simp at hc; exact hc.2
  have e : ps l x = k := by
    rcases Nat.lt_or_ge k (ps l x) with c | c
    · have := ps_lt l x k y c hy; rw [lt_asym hg] at this; cases this
    · omega
  refine ⟨?_, by unfold pu; rw [decide_eq_true (by omega), Bool.or_true]⟩
  unfold pt
  rw [e, if_neg (by omega), if_neg (by rw [hf]; simp), if_pos (Nat.le_refl _), take_snoc' hy]
  rw [List.drop_append_of_le_length (by rw [List.length_take]; omega), List.drop_eq_nil_of_le (by rw [List.length_take]; omega)]
  simp
theorem pt_end_put {l : Txs} {x : ByteArray} (hc : pu l x l.length = true) : pt l x l.length = tog l x := by
  unfold pt tog
  have hp := ps_le l x
  by_cases hf : fnd l x = true
  · have : ps l x < l.length := by
      unfold fnd at hf; simp at hf
      exact lt_of_get hf
    rw [if_neg (by omega), if_pos hf, if_pos hf, List.take_length]
  · have : ps l x < l.length := by
      unfold pu at hc; simp at hc
      rcases hc with hc | hc
      · exact absurd hc hf
      · exact hc
    rw [if_neg (by omega), if_neg hf, if_neg hf, List.take_length]
theorem pt_end_new {l : Txs} {x : ByteArray} (hc : pu l x l.length = false) : pt l x l.length ++ [x] = tog l x := by
  unfold pu at hc
  simp at hc
  have hp := ps_le l x
  have e : ps l x = l.length := by omega
  unfold pt tog
  rw [e, if_pos (Nat.le_refl _), if_neg (by simp [hc.1])]
  simp
theorem tog_len (l : Txs) (x : ByteArray) : (tog l x).length ≤ l.length + 1 := by
  unfold tog; split <;> simp <;> omega
theorem pt_len (l : Txs) (x : ByteArray) (k : Nat) : (pt l x k).length ≤ l.length + 1 := by
  unfold pt; split
  · simp; omega
  · split <;> simp <;> omega
/-- A bool that tells whether. -/
def BP (b : Bool) (p : Prop) : Prop := b = true ↔ p
theorem bp_ex (p : Prop) : ∃ b, BP b p := by
  rcases Classical.em p with h | h
  · exact ⟨true, ⟨fun _ => h, fun _ => rfl⟩⟩
  · exact ⟨false, ⟨fun e => (by cases e), fun e => absurd e h⟩⟩
theorem BP.yes {b : Bool} {p : Prop} (h : BP b p) (hp : p) : b = true := h.2 hp
theorem BP.no {b : Bool} {p : Prop} (h : BP b p) (hp : ¬ p) : b = false := by
  cases b with
  | false => rfl
  | true => exact absurd (h.1 rfl) hp
/-- A state. -/
structure St where
  st : Int
  nx : Int
  ca : Bool
  dn : Int
  sg : Txs
  tm : Txs
def GoodSt (s : St) : Prop := (1 ≤ s.nx ∧ s.nx ≤ 1001) ∧ (0 ≤ s.dn ∧ s.dn ≤ 1000) ∧ Nms false s.sg ∧ Nms true s.tm ∧ ((s.st = 0 ∧ s.nx = 1 ∧ s.ca = false ∧ s.dn = 0 ∧ s.sg = [] ∧ s.tm = []) ∨ ((s.st = 1 ∨ s.st = 2) ∧ 1 < s.nx))
def st0 : St := ⟨0, 1, false, 0, [], []⟩
def zst : St := ⟨0, 0, false, 0, [], []⟩
theorem good0 : GoodSt st0 := ⟨⟨by decide, by decide⟩, ⟨by decide, by decide⟩, nms_nil _, nms_nil _, .inl ⟨rfl, rfl, rfl, rfl, rfl, rfl⟩⟩
end M
end Go.Proofs.YtfkeokglifpkoaaGreatDoor

/-
  The law's own helpers on one event: how many letters are left, and the event handed on as it is.
-/
namespace Go.Proofs.YtfkeokglifpkoaaGreatDoor
open Go.RowKit M

theorem sz_yes (id ver kind : Int) (name : ByteArray) (left : Int) (w : World) (h0 : 0 ≤ left) (h1 : left ≤ 1048576) (hn : (name.size : Int) ≤ left) :
    Calls Tryz.prog 198 #[ev id ver kind name, .int .i64 left] w fun e w' => e = .returned (.int .i64 (left - name.size)) ∧ Below w.heap.size w w' := by
  have hge : ¬ (left - (name.size : Int) < 0) := by omega
  go_enter Tryz.func198, Tryz.ntmps198
  go_wp2
  go_ret
  exact ⟨rfl, (Below.refl _ _).alloc (Nat.le_refl _) _⟩

theorem sz_no (id ver kind : Int) (name : ByteArray) (left : Int) (w : World) (hs : name.size ≤ maxLen) (h0 : 0 ≤ left) (h1 : left ≤ 1048576) (hn : left < (name.size : Int)) :
    Calls Tryz.prog 198 #[ev id ver kind name, .int .i64 left] w fun e w' => e = .returned (.int .i64 (-1)) ∧ Below w.heap.size w w' := by
  unfold maxLen at hs
  have hge : (left - (name.size : Int) < 0) := by omega
  go_enter Tryz.func198, Tryz.ntmps198
  go_wp2
  go_ret
  exact ⟨rfl, (Below.refl _ _).alloc (Nat.le_refl _) _⟩

theorem to_event (id ver kind : Int) (name : ByteArray) (w : World) :
    Calls Tryz.prog 199 #[ev id ver kind name] w fun e w' => e = .returned (ev id ver kind name) ∧ Below w.heap.size w w' := by
  go_enter Tryz.func199, Tryz.ntmps199
  go_wp2
  exact bodyPost_ret (v := ev id ver kind name) (by simp [results, Tryz.results199, go_sem]) rfl ⟨rfl, (((Below.refl _ _).alloc (Nat.le_refl _) _).alloc (by simp) _).alloc (by simp; omega) _⟩
end Go.Proofs.YtfkeokglifpkoaaGreatDoor

/-
  Slices of events in memory: what their cells hold, and what keeps them.
-/
namespace Go.Proofs.YtfkeokglifpkoaaGreatDoor
open Go.RowKit M
namespace M
structure Ev where
  id : Int
  ver : Int
  kind : Int
  name : ByteArray
def Ev.v (e : Ev) : Value := ev e.id e.ver e.kind e.name
def EvAt (w : World) (b o : Nat) (e : Ev) : Prop :=
  w.cell? ⟨b, o, none⟩ = some (.int .i64 e.id) ∧ w.cell? ⟨b, o + 1, none⟩ = some (.int .i64 e.ver) ∧ w.cell? ⟨b, o + 2, none⟩ = some (.int .i64 e.kind) ∧ w.cell? ⟨b, o + 3, none⟩ = some (.string e.name)
def Row (w : World) (b off : Nat) (es : List Ev) : Prop := ∀ i e, es[i]? = some e → EvAt w b (off + i * 4) e
def SliceOf (w : World) (v : Value) (es : List Ev) : Prop :=
  ∃ a cap, v = .slice a es.length cap ∧ (es ≠ [] → ∃ b off, a = some ⟨b, off, none⟩ ∧ b < w.heap.size ∧ Row w b off es)
theorem EvAt.below {w w' : World} {b o B : Nat} {e : Ev} (h : EvAt w b o e) (hb : Below B w w') (hB : b < B) : EvAt w' b o e := by
  obtain ⟨h0, h1, h2, h3⟩ := h
  exact ⟨(hb.cell hB).trans h0, (hb.cell hB).trans h1, (hb.cell hB).trans h2, (hb.cell hB).trans h3⟩
theorem Row.below {w w' : World} {b off B : Nat} {es : List Ev} (h : Row w b off es) (hb : Below B w w') (hB : b < B) : Row w' b off es :=
  fun i e hi => (h i e hi).below hb hB
theorem SliceOf.below {w w' : World} {v : Value} {es : List Ev} (h : SliceOf w v es) (hb : Below w.heap.size w w') : SliceOf w' v es := by
  obtain ⟨a, cap, hv, hr⟩ := h
  refine ⟨a, cap, hv, fun hne => ?_⟩
  obtain ⟨b, off, ha, hlt, hrow⟩ := hr hne
  exact ⟨b, off, ha, Nat.lt_of_lt_of_le hlt hb.size, hrow.below hb hlt⟩
def tot : List Ev → Nat
  | [] => 0
  | e :: r => e.name.size + tot r
theorem tot_take : ∀ (es : List Ev) (k : Nat) (e : Ev), es[k]? = some e → tot (es.take (k + 1)) = tot (es.take k) + e.name.size
  | [], k, e, h => by simp at h
  | x :: r, 0, e, h => by simp at h; subst h; simp [tot]
  | x :: r, k + 1, e, h => by
    have := tot_take r k e (by simpa using h)
    simp only [List.take_succ_cons, tot]
    omega
theorem tot_take_le : ∀ (es : List Ev) (k : Nat), tot (es.take k) ≤ tot es
  | [], k => by simp [tot]
  | x :: r, 0 => by simp [tot]
  | x :: r, k + 1 => by
    have := tot_take_le r k
    simp only [List.take_succ_cons, tot]
    omega
end M

set_option maxHeartbeats 1000000 in
theorem sz_all_yes (v : Value) (es : List Ev) (w : World) (hv : SliceOf w v es) (hl : es.length + tot es ≤ 1048576) :
    Calls Tryz.prog 173 #[v, .int .i64 1048576] w fun e w' => e = .returned (.int .i64 (1048576 - (es.length : Int) - (tot es : Nat))) ∧ Below w.heap.size w w' := by
  obtain ⟨a, cap, rfl, hr⟩ := hv
  have hge : ¬ (1048576 - (es.length : Int) < 0) := by omega
  by_cases he : es = []
  · subst he
    go_enter Tryz.func173, Tryz.ntmps173
    go_wp2
    refine wp_loop_rounds 1 ?_; rw [rounds_succ]
    go_wp2
    go_ret
    exact ⟨rfl, Below.refl _ _⟩
  · obtain ⟨b, off, rfl, hlt, hrow⟩ := hr he
    clear hr he
    go_enter Tryz.func173, Tryz.ntmps173
    go_wp2
    go_loopw [1, 5] (fun x i wr => ∃ k : Nat, k ≤ es.length ∧ i = .int .i64 k ∧ x = .int .i64 (1048576 - (es.length : Int) - (tot (es.take k) : Nat)) ∧ Below w.heap.size w wr) (fun _ i _ => es.length - (intOf i).toNat)
    case atStart => exact ⟨0, Nat.zero_le _, rfl, by simp [tot], Below.refl _ _⟩
    case round =>
      obtain ⟨k, hk, rfl, rfl, hbw⟩ := hrel
      by_cases hlt2 : k < es.length
      · obtain ⟨e, he⟩ : ∃ e, es[k]? = some e := ⟨es[k], List.getElem?_eq_getElem hlt2⟩
        obtain ⟨c0, c1, c2, c3⟩ := (hrow k e he).below hbw hlt
        have ht := tot_take es k e he
        have htl := tot_take_le es (k + 1)
        have HT := hide ht
        have hge2 : ¬ (1048576 - (es.length : Int) - ((tot (es.take k) : Nat) : Int) - (e.name.size : Int) < 0) := by omega
        go_wp2_with fail
        refine (sz_yes _ _ _ _ _ _ (by omega) (by omega) (by omega)).mono ?_
        rintro e' w2 ⟨rfl, hb2⟩
        have hbw2 := hbw.trans (hb2.mono hbw.size)
        clear hb2 c0 c1 c2 c3 ht
        go_wp2
        go_roundw
        case rel => exact ⟨k + 1, by omega, by go_num, by rw [HT.out]; go_num, hbw2⟩
        case measure => simp [intOf]; omega
      · go_wp2
        go_ret
        exact ⟨ret_int (by rw [List.take_of_length_le (by omega)]), hbw⟩

set_option maxHeartbeats 1000000 in
theorem sz_all_no (v : Value) (es : List Ev) (w : World) (hv : SliceOf w v es) (hlen : es.length ≤ maxLen) (hnm : ∀ e ∈ es, e.name.size ≤ maxLen) (hl : 1048576 < es.length + tot es) :
    Calls Tryz.prog 173 #[v, .int .i64 1048576] w fun e w' => e = .returned (.int .i64 (-1)) ∧ Below w.heap.size w w' := by
  obtain ⟨a, cap, rfl, hr⟩ := hv
  have hlen' := hlen
  unfold maxLen at hlen
  by_cases hbig : 1048576 < es.length
  · have hge : (1048576 - (es.length : Int) < 0) := by omega
    go_enter Tryz.func173, Tryz.ntmps173
    go_wp2
    go_ret
    exact ⟨rfl, Below.refl _ _⟩
  · have hge : ¬ (1048576 - (es.length : Int) < 0) := by omega
    have he : es ≠ [] := by intro h; subst h; simp [tot] at hl
    obtain ⟨b, off, rfl, hlt, hrow⟩ := hr he
    clear hr he
    go_enter Tryz.func173, Tryz.ntmps173
    go_wp2
    go_loopw [1, 5] (fun x i wr => ∃ k : Nat, k ≤ es.length ∧ i = .int .i64 k ∧ x = .int .i64 (1048576 - (es.length : Int) - (tot (es.take k) : Nat)) ∧ es.length + tot (es.take k) ≤ 1048576 ∧ Below w.heap.size w wr) (fun _ i _ => es.length - (intOf i).toNat)
    case atStart => exact ⟨0, Nat.zero_le _, rfl, by simp [tot], by simp [tot]; omega, Below.refl _ _⟩
    case round =>
      obtain ⟨k, hk, rfl, rfl, hfit, hbw⟩ := hrel
      by_cases hlt2 : k < es.length
      · obtain ⟨e, he⟩ : ∃ e, es[k]? = some e := ⟨es[k], List.getElem?_eq_getElem hlt2⟩
        obtain ⟨c0, c1, c2, c3⟩ := (hrow k e he).below hbw hlt
        have HT := hide (tot_take es k e he)
        have hne := hnm e (List.mem_of_getElem? he)
        by_cases hfit2 : es.length + tot (es.take k) + e.name.size ≤ 1048576
        · have hge2 : ¬ (1048576 - (es.length : Int) - ((tot (es.take k) : Nat) : Int) - (e.name.size : Int) < 0) := by omega
          go_wp2_with fail
          refine (sz_yes _ _ _ _ _ _ (by omega) (by omega) (by omega)).mono ?_
          rintro e' w2 ⟨rfl, hb2⟩
          have hbw2 := hbw.trans (hb2.mono hbw.size)
          clear hb2 c0 c1 c2 c3
          go_wp2
          go_roundw
          case rel => exact ⟨k + 1, by omega, by go_num, by rw [HT.out]; go_num, by rw [HT.out]; omega, hbw2⟩
          case measure => simp [intOf]; omega
        · have hm1 : ((-1 : Int) < 0) := by omega
          go_wp2_with fail
          refine (sz_no _ _ _ _ _ _ hne (by omega) (by omega) (by omega)).mono ?_
          rintro e' w2 ⟨rfl, hb2⟩
          have hbw2 := hbw.trans (hb2.mono hbw.size)
          clear hb2 c0 c1 c2 c3
          go_wp2
          go_ret
          exact ⟨rfl, hbw2⟩
      · exfalso
        rw [List.take_of_length_le (by omega)] at hfit
        omega

namespace M
/-- The cells of some events, one behind the other. -/
def cellsE : List Ev → List Value
  | [] => []
  | e :: r => .int .i64 e.id :: .int .i64 e.ver :: .int .i64 e.kind :: .string e.name :: cellsE r
theorem cellsE_len : ∀ es : List Ev, (cellsE es).length = es.length * 4
  | [] => rfl
  | e :: r => by simp [cellsE, cellsE_len r]; omega
theorem cellsE_at : ∀ (es : List Ev) (i : Nat) (e : Ev), es[i]? = some e → (cellsE es)[i * 4]? = some (.int .i64 e.id) ∧ (cellsE es)[i * 4 + 1]? = some (.int .i64 e.ver) ∧ (cellsE es)[i * 4 + 2]? = some (.int .i64 e.kind) ∧ (cellsE es)[i * 4 + 3]? = some (.string e.name)
  | [], i, e, h => by simp at h
  | x :: r, 0, e, h => by simp at h; subst h; simp [cellsE]
  | x :: r, i + 1, e, h => by
    obtain ⟨a, b, c, d⟩ := cellsE_at r i e (by simpa using h)
    have q : (i + 1) * 4 = i * 4 + 1 + 1 + 1 + 1 := by omega
    rw [q]
    simp only [cellsE, List.getElem?_cons_succ, a, b, c, d, and_self]
theorem cellsE_append : ∀ a b : List Ev, cellsE (a ++ b) = cellsE a ++ cellsE b
  | [], b => rfl
  | e :: r, b => by simp [cellsE, cellsE_append r b]
theorem row_of_block {w : World} {b : Nat} {es : List Ev} {rest : List Value} {t : TypeId} {fr : Nat × Nat} (h : w.heap[b]? = some (.cells (cellsE es ++ rest).toArray t fr)) : Row w b 0 es := by
  intro i e hi
  obtain ⟨a, b', c, d⟩ := cellsE_at es i e hi
  have hil : i < es.length := by
    rcases Nat.lt_or_ge i es.length with h' | h'
    · exact h'
    · rw [List.getElem?_eq_none h'] at hi; cases hi
  have hl := cellsE_len es
  have q : ∀ j, i * 4 + j < es.length * 4 → w.cell? ⟨b, 0 + i * 4 + j, none⟩ = (cellsE es)[i * 4 + j]? := fun j hj => by
    simp only [World.cell?, h, Nat.zero_add, List.getElem?_toArray]
    rw [List.getElem?_append_left (by omega)]; rfl
  exact ⟨(q 0 (by omega)).trans a, (q 1 (by omega)).trans b', (q 2 (by omega)).trans c, (q 3 (by omega)).trans d⟩
end M
end Go.Proofs.YtfkeokglifpkoaaGreatDoor

/-
  The mathematics of states that events make: what an event makes of a state, whether it may come, and how many events may.
-/
namespace Go.Proofs.YtfkeokglifpkoaaGreatDoor
open Go.RowKit M
namespace M
/-- What an event makes of a state, where it may come. -/
def raw (s : St) (e : Ev) : St :=
  if e.kind = 1 then ⟨1, s.nx + 1, s.ca, s.dn, s.sg, s.tm⟩
  else if e.kind = 2 then ⟨s.st, s.nx + 1, s.ca, s.dn, s.sg ++ [e.name], s.tm⟩
  else if e.kind = 3 then ⟨s.st, s.nx + 1, s.ca, s.dn + 1, s.sg, s.tm⟩
  else if e.kind = 4 then ⟨s.st, s.nx + 1, s.ca, s.dn, s.sg, tog s.tm e.name⟩
  else if e.kind = 5 then ⟨s.st, s.nx + 1, true, s.dn, s.sg, s.tm⟩
  else ⟨2, s.nx + 1, s.ca, s.dn, s.sg, []⟩
def Ev.gd (e : Ev) : Bool := goodB e.id e.ver e.kind e.name
def May (s : St) (e : Ev) : Prop := e.gd = true ∧ e.id = s.nx ∧ s.st = (if e.kind = 1 then 0 else 1) ∧ (e.kind = 5 → s.ca = false) ∧ GoodSt (raw s e)
/-- The state behind the first k events. -/
def sk (es : List Ev) (k : Nat) : St := (es.take k).foldl raw st0
theorem sk_zero (es : List Ev) : sk es 0 = st0 := rfl
theorem sk_succ {es : List Ev} {k : Nat} {e : Ev} (h : es[k]? = some e) : sk es (k + 1) = raw (sk es k) e := by
  have hk : k < es.length := by
    rcases Nat.lt_or_ge k es.length with h' | h'
    · exact h'
    · rw [List.getElem?_eq_none h'] at h; cases h
  rw [List.getElem?_eq_getElem hk] at h
  simp only [Option.some.injEq] at h
  unfold sk
  rw [List.take_succ_eq_append_getElem hk, List.foldl_append, h]; rfl
def AllM (es : List Ev) (k : Nat) : Prop := ∀ i e, i < k → es[i]? = some e → May (sk es i) e
theorem AllM.succ {es : List Ev} {k : Nat} {e : Ev} (h : AllM es k) (he : es[k]? = some e) (hm : May (sk es k) e) : AllM es (k + 1) := fun i x hi hx => by
  by_cases c : i = k
  · subst c; rw [he] at hx; simp at hx; subst hx; exact hm
  · exact h i x (by omega) hx
theorem AllM.good {es : List Ev} : ∀ {k : Nat}, AllM es k → k ≤ es.length → GoodSt (sk es k)
  | 0, _, _ => good0
  | k + 1, h, hk => by
    have he : es[k]? = some es[k] := List.getElem?_eq_getElem (by omega)
    rw [sk_succ he]
    exact (h k _ (by omega) he).2.2.2.2
/-- Just k events may come. -/
def End (es : List Ev) (k : Nat) : Prop := k ≤ es.length ∧ AllM es k ∧ ∀ e, es[k]? = some e → ¬ May (sk es k) e
theorem End.uniq {es : List Ev} {k j : Nat} (h : End es k) (h2 : End es j) : k = j := by
  have key : ∀ {k j : Nat}, End es k → End es j → ¬ k < j := fun {k j} h h2 c => by
    have hk : k < es.length := by have := h2.1; omega
    have he : es[k]? = some es[k] := List.getElem?_eq_getElem hk
    exact h.2.2 _ he (h2.2.1 k _ c he)
  have a := key h h2
  have b := key h2 h
  omega
theorem End.ex (es : List Ev) : ∃ k, End es k := by
  have key : ∀ d k, k + d = es.length → AllM es k → ∃ k, End es k := fun d => by
    induction d with
    | zero => exact fun k hk h => ⟨k, by omega, h, fun e he => by rw [List.getElem?_eq_none (by omega)] at he; cases he⟩
    | succ d ih =>
      intro k hk h
      have he : es[k]? = some es[k] := List.getElem?_eq_getElem (by omega)
      by_cases c : May (sk es k) es[k]
      · exact ih (k + 1) (by omega) (h.succ he c)
      · exact ⟨k, by omega, h, fun e h' => by rw [he] at h'; simp at h'; subst h'; exact c⟩
  exact key es.length 0 (by omega) (fun i e hi => by omega)
/-- Versions that do not fall. -/
def Vup (es : List Ev) (n : Nat) : Prop := ∀ i d e, i + 1 < n → es[i]? = some d → es[i + 1]? = some e → d.ver ≤ e.ver
def Hist (es : List Ev) : Prop := es.length ≤ 60 ∧ End es es.length ∧ Vup es es.length
end M
end Go.Proofs.YtfkeokglifpkoaaGreatDoor
