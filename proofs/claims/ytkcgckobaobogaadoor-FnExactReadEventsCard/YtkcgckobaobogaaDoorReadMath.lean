/-
  Plain mathematics of reading an event: cuts at points, numerals, and that a good event's text has one reading. No conditions.
-/
import Derived.Test.YtkcgckobaobogaaDoorBytes
import Derived.Lib.Split
import Derived.Lib.AtoiAll
import Derived.Lib.IndexBytes
namespace Go.Proofs.YtkcgckobaobogaaDoor.M
def nd (c : UInt8) : Bool := c != 46
def cutA (l : List UInt8) : List UInt8 := l.takeWhile nd
def cutB (l : List UInt8) : List UInt8 := (l.dropWhile nd).tail
def hasDot (l : List UInt8) : Bool := l.any (fun c => c == 46)

theorem index_cut : ∀ l : List UInt8, (Lib.indexByte l 46 = -1 ∧ hasDot l = false ∧ cutA l = l ∧ cutB l = []) ∨ (Lib.indexByte l 46 = ((cutA l).length : Int) ∧ hasDot l = true ∧ l = cutA l ++ 46 :: cutB l)
  | [] => .inl ⟨rfl, rfl, rfl, rfl⟩
  | b :: l => by
    by_cases hb : b = 46
    · subst hb
      right
      refine ⟨by simp [Lib.indexByte, cutA, nd], by simp [hasDot], by simp [cutA, cutB, nd]⟩
    · have hn : nd b = true := by simp [nd, hb]
      have h1 : cutA (b :: l) = b :: cutA l := by simp [cutA, hn]
      have h2 : cutB (b :: l) = cutB l := by simp [cutB, hn]
      have h3 : hasDot (b :: l) = hasDot l := by simp [hasDot, hb]
      have h4 : Lib.indexByte (b :: l) 46 = if Lib.indexByte l 46 == -1 then -1 else Lib.indexByte l 46 + 1 := by
        simp [Lib.indexByte, hb]
      rcases index_cut l with ⟨e1, e2, e3, e4⟩ | ⟨e1, e2, e3⟩
      · left
        exact ⟨by rw [h4, e1]; rfl, by rw [h3, e2], by rw [h1, e3], by rw [h2, e4]⟩
      · right
        refine ⟨?_, by rw [h3, e2], by rw [h1, h2, List.cons_append, ← e3]⟩
        rw [h4, e1, if_neg (by simp), h1]
        simp

theorem cut_of (a b : List UInt8) (ha : ∀ c ∈ a, nd c = true) : cutA (a ++ 46 :: b) = a ∧ cutB (a ++ 46 :: b) = b ∧ hasDot (a ++ 46 :: b) = true := by
  refine ⟨?_, ?_, by simp [hasDot]⟩
  · unfold cutA
    rw [List.takeWhile_append_of_pos ha]
    simp [nd]
  · unfold cutB
    rw [List.dropWhile_append_of_pos ha]
    simp [nd]

def sp : Nat → List UInt8 → List (List UInt8)
  | 0, l => [l]
  | k + 1, l => if hasDot l then cutA l :: sp k (cutB l) else [l]

theorem sp_len : ∀ (k : Nat) (l : List UInt8), (sp k l).length ≤ k + 1
  | 0, _ => Nat.le_refl _
  | k + 1, l => by
    unfold sp
    split
    · have := sp_len k (cutB l); simp; omega
    · simp

theorem splitK_sp : ∀ (k : Nat) (l : List UInt8), Lib.splitK [46] 0 k l = sp k l
  | 0, _ => rfl
  | k + 1, l => by
    unfold Lib.splitK sp
    simp only [Lib.index_one]
    rcases index_cut l with ⟨e1, e2, _, _⟩ | ⟨e1, e2, e3⟩
    · rw [e1, e2]; rfl
    · rw [e1, e2, if_neg (by simp), if_pos rfl]
      have t1 : ((cutA l).length : Int).toNat = (cutA l).length := by omega
      have g : ∀ a b x : List UInt8, x = a ++ 46 :: b → x.take (a.length + 0) = a ∧ x.drop (a.length + [(46 : UInt8)].length) = b := by
        intro a b x hx
        subst hx
        exact ⟨by rw [Nat.add_zero, List.take_left], by rw [← List.drop_drop, List.drop_left]; rfl⟩
      obtain ⟨t2, t3⟩ := g _ _ _ e3
      rw [t1, t2, t3, splitK_sp k (cutB l)]

theorem sp_join : ∀ (k : Nat) (l : List UInt8) (p : List UInt8) (r : List (List UInt8)), sp (k + 1) l = p :: r → r ≠ [] → l = p ++ 46 :: cutB l ∧ sp k (cutB l) = r := by
  intro k l p r h hr
  unfold sp at h
  split at h
  · rename_i hd
    simp only [List.cons.injEq] at h
    rcases index_cut l with ⟨_, e2, _, _⟩ | ⟨_, _, e3⟩
    · rw [e2] at hd; cases hd
    · exact ⟨by rw [← h.1]; exact e3, h.2⟩
  · simp only [List.cons.injEq] at h
    exact absurd h.2.symm hr

theorem sp_four (k : Nat) (hk : k ≤ 4) (l p0 p1 p2 p3 p4 : List UInt8) (h : sp k l = [p0, p1, p2, p3, p4]) : l = p0 ++ 46 :: (p1 ++ 46 :: (p2 ++ 46 :: (p3 ++ 46 :: p4))) := by
  have hl := sp_len k l
  rw [h] at hl
  simp at hl
  obtain rfl : k = 4 := by omega
  obtain ⟨a0, h1⟩ := sp_join 3 l p0 _ h (by simp)
  obtain ⟨a1, h2⟩ := sp_join 2 _ p1 _ h1 (by simp)
  obtain ⟨a2, h3⟩ := sp_join 1 _ p2 _ h2 (by simp)
  obtain ⟨a3, h4⟩ := sp_join 0 _ p3 _ h3 (by simp)
  simp only [sp, List.cons.injEq, and_true] at h4
  rw [h4] at a3
  rw [a3] at a2
  rw [a2] at a1
  rw [a1] at a0
  exact a0

/-- The digits of a numeral. -/
def dg (c : UInt8) : Bool := decide (48 ≤ c.toNat) && decide (c.toNat ≤ 57)
def val (acc : Nat) (l : List UInt8) : Nat := l.foldl (fun n c => 10 * n + (c.toNat - 48)) acc

theorem dec_facts (n : Nat) : (∀ c ∈ Lib.decDigits n, dg c = true) ∧ val 0 (Lib.decDigits n) = n ∧ Lib.decDigits n ≠ [] ∧ (1 ≤ n → ∃ c r, Lib.decDigits n = c :: r ∧ c.toNat ≠ 48) := by
  induction n using Nat.strongRecOn with
  | ind n ih =>
    by_cases h : n < 10
    · rw [Lib.decDigits_one h]
      have e : (UInt8.ofNat (48 + n)).toNat = 48 + n := by simp; omega
      refine ⟨?_, ?_, by simp, ?_⟩
      · intro c hc; simp only [List.mem_singleton] at hc; subst hc; simp only [dg, e]; simp; omega
      · simp only [val, List.foldl_cons, List.foldl_nil, e]; omega
      · intro h1; exact ⟨_, _, rfl, by rw [e]; omega⟩
    · obtain ⟨i1, i2, i3, i4⟩ := ih (n / 10) (by omega)
      rw [Lib.decDigits.eq_1 n, dif_neg h]
      have e : (UInt8.ofNat (48 + n % 10)).toNat = 48 + n % 10 := by simp; omega
      refine ⟨?_, ?_, by simp, ?_⟩
      · intro c hc
        rcases List.mem_append.1 hc with hc | hc
        · exact i1 c hc
        · simp only [List.mem_singleton] at hc; subst hc; simp only [dg, e]; simp; omega
      · unfold val at i2 ⊢
        rw [List.foldl_append, i2]
        simp only [List.foldl_cons, List.foldl_nil, e]; omega
      · intro _
        obtain ⟨c, r, hc, hne⟩ := i4 (by omega)
        exact ⟨c, r ++ [UInt8.ofNat (48 + n % 10)], by rw [hc]; rfl, hne⟩

theorem dg_nd {c : UInt8} (h : dg c = true) : nd c = true := by
  unfold dg at h; simp at h
  simp only [nd, bne_iff_ne, ne_eq]
  intro e; subst e; simp at h
theorem nb_nd {c : UInt8} (h : nb c.toNat = true) : nd c = true := by
  simp only [nd, bne_iff_ne, ne_eq]
  intro e; subst e; exact absurd h (by decide)

theorem val_mono : ∀ (l : List UInt8) (acc : Nat), acc ≤ val acc l
  | [], _ => Nat.le_refl _
  | c :: r, acc => by
    have := val_mono r (10 * acc + (c.toNat - 48))
    show acc ≤ val (10 * acc + (c.toNat - 48)) r
    omega

theorem parse_val : ∀ (l : List UInt8) (acc : Nat), (∀ c ∈ l, dg c = true) → val acc l ≤ 1000000000 → Lib.parseUint10 acc l = .ok (val acc l)
  | [], _, _, _ => rfl
  | c :: r, acc, hd, hv => by
    have hc := hd c (by simp)
    unfold dg at hc; simp at hc
    have hm := val_mono r (10 * acc + (c.toNat - 48))
    have hv' : val (10 * acc + (c.toNat - 48)) r ≤ 1000000000 := hv
    unfold Lib.parseUint10
    rw [if_pos ⟨hc.1, hc.2⟩, if_neg (by omega), if_neg (by omega)]
    have e : acc * 10 + (c.toNat - 48) = 10 * acc + (c.toNat - 48) := by omega
    rw [e, parse_val r _ (fun x hx => hd x (by simp [hx])) hv']
    rfl

theorem atoi_dec (n : Nat) (h : n ≤ 1000000) : Lib.atoiAll (Lib.decDigits n) = .ok (n : Int) := by
  obtain ⟨h1, h2, h3, _⟩ := dec_facts n
  cases hl : Lib.decDigits n with
  | nil => exact absurd hl h3
  | cons c r =>
    rw [hl] at h1 h2
    have hc := h1 c (by simp)
    unfold dg at hc; simp at hc
    have hp : Lib.parseMag (c :: r) = .ok n := by
      unfold Lib.parseMag
      rw [if_neg (by simp), parse_val _ _ h1 (by rw [h2]; omega), h2]
    unfold Lib.atoiAll
    simp only
    rw [if_neg (by omega), hp]
    simp only
    rw [if_neg (by omega), if_neg (by omega), if_neg (by omega)]

theorem val_snoc (acc : Nat) (l : List UInt8) (c : UInt8) : val acc (l ++ [c]) = 10 * val acc l + (c.toNat - 48) := by
  unfold val; rw [List.foldl_append]; rfl

theorem val_lt : ∀ (l : List UInt8) (acc : Nat), (∀ c ∈ l, dg c = true) → val acc l < (acc + 1) * 10 ^ l.length
  | [], acc, _ => by simp [val]
  | c :: r, acc, hd => by
    have hc := hd c (by simp)
    unfold dg at hc; simp at hc
    have ih := val_lt r (10 * acc + (c.toNat - 48)) (fun x hx => hd x (by simp [hx]))
    show val (10 * acc + (c.toNat - 48)) r < _
    refine Nat.lt_of_lt_of_le ih ?_
    rw [List.length_cons, Nat.pow_succ, Nat.mul_comm (10 ^ r.length) 10, ← Nat.mul_assoc]
    exact Nat.mul_le_mul_right _ (by omega)

theorem val_lt8 (l : List UInt8) (hd : ∀ c ∈ l, dg c = true) (h : l.length ≤ 8) : val 0 l < 100000000 := by
  have := val_lt l 0 hd
  have h2 : 10 ^ l.length ≤ 10 ^ 8 := Nat.pow_le_pow_right (by decide) h
  have e : (10 : Nat) ^ 8 = 100000000 := by decide
  omega

def okInt (l : List UInt8) : Bool := (decide (1 ≤ l.length) && decide (l.length ≤ 9)) && (!((l.head? == some 48) && decide (1 < l.length)) && l.all dg)
def intL (l : List UInt8) : Int := if okInt l then (val 0 l : Int) else -1

theorem intL_dec (n : Nat) (h : n ≤ 1000000) : intL (Lib.decDigits n) = n := by
  obtain ⟨h1, h2, h3, h4⟩ := dec_facts n
  have hz := numB_size n h
  have e : (numB n).size = (Lib.decDigits n).length := by simp [numB, ByteArray.size]
  rw [e] at hz
  have hok : okInt (Lib.decDigits n) = true := by
    unfold okInt
    simp only [Bool.and_eq_true, decide_eq_true_eq, Bool.not_eq_true', Bool.and_eq_false_iff, List.all_eq_true]
    refine ⟨⟨hz.1, by omega⟩, ?_, h1⟩
    by_cases hn : n < 10
    · right; rw [Lib.decDigits_one hn]; simp
    · left
      obtain ⟨c, r, hc, hne⟩ := h4 (by omega)
      rw [hc]
      simp only [List.head?_cons, beq_eq_false_iff_ne, ne_eq, Option.some.injEq]
      intro e; subst e; exact hne rfl
  unfold intL
  rw [if_pos hok, h2]

def evL (id ver kind : Nat) (name : List UInt8) : List UInt8 := Lib.decDigits kind ++ 46 :: (Lib.decDigits id ++ 46 :: (Lib.decDigits ver ++ 46 :: (name ++ [46])))

theorem evB_data (id ver kind : Nat) (name : ByteArray) : (evB id ver kind name).data.toList = evL id ver kind name.data.toList := by
  unfold evB evL numB
  simp [ByteArray.data_append]

theorem name_nd {name : List UInt8} (h : goodName name = true) : ∀ c ∈ name, nd c = true := by
  intro c hc
  unfold goodName at h
  simp only [Bool.and_eq_true, List.all_eq_true] at h
  exact nb_nd (h.2 c hc)
theorem dec_nd (n : Nat) : ∀ c ∈ Lib.decDigits n, nd c = true := fun c hc => dg_nd ((dec_facts n).1 c hc)

/-- The cuts of a good event's text. -/
theorem evL_cuts (id ver kind : Nat) (name : List UInt8) (h : goodName name = true) :
    cutA (evL id ver kind name) = Lib.decDigits kind ∧ cutA (cutB (evL id ver kind name)) = Lib.decDigits id ∧ cutA (cutB (cutB (evL id ver kind name))) = Lib.decDigits ver ∧
      cutA (cutB (cutB (cutB (evL id ver kind name)))) = name := by
  unfold evL
  obtain ⟨a1, a2, -⟩ := cut_of (Lib.decDigits kind) (Lib.decDigits id ++ 46 :: (Lib.decDigits ver ++ 46 :: (name ++ [46]))) (dec_nd kind)
  obtain ⟨b1, b2, -⟩ := cut_of (Lib.decDigits id) (Lib.decDigits ver ++ 46 :: (name ++ [46])) (dec_nd id)
  obtain ⟨c1, c2, -⟩ := cut_of (Lib.decDigits ver) (name ++ [46]) (dec_nd ver)
  obtain ⟨d1, -, -⟩ := cut_of name [] (name_nd h)
  exact ⟨a1, by rw [a2, b1], by rw [a2, b2, c1], by rw [a2, b2, c2, d1]⟩

theorem evL_sp (id ver kind : Nat) (name : List UInt8) (h : goodName name = true) : sp 4 (evL id ver kind name) = [Lib.decDigits kind, Lib.decDigits id, Lib.decDigits ver, name, []] := by
  unfold evL
  obtain ⟨a1, a2, a3⟩ := cut_of (Lib.decDigits kind) (Lib.decDigits id ++ 46 :: (Lib.decDigits ver ++ 46 :: (name ++ [46]))) (dec_nd kind)
  obtain ⟨b1, b2, b3⟩ := cut_of (Lib.decDigits id) (Lib.decDigits ver ++ 46 :: (name ++ [46])) (dec_nd id)
  obtain ⟨c1, c2, c3⟩ := cut_of (Lib.decDigits ver) (name ++ [46]) (dec_nd ver)
  obtain ⟨d1, d2, d3⟩ := cut_of name [] (name_nd h)
  simp only [sp, a1, a2, a3, b1, b2, b3, c1, c2, c3, d1, d2, d3, if_true]

theorem ba_eq {a b : ByteArray} (h : a.data.toList = b.data.toList) : a = b := ByteArray.ext (Array.toList_inj.1 h)
theorem ba_mk (l : List UInt8) : (⟨l.toArray⟩ : ByteArray).data.toList = l := rfl

/-- What readNumber answers. -/
def readNum (l : List UInt8) : Option Nat :=
  match Lib.atoiAll l with
  | .ok v => if 0 ≤ v ∧ Lib.decDigits v.toNat = l then some v.toNat else none
  | _ => none
theorem readNum_dec (n : Nat) (h : n ≤ 1000000) : readNum (Lib.decDigits n) = some n := by
  unfold readNum
  rw [atoi_dec n h]
  simp
theorem readNum_some {l : List UInt8} {n : Nat} (h : readNum l = some n) : Lib.decDigits n = l := by
  unfold readNum at h
  split at h
  · split at h
    · rename_i h1
      simp only [Option.some.injEq] at h
      rw [← h]; exact h1.2
    · cases h
  · cases h
end Go.Proofs.YtkcgckobaobogaaDoor.M
