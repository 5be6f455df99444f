/-
  Items: the Ids up to Upto have a Version. Plain mathematics: which are good, one more event, cuts, the Version of an Id, and where two tellings part.
-/
import Derived.RowKit
import Derived.Test.YtbajiamkgffhkaaDoorClock
namespace Go.Proofs.YtbajiamkgffhkaaDoor
namespace M
open Clk (upd upd_same upd_other)
/-- An item: its Upto and its Version. -/
structure Im where
  u : Int
  v : Int
theorem Im.ext2 {a b : Im} (h : a.u = b.u) (h2 : a.v = b.v) : a = b := by cases a; cases b; simp_all
def im0 : Im := ⟨0, 0⟩
/-- What stands ahead of place i; ahead of all: just below the least that may be. -/
def pre (l : Nat → Im) : Nat → Im
  | 0 => ⟨0, -1⟩
  | i + 1 => l i
/-- The last of the first i items; none: the zero item. -/
def lst (l : Nat → Im) : Nat → Im
  | 0 => im0
  | i + 1 => l i
/-- The last Upto of the first i items. -/
def ah (l : Nat → Im) (i : Nat) : Int := (lst l i).u
theorem ah_zero (l : Nat → Im) : ah l 0 = 0 := rfl
theorem ah_succ (l : Nat → Im) (i : Nat) : ah l (i + 1) = (l i).u := rfl
theorem ah_pre (l : Nat → Im) (i : Nat) : (pre l i).u = ah l i := by cases i <;> rfl
def okI (p x : Im) : Prop := p.u < x.u ∧ x.u ≤ 1000 ∧ p.v < x.v ∧ x.v ≤ 1000000
instance (p x : Im) : Decidable (okI p x) := by unfold okI; infer_instance
def Ris (n : Nat) (l : Nat → Im) : Prop := ∀ i, i < n → okI (pre l i) (l i)
def GoodI (n : Nat) (l : Nat → Im) : Prop := n ≤ 20 ∧ Ris n l
instance (n : Nat) (l : Nat → Im) : Decidable (GoodI n l) := by unfold GoodI Ris; infer_instance
theorem Ris.low {n : Nat} {l : Nat → Im} (h : Ris n l) {i : Nat} (hi : i ≤ n) : 0 ≤ (pre l i).u ∧ -1 ≤ (pre l i).v ∧ (pre l i).u ≤ 1000 ∧ (pre l i).v ≤ 1000000 := by
  induction i with
  | zero => simp [pre]
  | succ i ih =>
    have h1 := h i (by omega)
    have h2 := ih (by omega)
    unfold okI at h1
    show 0 ≤ (l i).u ∧ -1 ≤ (l i).v ∧ (l i).u ≤ 1000 ∧ (l i).v ≤ 1000000
    omega
theorem Ris.at {n : Nat} {l : Nat → Im} (h : Ris n l) {i : Nat} (hi : i < n) : 1 ≤ (l i).u ∧ (l i).u ≤ 1000 ∧ 0 ≤ (l i).v ∧ (l i).v ≤ 1000000 := by
  have h1 := h i hi
  have h2 := h.low (Nat.le_of_lt hi)
  unfold okI at h1
  omega
theorem Ris.lt {n : Nat} {l : Nat → Im} (h : Ris n l) : ∀ {j i : Nat}, i < j → j < n → (l i).u < (l j).u ∧ (l i).v < (l j).v
  | 0, i, hij, _ => absurd hij (by omega)
  | j + 1, i, hij, hj => by
    have h1 := h (j + 1) hj
    unfold okI at h1
    simp only [pre] at h1
    by_cases e : i = j
    · subst e; omega
    · have := h.lt (show i < j by omega) (by omega); omega
theorem Ris.ah_le {n : Nat} {l : Nat → Im} (h : Ris n l) {i : Nat} (hi : i ≤ n) : 0 ≤ ah l i ∧ ah l i ≤ 1000 := by
  have := h.low hi
  rw [ah_pre] at this
  omega
theorem Ris.ah_lt {n : Nat} {l : Nat → Im} (h : Ris n l) {i : Nat} (hi : i < n) : ah l i < (l i).u := by
  have := (h i hi).1
  rw [ah_pre] at this
  exact this
theorem Ris.mono {n m : Nat} {l : Nat → Im} (h : Ris n l) (hm : m ≤ n) : Ris m l := fun i hi => h i (by omega)
theorem pre_ext {l l' : Nat → Im} {n : Nat} (h : ∀ i, i < n → l i = l' i) {i : Nat} (hi : i ≤ n) : pre l i = pre l' i := by
  cases i with
  | zero => rfl
  | succ i => exact h i (by omega)
theorem lst_ext {l l' : Nat → Im} {n : Nat} (h : ∀ i, i < n → l i = l' i) {i : Nat} (hi : i ≤ n) : lst l i = lst l' i := by
  cases i with
  | zero => rfl
  | succ i => exact h i (by omega)
theorem ah_ext {l l' : Nat → Im} {n : Nat} (h : ∀ i, i < n → l i = l' i) {i : Nat} (hi : i ≤ n) : ah l i = ah l' i := by
  unfold ah; rw [lst_ext h hi]
theorem Ris.ext {n : Nat} {l l' : Nat → Im} (h : Ris n l) (he : ∀ i, i < n → l i = l' i) : Ris n l' := fun i hi => by
  rw [← pre_ext he (Nat.le_of_lt hi), ← he i hi]; exact h i hi
theorem GoodI.ext {n : Nat} {l l' : Nat → Im} (h : GoodI n l) (he : ∀ i, i < n → l i = l' i) : GoodI n l' := ⟨h.1, h.2.ext he⟩
/- One more event. -/
/-- How many items stay as they are where an event of version x comes behind. -/
def kpt (n : Nat) (l : Nat → Im) (x : Int) : Nat := if 0 < n ∧ (lst l n).v = x then n - 1 else n
def apL (n : Nat) (l : Nat → Im) (id x : Int) : Nat → Im := upd l (kpt n l x) ⟨id, x⟩
def GoodP (n : Nat) (l : Nat → Im) (id x : Int) : Prop := GoodI n l ∧ id = ah l n + 1 ∧ GoodI (kpt n l x + 1) (apL n l id x)
instance (n : Nat) (l : Nat → Im) (id x : Int) : Decidable (GoodP n l id x) := by unfold GoodP; infer_instance
theorem kpt_le (n : Nat) (l : Nat → Im) (x : Int) : kpt n l x ≤ n := by unfold kpt; split <;> omega
/-- What is good behind one more event has no lesser version than the last one. -/
theorem GoodP.ver {n : Nat} {l : Nat → Im} {id x : Int} (h : GoodP n l id x) (hn : 0 < n) : (lst l n).v ≤ x := by
  obtain ⟨_, _, h3⟩ := h
  by_cases e : (lst l n).v = x
  · omega
  · have hk : kpt n l x = n := by unfold kpt; rw [if_neg (fun h => e h.2)]
    unfold apL at h3
    rw [hk] at h3
    have h4 := h3.2 n (by omega)
    rw [upd_same] at h4
    obtain ⟨m, rfl⟩ : ∃ m, n = m + 1 := ⟨n - 1, by omega⟩
    unfold okI at h4
    simp only [pre] at h4
    rw [upd_other _ _ _ _ (by omega)] at h4
    simp only [lst]
    omega
/- Cuts. -/
/-- c items have an event with an Id up to x. -/
def Beg (n : Nat) (l : Nat → Im) (x : Int) (c : Nat) : Prop := c ≤ n ∧ (∀ i, i < c → ah l i < x) ∧ (c < n → x ≤ ah l c)
theorem Beg.uniq {n : Nat} {l : Nat → Im} {x : Int} {c c' : Nat} (h : Beg n l x c) (h' : Beg n l x c') : c = c' := by
  rcases Nat.lt_trichotomy c c' with q | q | q
  · have a := h'.2.1 c q
    have b := h.2.2 (by have := h'.1; omega)
    omega
  · exact q
  · have a := h.2.1 c' q
    have b := h'.2.2 (by have := h.1; omega)
    omega
theorem Beg.pos {n : Nat} {l : Nat → Im} {x : Int} {c : Nat} (h : Beg n l x c) (h1 : 1 ≤ x) (h2 : x ≤ ah l n) : 0 < c := by
  rcases Nat.eq_zero_or_pos c with rfl | h0
  · have : 0 < n := by
      rcases Nat.eq_zero_or_pos n with rfl | hn
      · rw [ah_zero] at h2; omega
      · exact hn
    have := h.2.2 this
    rw [ah_zero] at this
    omega
  · exact h0
theorem Beg.top {n : Nat} {l : Nat → Im} {x : Int} {c : Nat} (h : Beg n l x (c + 1)) (h2 : x ≤ ah l n) : x ≤ (l c).u := by
  by_cases e : c + 1 < n
  · exact h.2.2 e
  · obtain rfl : n = c + 1 := by have := h.1; omega
    exact h2
theorem Beg.zero {n : Nat} {l : Nat → Im} {c : Nat} (h : Beg n l 0 c) : c = 0 := by
  rcases Nat.eq_zero_or_pos c with h0 | h0
  · exact h0
  · have := h.2.1 0 h0
    rw [ah_zero] at this
    omega
def cutL (l : Nat → Im) (x : Int) : Nat → Nat → Im
  | 0 => l
  | c + 1 => upd l c ⟨x, (l c).v⟩
/- The Version of an Id. -/
def atV (l : Nat → Im) (id : Int) : Nat → Nat → Int
  | _, 0 => -1
  | i, k + 1 => if id ≤ (l i).u then (l i).v else atV l id (i + 1) k
def vA (n : Nat) (l : Nat → Im) (id : Int) : Int := atV l id 0 n
theorem atV_of (l : Nat → Im) (id : Int) (j : Nat) : ∀ (k i : Nat), i ≤ j → j < i + k → (∀ q, i ≤ q → q < j → (l q).u < id) → id ≤ (l j).u → atV l id i k = (l j).v
  | 0, i, h1, h2, _, _ => by omega
  | k + 1, i, h1, h2, h3, h4 => by
    simp only [atV]
    by_cases e : i = j
    · subst e; rw [if_pos h4]
    · have := h3 i (Nat.le_refl _) (by omega)
      rw [if_neg (by omega)]
      exact atV_of l id j k (i + 1) (by omega) (by omega) (fun q hq hj => h3 q (by omega) hj) h4
theorem vA_of {n : Nat} {l : Nat → Im} {id : Int} {j : Nat} (hj : j < n) (h : ∀ q, q < j → (l q).u < id) (h2 : id ≤ (l j).u) : vA n l id = (l j).v :=
  atV_of l id j n 0 (Nat.zero_le _) (by omega) (fun q _ hq => h q hq) h2
theorem Beg.vA {n : Nat} {l : Nat → Im} {x : Int} {c : Nat} (h : Beg n l x (c + 1)) (h2 : x ≤ ah l n) : vA n l x = (l c).v :=
  vA_of (by have := h.1; omega) (fun q hq => by have := h.2.1 (q + 1) (by omega); exact this) (h.top h2)
/-- The first item that reaches an Id. -/
theorem first_ex (l : Nat → Im) (q : Int) : ∀ i : Nat, (∃ p, p < i ∧ q ≤ (l p).u) → ∃ j, j < i ∧ (∀ p, p < j → (l p).u < q) ∧ q ≤ (l j).u
  | 0, ⟨p, hp, _⟩ => absurd hp (by omega)
  | i + 1, ⟨p, hp, hq⟩ => by
    by_cases e : ∃ p, p < i ∧ q ≤ (l p).u
    · obtain ⟨j, hj, a, b⟩ := first_ex l q i e
      exact ⟨j, by omega, a, b⟩
    · have hpi : p = i := by
        rcases Nat.lt_or_ge p i with h | h
        · exact absurd ⟨p, h, hq⟩ e
        · omega
      subst hpi
      exact ⟨p, by omega, fun r hr => by
        rcases Int.lt_or_le (l r).u q with a | a
        · exact a
        · exact absurd ⟨r, hr, a⟩ e, hq⟩
theorem first_at (l : Nat → Im) (q : Int) (h1 : 1 ≤ q) (i : Nat) (h : q ≤ ah l i) : ∃ j, j < i ∧ (∀ p, p < j → (l p).u < q) ∧ q ≤ (l j).u := by
  cases i with
  | zero => rw [ah_zero] at h; omega
  | succ i => exact first_ex l q (i + 1) ⟨i, by omega, h⟩
/- Where two tellings part. -/
/-- r is the last Id up to which both have the same Versions. -/
def Lc (n : Nat) (a : Nat → Im) (m : Nat) (b : Nat → Im) (r : Int) : Prop :=
  0 ≤ r ∧ r ≤ ah a n ∧ r ≤ ah b m ∧ (∀ q, 1 ≤ q → q ≤ r → vA n a q = vA m b q) ∧ (r < ah a n → r < ah b m → vA n a (r + 1) ≠ vA m b (r + 1))
theorem Lc.uniq {n m : Nat} {a b : Nat → Im} {r s : Int} (h : Lc n a m b r) (h' : Lc n a m b s) : r = s := by
  rcases Int.lt_trichotomy r s with q | q | q
  · have := h'.2.1; have := h'.2.2.1; have := h.1
    exact absurd (h'.2.2.2.1 (r + 1) (by omega) (by omega)) (h.2.2.2.2 (by omega) (by omega))
  · exact q
  · have := h.2.1; have := h.2.2.1; have := h'.1
    exact absurd (h.2.2.2.1 (s + 1) (by omega) (by omega)) (h'.2.2.2.2 (by omega) (by omega))
theorem same_at {n m i : Nat} {a b : Nat → Im} (hn : i ≤ n) (hm : i ≤ m) (h : ∀ j, j < i → a j = b j) (q : Int) (h1 : 1 ≤ q) (h2 : q ≤ ah a i) : vA n a q = vA m b q := by
  obtain ⟨j, hj, x, y⟩ := first_at a q h1 i h2
  rw [vA_of (by omega) x y, vA_of (j := j) (by omega) (fun p hp => by rw [← h p (by omega)]; exact x p hp) (by rw [← h j hj]; exact y), h j hj]
/-- The Version right behind the first i items. -/
theorem next_at {n i : Nat} {a : Nat → Im} (h : Ris n a) (hi : i < n) : vA n a (ah a i + 1) = (a i).v := by
  refine vA_of hi (fun q hq => ?_) (by have := h.ah_lt hi; omega)
  cases i with
  | zero => omega
  | succ i =>
    rw [ah_succ]
    by_cases e : q = i
    · subst e; omega
    · have := (h.lt (show q < i by omega) (by omega)).1; omega
theorem ah_mono {n : Nat} {a : Nat → Im} (h : Ris n a) {i j : Nat} (hij : i ≤ j) (hj : j ≤ n) : ah a i ≤ ah a j := by
  cases i with
  | zero => rw [ah_zero]; exact (h.ah_le hj).1
  | succ i =>
    obtain ⟨j, rfl⟩ : ∃ k, j = k + 1 := ⟨j - 1, by omega⟩
    rw [ah_succ, ah_succ]
    by_cases e : i = j
    · subst e; exact Int.le_refl _
    · have := (h.lt (show i < j by omega) (by omega)).1; omega
theorem lc_diff {n m i : Nat} {a b : Nat → Im} (ha : Ris n a) (hb : Ris m b) (hn : i ≤ n) (hm : i ≤ m) (h : ∀ j, j < i → a j = b j) (hd : i < n → i < m → (a i).v ≠ (b i).v) : Lc n a m b (ah a i) := by
  have he : ah a i = ah b i := ah_ext h (Nat.le_refl _)
  refine ⟨(ha.ah_le hn).1, ah_mono ha hn (Nat.le_refl _), by rw [he]; exact ah_mono hb hm (Nat.le_refl _), fun q h1 h2 => same_at hn hm h q h1 h2, fun h1 h2 => ?_⟩
  have hin : i < n := by
    rcases Nat.lt_or_ge i n with q | q
    · exact q
    · obtain rfl : i = n := by omega
      omega
  have him : i < m := by
    rcases Nat.lt_or_ge i m with q | q
    · exact q
    · obtain rfl : i = m := by omega
      omega
  rw [next_at ha hin, he, next_at hb him]
  exact hd hin him
theorem vA_in {n i : Nat} {a : Nat → Im} (h : Ris n a) (hi : i < n) {q : Int} (h1 : ah a i < q) (h2 : q ≤ (a i).u) : vA n a q = (a i).v := by
  refine vA_of hi (fun p hp => ?_) h2
  have : (a p).u ≤ ah a i := by
    rw [← ah_succ]; exact ah_mono h (by omega) (by omega)
  omega
theorem lc_part {n m i : Nat} {a b : Nat → Im} (ha : Ris n a) (hb : Ris m b) (hn : i < n) (hm : i < m) (h : ∀ j, j < i → a j = b j) (hv : (a i).v = (b i).v) (hu : (a i).u < (b i).u) : Lc n a m b (a i).u := by
  have he : ah a i = ah b i := ah_ext h (Nat.le_refl _)
  have p1 := ha.ah_lt hn
  have p2 := (ha.at hn).1
  refine ⟨by omega, ?_, ?_, fun q h1 h2 => ?_, fun h1 h2 => ?_⟩
  · rw [← ah_succ]; exact ah_mono ha (by omega) (Nat.le_refl _)
  · have : ah b (i + 1) ≤ ah b m := ah_mono hb (by omega) (Nat.le_refl _)
    rw [ah_succ] at this
    omega
  · by_cases e : q ≤ ah a i
    · exact same_at (Nat.le_of_lt hn) (Nat.le_of_lt hm) h q h1 e
    · rw [vA_in ha hn (by omega) h2, vA_in hb hm (by omega) (by omega), hv]
  · have hin : i + 1 < n := by
      rcases Nat.lt_or_ge (i + 1) n with q | q
      · exact q
      · obtain rfl : n = i + 1 := by omega
        rw [ah_succ] at h1
        omega
    have h3 := next_at ha hin
    rw [ah_succ] at h3
    rw [h3, vA_in hb hm (by omega) (by omega), ← hv]
    have := (ha.lt (show i < i + 1 by omega) hin).2
    omega
theorem Lc.symm {n m : Nat} {a b : Nat → Im} {r : Int} (h : Lc n a m b r) : Lc m b n a r :=
  ⟨h.1, h.2.2.1, h.2.1, fun q h1 h2 => (h.2.2.2.1 q h1 h2).symm, fun h1 h2 e => h.2.2.2.2 h2 h1 e.symm⟩
/-- The last common event as an item. -/
def Com (n : Nat) (a : Nat → Im) (m : Nat) (b : Nat → Im) (c : Im) : Prop := Lc n a m b c.u ∧ (c.u = 0 → c.v = 0) ∧ (0 < c.u → c.v = vA n a c.u)
theorem Com.uniq {n m : Nat} {a b : Nat → Im} {c d : Im} (h : Com n a m b c) (h' : Com n a m b d) : c = d := by
  have e : c.u = d.u := h.1.uniq h'.1
  refine Im.ext2 e ?_
  rcases (show c.u = 0 ∨ 0 < c.u by have := h.1.1; omega) with h0 | h0
  · rw [h.2.1 h0, h'.2.1 (by omega)]
  · rw [h.2.2 h0, h'.2.2 (by omega), e]
theorem com_diff {n m i : Nat} {a b : Nat → Im} (ha : Ris n a) (hb : Ris m b) (hn : i ≤ n) (hm : i ≤ m) (h : ∀ j, j < i → a j = b j) (hd : i < n → i < m → (a i).v ≠ (b i).v) : Com n a m b (lst a i) := by
  refine ⟨lc_diff ha hb hn hm h hd, fun h0 => ?_, fun h0 => ?_⟩
  · cases i with
    | zero => rfl
    | succ i => have h1 := (ha.at (show i < n by omega)).1; change (a i).u = 0 at h0; omega
  · cases i with
    | zero => change (0 : Int) < 0 at h0; omega
    | succ i => exact (vA_in ha (by omega) (ha.ah_lt (by omega)) (Int.le_refl _)).symm
theorem com_part {n m i : Nat} {a b : Nat → Im} (ha : Ris n a) (hb : Ris m b) (hn : i < n) (hm : i < m) (h : ∀ j, j < i → a j = b j) (hv : (a i).v = (b i).v) (hu : (a i).u ≠ (b i).u) : Com n a m b ⟨min (a i).u (b i).u, (a i).v⟩ := by
  have p1 := ha.at hn
  have p2 := hb.at hm
  have p3 := ha.ah_lt hn
  have p4 := hb.ah_lt hm
  have he : ah a i = ah b i := ah_ext h (Nat.le_refl _)
  rcases (show (a i).u < (b i).u ∨ (b i).u < (a i).u by omega) with q | q
  · rw [show min (a i).u (b i).u = (a i).u by omega]
    exact ⟨lc_part ha hb hn hm h hv q, fun h0 => by change (a i).u = 0 at h0; omega, fun _ => (vA_in ha hn p3 (Int.le_refl _)).symm⟩
  · rw [show min (a i).u (b i).u = (b i).u by omega]
    exact ⟨(lc_part hb ha hm hn (fun j hj => (h j hj).symm) hv.symm q).symm, fun h0 => by change (b i).u = 0 at h0; omega, fun _ => (vA_in ha hn (by show ah a i < (b i).u; omega) (by show (b i).u ≤ (a i).u; omega)).symm⟩
end M
end Go.Proofs.YtbajiamkgffhkaaDoor
