/-
  Crons: three lists of numbers; when one is good, when a time fits, and the least time from one on that does.
-/
import Derived.Test.YtgpjggbcomeolaaDoorIntAid
namespace Go.Proofs.YtgpjggbcomeolaaDoor
open Go.RowKit M
namespace M
def RisAt (f : Nat → Int) (p : Int) (i : Nat) : Prop := (0 ≤ f i ∧ f i ≤ p - 1) ∧ (0 < i → f (i - 1) < f i)
def Ris (n : Nat) (f : Nat → Int) (p : Int) : Prop := ∀ i, i < n → RisAt f p i
instance (f : Nat → Int) (p : Int) (i : Nat) : Decidable (RisAt f p i) := by unfold RisAt; infer_instance
instance (n : Nat) (f : Nat → Int) (p : Int) : Decidable (Ris n f p) := by unfold Ris; infer_instance
def least (f : Nat → Int) (i : Nat) : Int := if i = 0 then 0 else f (i - 1) + 1
theorem least_succ (f : Nat → Int) (i : Nat) : least f (i + 1) = f i + 1 := by simp [least]
theorem ris_least {f : Nat → Int} {p : Int} {i : Nat} (h : ∀ j, j < i → RisAt f p j) : (least f i ≤ f i ∧ f i ≤ p - 1) ↔ RisAt f p i := by
  unfold least RisAt
  by_cases h0 : i = 0
  · subst h0; simp
  · have := (h (i - 1) (by omega)).1.1
    rw [if_neg h0]
    constructor
    · rintro ⟨a, b⟩; exact ⟨⟨by omega, b⟩, fun _ => by omega⟩
    · rintro ⟨⟨a, b⟩, c⟩; exact ⟨by have := c (by omega); omega, b⟩
theorem ris_split {n : Nat} {f : Nat → Int} {p : Int} (k : Nat) (hk : k < n) (h : ¬ RisAt f p k) : ¬ Ris n f p := fun H => h (H k hk)
theorem ris_ge {n : Nat} {f : Nat → Int} {p : Int} (h : Ris n f p) : ∀ i, i < n → (i : Int) ≤ f i
  | 0, hi => by have := (h 0 hi).1.1; omega
  | i + 1, hi => by
    have h1 := ris_ge h i (by omega)
    have h2 := (h (i + 1) hi).2 (by omega)
    simp only [Nat.add_sub_cancel] at h2
    omega
theorem ris_len {n : Nat} {f : Nat → Int} {p : Int} (h : Ris n f p) (hp : 0 ≤ p) : (n : Int) ≤ p := by
  rcases Nat.eq_zero_or_pos n with h0 | h0
  · omega
  · have h1 := ris_ge h (n - 1) (by omega)
    have h2 := (h (n - 1) (by omega)).1.2
    omega
theorem ret_bool {a b : Bool} (h : a = b) : Ending.returned (.bool a) = .returned (.bool b) := by rw [h]
/-- A cron's three lists. -/
structure Crn where
  nm : Nat
  fm : Nat → Int
  nh : Nat
  fh : Nat → Int
  nd : Nat
  fd : Nat → Int
def GoodL (n : Nat) (f : Nat → Int) (p : Int) : Prop := Ris n f p ∧ 0 < n
instance (n : Nat) (f : Nat → Int) (p : Int) : Decidable (GoodL n f p) := by unfold GoodL; infer_instance
def GoodC (c : Crn) : Prop := GoodL c.nm c.fm 60 ∧ GoodL c.nh c.fh 24 ∧ GoodL c.nd c.fd 7
instance (c : Crn) : Decidable (GoodC c) := by unfold GoodC; infer_instance
def CronOf (w : World) (v0 v1 v2 : Value) (c : Crn) : Prop := IntsOf w v0 c.nm c.fm ∧ IntsOf w v1 c.nh c.fh ∧ IntsOf w v2 c.nd c.fd
theorem CronOf.below {w w' : World} {v0 v1 v2 : Value} {c : Crn} (h : CronOf w v0 v1 v2 c) (hb : Below w.heap.size w w') : CronOf w' v0 v1 v2 c := ⟨h.1.below hb, h.2.1.below hb, h.2.2.below hb⟩
def ShortC (c : Crn) : Prop := c.nm ≤ 1048576 ∧ c.nh ≤ 1048576 ∧ c.nd ≤ 1048576
def LensC (c : Crn) : Prop := c.nm ≤ maxLen ∧ c.nh ≤ maxLen ∧ c.nd ≤ maxLen
def p3 (x y z : Value) : Nat → Value := fun i => if i = 0 then x else if i = 1 then y else z
theorem Blk.tri {w : World} {g : Nat} {x y z : Value} {t : TypeId} (h : Blk w g 3 (p3 x y z) t) : (w.cell? ⟨g, 0, none⟩ = some x ∧ w.cell? ⟨g, 1, none⟩ = some y ∧ w.cell? ⟨g, 2, none⟩ = some z) ∧ w.frozen? ⟨g, 0, none⟩ = false ∧ w.frozen? ⟨g, 1, none⟩ = false ∧ w.frozen? ⟨g, 2, none⟩ = false :=
  ⟨⟨h.cell (show 0 < 3 by omega), h.cell (show 1 < 3 by omega), h.cell (show 2 < 3 by omega)⟩, h.thaw 0, h.thaw 1, h.thaw 2⟩
theorem Blk.tri0 {w : World} {g : Nat} {x y z : Value} {t : TypeId} (h : Blk w g 3 (p3 x y z) t) (u : Value) : Blk (w.setCell ⟨g, 0, none⟩ u) g 3 (p3 u y z) t :=
  (h.set 0 u).ext fun i hi => by match i, hi with
                                | 0, _ => rfl
                                | 1, _ => rfl
                                | 2, _ => rfl
theorem Blk.tri1 {w : World} {g : Nat} {x y z : Value} {t : TypeId} (h : Blk w g 3 (p3 x y z) t) (u : Value) : Blk (w.setCell ⟨g, 1, none⟩ u) g 3 (p3 x u z) t :=
  (h.set 1 u).ext fun i hi => by match i, hi with
                                | 0, _ => rfl
                                | 1, _ => rfl
                                | 2, _ => rfl
theorem Blk.tri2 {w : World} {g : Nat} {x y z : Value} {t : TypeId} (h : Blk w g 3 (p3 x y z) t) (u : Value) : Blk (w.setCell ⟨g, 2, none⟩ u) g 3 (p3 x y u) t :=
  (h.set 2 u).ext fun i hi => by match i, hi with
                                | 0, _ => rfl
                                | 1, _ => rfl
                                | 2, _ => rfl
theorem new3 (w : World) (x y z : Value) (t : TypeId) : Blk (w.alloc (.cells #[x, y, z] t)) w.heap.size 3 (p3 x y z) t := Blk.fresh w _ 3 _ t rfl
theorem IntsOf.set_new {w w' : World} {v : Value} {n : Nat} {f : Nat → Int} (h : IntsOf w v n f) (hb : Below w.heap.size w w') {g : Nat} (hg : w.heap.size ≤ g) (i : Nat) (u : Value) : IntsOf (w'.setCell ⟨g, i, none⟩ u) v n f :=
  h.below (hb.setCell (p := ⟨g, i, none⟩) hg u)
theorem IntsOf.set_at {w : World} {v : Value} {n : Nat} {f : Nat → Int} (h : IntsOf w v n f) {B g : Nat} (hB : ∀ b off cap m, v = .slice (some ⟨b, off, none⟩) m cap → 0 < n → b ≠ g) (_ : B ≤ g) (i : Nat) (u : Value) : IntsOf (w.setCell ⟨g, i, none⟩ u) v n f := by
  obtain ⟨a, cap, hv, hr⟩ := h
  refine ⟨a, cap, hv, fun hn => ?_⟩
  obtain ⟨b, off, ha, hlt, hrow⟩ := hr hn
  subst ha
  refine ⟨b, off, rfl, by rw [World.size_setCell]; exact hlt, fun j hj => ?_⟩
  have hne := hB b off cap n hv hn
  have h2 : (w.setCell ⟨g, i, none⟩ u).heap[b]? = w.heap[b]? := Go.heap_setCell_other _ _ _ _ hne
  rw [← hrow j hj]
  unfold World.cell?
  rw [h2]
/-- Whether a list has a number. -/
def Has (n : Nat) (f : Nat → Int) (x : Int) : Prop := ∃ i, i < n ∧ f i = x
instance (n : Nat) (f : Nat → Int) (x : Int) : Decidable (Has n f x) :=
  decidable_of_iff (¬ ∀ i, i < n → ¬ f i = x) ⟨fun h => Classical.byContradiction fun h2 => h fun i hi he => h2 ⟨i, hi, he⟩, fun ⟨i, hi, he⟩ h => h i hi he⟩
def Fits (c : Crn) (t : Nat) : Prop := Has c.nm c.fm ((t % 60 : Nat) : Int) ∧ Has c.nh c.fh ((t / 60 % 24 : Nat) : Int) ∧ Has c.nd c.fd ((t / 1440 % 7 : Nat) : Int)
instance (c : Crn) (t : Nat) : Decidable (Fits c t) := by unfold Fits; infer_instance
theorem least_of (P : Nat → Prop) (s : Nat) : ∀ N, s ≤ N → P N → ∃ r, s ≤ r ∧ r ≤ N ∧ P r ∧ ∀ j, s ≤ j → j < r → ¬ P j := by
  intro N
  induction N using Nat.strongRecOn with
  | ind N ih =>
    intro hs hN
    by_cases h : ∃ j, s ≤ j ∧ j < N ∧ P j
    · obtain ⟨j, h1, h2, h3⟩ := h
      obtain ⟨r, q1, q2, q3, q4⟩ := ih j h2 h1 h3
      exact ⟨r, q1, by omega, q3, q4⟩
    · exact ⟨N, hs, Nat.le_refl _, hN, fun j h1 h2 h3 => h ⟨j, h1, h2, h3⟩⟩
/-- The least time from s on that fits. -/
def Lst (c : Crn) (s r : Nat) : Prop := s ≤ r ∧ r ≤ s + 20160 ∧ Fits c r ∧ ∀ j, s ≤ j → j < r → ¬ Fits c j
theorem good_first {n : Nat} {f : Nat → Int} {p : Nat} (h : GoodL n f (p : Int)) : ∃ x : Nat, x < p ∧ Has n f (x : Int) := by
  obtain ⟨h1, h2⟩ := h
  have := (h1 0 h2).1
  exact ⟨(f 0).toNat, by omega, 0, h2, by omega⟩
theorem ex_lst {c : Crn} (hg : GoodC c) (s : Nat) : ∃ r, Lst c s r := by
  obtain ⟨m, hm, hm2⟩ := good_first (p := 60) hg.1
  obtain ⟨h, hh, hh2⟩ := good_first (p := 24) hg.2.1
  obtain ⟨d, hd, hd2⟩ := good_first (p := 7) hg.2.2
  have e1 : ((s / 10080 + 1) * 10080 + d * 1440 + h * 60 + m) % 60 = m := by omega
  have e2 : ((s / 10080 + 1) * 10080 + d * 1440 + h * 60 + m) / 60 % 24 = h := by omega
  have e3 : ((s / 10080 + 1) * 10080 + d * 1440 + h * 60 + m) / 1440 % 7 = d := by omega
  obtain ⟨r, q1, q2, q3, q4⟩ := least_of (Fits c) s ((s / 10080 + 1) * 10080 + d * 1440 + h * 60 + m) (by omega) ⟨by rw [e1]; exact hm2, by rw [e2]; exact hh2, by rw [e3]; exact hd2⟩
  exact ⟨r, q1, by omega, q3, q4⟩
theorem Lst.same {c : Crn} {s r : Nat} (h : Lst c s r) {t : Nat} (hs : s ≤ t) (hf : Fits c t) (hn : ∀ j, s ≤ j → j < t → ¬ Fits c j) : t = r := by
  obtain ⟨h1, _, h3, h4⟩ := h
  rcases Nat.lt_trichotomy t r with h | h | h
  · exact (h4 t hs h hf).elim
  · exact h
  · exact (hn r h1 h h3).elim
theorem Lst.lt {c : Crn} {s r t : Nat} (h : Lst c s r) (hs : s ≤ t) (hn : ∀ j, s ≤ j → j < t → ¬ Fits c j) (hf : ¬ Fits c t) : t < r := by
  obtain ⟨h1, _, h3, h4⟩ := h
  rcases Nat.lt_or_ge t r with h | h
  · exact h
  · rcases Nat.lt_or_ge r t with h5 | h5
    · exact (hn r h1 h5 h3).elim
    · obtain rfl : r = t := by omega
      exact (hf h3).elim
/-- What is passed over with a whole day, or hour, does not fit. -/
theorem skip_day {c : Crn} {s t : Nat} (hn : ∀ j, s ≤ j → j < t → ¬ Fits c j) (h : ¬ Has c.nd c.fd ((t / 1440 % 7 : Nat) : Int)) : ∀ j, s ≤ j → j < t - t % 1440 + 1440 → ¬ Fits c j := fun j h1 h2 hf => by
  rcases Nat.lt_or_ge j t with h3 | h3
  · exact hn j h1 h3 hf
  · have e : j / 1440 = t / 1440 := by omega
    refine h ?_
    rw [← e]
    exact hf.2.2
theorem skip_hour {c : Crn} {s t : Nat} (hn : ∀ j, s ≤ j → j < t → ¬ Fits c j) (h : ¬ Has c.nh c.fh ((t / 60 % 24 : Nat) : Int)) : ∀ j, s ≤ j → j < t - t % 60 + 60 → ¬ Fits c j := fun j h1 h2 hf => by
  rcases Nat.lt_or_ge j t with h3 | h3
  · exact hn j h1 h3 hf
  · have e : j / 60 = t / 60 := by omega
    refine h ?_
    rw [← e]
    exact hf.2.1
theorem skip_min {c : Crn} {s t : Nat} (hn : ∀ j, s ≤ j → j < t → ¬ Fits c j) (h : ¬ Has c.nm c.fm ((t % 60 : Nat) : Int)) : ∀ j, s ≤ j → j < t + 1 → ¬ Fits c j := fun j h1 h2 hf => by
  rcases Nat.lt_or_ge j t with h3 | h3
  · exact hn j h1 h3 hf
  · obtain rfl : j = t := by omega
    exact h hf.1
theorem Lst.ge {c : Crn} {s r t : Nat} (h : Lst c s r) (hn : ∀ j, s ≤ j → j < t → ¬ Fits c j) : t ≤ r := by
  rcases Nat.lt_or_ge r t with h5 | h5
  · exact (hn r h.1 h5 h.2.2.1).elim
  · exact h5
end M
end Go.Proofs.YtgpjggbcomeolaaDoor
