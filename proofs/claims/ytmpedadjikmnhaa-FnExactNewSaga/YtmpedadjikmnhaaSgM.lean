/-
  The mathematics of sagas: moves, which ones fit, what is done and undone, and runs to the end.
-/
import Derived.Test.YtmpedadjikmnhaaMem
namespace Go.Proofs.Ytmpedadjikmnhaa
open Go.RowKit M
open Clk (upd upd_same upd_other)
namespace M
structure Mv where
  f : Int
  t : Int
  m : Int
structure Sg where
  na : Nat
  fa : Nat → Int
  nm : Nat
  fm : Nat → Mv
  dn : Int
  un : Bool
def bk (m : Mv) : Mv := ⟨m.t, m.f, m.m⟩
def fit (a : Nat → Int) (m : Mv) : Prop := m.m ≤ a m.f.toNat ∧ a m.t.toNat + m.m ≤ 1000000
instance (a : Nat → Int) (m : Mv) : Decidable (fit a m) := by unfold fit; infer_instance
def tk (a : Nat → Int) (m : Mv) : Nat → Int := upd a m.f.toNat (a m.f.toNat - m.m)
def shf (a : Nat → Int) (m : Mv) : Nat → Int := upd (tk a m) m.t.toNat (tk a m m.t.toNat + m.m)
def GMz (z : Int) (m : Mv) : Prop := (0 ≤ m.f ∧ m.f ≤ z - 1) ∧ (0 ≤ m.t ∧ m.t ≤ z - 1) ∧ m.f ≠ m.t ∧ (1 ≤ m.m ∧ m.m ≤ 1000)
instance (z : Int) (m : Mv) : Decidable (GMz z m) := by unfold GMz; infer_instance
abbrev GM (na : Nat) (m : Mv) : Prop := GMz (na : Int) m
def Acc (na : Nat) (a : Nat → Int) : Prop := ∀ i, i < na → 0 ≤ a i ∧ a i ≤ 1000000
def Und (l : Nat → Mv) : Nat → (Nat → Int) → Prop
  | 0, _ => True
  | d + 1, a => fit a (bk (l d)) ∧ Und l d (shf a (bk (l d)))
structure GoodS (s : Sg) : Prop where
  na1 : 1 ≤ s.na
  na8 : s.na ≤ 8
  acc : Acc s.na s.fa
  nm : s.nm ≤ 20
  mv : ∀ i, i < s.nm → GM s.na (s.fm i)
  dn0 : 0 ≤ s.dn
  dn1 : s.dn ≤ s.nm
  und : Und s.fm s.dn.toNat s.fa
theorem GM.ne {na : Nat} {m : Mv} (h : GM na m) : m.f.toNat ≠ m.t.toNat := by
  obtain ⟨h1, h2, h3, _⟩ := h; omega
theorem GM.back {na : Nat} {m : Mv} (h : GM na m) : GM na (bk m) := ⟨h.2.1, h.1, fun e => h.2.2.1 e.symm, h.2.2.2⟩
theorem shf_f {a : Nat → Int} {m : Mv} (h : m.f.toNat ≠ m.t.toNat) : shf a m m.f.toNat = a m.f.toNat - m.m := by
  unfold shf tk; rw [upd_other _ _ _ _ h, upd_same]
theorem shf_t {a : Nat → Int} {m : Mv} (h : m.f.toNat ≠ m.t.toNat) : shf a m m.t.toNat = a m.t.toNat + m.m := by
  unfold shf tk; rw [upd_same, upd_other _ _ _ _ h.symm]
theorem shf_o {a : Nat → Int} {m : Mv} {i : Nat} (h1 : i ≠ m.f.toNat) (h2 : i ≠ m.t.toNat) : shf a m i = a i := by
  unfold shf tk; rw [upd_other _ _ _ _ h2, upd_other _ _ _ _ h1]
theorem acc_shf {na : Nat} {a : Nat → Int} {m : Mv} (hm : GM na m) (ha : Acc na a) (hf : fit a m) : Acc na (shf a m) := by
  have hne := hm.ne
  obtain ⟨h1, h2, h3, h4⟩ := hm
  have e1 := ha m.f.toNat (by omega)
  have e2 := ha m.t.toNat (by omega)
  unfold fit at hf
  intro i hi
  by_cases k1 : i = m.f.toNat
  · rw [k1, shf_f hne]; omega
  · by_cases k2 : i = m.t.toNat
    · rw [k2, shf_t hne]; omega
    · rw [shf_o k1 k2]; exact ha i hi
theorem fit_back {na : Nat} {a : Nat → Int} {m : Mv} (hm : GM na m) (ha : Acc na a) : fit (shf a m) (bk m) := by
  have hne := hm.ne
  obtain ⟨h1, h2, h3, h4⟩ := hm
  have e1 := ha m.f.toNat (by omega)
  have e2 := ha m.t.toNat (by omega)
  unfold fit bk
  simp only
  rw [shf_f hne, shf_t hne]; omega
theorem shf_back {na : Nat} {a : Nat → Int} {m : Mv} (hm : GM na m) : shf (shf a m) (bk m) = a := by
  have hne := hm.ne
  funext i
  have hb : (bk m).f.toNat ≠ (bk m).t.toNat := hm.back.ne
  by_cases k1 : i = m.f.toNat
  · have := shf_t (a := shf a m) hb
    change shf (shf a m) (bk m) m.f.toNat = shf a m m.f.toNat + m.m at this
    rw [k1, this, shf_f hne]; omega
  · by_cases k2 : i = m.t.toNat
    · have := shf_f (a := shf a m) hb
      change shf (shf a m) (bk m) m.t.toNat = shf a m m.t.toNat - m.m at this
      rw [k2, this, shf_t hne]; omega
    · rw [shf_o (m := bk m) (show i ≠ (bk m).f.toNat from k2) (show i ≠ (bk m).t.toNat from k1), shf_o k1 k2]
theorem fit_acc {na : Nat} {a : Nat → Int} {m : Mv} (hm : GM na m) : fit a m ↔ 0 ≤ shf a m m.f.toNat ∧ shf a m m.t.toNat ≤ 1000000 := by
  rw [shf_f hm.ne, shf_t hm.ne]; unfold fit; omega
def canD (s : Sg) : Prop := s.un = false ∧ s.dn < s.nm
def canS (s : Sg) : Prop := canD s ∨ (s.un = true ∧ 0 < s.dn)
instance (s : Sg) : Decidable (canD s) := by unfold canD; infer_instance
instance (s : Sg) : Decidable (canS s) := by unfold canS; infer_instance
def failS (s : Sg) : Sg := { s with un := true }
def undS (s : Sg) : Sg := { s with fa := shf s.fa (bk (s.fm (s.dn.toNat - 1))), dn := s.dn - 1 }
def doS (s : Sg) : Sg := { s with fa := shf s.fa (s.fm s.dn.toNat), dn := s.dn + 1 }
def stepS (s : Sg) : Sg := if s.un = true then undS s else if fit s.fa (s.fm s.dn.toNat) then doS s else failS s
theorem GoodS.fail {s : Sg} (h : GoodS s) : GoodS (failS s) := ⟨h.na1, h.na8, h.acc, h.nm, h.mv, h.dn0, h.dn1, h.und⟩
theorem GoodS.ofDo {s : Sg} (h : GoodS s) (hd : s.dn < s.nm) (hf : fit s.fa (s.fm s.dn.toNat)) : GoodS (doS s) := by
  have hm := h.mv s.dn.toNat (by have := h.dn0; omega)
  refine ⟨h.na1, h.na8, acc_shf hm h.acc hf, h.nm, h.mv, by unfold doS; have := h.dn0; simp only; omega, by unfold doS; simp only; omega, ?_⟩
  have e : (s.dn + 1).toNat = s.dn.toNat + 1 := by have := h.dn0; omega
  unfold doS
  simp only
  rw [e]
  refine ⟨fit_back hm h.acc, ?_⟩
  rw [shf_back hm]; exact h.und
theorem GoodS.ofUnd {s : Sg} (h : GoodS s) (hd : 0 < s.dn) : GoodS (undS s) := by
  obtain ⟨d, hdd⟩ : ∃ d : Nat, s.dn.toNat = d + 1 := ⟨s.dn.toNat - 1, by omega⟩
  have hu := h.und
  rw [hdd] at hu
  have hm := h.mv d (by have := h.dn1; omega)
  refine ⟨h.na1, h.na8, ?_, h.nm, h.mv, by unfold undS; simp only; omega, by unfold undS; have := h.dn1; simp only; omega, ?_⟩
  · unfold undS; simp only; rw [hdd, Nat.add_sub_cancel]; exact acc_shf hm.back h.acc hu.1
  · unfold undS; simp only; rw [hdd, Nat.add_sub_cancel, show (s.dn - 1).toNat = d by omega]; exact hu.2
theorem GoodS.step {s : Sg} (h : GoodS s) (hc : canS s) : GoodS (stepS s) := by
  unfold stepS
  rcases hc with ⟨h1, h2⟩ | ⟨h1, h2⟩
  · rw [if_neg (by simp [h1])]
    split
    · next hf => exact h.ofDo h2 hf
    · exact h.fail
  · rw [if_pos h1]; exact h.ofUnd h2
/-- All that is done is undone, the last one first. -/
def bwd (l : Nat → Mv) : Nat → (Nat → Int) → (Nat → Int)
  | 0, a => a
  | d + 1, a => bwd l d (shf a (bk (l d)))
/-- The moves that are left, one by one: accounts, how many done, how many steps, whether one gave up. -/
structure Fw where
  a : Nat → Int
  d : Nat
  n : Nat
  g : Bool
def fwd (l : Nat → Mv) (fail : Int) : Nat → (Nat → Int) → Nat → Nat → Fw
  | 0, a, d, n => ⟨a, d, n, false⟩
  | k + 1, a, d, n => if (n : Int) = fail then ⟨a, d, n + 1, true⟩ else if fit a (l d) then fwd l fail k (shf a (l d)) (d + 1) (n + 1) else ⟨a, d, n + 1, true⟩
structure Fi where
  s : Sg
  n : Nat
def rol (s : Sg) (a : Nat → Int) (d n : Nat) : Fi := ⟨{ s with fa := bwd s.fm d a, dn := 0, un := true }, n + d⟩
def fin (s : Sg) (n : Nat) (fail : Int) : Fi :=
  if s.un = true then rol s s.fa s.dn.toNat n
  else if (fwd s.fm fail (s.nm - s.dn.toNat) s.fa s.dn.toNat n).g = true then rol s (fwd s.fm fail (s.nm - s.dn.toNat) s.fa s.dn.toNat n).a (fwd s.fm fail (s.nm - s.dn.toNat) s.fa s.dn.toNat n).d (fwd s.fm fail (s.nm - s.dn.toNat) s.fa s.dn.toNat n).n
  else ⟨{ s with fa := (fwd s.fm fail (s.nm - s.dn.toNat) s.fa s.dn.toNat n).a, dn := s.nm }, (fwd s.fm fail (s.nm - s.dn.toNat) s.fa s.dn.toNat n).n⟩
theorem fin_over {s : Sg} {n : Nat} {fail : Int} (h : GoodS s) (hc : ¬ canS s) : fin s n fail = ⟨s, n⟩ := by
  obtain ⟨na, fa, nm, fm, dn, un⟩ := s
  have h0 := h.dn0
  have h1 := h.dn1
  simp only at h0 h1
  unfold canS canD at hc
  simp only at hc
  cases un with
  | true =>
    have hd : dn = 0 := by
      rcases Int.lt_or_le 0 dn with h | h
      · exact absurd (.inr ⟨rfl, h⟩) hc
      · omega
    subst hd
    unfold fin rol bwd; simp
  | false =>
    have hd : dn = nm := by
      rcases Int.lt_or_le dn nm with h | h
      · exact absurd (.inl ⟨rfl, h⟩) hc
      · omega
    subst hd
    unfold fin
    simp [fwd]
theorem fin_fail {s : Sg} {n : Nat} {fail : Int} (h : GoodS s) (hc : canD s) (hn : (n : Int) = fail) : fin (failS s) (n + 1) fail = fin s n fail := by
  obtain ⟨na, fa, nm, fm, dn, un⟩ := s
  have h0 := h.dn0
  obtain ⟨h1, h2⟩ := hc
  simp only at h0 h1 h2
  subst h1
  obtain ⟨k, hk⟩ : ∃ k, nm - dn.toNat = k + 1 := ⟨nm - dn.toNat - 1, by omega⟩
  unfold fin failS
  simp [hk, fwd, hn, rol]
theorem fin_step {s : Sg} {n : Nat} {fail : Int} (h : GoodS s) (hc : canS s) (hn : canD s → (n : Int) ≠ fail) : fin (stepS s) (n + 1) fail = fin s n fail := by
  obtain ⟨na, fa, nm, fm, dn, un⟩ := s
  have h0 := h.dn0
  simp only at h0
  rcases hc with hd | ⟨h1, h2⟩
  · have hnf := hn hd
    obtain ⟨h1, h2⟩ := hd
    simp only at h1 h2
    subst h1
    obtain ⟨k, hk⟩ : ∃ k, nm - dn.toNat = k + 1 := ⟨nm - dn.toNat - 1, by omega⟩
    by_cases hf : fit fa (fm dn.toNat)
    · have e1 : (dn + 1).toNat = dn.toNat + 1 := by omega
      have e2 : nm - (dn.toNat + 1) = k := by omega
      unfold fin stepS doS
      simp [hk, fwd, hnf, hf, rol, e1, e2]
    · unfold fin stepS failS
      simp [hk, fwd, hnf, hf, rol]
  · simp only at h1 h2
    subst h1
    obtain ⟨d, hd⟩ : ∃ d : Nat, dn.toNat = d + 1 := ⟨dn.toNat - 1, by omega⟩
    have e1 : (dn - 1).toNat = d := by omega
    unfold fin stepS undS
    simp only [if_true, rol, hd, Nat.add_sub_cancel, e1, bwd]
    congr 1; omega
/-- How many steps there can still be. -/
def mea (s : Sg) : Nat := if s.un = true then s.dn.toNat else s.nm + 1 + (s.nm - s.dn.toNat)
theorem mea_fail {s : Sg} (h : GoodS s) (hc : canD s) : mea (failS s) < mea s := by
  have h0 := h.dn1
  obtain ⟨h1, h2⟩ := hc
  unfold mea failS; simp [h1]; omega
theorem mea_step {s : Sg} (h : GoodS s) (hc : canS s) : mea (stepS s) < mea s := by
  have h0 := h.dn0
  rcases hc with hd | ⟨h1, h2⟩
  · have hq := mea_fail h hd
    obtain ⟨h1, h2⟩ := hd
    unfold stepS
    rw [if_neg (by simp [h1])]
    split
    · unfold mea doS; simp [h1]; omega
    · exact hq
  · unfold mea stepS undS; simp [h1]; omega
theorem mea_le {s : Sg} (h : GoodS s) : mea s ≤ 41 := by
  have := h.nm
  have := h.dn1
  unfold mea; split <;> omega
end M
end Go.Proofs.Ytmpedadjikmnhaa
