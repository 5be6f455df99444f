/-
  How many bits of a number are 1: taken away one by one, and added up in fields of two, four and eight. Plain mathematics.
-/
import Derived.RowKit
namespace Go.Proofs.YtfiooclkefmijaaDoor
namespace M
namespace Cnt
def pop : Nat → Nat → Nat
  | 0, _ => 0
  | k + 1, x => x % 2 + pop k (x / 2)
theorem pop_zero : ∀ k, pop k 0 = 0
  | 0 => rfl
  | k + 1 => by rw [pop, pop_zero k]
theorem pop_le : ∀ k x, pop k x ≤ k
  | 0, _ => Nat.le_refl _
  | k + 1, x => by rw [pop]; have := pop_le k (x / 2); omega
theorem and_even (a b c : Nat) (hc : c < 2) : (2 * a) &&& (2 * b + c) = 2 * (a &&& b) := by
  apply Nat.eq_of_testBit_eq
  intro i
  rw [Nat.testBit_and]
  cases i with
  | zero => simp [Nat.testBit_zero]
  | succ i =>
    rw [Nat.testBit_succ, Nat.testBit_succ, Nat.testBit_succ, show 2 * a / 2 = a by omega, show (2 * b + c) / 2 = b by omega, show 2 * (a &&& b) / 2 = a &&& b by omega, Nat.testBit_and]
theorem and_odd (a b : Nat) : (2 * a + 1) &&& (2 * b) = 2 * (a &&& b) := by
  rw [Nat.and_comm, and_even b a 1 (by omega), Nat.and_comm]
/-- One bit less. -/
theorem pop_less : ∀ (k x : Nat), 0 < x → x < 2 ^ k → pop k (x &&& (x - 1)) + 1 = pop k x
  | 0, x, h0, h1 => by omega
  | k + 1, x, h0, h1 => by
    rw [Nat.pow_succ] at h1
    rcases Nat.mod_two_eq_zero_or_one x with h | h
    · obtain ⟨y, rfl⟩ : ∃ y, x = 2 * y := ⟨x / 2, by omega⟩
      have e : 2 * y - 1 = 2 * (y - 1) + 1 := by omega
      rw [e, and_even y (y - 1) 1 (by omega), pop, pop, show 2 * (y &&& (y - 1)) / 2 = y &&& (y - 1) by omega, show 2 * y / 2 = y by omega]
      have := pop_less k y (by omega) (by omega)
      omega
    · obtain ⟨y, rfl⟩ : ∃ y, x = 2 * y + 1 := ⟨x / 2, by omega⟩
      have e : 2 * y + 1 - 1 = 2 * y := by omega
      rw [e, and_odd y y, Nat.and_self, pop, pop, show 2 * y / 2 = y by omega, show (2 * y + 1) / 2 = y by omega]
      omega
theorem and_less (x : Nat) (h : 0 < x) : x &&& (x - 1) < x := Nat.lt_of_le_of_lt Nat.and_le_right (by omega)
theorem pop_add : ∀ (a b x : Nat), pop (a + b) x = pop a (x % 2 ^ a) + pop b (x / 2 ^ a)
  | 0, b, x => by simp [pop]
  | a + 1, b, x => by
    rw [show a + 1 + b = (a + b) + 1 by omega, pop, pop, pop_add a b (x / 2)]
    have e1 : x % 2 ^ (a + 1) % 2 = x % 2 := by rw [Nat.pow_succ, Nat.mul_comm, Nat.mod_mul_right_mod]
    have e2 : x % 2 ^ (a + 1) / 2 = x / 2 % 2 ^ a := by rw [Nat.pow_succ, Nat.mul_comm, Nat.mod_mul_right_div_self]
    have e3 : x / 2 ^ (a + 1) = x / 2 / 2 ^ a := by rw [Nat.pow_succ, Nat.mul_comm, Nat.div_div_eq_div_mul]
    rw [e1, e2, e3]; omega
/-- One byte again and again. -/
def ms (c : Nat) : Nat → Nat
  | 0 => 0
  | n + 1 => 256 * ms c n + c
theorem bit_at (q r j : Nat) (hr : r < 256) : (256 * q + r).testBit j = if j < 8 then r.testBit j else q.testBit (j - 8) := Nat.testBit_two_pow_mul_add q (i := 8) hr j
theorem and_at (q r M m : Nat) (hr : r < 256) (hm : m < 256) : (256 * q + r) &&& (256 * M + m) = 256 * (q &&& M) + (r &&& m) := by
  have hrm : r &&& m < 256 := Nat.lt_of_le_of_lt Nat.and_le_right hm
  apply Nat.eq_of_testBit_eq
  intro j
  rw [Nat.testBit_and, bit_at _ _ _ hr, bit_at _ _ _ hm, bit_at _ _ _ hrm]
  split <;> rw [Nat.testBit_and]
theorem sh_at (q r M m k : Nat) (hr : r < 256) (hm : m < 2 ^ (8 - k)) (hk : k ≤ 8) : ((256 * q + r) / 2 ^ k) &&& (256 * M + m) = 256 * (q / 2 ^ k &&& M) + (r / 2 ^ k &&& m) := by
  have hm8 : m < 256 := Nat.lt_of_lt_of_le hm (Nat.pow_le_pow_right (by omega) (show 8 - k ≤ 8 by omega))
  have hrm : r / 2 ^ k &&& m < 256 := Nat.lt_of_le_of_lt Nat.and_le_right hm8
  apply Nat.eq_of_testBit_eq
  intro j
  rw [Nat.testBit_and, bit_at _ _ _ hm8, bit_at _ _ _ hrm, Nat.testBit_div_two_pow, bit_at _ _ _ hr]
  by_cases hj : j < 8
  · rw [if_pos hj, if_pos hj, Nat.testBit_and, Nat.testBit_div_two_pow]
    by_cases hj2 : k + j < 8
    · rw [if_pos (by omega)]
    · have : m.testBit j = false := Nat.testBit_lt_two_pow (Nat.lt_of_lt_of_le hm (Nat.pow_le_pow_right (by omega) (by omega)))
      rw [this]; simp
  · rw [if_neg hj, if_neg hj, if_neg (by omega), Nat.testBit_and, Nat.testBit_div_two_pow, show j + k - 8 = j - 8 + k by omega]
def st1 (n x : Nat) : Nat := (x / 2 ^ 1 &&& ms 0x55 n) + (x &&& ms 0x55 n)
def st2 (n x : Nat) : Nat := (x / 2 ^ 2 &&& ms 0x33 n) + (x &&& ms 0x33 n)
def st3 (n x : Nat) : Nat := (x / 2 ^ 4 + x) &&& ms 0x0f n
def a1 (r : Nat) : Nat := (r / 2 ^ 1 &&& 0x55) + (r &&& 0x55)
def a2 (r : Nat) : Nat := (r / 2 ^ 2 &&& 0x33) + (r &&& 0x33)
def a3 (r : Nat) : Nat := (r / 2 ^ 4 + r) &&& 0x0f
theorem byte_facts : ∀ r : Fin 256, a1 r.val < 256 ∧ a2 (a1 r.val) ≤ 68 ∧ a2 (a1 r.val) % 16 ≤ 4 ∧ a3 (a2 (a1 r.val)) = pop 8 r.val := by decide +kernel
theorem st1_at (n q r : Nat) (hr : r < 256) : st1 (n + 1) (256 * q + r) = 256 * st1 n q + a1 r := by
  unfold st1 a1
  rw [show ms 0x55 (n + 1) = 256 * ms 0x55 n + 0x55 from rfl, sh_at q r _ _ 1 hr (by omega) (by omega), and_at q r _ _ hr (by omega)]; omega
theorem st2_at (n q r : Nat) (hr : r < 256) : st2 (n + 1) (256 * q + r) = 256 * st2 n q + a2 r := by
  unfold st2 a2
  rw [show ms 0x33 (n + 1) = 256 * ms 0x33 n + 0x33 from rfl, sh_at q r _ _ 2 hr (by omega) (by omega), and_at q r _ _ hr (by omega)]; omega
theorem st3_at (n q r : Nat) (hr : r ≤ 68) (hq : q % 16 ≤ 4) : st3 (n + 1) (256 * q + r) = 256 * st3 n q + a3 r := by
  unfold st3 a3
  have e : (256 * q + r) / 2 ^ 4 + (256 * q + r) = 256 * (q / 2 ^ 4 + q) + (16 * (q % 16) + (r / 2 ^ 4 + r)) := by omega
  rw [e, show ms 0x0f (n + 1) = 256 * ms 0x0f n + 0x0f from rfl, and_at _ _ _ _ (by omega) (by omega)]
  congr 1
  have f : ∀ z : Nat, z &&& 0x0f = z % 16 := fun z => Nat.and_two_pow_sub_one_eq_mod z 4
  rw [f, f]; omega
def G (n x : Nat) : Nat := st3 n (st2 n (st1 n x))
theorem low : ∀ (n x : Nat), st2 n (st1 n x) % 16 ≤ 4
  | 0, x => by simp [st2, ms]
  | n + 1, x => by
    have hb := byte_facts ⟨x % 256, by omega⟩
    simp only at hb
    rw [show st1 (n + 1) x = st1 (n + 1) (256 * (x / 256) + x % 256) by rw [Nat.div_add_mod], st1_at _ _ _ (by omega), st2_at _ _ _ hb.1]
    have h1 := hb.2.2.1
    omega
theorem G_at (n x : Nat) : G (n + 1) x = 256 * G n (x / 256) + pop 8 (x % 256) := by
  have hb := byte_facts ⟨x % 256, by omega⟩
  simp only at hb
  unfold G
  have e : st2 (n + 1) (st1 (n + 1) x) = 256 * st2 n (st1 n (x / 256)) + a2 (a1 (x % 256)) := by
    rw [show st1 (n + 1) x = st1 (n + 1) (256 * (x / 256) + x % 256) by rw [Nat.div_add_mod], st1_at _ _ _ (by omega), st2_at _ _ _ hb.1]
  rw [e, st3_at _ _ _ hb.2.1 (low n _), hb.2.2.2]
theorem G_zero (x : Nat) : G 0 x = 0 := by simp [G, st3, ms]
/-- The fields of eight, added up. -/
def fin (y : Nat) : Nat :=
  let y1 := y + y / 2 ^ 8
  let y2 := y1 + y1 / 2 ^ 16
  let y3 := y2 + y2 / 2 ^ 32
  y3 % 128
theorem fin_sum (y z1 z2 z3 z4 z5 z6 c0 c1 c2 c3 c4 c5 c6 c7 : Nat) (h0 : c0 ≤ 8) (h1 : c1 ≤ 8) (h2 : c2 ≤ 8) (h3 : c3 ≤ 8) (h4 : c4 ≤ 8) (h5 : c5 ≤ 8) (h6 : c6 ≤ 8) (h7 : c7 ≤ 8)
    (e0 : y = 256 * z1 + c0) (e1 : z1 = 256 * z2 + c1) (e2 : z2 = 256 * z3 + c2) (e3 : z3 = 256 * z4 + c3) (e4 : z4 = 256 * z5 + c4) (e5 : z5 = 256 * z6 + c5) (e6 : z6 = 256 * c7 + c6) :
    fin y = c0 + (c1 + (c2 + (c3 + (c4 + (c5 + (c6 + c7)))))) ∧ y ≤ 578721382704613384 := by
  have k6 : z6 ≤ 2056 := by omega
  have k5 : z5 ≤ 526344 := by omega
  have k4 : z4 ≤ 134744072 := by omega
  have k3 : z3 ≤ 34494482440 := by omega
  have k2 : z2 ≤ 8830587504648 := by omega
  have k1 : z1 ≤ 2260630401189896 := by omega
  refine ⟨?_, by omega⟩
  have d1 : y / 2 ^ 8 = z1 := by omega
  have d2 : (y + z1) / 2 ^ 16 = z2 + z3 := by omega
  have d3 : (y + z1 + (z2 + z3)) / 2 ^ 32 = z4 + z5 + z6 + c7 := by omega
  show (y + y / 2 ^ 8 + (y + y / 2 ^ 8) / 2 ^ 16 + (y + y / 2 ^ 8 + (y + y / 2 ^ 8) / 2 ^ 16) / 2 ^ 32) % 128 = _
  rw [d1, d2, d3]
  omega
theorem pop8_add (k x : Nat) : pop (8 + k) x = pop 8 (x % 256) + pop k (x / 256) := pop_add 8 k x
theorem pop_G (x : Nat) : fin (G 8 x) = pop 64 x ∧ G 8 x ≤ 578721382704613384 := by
  have e : pop 64 x = pop (8 + (8 + (8 + (8 + (8 + (8 + (8 + (8 + 0)))))))) x := rfl
  have p : ∀ z, pop 8 z ≤ 8 := pop_le 8
  have z : ∀ y, pop 0 y = 0 := fun _ => rfl
  rw [e, pop8_add, pop8_add, pop8_add, pop8_add, pop8_add, pop8_add, pop8_add, pop8_add, z]
  rw [Nat.add_zero]
  exact fin_sum _ _ _ _ _ _ _ _ _ _ _ _ _ _ _ (p _) (p _) (p _) (p _) (p _) (p _) (p _) (p _) (G_at 7 _) (G_at 6 _) (G_at 5 _) (G_at 4 _) (G_at 3 _) (G_at 2 _) (by rw [G_at 1, G_at 0, G_zero, Nat.mul_zero, Nat.zero_add])
end Cnt
end M
end Go.Proofs.YtfiooclkefmijaaDoor
