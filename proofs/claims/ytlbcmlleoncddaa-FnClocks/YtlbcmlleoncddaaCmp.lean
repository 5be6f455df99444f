/-
  Both texts of CompareVec and of JoinVec, at every two lists of numbers.
-/
import Derived.Test.YtlbcmlleoncddaaIntAid
namespace Go.Proofs.Ytlbcmlleoncddaa
open Go.RowKit M
open Clk (upd upd_same upd_other)
open Go.Sort (grow)
namespace M
def anyLt (f g : Nat → Int) : Nat → Bool
  | 0 => false
  | k + 1 => anyLt f g k || decide (f k < g k)
theorem anyLt_iff (f g : Nat → Int) : ∀ n, anyLt f g n = true ↔ ∃ i, i < n ∧ f i < g i
  | 0 => by simp [anyLt]
  | n + 1 => by
    simp only [anyLt, Bool.or_eq_true, anyLt_iff f g n, decide_eq_true_eq]
    constructor
    · rintro (⟨i, hi, h⟩ | h)
      · exact ⟨i, by omega, h⟩
      · exact ⟨n, by omega, h⟩
    · rintro ⟨i, hi, h⟩
      by_cases he : i = n
      · subst he; exact .inr h
      · exact .inl ⟨i, by omega, h⟩
def cmpB (less more : Bool) : Int := if less then (if more then 2 else -1) else if more then 1 else 0
theorem vle_pad (f g : Nat → Int) (n : Nat) (hn : n ≤ 6) : vle (pad n f) (pad n g) = !anyLt g f n := by
  rw [Bool.eq_iff_iff, vle_iff, Bool.not_eq_true', ← Bool.not_eq_true, anyLt_iff]
  constructor
  · rintro h ⟨i, hi, hlt⟩
    have := h i (by omega)
    unfold pad at this; rw [if_pos hi, if_pos hi] at this; omega
  · intro h q hq
    unfold pad
    by_cases hqn : q < n
    · rw [if_pos hqn, if_pos hqn]
      rcases Int.lt_or_le (g q) (f q) with h' | h'
      · exact absurd ⟨q, hqn, h'⟩ h
      · exact h'
    · rw [if_neg hqn, if_neg hqn]; omega
theorem veq_pad (f g : Nat → Int) (n : Nat) (hn : n ≤ 6) : veq (pad n f) (pad n g) = (!anyLt f g n && !anyLt g f n) := by
  rw [← vle_pad f g n hn, ← vle_pad g f n hn, Bool.eq_iff_iff, Bool.and_eq_true, veq_iff, vle_iff, vle_iff]
  constructor
  · intro h; exact ⟨fun q hq => by rw [h q hq]; omega, fun q hq => by rw [h q hq]; omega⟩
  · rintro ⟨h1, h2⟩ q hq
    have := h1 q hq; have := h2 q hq; omega
end M
theorem alike (a b : Option Addr) (n m c d : Nat) (w : World) (hn : n ≤ 1048576) (hm : m ≤ 1048576) :
    Calls Try.prog 52 #[.slice a n c, .slice b m d] w fun e w' => e = .returned (.bool (decide (n = m) && decide (n ≤ 6))) ∧ w' = w := by
  by_cases h1 : n = m
  · subst h1
    by_cases h2 : n ≤ 6
    · go_enter Try.func52, Try.ntmps52
      go_wp2
      go_ret
      exact ⟨by simp [h2]; omega, rfl⟩
    · go_enter Try.func52, Try.ntmps52
      go_wp2
      go_ret
      exact ⟨by simp [h2]; omega, rfl⟩
  · have h3 : ((n : Int) == (m : Int)) = false := by simp; omega
    go_enter Try.func52, Try.ntmps52
    go_wp2
    go_ret
    exact ⟨by simp [h1], rfl⟩
theorem alike_yes (a b : Option Addr) (n c d : Nat) (w : World) (hn : n ≤ 6) :
    Calls Try.prog 52 #[.slice a n c, .slice b n d] w fun e w' => e = .returned (.bool true) ∧ w' = w := by
  have h := alike a b n n c d w (by omega) (by omega)
  rw [show (decide (n = n) && decide (n ≤ 6)) = true by simp [hn]] at h
  exact h
theorem alike_no (a b : Option Addr) (n m c d : Nat) (w : World) (hn : n ≤ 1048576) (hm : m ≤ 1048576) (hno : ¬ (n = m ∧ n ≤ 6)) :
    Calls Try.prog 52 #[.slice a n c, .slice b m d] w fun e w' => e = .returned (.bool false) ∧ w' = w := by
  have h := alike a b n m c d w hn hm
  rw [show (decide (n = m) && decide (n ≤ 6)) = false by
    rw [← Bool.not_eq_true, Bool.and_eq_true, decide_eq_true_eq, decide_eq_true_eq]; exact hno] at h
  exact h
set_option maxHeartbeats 1000000 in
theorem impl_cmp_no (v u : Value) (n m : Nat) (f g : Nat → Int) (w : World) (hv : IntsOf w v n f) (hu : IntsOf w u m g) (hn : n ≤ 1048576) (hm : m ≤ 1048576) (hno : ¬ (n = m ∧ n ≤ 6)) :
    Calls Try.prog 31 #[v, u] w fun e w' => e = .returned (.tuple #[.int .i64 0, .bool false]) ∧ Below w.heap.size w w' := by
  obtain ⟨a, cap, rfl⟩ := hv.form
  obtain ⟨a2, cap2, rfl⟩ := hu.form
  have HN := hide hno
  clear hv hu hno
  go_enter Try.func31, Try.ntmps31
  go_wp2_with fail
  refine (alike_no _ _ _ _ _ _ _ hn hm HN.out).mono ?_
  rintro e w1 ⟨rfl, rfl⟩
  go_wp2
  go_ret2
  exact ⟨rfl, Below.refl _ _⟩
set_option maxHeartbeats 1000000 in
theorem impl_cmp (v u : Value) (n : Nat) (f g : Nat → Int) (w : World) (hv : IntsOf w v n f) (hu : IntsOf w u n g) (hn : n ≤ 6) :
    Calls Try.prog 31 #[v, u] w fun e w' => e = .returned (.tuple #[.int .i64 (cmpB (anyLt f g n) (anyLt g f n)), .bool true]) ∧ Below w.heap.size w w' := by
  have HV := hide hv
  have HU := hide hu
  obtain ⟨a, cap, rfl⟩ := hv.form
  obtain ⟨a2, cap2, rfl⟩ := hu.form
  have hE := eq6 (pad n f) (pad n g)
  rw [veq_pad f g n hn] at hE
  have H1 := hide (vle_pad f g n hn)
  have H2 := hide (vle_pad g f n hn)
  clear hv hu
  go_enter Try.func31, Try.ntmps31
  go_wp2_with fail
  refine (alike_yes _ _ _ _ _ _ hn).mono ?_
  rintro e w1 ⟨rfl, rfl⟩
  go_wp2_with fail
  refine (vector_of _ n f _ HV.out hn).mono ?_
  rintro e w1 ⟨rfl, hb1⟩
  go_wp2_with fail
  refine (vector_of _ n g _ (HU.out.below hb1) hn).mono ?_
  rintro e w2 ⟨rfl, hb⟩
  have hb2 := hb1.trans (hb.mono hb1.size)
  clear hb hb1 HV HU
  have hA : ∀ w4, (w2.alloc (.cells (cf 6 (iv (pad n f))) 72)).alloc (.cells (cf 6 (iv (pad n g))) 72) = w4 → Blk w4 w2.heap.size 6 (iv (pad n f)) 72 ∧ Blk w4 (w2.heap.size + 1) 6 (iv (pad n g)) 72 ∧ Below w2.heap.size w2 w4 := by
    rintro w4 rfl
    refine ⟨(Blk.new w2 6 _ _).alloc _, ?_, ((Below.refl _ _).alloc (Nat.le_refl _) _).alloc (by simp) _⟩
    have := Blk.new (w2.alloc (.cells (cf 6 (iv (pad n f))) 72)) 6 (iv (pad n g)) 72
    rw [World.size_alloc] at this; exact this
  have HA := hide hA
  clear hA
  cases h1 : anyLt f g n <;> cases h2 : anyLt g f n
  · have hE2 : ∀ w : World, (Op.equalIn 10000 72 (vecV (pad n f)) (vecV (pad n g))).run Try.prog w = .ok true w := fun w => by rw [hE, h1, h2]; rfl
    clear hE H1 H2
    go_wp2
    go_ret2
    refine ⟨by rw [h1, h2]; rfl, hb2.trans ((HA.out _ rfl).2.2.mono hb2.size)⟩
  · have hE2 : ∀ w : World, (Op.equalIn 10000 72 (vecV (pad n f)) (vecV (pad n g))).run Try.prog w = .ok false w := fun w => by rw [hE, h1, h2]; rfl
    clear hE
    go_wp2_with fail
    generalize hW : (w2.alloc _).alloc _ = w4
    obtain ⟨b1, b2, hb4⟩ := HA.out w4 hW
    have hbw4 := hb2.trans (hb4.mono hb2.size)
    refine (at_most (pad n f) (pad n g) _).mono ?_
    rintro e w5 ⟨rfl, hb⟩
    have hbw5 := hbw4.trans (hb.mono hbw4.size)
    rw [H1.out, h2]
    obtain ⟨c0, c1, c2, c3, c4, c5⟩ := (b1.down hb).six
    obtain ⟨d0, d1, d2, d3, d4, d5⟩ := (b2.down hb).six
    clear b1 b2 hb hb4 hW HA hE2
    go_wp2_with fail
    refine (at_most (pad n g) (pad n f) _).mono ?_
    rintro e w6 ⟨rfl, hb⟩
    have hbw6 := hbw5.trans (hb.mono hbw5.size)
    rw [H2.out, h1]
    clear hb H1 H2 c0 c1 c2 c3 c4 c5 d0 d1 d2 d3 d4 d5
    go_wp2
    go_ret2
    exact ⟨by rw [h1, h2]; rfl, hbw6⟩
  · have hE2 : ∀ w : World, (Op.equalIn 10000 72 (vecV (pad n f)) (vecV (pad n g))).run Try.prog w = .ok false w := fun w => by rw [hE, h1, h2]; rfl
    clear hE
    go_wp2_with fail
    generalize hW : (w2.alloc _).alloc _ = w4
    obtain ⟨b1, b2, hb4⟩ := HA.out w4 hW
    have hbw4 := hb2.trans (hb4.mono hb2.size)
    refine (at_most (pad n f) (pad n g) _).mono ?_
    rintro e w5 ⟨rfl, hb⟩
    have hbw5 := hbw4.trans (hb.mono hbw4.size)
    rw [H1.out, h2]
    clear b1 b2 hb hb4 hW HA hE2 H1 H2
    go_wp2
    go_ret2
    exact ⟨by rw [h1, h2]; rfl, hbw5⟩
  · have hE2 : ∀ w : World, (Op.equalIn 10000 72 (vecV (pad n f)) (vecV (pad n g))).run Try.prog w = .ok false w := fun w => by rw [hE, h1, h2]; rfl
    clear hE
    go_wp2_with fail
    generalize hW : (w2.alloc _).alloc _ = w4
    obtain ⟨b1, b2, hb4⟩ := HA.out w4 hW
    have hbw4 := hb2.trans (hb4.mono hb2.size)
    refine (at_most (pad n f) (pad n g) _).mono ?_
    rintro e w5 ⟨rfl, hb⟩
    have hbw5 := hbw4.trans (hb.mono hbw4.size)
    rw [H1.out, h2]
    obtain ⟨c0, c1, c2, c3, c4, c5⟩ := (b1.down hb).six
    obtain ⟨d0, d1, d2, d3, d4, d5⟩ := (b2.down hb).six
    clear b1 b2 hb hb4 hW HA hE2
    go_wp2_with fail
    refine (at_most (pad n g) (pad n f) _).mono ?_
    rintro e w6 ⟨rfl, hb⟩
    have hbw6 := hbw5.trans (hb.mono hbw5.size)
    rw [H2.out, h1]
    clear hb H1 H2 c0 c1 c2 c3 c4 c5 d0 d1 d2 d3 d4 d5
    go_wp2
    go_ret2
    exact ⟨by rw [h1, h2]; rfl, hbw6⟩
end Go.Proofs.Ytlbcmlleoncddaa
