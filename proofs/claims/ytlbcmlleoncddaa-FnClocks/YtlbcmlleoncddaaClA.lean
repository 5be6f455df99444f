/-
  Acts that are drawn, two lists of lists that are told alike, and what a comparison of two acts' vectors says.
-/
import Derived.Test.YtlbcmlleoncddaaCurActs
import Derived.Test.YtlbcmlleoncddaaVecS
import Derived.Test.YtlbcmlleoncddaaLam
import Derived.Test.YtlbcmlleoncddaaAheadB
import Derived.Test.YtlbcmlleoncddaaCmp
import Derived.Test.YtlbcmlleoncddaaSaI
namespace Go.Proofs.Ytlbcmlleoncddaa
open Go.RowKit M
open Go.Sort (grow)
open Clk (upd upd_same upd_other)
namespace M
/-- What is told of acts a and b: their vectors' comparison, whether a is ahead, and their numbers. -/
def TldC (l : Nat → Ac) (a b : Nat) (c : Int) : Prop :=
  (c = -1 ∧ Ab l b a = true ∧ Nf l a < Nf l b ∧ a ≠ b) ∨ (c = 0 ∧ Ab l b a = false ∧ a = b) ∨ ((c = 1 ∨ c = 2) ∧ Ab l b a = false ∧ a ≠ b)
theorem anyLt_V {k n : Nat} {l : Nat → Ac} (hg : GoodL (k : Int) n l) {a b : Nat} (ha : a < n) (hne : a ≠ b) : anyLt (Vf l b) (Vf l a) k = !Ab l b a := by
  have hp := (good_P hg ha).2.2
  have hi := Clk.A_iff_le (P l) (F l) (F_lt l) b a k (by omega)
  rw [Bool.eq_iff_iff, anyLt_iff, Bool.not_eq_true']
  unfold Ab
  rw [decide_eq_false_iff_not, hi]
  constructor
  · rintro ⟨q, hq, h⟩ ⟨_, h2⟩
    have := h2 q hq
    unfold Vf at h; omega
  · intro h
    have h2 : ¬ ∀ q, q < k → Clk.V (P l) (F l) a q ≤ Clk.V (P l) (F l) b q := fun x => h ⟨hne, x⟩
    obtain ⟨q, hq⟩ := Classical.not_forall.1 h2
    have hq2 : q < k ∧ ¬ Clk.V (P l) (F l) a q ≤ Clk.V (P l) (F l) b q := by
      by_cases hk : q < k
      · exact ⟨hk, fun x => hq fun _ => x⟩
      · exact absurd (fun y => absurd y hk) hq
    exact ⟨q, hq2.1, by have := hq2.2; unfold Vf; omega⟩
theorem anyLt_self (f : Nat → Int) (k : Nat) : anyLt f f k = false := by
  rw [← Bool.not_eq_true, anyLt_iff]
  rintro ⟨i, _, h⟩
  omega
theorem told {k n : Nat} {l : Nat → Ac} (hg : GoodL (k : Int) n l) {a b : Nat} (ha : a < n) (hb : b < n) : TldC l a b (cmpB (anyLt (Vf l a) (Vf l b) k) (anyLt (Vf l b) (Vf l a) k)) := by
  by_cases hne : a = b
  · subst hne
    rw [anyLt_self]
    exact .inr (.inl ⟨rfl, Ab_self l a, rfl⟩)
  · rw [anyLt_V hg ha hne, anyLt_V hg hb (Ne.symm hne)]
    have h1 : Ab l b a = true → Nf l a < Nf l b := fun h => by
      unfold Ab at h
      have := Clk.A_N_lt (P l) (F l) (F_lt l) (of_decide_eq_true h)
      unfold Nf; omega
    have h2 : Ab l a b = true → Nf l b < Nf l a := fun h => by
      unfold Ab at h
      have := Clk.A_N_lt (P l) (F l) (F_lt l) (of_decide_eq_true h)
      unfold Nf; omega
    unfold TldC
    generalize Ab l b a = x at *
    generalize Ab l a b = y at *
    cases x with
    | true =>
      cases y with
      | true => exact absurd (h1 rfl) (by have := h2 rfl; omega)
      | false => exact .inl ⟨rfl, rfl, h1 rfl, hne⟩
    | false =>
      cases y with
      | true => exact .inr (.inr ⟨.inl rfl, rfl, hne⟩)
      | false => exact .inr (.inr ⟨.inr rfl, rfl, hne⟩)
end M
set_option maxHeartbeats 1000000 in
theorem draw_good (v : Value) (n : Nat) (f : Nat → Nat) (w : World) (hv : OctetsOf w v n f) (hn : n ≤ 1048576) :
    Calls Try.prog 61 #[v] w fun e w' => (∃ (p nn : Nat) (l : Nat → Ac) (r : Value), e = .returned (.tuple #[.int .i64 (p : Int), r]) ∧ (1 ≤ p ∧ p ≤ 7) ∧ nn ≤ 61 ∧ ActsOf w' r nn l) ∧ Below w.heap.size w w' := by
  have HV := hide hv
  obtain ⟨a, cap, rfl⟩ := hv.form
  clear hv
  have H1 := hide (show ∀ w1, w.alloc (.cells #[.slice a n cap, .int .i64 0, .int .u64 0] 81) = w1 → CurAt w1 w.heap.size w.heap.size 0 ∧ Below w.heap.size w w1 from by
    rintro w1 rfl
    have hb := (Below.refl w.heap.size w).alloc (Nat.le_refl _) (.cells #[.slice a n cap, .int .i64 0, .int .u64 0] 81)
    exact ⟨⟨.slice a n cap, n, f, 0, 0, Nat.le_refl _, hn, Nat.le_refl _, Blk.fresh w _ 3 _ _ rfl, w, rfl, HV.out, hb⟩, hb⟩)
  go_enter Try.func61, Try.ntmps61
  go_wp2_with fail
  generalize hW : w.alloc _ = w1
  obtain ⟨hc1, hb1⟩ := H1.out w1 hW
  clear hW H1 HV
  refine (cur_procs w.heap.size w.heap.size 0 _ hc1 (by omega)).mono ?_
  rintro e w2 ⟨⟨p, hp, rfl⟩, hc2, ho2⟩
  have hB2 : w.heap.size ≤ w2.heap.size := Nat.le_trans hb1.size ho2.size
  have hb2 := hb1.trans (ho2.below (Nat.le_refl _) hb1.size)
  clear hc1 ho2 hb1
  go_wp2_with fail
  refine (cur_acts w.heap.size w.heap.size _ p _ hc2 (by omega) hp hB2).mono ?_
  rintro e w3 ⟨⟨r, m, l, rfl, hm, hor, hpr⟩, hc3, ho3⟩
  have hb3 := hb2.trans (ho3.below (Nat.le_refl _) hB2)
  have HOR := hide (own_acts hor)
  clear hc2 ho3 hor hpr hc3 hb2
  go_wp2
  go_ret2
  exact ⟨⟨p, m, l, _, rfl, hp, hm, HOR.out⟩, hb3⟩
set_option maxHeartbeats 1000000 in
theorem draw_vecs (v : Value) (n : Nat) (f : Nat → Nat) (w : World) (hv : OctetsOf w v n f) (hn : n ≤ 1048576) :
    Calls Try.prog 40 #[v] w fun e w' => (∃ (p nn : Nat) (l : Nat → Ac) (r : Value), e = .returned (.tuple #[.int .i64 (p : Int), r]) ∧ (1 ≤ p ∧ p ≤ 7) ∧ nn ≤ 61 ∧ ActsOf w' r nn l) ∧ Below w.heap.size w w' := by
  have HV := hide hv
  obtain ⟨a, cap, rfl⟩ := hv.form
  clear hv
  go_enter Try.func40, Try.ntmps40
  go_wp2_with fail
  refine (draw_good _ n f _ HV.out hn).mono ?_
  rintro e w1 ⟨⟨p, m, l, r, rfl, hp, hm, hr⟩, hb⟩
  have HR := hide hr
  clear HV hr
  go_wp2
  go_ret2
  exact ⟨⟨p, m, l, _, rfl, hp, hm, HR.out⟩, hb⟩
set_option maxHeartbeats 1000000 in
theorem same_lists (v u : Value) (m k : Nat) (f : Nat → Nat → Int) (w : World) (hv : IntssOf w v m k f) (hu : IntssOf w u m k f) (hm : m ≤ 1048576) (hk : k ≤ 1048576) :
    Calls Try.prog 41 #[v, u] w fun e w' => e = .returned (.bool true) ∧ Below w.heap.size w w' := by
  have HV := hide hv
  have HU := hide hu
  obtain ⟨a, cap, rfl⟩ := hv.form
  obtain ⟨a2, cap2, rfl⟩ := hu.form
  clear hv hu
  go_enter Try.func41, Try.ntmps41
  go_wp2
  go_loopw [13] (fun i wr => ∃ j : Nat, j ≤ m ∧ i = .int .i64 j ∧ Below w.heap.size w wr) (fun i _ => m - (intOf i).toNat)
  case atStart => exact ⟨0, Nat.zero_le _, rfl, Below.refl _ _⟩
  case round =>
    obtain ⟨j, hj, rfl, hbw⟩ := hrel
    by_cases hlt : j < m
    · obtain ⟨_, _, ev, hr⟩ := HV.out.below hbw
      obtain ⟨_, _, eu, hr2⟩ := HU.out.below hbw
      obtain ⟨b, off, hb0, hb, hrow⟩ := hr (by omega)
      obtain ⟨b2, off2, hb20, hb2, hrow2⟩ := hr2 (by omega)
      obtain ⟨rfl, -⟩ : a = some ⟨b, off, none⟩ ∧ True := by refine ⟨?_, trivial⟩; rw [← hb0]; simp only [Value.slice.injEq] at ev; exact ev.1
      obtain ⟨rfl, -⟩ : a2 = some ⟨b2, off2, none⟩ ∧ True := by refine ⟨?_, trivial⟩; rw [← hb20]; simp only [Value.slice.injEq] at eu; exact eu.1
      obtain ⟨r, hc, hI⟩ := hrow j hlt
      obtain ⟨r2, hc2, hI2⟩ := hrow2 j hlt
      obtain ⟨x1, x2, rfl⟩ := hI.form
      obtain ⟨y1, y2, rfl⟩ := hI2.form
      have k0 := cell_regrown hc
      have k1 := cell_regrown hc2
      have hi0 : (0 : Int) ≤ (j : Int) := by omega
      have hi1 : (j : Int) < (m : Int) := by omega
      have HE := hide (show ∀ d os, Calls Try.prog 42 #[.slice x1 k x2, .slice y1 k y2] (grow (redrawn wr d) os) fun e w'' => e = .returned (.bool true) ∧ ∃ p : Regrown, w'' = grow (redrawn wr p.d) p.os from fun d os => Calls.regrown_of (same_ints _ _ k (f j) _ (hI.below (below_regrown wr d os)) (hI2.below (below_regrown wr d os)) hk))
      clear hrow hrow2 hr hr2 hI hI2 hc hc2 ev eu hb0 hb20
      go_wp2
      refine wp_region_quiet_below (by kernel_rfl) (by kernel_rfl) ?_
      repeat (go_big_quiet_step (exact HE.out _ _))
      refine wpQuiet_nil ?_
      intro _ hw'
      obtain ⟨⟨dq, osq⟩, hw''⟩ := hw'
      subst hw''
      have hbw2 := hbw.trans ((below_regrown wr dq osq).mono hbw.size)
      go_wp2
      go_roundw
      case rel => exact ⟨j + 1, by omega, by go_num, hbw2⟩
      case measure => simp [intOf]; omega
    · go_wp2
      go_ret
      exact ⟨rfl, hbw⟩
end Go.Proofs.Ytlbcmlleoncddaa
