/-
  Both texts of IsInvariant, at every net and weights.
-/
import Derived.Test.YthilapalgakhhaaNetWeight
namespace Go.Proofs.Ythilapalgakhhaa
open Go.RowKit M
namespace M
def asum (g f : Nat → Int) : Nat → Int
  | 0 => 0
  | k + 1 => asum g f k + g (f k).toNat
theorem asum_bd {m n : Nat} {p : Int} {g f : Nat → Int} (hg : All m g (-100) 100) (hp : p ≤ m) (hf : Ris n f p) : ∀ k, k ≤ n → -100 * (k : Int) ≤ asum g f k ∧ asum g f k ≤ 100 * (k : Int)
  | 0, _ => by simp [asum]
  | k + 1, hk => by
    have h1 := asum_bd hg hp hf k (by omega)
    have h2 := (hf k (by omega)).1
    have h3 := hg (f k).toNat (by omega)
    simp only [asum]
    omega
def Inv (k : Nat) (st : Nat → Sp) (g : Nat → Int) : Prop := ∀ i, i < k → asum g (st i).fi (st i).ni = asum g (st i).fo (st i).no
instance (k : Nat) (st : Nat → Sp) (g : Nat → Int) : Decidable (Inv k st g) := by unfold Inv; infer_instance
def IOk (p : Int) (k : Nat) (st : Nat → Sp) (m : Nat) (g : Nat → Int) : Prop := GoodN p k st ∧ TOk m g p
end M
set_option maxHeartbeats 600000 in
theorem sum_at (v u : Value) (m n : Nat) (g f : Nat → Int) (p : Int) (w : World) (hv : IntsOf w v m g) (hu : IntsOf w u n f) (hg : All m g (-100) 100) (hp : p ≤ m) (hm : m ≤ 8) (hn : n ≤ 8) (hf : Ris n f p) :
    Calls Try.prog 64 #[v, u] w fun e w' => e = .returned (.int .i64 (asum g f n)) ∧ w' = w := by
  obtain ⟨a, cap, rfl, hr⟩ := hv
  obtain ⟨a2, cap2, rfl, hr2⟩ := hu
  have HR := hide hr
  have HR2 := hide hr2
  have HG := hide hg
  have HF := hide hf
  clear hr hr2 hg hf
  go_enter Try.func64, Try.ntmps64
  go_wp2
  go_loop [5, 10] (fun x i => ∃ k : Nat, k ≤ n ∧ i = .int .i64 k ∧ x = .int .i64 (asum g f k)) (fun _ i => n - (intOf i).toNat)
  case atStart => exact ⟨0, Nat.zero_le _, rfl, rfl⟩
  case round =>
    obtain ⟨k, hk, rfl, rfl⟩ := hrel
    by_cases hlt : k < n
    · obtain ⟨bb2, off2, rfl, hbb2, hrow2⟩ := HR2.out (by omega)
      have hfk := (HF.out k hlt).1
      obtain ⟨bb, off, rfl, hbb, hrow⟩ := HR.out (by omega)
      obtain ⟨q, hq⟩ := Int.eq_ofNat_of_zero_le hfk.1
      have c1 := hrow2 k hlt
      rw [hq] at c1
      have hqm : q < m := by omega
      have c0 := hrow q hqm
      obtain ⟨s1, s2⟩ := asum_bd HG.out hp HF.out k hk
      obtain ⟨g1, g2⟩ := HG.out q hqm
      have hi0 : (0 : Int) ≤ (q : Int) := by omega
      have hi1 : (q : Int) < (m : Int) := by omega
      have HS := hide (show asum g f (k + 1) = asum g f k + g q by simp only [asum]; rw [hq, Int.toNat_natCast])
      clear HR HR2 hrow hrow2 HF HG hfk hq
      go_wp2
      go_round
      case rel => exact ⟨k + 1, by omega, by go_num, by rw [HS.out]⟩
      case measure => simp [intOf]; omega
    · obtain rfl : k = n := by omega
      clear HR HR2 HF HG
      go_wp2
      go_ret
      exact ⟨rfl, rfl⟩
set_option maxHeartbeats 500000 in
theorem impl_inv (p : Int) (v : Value) (k : Nat) (st : Nat → Sp) (u : Value) (m : Nat) (g : Nat → Int) (b : Bool) (w : World) (hv : StepsOf w v k st) (hu : IntsOf w u m g) (hs : Short k st) (h : IOk p k st m g) (hb : decide (Inv k st g) = b) :
    Calls Try.prog 35 #[netV p v, u] w fun e w' => e = .returned (.tuple #[.bool b, .bool true]) ∧ Below w.heap.size w w' := by
  obtain ⟨hgood, hg, hmp⟩ := h
  have hp8 : p ≤ 8 := hgood.1.2
  have hp1 : 1 ≤ p := hgood.1.1
  have HGood := hide (show decide (GoodN p k st) = true by rw [decide_eq_true_eq]; exact hgood)
  have HW := hide (show decide (All m g (-100) 100) = true by rw [decide_eq_true_eq]; exact hg)
  have HV := hide hv
  have HU := hide hu
  obtain ⟨a, cap, rfl, hr⟩ := hv
  obtain ⟨a2, cap2, rfl⟩ := hu.form
  have HR := hide hr
  have hk := hs.1
  have HB := hide hb
  have HGN := hide hgood
  have HG := hide hg
  have hne : ((m : Int) != p) = false := by simp [hmp]
  have hm8 : m ≤ 8 := by omega
  have hpm : p ≤ (m : Int) := by omega
  clear hu hr hb hgood hg hmp
  have hbA := (Below.refl w.heap.size w).alloc (Nat.le_refl _) (.cells #[.int .i64 p, .slice a k cap] 29)
  have hN := Blk.fresh w _ 2 (fun i => if i = 0 then .int .i64 p else .slice a k cap) 29 (show #[.int .i64 p, .slice a k cap] = _ from rfl)
  go_enter Try.func35, Try.ntmps35
  go_wp2_with fail
  refine (impl_good p _ k st _ _ (HV.out.below hbA) hs HGood.out).mono ?_
  rintro e w1 ⟨rfl, hb⟩
  have hb1 := hbA.trans (hb.mono hbA.size)
  have hN1 := hN.down hb
  have n0 : w1.cell? ⟨w.heap.size, 0, none⟩ = some (.int .i64 p) := hN1.cell (by omega)
  have n1 : w1.cell? ⟨w.heap.size, 1, none⟩ = some (.slice a k cap) := hN1.cell (by omega)
  clear hN hb hbA
  go_wp2_with fail
  refine (good_weights _ m g _ _ (HU.out.below hb1) (by omega) HW.out).mono ?_
  rintro e w2 ⟨rfl, rfl⟩
  clear HGood HW HV
  go_wp2
  go_loopw [26] (fun i wr => ∃ j : Nat, j ≤ k ∧ i = .int .i64 j ∧ Hid (∀ q, q < j → asum g (st q).fi (st q).ni = asum g (st q).fo (st q).no) ∧ Below w2.heap.size w2 wr) (fun i _ => k - (intOf i).toNat)
  case atStart => exact ⟨0, Nat.zero_le _, rfl, hide (fun q h => absurd h (by omega)), Below.refl _ _⟩
  case round =>
    obtain ⟨j, hj, rfl, HP, hbw⟩ := hrel
    have hbx := hb1.trans (hbw.mono hb1.size)
    by_cases hlt : j < k
    · obtain ⟨bb, off, rfl, hbb, hrow⟩ := HR.out (by omega)
      obtain ⟨x, y, q1, q2, i1, i2⟩ := hrow j hlt
      obtain ⟨ax, cx, rfl⟩ := i1.form
      obtain ⟨ay, cy, rfl⟩ := i2.form
      have c0 := (hbx.cell (p := ⟨bb, off + j * 2, none⟩) hbb).trans q1
      have c1 := (hbx.cell (p := ⟨bb, off + j * 2 + 1, none⟩) hbb).trans q2
      have hbw2 := hbw.alloc hbw.size (.cells #[.slice ax (st j).ni cx, .slice ay (st j).no cy] 60)
      have hbx2 := hbx.alloc hbx.size (.cells #[.slice ax (st j).ni cx, .slice ay (st j).no cy] 60)
      have I1 := hide (i1.below hbx2)
      have I2 := hide (i2.below hbx2)
      have IU := hide (HU.out.below hbx2)
      have hS := HGN.out.2.2 j hlt
      have h81 : (st j).ni ≤ 8 := by have := ris_len hS.1 (by omega); omega
      have h82 : (st j).no ≤ 8 := by have := ris_len hS.2 (by omega); omega
      have HS := hide hS
      have HC1 := hide (show ∀ n, Calls Try.prog 64 #[.slice a2 m cap2, .slice ax (st j).ni cx] ((wr.alloc (.cells #[.slice ax (st j).ni cx, .slice ay (st j).no cy] 60)).drewN n) fun e w' => e = .returned (.int .i64 (asum g (st j).fi (st j).ni)) ∧ w' = (wr.alloc (.cells #[.slice ax (st j).ni cx, .slice ay (st j).no cy] 60)).drewN n from fun n =>
        sum_at _ _ m _ g _ p _ (IU.out.below (below_drewN (Below.refl _ _) n)) (I1.out.below (below_drewN (Below.refl _ _) n)) HG.out hpm hm8 h81 HS.out.1)
      have HC2 := hide (show ∀ n, Calls Try.prog 64 #[.slice a2 m cap2, .slice ay (st j).no cy] ((wr.alloc (.cells #[.slice ax (st j).ni cx, .slice ay (st j).no cy] 60)).drewN n) fun e w' => e = .returned (.int .i64 (asum g (st j).fo (st j).no)) ∧ w' = (wr.alloc (.cells #[.slice ax (st j).ni cx, .slice ay (st j).no cy] 60)).drewN n from fun n =>
        sum_at _ _ m _ g _ p _ (IU.out.below (below_drewN (Below.refl _ _) n)) (I2.out.below (below_drewN (Below.refl _ _) n)) HG.out hpm hm8 h82 HS.out.2)
      clear HR hrow q1 q2 i1 i2 hS I1 I2 IU HS
      by_cases heq : asum g (st j).fi (st j).ni = asum g (st j).fo (st j).no
      · have he : (asum g (st j).fi (st j).ni != asum g (st j).fo (st j).no) = false := by simp [heq]
        have HP2 := hide (show ∀ q, q < j + 1 → asum g (st q).fi (st q).ni = asum g (st q).fo (st q).no from fun q hq => by
          rcases (show q < j ∨ q = j by omega) with h | h
          · exact HP.out q h
          · subst h; exact heq)
        clear HP heq
        go_wp2
        go_big_quiet (first | (with_reducible exact Calls.quiet_of_same (HC1.out _)) | (with_reducible exact Calls.quiet_of_same (HC2.out _)))
        go_wp2
        exact ⟨⟨j + 1, by omega, by go_num, HP2, below_drewN hbw2 _⟩, by simp [intOf]; omega⟩
      · have he : (asum g (st j).fi (st j).ni != asum g (st j).fo (st j).no) = true := by simp [heq]
        have eb : b = false := by rw [← HB.out, decide_eq_false_iff_not]; exact fun H => heq (H j hlt)
        subst eb
        clear HP heq HB
        go_wp2
        go_big_quiet (first | (with_reducible exact Calls.quiet_of_same (HC1.out _)) | (with_reducible exact Calls.quiet_of_same (HC2.out _)))
        go_wp2
        go_ret2
        exact ⟨rfl, below_drewN hbx2 _⟩
    · obtain rfl : j = k := by omega
      have eb : b = true := by rw [← HB.out, decide_eq_true_eq]; exact HP.out
      subst eb
      clear HR HP HB HG HGN
      go_wp2
      go_ret2
      exact ⟨rfl, hbx⟩
end Go.Proofs.Ythilapalgakhhaa
