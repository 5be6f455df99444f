/-
  Good rules and good sets: lists of numbers that rise within 0..39; both texts' tests of them.
-/
import Derived.Test.YtpabnncfcklnpaaHoM
import Derived.Test.YtpabnncfcklnpaaRulA
namespace Go.Proofs.Ytpabnncfcklnpaa
open Go.RowKit M
namespace M
def RisAt (f : Nat → Int) (i : Nat) : Prop := (0 ≤ f i ∧ f i ≤ 39) ∧ (0 < i → f (i - 1) < f i)
def Ris (n : Nat) (f : Nat → Int) : Prop := ∀ i, i < n → RisAt f i
instance (f : Nat → Int) (i : Nat) : Decidable (RisAt f i) := by unfold RisAt; infer_instance
instance (n : Nat) (f : Nat → Int) : Decidable (Ris n f) := by unfold Ris; infer_instance
def GoodR (t : Tk) : Prop := (0 ≤ t.long ∧ t.long ≤ 39) ∧ Ris t.nn t.fn
def GoodL (k : Nat) (ts : Nat → Tk) : Prop := k ≤ 60 ∧ ∀ i, i < k → GoodR (ts i)
instance (t : Tk) : Decidable (GoodR t) := by unfold GoodR; infer_instance
instance (k : Nat) (ts : Nat → Tk) : Decidable (GoodL k ts) := by unfold GoodL; infer_instance
def least (f : Nat → Int) (i : Nat) : Int := if i = 0 then 0 else f (i - 1) + 1
theorem least_succ (f : Nat → Int) (i : Nat) : least f (i + 1) = f i + 1 := by simp [least]
theorem ris_least {f : Nat → Int} {i : Nat} (h : ∀ j, j < i → RisAt f j) : (least f i ≤ f i ∧ f i ≤ 39) ↔ RisAt f i := by
  unfold least RisAt
  by_cases h0 : i = 0
  · subst h0; simp
  · have := (h (i - 1) (by omega)).1.1
    rw [if_neg h0]
    constructor
    · rintro ⟨a, b⟩; exact ⟨⟨by omega, b⟩, fun _ => by omega⟩
    · rintro ⟨⟨a, b⟩, c⟩; exact ⟨by have := c (by omega); omega, b⟩
theorem ris_split {n : Nat} {f : Nat → Int} (k : Nat) (hk : k < n) (h : ¬ RisAt f k) : ¬ Ris n f := fun H => h (H k hk)
theorem ris_next {f : Nat → Int} {k : Nat} (h : ∀ j, j < k → RisAt f j) (hk : RisAt f k) : ∀ j, j < k + 1 → RisAt f j := fun j hj => by
  rcases (show j < k ∨ j = k by omega) with h1 | h1
  · exact h j h1
  · subst h1; exact hk
/-- Its numbers, as naturals. -/
def nf (f : Nat → Int) : Nat → Nat := fun i => (f i).toNat
def rl (t : Tk) : Ho.Rl := ⟨t.long.toNat, t.nn, nf t.fn⟩
theorem Ris.nf_eq {n : Nat} {f : Nat → Int} (h : Ris n f) {i : Nat} (hi : i < n) : f i = ((nf f i : Nat) : Int) := by
  have := (h i hi).1; unfold nf; omega
theorem Ris.nf_lt {n : Nat} {f : Nat → Int} (h : Ris n f) {i : Nat} (hi : i < n) : nf f i < 40 := by
  have := (h i hi).1; unfold nf; omega
theorem Ris.up {n : Nat} {f : Nat → Int} (h : Ris n f) : Ho.Up n (nf f) := by
  refine ⟨fun j hj => h.nf_lt hj, fun i j hij hj => ?_⟩
  have key : ∀ d, i + 1 + d < n → nf f i < nf f (i + 1 + d) := by
    intro d
    induction d with
    | zero =>
      intro hd
      have h1 := (h (i + 1) hd).2 (by omega)
      have h2 := (h i (by omega)).1
      simp only [Nat.add_sub_cancel] at h1
      unfold nf; simp only [Nat.add_zero]; omega
    | succ d ih =>
      intro hd
      have h0 := ih (by omega)
      have h1 := (h (i + 1 + (d + 1)) hd).2 (by omega)
      have h2 := (h (i + 1 + d) (by omega)).1
      rw [show i + 1 + (d + 1) - 1 = i + 1 + d by omega] at h1
      unfold nf at h0 ⊢; omega
  have := key (j - (i + 1)) (by omega)
  rwa [show i + 1 + (j - (i + 1)) = j by omega] at this
theorem Ris.len {n : Nat} {f : Nat → Int} (h : Ris n f) : n ≤ 40 := h.up.len
abbrev rls (ts : Nat → Tk) : Nat → Ho.Rl := fun i => rl (ts i)
theorem GoodR.hd {t : Tk} (h : GoodR t) : t.long = (((rl t).hd : Nat) : Int) ∧ (rl t).hd < 40 := by
  have := h.1; unfold rl; simp only; omega
theorem GoodL.hds {k : Nat} {ts : Nat → Tk} (h : GoodL k ts) : Ho.Hds k (rls ts) := fun i hi => (h.2 i hi).hd.2
def bv (s : Nat → Bool) : Nat → Value := fun i => .bool (s i)
theorem bv_upd (s : Nat → Bool) (i : Nat) : Clk.upd (bv s) i (.bool true) = bv (Clk.upd s i true) := by funext j; unfold bv Clk.upd; split <;> rfl
theorem Blk.set_bv {w : World} {g n : Nat} {s : Nat → Bool} {t : TypeId} (h : Blk w g n (bv s) t) (i : Nat) : Blk (w.setCell ⟨g, i, none⟩ (.bool true)) g n (bv (Clk.upd s i true)) t := by rw [← bv_upd]; exact h.set i _
theorem Blk.cell_bv {w : World} {g n : Nat} {s : Nat → Bool} {t : TypeId} (h : Blk w g n (bv s) t) {i : Nat} (hi : i < n) : w.cell? ⟨g, i, none⟩ = some (.bool (s i)) := h.cell hi
end M
theorem within_to (n lo hi : Int) (b : Bool) (w : World) (h : decide (lo ≤ n ∧ n ≤ hi) = b) :
    Calls Try.prog 58 #[.int .i64 n, .int .i64 lo, .int .i64 hi] w fun e w' => e = .returned (.bool b) ∧ w' = w := by
  subst h
  by_cases h1 : lo ≤ n
  · by_cases h2 : n ≤ hi
    · go_enter Try.func58, Try.ntmps58
      go_wp2
      go_ret
      exact ⟨ret_bool (by rw [Bool.eq_iff_iff]; first | (simp; done) | (simp; omega)), rfl⟩
    · go_enter Try.func58, Try.ntmps58
      go_wp2
      go_ret
      exact ⟨ret_bool (by rw [Bool.eq_iff_iff]; first | (simp; done) | (simp; omega)), rfl⟩
  · go_enter Try.func58, Try.ntmps58
    go_wp2
    go_ret
    exact ⟨ret_bool (by rw [Bool.eq_iff_iff]; first | (simp; done) | (simp; omega)), rfl⟩
theorem l1in_to (n lo hi : Int) (b : Bool) (w : World) (h : decide (lo ≤ n ∧ n ≤ hi) = b) :
    Calls Try.prog 38 #[.int .i64 n, .int .i64 lo, .int .i64 hi] w fun e w' => e = .returned (.bool b) ∧ w' = w := by
  subst h
  by_cases h1 : lo ≤ n
  · by_cases h2 : n ≤ hi
    · go_enter Try.func38, Try.ntmps38
      go_wp2
      go_ret
      exact ⟨ret_bool (by rw [Bool.eq_iff_iff]; first | (simp; done) | (simp; omega)), rfl⟩
    · go_enter Try.func38, Try.ntmps38
      go_wp2
      go_ret
      exact ⟨ret_bool (by rw [Bool.eq_iff_iff]; first | (simp; done) | (simp; omega)), rfl⟩
  · go_enter Try.func38, Try.ntmps38
    go_wp2
    go_ret
    exact ⟨ret_bool (by rw [Bool.eq_iff_iff]; first | (simp; done) | (simp; omega)), rfl⟩
theorem isfact_to (n : Int) (b : Bool) (w : World) (h : decide (0 ≤ n ∧ n ≤ 39) = b) :
    Calls Try.prog 41 #[.int .i64 n] w fun e w' => e = .returned (.bool b) ∧ w' = w := by
  have H := hide h
  clear h
  go_enter Try.func41, Try.ntmps41
  go_wp2_with fail
  refine (within_to _ _ _ _ _ H.out).mono ?_
  rintro e w' ⟨rfl, rfl⟩
  go_wp2
  go_ret
  exact ⟨rfl, rfl⟩
set_option maxHeartbeats 1000000 in
theorem rising_to (v : Value) (n : Nat) (f : Nat → Int) (b : Bool) (w : World) (hv : IntsOf w v n f) (hn : n ≤ 1048576) (hb : decide (Ris n f) = b) :
    Calls Try.prog 42 #[v, .int .i64 40] w fun e w' => e = .returned (.bool b) ∧ w' = w := by
  obtain ⟨a, cap, rfl, hr⟩ := hv
  have HR := hide hr
  have HB := hide hb
  clear hr hb
  go_enter Try.func42, Try.ntmps42
  go_wp2
  go_loop [5, 10] (fun x i => ∃ k : Nat, k ≤ n ∧ i = .int .i64 k ∧ x = .int .i64 (least f k) ∧ Hid (∀ j, j < k → RisAt f j)) (fun _ i => n - (intOf i).toNat)
  case atStart => exact ⟨0, Nat.zero_le _, rfl, rfl, hide (fun j h => absurd h (by omega))⟩
  case round =>
    obtain ⟨k, hk, rfl, rfl, HP⟩ := hrel
    by_cases hlt : k < n
    · obtain ⟨bb, off, rfl, hbb, hrow⟩ := HR.out (by omega)
      have c0 := hrow k hlt
      have HS := hide (least_succ f k)
      by_cases hg : RisAt f k
      · have HW := hide (show decide (least f k ≤ f k ∧ f k ≤ 39) = true by rw [decide_eq_true_eq]; exact (ris_least HP.out).2 hg)
        have hf0 : 0 ≤ f k := hg.1.1
        have hf1 : f k ≤ 39 := hg.1.2
        have HP2 := hide (ris_next HP.out hg)
        clear HR hrow HP hg
        go_wp2_with (go_at_call 58; refine (within_to _ _ _ _ _ HW.out).mono ?_; rintro e w' ⟨rfl, rfl⟩)
        go_round
        case rel => exact ⟨k + 1, by omega, by go_num, by rw [HS.out], HP2⟩
        case measure => simp [intOf]; omega
      · have HW := hide (show decide (least f k ≤ f k ∧ f k ≤ 39) = false by rw [decide_eq_false_iff_not, ris_least HP.out]; exact hg)
        have eb : b = false := by rw [← HB.out, decide_eq_false_iff_not]; exact ris_split k hlt hg
        subst eb
        clear HR hrow HP hg HB HS
        go_wp2_with (go_at_call 58; refine (within_to _ _ _ _ _ HW.out).mono ?_; rintro e w' ⟨rfl, rfl⟩)
        go_ret
        exact ⟨rfl, rfl⟩
    · obtain rfl : k = n := by omega
      have eb : b = true := by rw [← HB.out, decide_eq_true_eq]; exact HP.out
      subst eb
      clear HR HP HB
      go_wp2
      go_ret
      exact ⟨rfl, rfl⟩
set_option maxHeartbeats 1000000 in
theorem l8set_to (v : Value) (n : Nat) (f : Nat → Int) (b : Bool) (w : World) (hv : IntsOf w v n f) (hn : n ≤ 1048576) (hb : decide (Ris n f) = b) :
    Calls Try.prog 39 #[v] w fun e w' => e = .returned (.bool b) ∧ w' = w := by
  obtain ⟨a, cap, rfl, hr⟩ := hv
  have HR := hide hr
  have HB := hide hb
  clear hr hb
  go_enter Try.func39, Try.ntmps39
  go_wp2
  go_loop [7] (fun i => ∃ k : Nat, k ≤ n ∧ i = .int .i64 k ∧ Hid (∀ j, j < k → RisAt f j)) (fun i => n - (intOf i).toNat)
  case atStart => exact ⟨0, Nat.zero_le _, rfl, hide (fun j h => absurd h (by omega))⟩
  case round =>
    obtain ⟨k, hk, rfl, HP⟩ := hrel
    by_cases hlt : k < n
    · obtain ⟨bb, off, rfl, hbb, hrow⟩ := HR.out (by omega)
      have c0 := hrow k hlt
      by_cases hin : 0 ≤ f k ∧ f k ≤ 39
      · have HW := hide (show decide (0 ≤ f k ∧ f k ≤ 39) = true by rw [decide_eq_true_eq]; exact hin)
        by_cases h0 : k = 0
        · have HP2 := hide (ris_next HP.out ⟨hin, fun h => absurd h (by omega)⟩)
          have hkp : ¬ ((k : Int) > 0) := by omega
          clear HR hrow HP hin h0
          go_wp2_with (go_at_call 38; refine (l1in_to _ _ _ _ _ HW.out).mono ?_; rintro e w' ⟨rfl, rfl⟩)
          go_round
          case rel => exact ⟨k + 1, by omega, by go_num, HP2⟩
          case measure => simp [intOf]; omega
        · have c1 := hrow (k - 1) (by omega)
          have hk1 : (k : Int) - 1 = ((k - 1 : Nat) : Int) := by omega
          have hkp : (k : Int) > 0 := by omega
          have hk2 : (0 : Int) ≤ ((k - 1 : Nat) : Int) := by omega
          have hk3 : ((k - 1 : Nat) : Int) < (n : Int) := by omega
          by_cases hlt2 : f (k - 1) < f k
          · have HP2 := hide (ris_next HP.out ⟨hin, fun _ => hlt2⟩)
            have hge : ¬ (f (k - 1) ≥ f k) := by omega
            clear HR hrow HP hin
            go_wp2_with (go_at_call 38; refine (l1in_to _ _ _ _ _ HW.out).mono ?_; rintro e w' ⟨rfl, rfl⟩)
            go_round
            case rel => exact ⟨k + 1, by omega, by go_num, HP2⟩
            case measure => simp [intOf]; omega
          · have eb : b = false := by rw [← HB.out, decide_eq_false_iff_not]; exact ris_split k hlt (fun H => hlt2 (H.2 (by omega)))
            subst eb
            have hge : f (k - 1) ≥ f k := by omega
            clear HR hrow HP hin HB hlt2
            go_wp2_with (go_at_call 38; refine (l1in_to _ _ _ _ _ HW.out).mono ?_; rintro e w' ⟨rfl, rfl⟩)
            go_ret
            exact ⟨rfl, rfl⟩
      · have HW := hide (show decide (0 ≤ f k ∧ f k ≤ 39) = false by rw [decide_eq_false_iff_not]; exact hin)
        have eb : b = false := by rw [← HB.out, decide_eq_false_iff_not]; exact ris_split k hlt (fun H => hin H.1)
        subst eb
        clear HR hrow HP hin HB
        go_wp2_with (go_at_call 38; refine (l1in_to _ _ _ _ _ HW.out).mono ?_; rintro e w' ⟨rfl, rfl⟩)
        go_ret
        exact ⟨rfl, rfl⟩
    · obtain rfl : k = n := by omega
      have eb : b = true := by rw [← HB.out, decide_eq_true_eq]; exact HP.out
      subst eb
      clear HR HP HB
      go_wp2
      go_ret
      exact ⟨rfl, rfl⟩
end Go.Proofs.Ytpabnncfcklnpaa
