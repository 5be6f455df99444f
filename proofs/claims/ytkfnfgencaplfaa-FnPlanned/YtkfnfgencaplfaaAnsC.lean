/-
  An answer that append gathered: nil, or numbers at the head of a block that the call has made; the law's marks on it.
-/
import Derived.Test.YtkfnfgencaplfaaAns
import Derived.Test.YtkfnfgencaplfaaOwnR
import Derived.Test.YtkfnfgencaplfaaOwnB
namespace Go.Proofs.Ytkfnfgencaplfaa
open Go.RowKit M
open Clk (upd upd_same upd_other)
namespace M
/-- A slice of numbers in memory of its own, at block B or behind it, perhaps with room behind. -/
def AnsC (w : World) (B : Nat) (r : Value) (n : Nat) (f : Nat → Int) : Prop :=
  (r = .slice none 0 0 ∧ n = 0) ∨ ∃ b cap, r = .slice (some ⟨b, 0, none⟩) n cap ∧ B ≤ b ∧ OwnB w b n cap f
theorem AnsC.ints {w : World} {B n : Nat} {r : Value} {f : Nat → Int} (h : AnsC w B r n f) : IntsOf w r n f := by
  rcases h with ⟨rfl, rfl⟩ | ⟨b, cap, rfl, _, hb⟩
  · exact ⟨none, 0, rfl, fun h => absurd h (Nat.lt_irrefl _)⟩
  · exact hb.ints
theorem AnsC.form {w : World} {B n : Nat} {r : Value} {f : Nat → Int} (h : AnsC w B r n f) : ∃ a cap, r = .slice a n cap := h.ints.form
theorem AnsC.below {w w' : World} {B n : Nat} {r : Value} {f : Nat → Int} (h : AnsC w B r n f) (hb : Below w.heap.size w w') : AnsC w' B r n f := by
  rcases h with h | ⟨b, cap, hr, hB, hk⟩
  · exact .inl h
  · exact .inr ⟨b, cap, hr, hB, hk.down hb⟩
theorem OwnB.only {w w' : World} {g b n cap : Nat} {f : Nat → Int} (h : OwnB w b n cap f) (ho : Only g w w') (hne : b ≠ g) : OwnB w' b n cap f := by
  obtain ⟨hc, k, hb, hk⟩ := h
  exact ⟨hc, k, ho.blk hb hne, hk⟩
theorem AnsC.only {w w' : World} {B n g : Nat} {r : Value} {f : Nat → Int} (h : AnsC w B r n f) (ho : Only g w w') (hg : g < B) : AnsC w' B r n f := by
  rcases h with h | ⟨b, cap, hr, hB, hk⟩
  · exact .inl h
  · exact .inr ⟨b, cap, hr, hB, hk.only ho (by omega)⟩
theorem AnsC.mono {w : World} {B B' n : Nat} {r : Value} {f : Nat → Int} (h : AnsC w B r n f) (hB : B' ≤ B) : AnsC w B' r n f := by
  rcases h with h | ⟨b, cap, hr, hB2, hk⟩
  · exact .inl h
  · exact .inr ⟨b, cap, hr, by omega, hk⟩
theorem AnsC.ext {w : World} {B n : Nat} {r : Value} {f f' : Nat → Int} (h : AnsC w B r n f) (he : ∀ i, i < n → f i = f' i) : AnsC w B r n f' := by
  rcases h with h | ⟨b, cap, hr, hB2, hc, k, hb, hk⟩
  · exact .inl h
  · exact .inr ⟨b, cap, hr, hB2, hc, k, hb, fun i hi => by rw [hk i hi, he i hi]⟩
theorem AnsI.ansC {w : World} {B n : Nat} {r : Value} {f : Nat → Int} (h : ∃ b, r = .slice (some ⟨b, 0, none⟩) n n ∧ B ≤ b ∧ Blk w b n (iv f) 3) : AnsC w B r n f := by
  obtain ⟨b, hr, hB, hk⟩ := h
  exact .inr ⟨b, n, hr, hB, Nat.le_refl _, _, hk, fun i _ => rfl⟩
/-- A row that append gathered is such an answer. -/
theorem own_ansC {w : World} {B n : Nat} {v : Value} {f : Nat → Int} (h : w.ownsRow B 3 1 v n ((List.range n).map (iv f))) : AnsC w B v n f := by
  rcases h.2 with ⟨hv, h0⟩ | ⟨g, cap, cur, rfl, hB, hg, hc, hm, hs, ht⟩
  · exact .inl ⟨hv, h0⟩
  · refine .inr ⟨g, cap, rfl, hB, hc, fun i => cur.getD i undef, ?_, fun i hi => ?_⟩
    · unfold Blk
      rw [hg]
      congr 2
      apply Array.ext_getElem?
      intro j
      by_cases hj : j < cap
      · rw [cf_get _ hj]
        have : j < cur.size := by omega
        simp [Array.getD, this]
      · rw [Array.getElem?_eq_none (by omega), Array.getElem?_eq_none (by rw [cf_size]; omega)]
    · have h1 : ((List.range n).map (iv f))[i]? = some (iv f i) := by rw [List.getElem?_map, List.getElem?_range hi]; rfl
      rw [← ht, List.getElem?_take_of_lt (by omega), Array.getElem?_toList] at h1
      have : i < cur.size := by omega
      simp [Array.getD, this] at h1 ⊢
      exact h1
/-- Marks on the first k places. -/
def mkd (k0 k : Nat) (h : Nat → Value) : Nat → Value := fun i => if i < k then .int .i64 ((k0 + i : Nat) : Int) else h i
theorem mkd_zero (k0 : Nat) (h : Nat → Value) : mkd k0 0 h = h := by funext i; simp [mkd]
theorem mkd_succ (k0 k : Nat) (h : Nat → Value) : upd (mkd k0 k h) k (.int .i64 ((k0 + k : Nat) : Int)) = mkd k0 (k + 1) h := by
  funext i
  unfold upd mkd
  by_cases hi : i = k
  · subst hi; simp
  · rw [if_neg hi]
    by_cases h2 : i < k
    · rw [if_pos h2, if_pos (by omega)]
    · rw [if_neg h2, if_neg (by omega)]
end M
theorem mark_own (g n m cap k0 : Nat) (h : Nat → Value) (w : World) (hg : Blk w g m h 3) (hv : ∀ i, i < n → ∃ x, h i = .int .i64 x) (hnm : n ≤ m) (hn : n ≤ 1048576) (hk0 : k0 ≤ 1000000000) :
    Calls Try.prog 24 #[.slice (some ⟨g, 0, none⟩) n cap, .int .i64 (k0 : Nat)] w fun e w' => e = .returned (.int .i64 ((k0 + n : Nat) : Int)) ∧ Blk w' g m (mkd k0 n h) 3 ∧ Only g w w' := by
  have HG := hide hg
  have HV := hide hv
  clear hg hv
  go_enter Try.func24, Try.ntmps24
  go_wp2
  go_loopw [1, 5] (fun x i wr => ∃ k : Nat, k ≤ n ∧ i = .int .i64 k ∧ x = .int .i64 ((k0 + k : Nat) : Int) ∧ Hid (Blk wr g m (mkd k0 k h) 3) ∧ Only g w wr) (fun _ i _ => n - (intOf i).toNat)
  case atStart => exact ⟨0, Nat.zero_le _, rfl, rfl, hide (by rw [mkd_zero]; exact HG.out), Only.refl _ _⟩
  case round =>
    obtain ⟨k, hk, rfl, rfl, HA, hbw⟩ := hrel
    by_cases hlt : k < n
    · obtain ⟨x, hx⟩ := HV.out k hlt
      have c1 := HA.out.cell (show k < m by omega)
      rw [show mkd k0 k h k = .int .i64 x by unfold mkd; rw [if_neg (Nat.lt_irrefl _), hx]] at c1
      have f1 := HA.out.thaw k
      have HA2 := hide (HA.out.set k (.int .i64 ((k0 + k : Nat) : Int)))
      rw [mkd_succ] at HA2
      have hbw2 := hbw.set k (.int .i64 ((k0 + k : Nat) : Int))
      clear HA HG HV hx
      go_wp2
      exact ⟨⟨k + 1, by omega, by go_num, by go_num, HA2, hbw2⟩, by simp [intOf]; omega⟩
    · obtain rfl : k = n := by omega
      clear HG HV
      go_wp2
      go_ret
      exact ⟨rfl, HA.out, hbw⟩
theorem mark_ansC (B n k0 : Nat) (r : Value) (f : Nat → Int) (w : World) (h : AnsC w B r n f) (hn : n ≤ 1048576) (hk0 : k0 ≤ 1000000000) :
    Calls Try.prog 24 #[r, .int .i64 (k0 : Nat)] w fun e w' => e = .returned (.int .i64 ((k0 + n : Nat) : Int)) ∧ AnsC w' B r n (mk1 k0) ∧ Below B w w' ∧ w'.heap.size = w.heap.size := by
  rcases h with ⟨rfl, rfl⟩ | ⟨b, cap, rfl, hB, hc, k, hb, hk⟩
  · refine (mark_nil (k0 : Nat) w).mono ?_
    rintro e w' ⟨rfl, rfl⟩
    exact ⟨rfl, .inl ⟨rfl, rfl⟩, Below.refl _ _, rfl⟩
  · refine (mark_own b n cap cap k0 k w hb (fun i hi => ⟨_, hk i hi⟩) hc hn hk0).mono ?_
    rintro e w' ⟨rfl, hk', ho⟩
    exact ⟨rfl, .inr ⟨b, cap, rfl, hB, hc, _, hk', fun i hi => by unfold mkd mk1; rw [if_pos hi]⟩, ho.below hB, ho.size⟩
end Go.Proofs.Ytkfnfgencaplfaa
