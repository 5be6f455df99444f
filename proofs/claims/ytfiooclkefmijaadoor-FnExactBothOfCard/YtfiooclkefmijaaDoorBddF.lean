/-
  The program tells of a text's front just what the mathematics tells; decisionsOfForm and GoodForm.
-/
import Derived.Test.YtfiooclkefmijaaDoorBddT
namespace Go.Proofs.YtfiooclkefmijaaDoor
open Go.RowKit M
open Bdd (prs par one opT byte formT all1 vt prs_pos byte_lt)
theorem pair_ok (s : ByteArray) (f : Nat) (hF : TakesF s f) (p : Nat) (hp : p ≤ s.size) (hf : s.size - p < f) (w : World) (ho : OV w) :
    Calls Tryd.prog 65 #[.string (suf s p)] w fun e w' => e = .returned (told s 0 (par (prs s f) s p)) ∧ Below w.heap.size w w' := by
  have k1 := fun w' (hb : Below w.heap.size w w') => hF p hp hf w' (ho.below hb)
  unfold par
  cases h1 : prs s f p with
  | none =>
    rw [h1] at k1
    exact pair_a _ _ _ _ w (.inl rfl) k1
  | some o =>
    obtain ⟨x, q⟩ := o
    rw [h1] at k1
    have hq := prs_pos s f p x q h1
    simp only
    by_cases hlt : q < s.size
    · rw [if_pos hlt]
      have k2 := fun w' (hb : Below w.heap.size w w') => hF (q + 1) (by omega) (by omega) w' (ho.below hb)
      have t2 := suf_txt hlt
      cases h2 : prs s f (q + 1) with
      | none =>
        rw [h2] at k2
        exact pair_c _ _ _ _ _ _ _ _ w k1 t2 k2 (.inl rfl)
      | some o2 =>
        obtain ⟨y, r⟩ := o2
        rw [h2] at k2
        have hr := prs_pos s f _ y r h2
        simp only
        by_cases hc : r < s.size ∧ byte s r = 41
        · rw [if_pos hc]
          have t3 := suf_txt hc.1
          rw [hc.2] at t3
          unfold opT
          by_cases e1 : byte s q = 38
          · rw [e1] at t2; rw [if_pos e1]; exact pair_and _ _ _ _ _ _ _ w k1 t2 k2 t3
          by_cases e2 : byte s q = 124
          · rw [e2] at t2; rw [if_neg e1, if_pos e2]; exact pair_or _ _ _ _ _ _ _ w k1 t2 k2 t3
          by_cases e3 : byte s q = 94
          · rw [e3] at t2; rw [if_neg e1, if_neg e2, if_pos e3]; exact pair_xor _ _ _ _ _ _ _ w k1 t2 k2 t3
          rw [if_neg e1, if_neg e2, if_neg e3]
          exact pair_sign _ _ _ _ _ _ e1 e2 e3 _ _ w k1 t2 k2 t3
        · rw [if_neg hc]
          refine pair_c _ _ _ _ _ _ _ _ w k1 t2 k2 ?_
          by_cases hr2 : r < s.size
          · exact .inr ⟨_, _, suf_txt hr2, fun e => hc ⟨hr2, e⟩⟩
          · exact .inl (suf_end s (by omega))
    · rw [if_neg hlt]
      simp only [told, show suf s q = noText from suf_end s (by omega)] at k1
      exact pair_a _ _ _ _ w (.inr rfl) k1
theorem form_ok (s : ByteArray) : ∀ f, TakesF s f := by
  intro f
  induction f with
  | zero => intro p _ hf; omega
  | succ f ih =>
    intro p hp hf w ho
    rw [prs, prx]
    by_cases hlt : p < s.size
    · rw [if_pos hlt]
      have t := suf_txt hlt
      unfold one
      by_cases e1 : byte s p = 48
      · rw [e1] at t; rw [if_pos e1]; exact form_nought _ _ w t
      by_cases e2 : byte s p = 49
      · rw [e2] at t; rw [if_neg e1, if_pos e2]; exact form_one _ _ w t
      by_cases e3 : 97 ≤ byte s p ∧ byte s p < 103
      · rw [show byte s p = 97 + (byte s p - 97) by omega] at t
        rw [if_neg e1, if_neg e2, if_pos e3]; exact form_var _ _ (byte s p - 97) (by omega) w ho t
      by_cases e4 : byte s p = 33
      · rw [e4] at t
        rw [if_neg e1, if_neg e2, if_neg e3, if_pos e4, if_pos ⟨hlt, e4⟩]
        have k := fun w' (hb : Below w.heap.size w w') => ih (p + 1) (by omega) (by omega) w' (ho.below hb)
        cases h1 : prs s f (p + 1) with
        | none => rw [h1] at k; exact form_not _ _ _ _ _ w t k
        | some o => rw [h1] at k; exact form_not _ _ _ _ _ w t k
      rw [if_neg (fun h => e4 h.2)]
      by_cases e5 : byte s p = 40
      · rw [e5] at t
        rw [if_neg e1, if_neg e2, if_neg e3, if_neg e4, if_pos e5]
        have k := fun w' (hb : Below w.heap.size w w') => pair_ok s f ih (p + 1) (by omega) (by omega) w' (ho.below hb)
        cases h1 : par (prs s f) s (p + 1) with
        | none => rw [h1] at k; exact form_par _ _ _ _ _ w t k
        | some o => rw [h1] at k; exact form_par _ _ _ _ _ w t k
      rw [if_neg e1, if_neg e2, if_neg e3, if_neg e4, if_neg e5]
      exact form_other _ _ _ w t e1 e2 e3 e4 e5
    · rw [if_neg hlt, if_neg (fun h => hlt h.1), suf_end s (by omega)]
      exact form_empty w
theorem of_yes (s : ByteArray) (x : Bdd.T) (w : World) (hs : s.size ≤ 60) (hK : Calls Tryd.prog 56 #[.string s] w fun e w' => e = .returned (.tuple #[uv x, .string noText, .bool true]) ∧ Below w.heap.size w w') :
    Calls Tryd.prog 36 #[.string s] w fun e w' => e = .returned (.tuple #[uv x, .bool true]) ∧ Below w.heap.size w w' := by
  have HK := hide hK
  have hle : ¬ (60 < (s.size : Int)) := by omega
  clear hK
  go_enter Tryd.func36, Tryd.ntmps36
  go_wp2_with (refine HK.out.mono ?_; rintro e w1 ⟨rfl, hb1⟩)
  go_ret2
  exact ⟨rfl, hb1⟩
theorem of_no (s t : ByteArray) (x : Bdd.T) (b : Bool) (w : World) (hs : s.size ≤ 60) (hb : b = false ∨ 0 < t.size) (hK : Calls Tryd.prog 56 #[.string s] w fun e w' => e = .returned (.tuple #[uv x, .string t, .bool b]) ∧ Below w.heap.size w w') :
    Calls Tryd.prog 36 #[.string s] w fun e w' => e = .returned (.tuple #[uv x, .bool false]) ∧ Below w.heap.size w w' := by
  have HK := hide hK
  have hle : ¬ (60 < (s.size : Int)) := by omega
  clear hK
  cases b
  · go_enter Tryd.func36, Tryd.ntmps36
    go_wp2_with (refine HK.out.mono ?_; rintro e w1 ⟨rfl, hb1⟩)
    go_ret2
    exact ⟨rfl, hb1⟩
  · have hem := not_empty t (by rcases hb with h | h; cases h; exact h)
    go_enter Tryd.func36, Tryd.ntmps36
    go_wp2_with (refine HK.out.mono ?_; rintro e w1 ⟨rfl, hb1⟩)
    go_ret2
    exact ⟨rfl, hb1⟩
theorem of_long (s : ByteArray) (w : World) (hs : ¬ s.size ≤ 60) (hm : s.size ≤ maxLen) :
    Calls Tryd.prog 36 #[.string s] w fun e w' => e = .returned (.tuple #[uv 0, .bool false]) ∧ Below w.heap.size w w' := by
  unfold maxLen at hm
  have hle : (60 < (s.size : Int)) := by omega
  go_enter Tryd.func36, Tryd.ntmps36
  go_wp2
  go_ret2
  exact ⟨rfl, Below.refl _ _⟩
namespace M
open Bdd
/-- The table that a text tells, and what is told where it is none. -/
def fx (s : ByteArray) : T := match formT s with
  | some x => x
  | none => if s.size ≤ 60 then (match prs s (s.size + 1) 0 with | some (x, _) => x | none => prx s (s.size + 1) 0) else 0
end M
/-- A form's table, if it is one. -/
theorem of_form (s : ByteArray) (w : World) (ho : OV w) (hm : s.size ≤ maxLen) :
    Calls Tryd.prog 36 #[.string s] w fun e w' => e = .returned (.tuple #[uv (fx s), .bool (formT s).isSome]) ∧ Below w.heap.size w w' := by
  by_cases hs : s.size ≤ 60
  · have k := form_ok s (s.size + 1) 0 (by omega) (by omega) w ho
    rw [suf_zero] at k
    cases h1 : prs s (s.size + 1) 0 with
    | none =>
      rw [h1] at k
      have hf : formT s = none := by unfold formT; rw [if_pos hs, h1]
      have hx : fx s = prx s (s.size + 1) 0 := by unfold fx; rw [hf]; simp only; rw [if_pos hs, h1]
      rw [hx, hf]
      exact of_no s noText _ false w hs (.inl rfl) k
    | some o =>
      obtain ⟨x, q⟩ := o
      have hq := (prs_pos s _ _ x q h1).2
      rw [h1] at k
      by_cases hqe : q = s.size
      · have hf : formT s = some x := by unfold formT; rw [if_pos hs, h1]; simp only; rw [if_pos hqe]
        have hx : fx s = x := by unfold fx; rw [hf]
        rw [hx, hf]
        simp only [told, suf_end s (p := q) (by omega)] at k
        exact of_yes s x w hs k
      · have hf : formT s = none := by unfold formT; rw [if_pos hs, h1]; simp only; rw [if_neg hqe]
        have hx : fx s = x := by unfold fx; rw [hf]; simp only; rw [if_pos hs, h1]
        rw [hx, hf]
        exact of_no s (suf s q) _ true w hs (.inr (by rw [suf_size]; omega)) k
  · have hf : formT s = none := by unfold formT; rw [if_neg hs]
    have hx : fx s = 0 := by unfold fx; rw [hf]; simp only; rw [if_neg hs]
    rw [hx, hf]
    exact of_long s w hs hm
theorem impl_form (s : ByteArray) (w : World) (ho : OV w) (hm : s.size ≤ maxLen) :
    Calls Tryd.prog 13 #[.string s] w fun e w' => e = .returned (.bool (formT s).isSome) ∧ Below w.heap.size w w' := by
  have HK := hide (of_form s w ho hm)
  go_enter Tryd.func13, Tryd.ntmps13
  go_wp2_with (refine HK.out.mono ?_; rintro e w1 ⟨rfl, hb1⟩)
  go_ret
  exact ⟨rfl, hb1⟩
end Go.Proofs.YtfiooclkefmijaaDoor
