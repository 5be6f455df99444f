/-
  The specification's table of a text, GoodForm; TableOf of both texts.
-/
import Derived.Test.YtfiooclkefmijaaDoorBddS
namespace Go.Proofs.YtfiooclkefmijaaDoor
open Go.RowKit M
open Clk (upd upd_same upd_other)
open Bdd (formT prs prs_pos)
namespace M
open Bdd
def TabA (s : ByteArray) (e : Ending) : Prop := ∃ x, e = .returned (.tuple #[uv x, .bool (formT s).isSome]) ∧ ∀ y, formT s = some y → x = y
end M
theorem l7_table (s : ByteArray) (w : World) (hm : s.size ≤ maxLen) :
    Calls Tryd.prog 35 #[.string s] w fun e w' => TabA s e ∧ Below w.heap.size w w' := by
  unfold maxLen at hm
  by_cases hs : s.size ≤ 60
  · have hle : ¬ (60 < (s.size : Int)) := by omega
    have h0 : RB (w.alloc (.cells #[.string s, .int .i64 0, .bool false] 74)) w.heap.size s 0 false := Blk.fresh w _ 3 (rv s 0 false) 74 rfl
    have HK := hide (forms_ok s hs (s.size + 1) (by omega) w.heap.size 0 false _ h0 (by omega) (fun _ => ⟨by omega, by omega⟩))
    have HS := hide hs
    clear h0 hm hs
    go_enter Tryd.func35, Tryd.ntmps35
    go_wp2_with fail
    refine HK.out.mono ?_
    rintro e w1 ⟨x, a, b, rfl, hr, hb, hl⟩
    have hbw : Below w.heap.size w w1 := ((Below.refl _ w).alloc (Nat.le_refl _) _).trans hb
    obtain ⟨c0, c1, c2, -, -⟩ := hr.cells
    clear HK hr hb
    rcases hl with ⟨hc, _⟩ | ⟨_, ⟨hl, rfl⟩ | ⟨hl, hle, rfl⟩⟩
    · cases hc
    · have hq := prs_pos _ _ _ _ _ hl
      by_cases he : a = s.size
      · have HF := hide (show formT s = some x by unfold formT; rw [if_pos HS.out, hl]; simp only; rw [if_pos he])
        have hd : ((a : Int) == (s.size : Int)) = true := by simp [he]
        clear hl he hq HS
        go_wp2
        go_big_quiet (fail)
        go_wp2
        go_ret2
        exact ⟨⟨x, by rw [HF.out]; rfl, fun y hy => by rw [HF.out] at hy; injection hy⟩, below_drewN hbw _⟩
      · have HF := hide (show formT s = none by unfold formT; rw [if_pos HS.out, hl]; simp only; rw [if_neg he])
        have hd : ((a : Int) == (s.size : Int)) = false := by simp; omega
        clear hl he hq HS
        go_wp2
        go_big_quiet (fail)
        go_wp2
        go_ret2
        exact ⟨⟨x, by rw [HF.out]; rfl, fun y hy => by rw [HF.out] at hy; cases hy⟩, below_drewN hbw _⟩
    · have HF := hide (show formT s = none by unfold formT; rw [if_pos HS.out, hl])
      clear hl hle HS
      go_wp2
      go_big_quiet (fail)
      go_wp2
      go_ret2
      exact ⟨⟨x, by rw [HF.out]; rfl, fun y hy => by rw [HF.out] at hy; cases hy⟩, below_drewN hbw _⟩
  · have hle : (60 < (s.size : Int)) := by omega
    have HF := hide (show formT s = none by unfold formT; rw [if_neg hs])
    clear hs
    go_enter Tryd.func35, Tryd.ntmps35
    go_wp2
    go_ret2
    exact ⟨⟨0, by rw [HF.out]; rfl, fun y hy => by rw [HF.out] at hy; cases hy⟩, Below.refl _ _⟩
theorem spec_form (s : ByteArray) (w : World) (hm : s.size ≤ maxLen) :
    Calls Tryd.prog 12 #[.string s] w fun e w' => e = .returned (.bool (formT s).isSome) ∧ Below w.heap.size w w' := by
  have HK := hide (l7_table s w hm)
  go_enter Tryd.func12, Tryd.ntmps12
  go_wp2_with (refine HK.out.mono ?_; rintro e w1 ⟨⟨x, rfl, hx⟩, hb1⟩)
  go_ret
  exact ⟨rfl, hb1⟩
theorem law_form (s : ByteArray) (w : World) (ho : OV w) (hm : s.size ≤ maxLen) :
    Calls Tryd.prog 3 #[.string s] w fun e w' => e = .returned (.bool true) ∧ Below w.heap.size w w' := by
  have hm' := hm
  unfold maxLen at hm'
  by_cases hs : s.size ≤ 1048576
  · have hle : ¬ (1048576 < (s.size : Int)) := by omega
    have hb : ((formT s).isSome != (formT s).isSome) = false := by simp
    have HO := hide ho
    have HM := hide hm
    clear ho hm hm' hs
    obtain ⟨b, hbe⟩ : ∃ b, (formT s).isSome = b := ⟨_, rfl⟩
    rw [hbe] at hb
    have HB := hide hbe
    clear hbe
    go_enter Tryd.func3, Tryd.ntmps3
    go_wp2_with fail
    refine (spec_form s w HM.out).mono ?_
    rintro e w1 ⟨rfl, hb1⟩
    rw [HB.out]
    go_wp2_with fail
    refine (impl_form s w1 (HO.out.below hb1) HM.out).mono ?_
    rintro e w2 ⟨rfl, hb2⟩
    have hbw := hb1.trans (hb2.mono hb1.size)
    rw [HB.out]
    clear hb1 hb2
    go_wp2
    go_ret
    exact ⟨rfl, hbw⟩
  · have hle : (1048576 < (s.size : Int)) := by omega
    clear ho hm
    go_enter Tryd.func3, Tryd.ntmps3
    go_wp2
    go_ret
    exact ⟨rfl, Below.refl _ _⟩
end Go.Proofs.YtfiooclkefmijaaDoor
