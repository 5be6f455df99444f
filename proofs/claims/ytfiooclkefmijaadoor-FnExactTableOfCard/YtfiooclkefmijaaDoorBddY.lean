/-
  The law of TableOf, walked.
-/
import Derived.Test.YtfiooclkefmijaaDoorBddX
namespace Go.Proofs.YtfiooclkefmijaaDoor
open Go.RowKit M
open Bdd (formT)
namespace M
open Bdd
/-- What TableOf tells. -/
def tabF (s : ByteArray) : ByteArray := match formT s with | some x => tabS x | none => noText
end M
theorem impl_tableOf (s : ByteArray) (w : World) (ho : OV w) (hm : s.size ≤ maxLen) :
    Calls Tryd.prog 15 #[.string s] w fun e w' => e = .returned (.tuple #[.string (tabF s), .bool (formT s).isSome]) ∧ Below w.heap.size w w' := by
  have k := of_form s w ho hm
  unfold tabF
  cases h : formT s with
  | none => rw [h] at k; exact impl_table_no s w (k.mono fun e w' ⟨he, hb⟩ => ⟨⟨_, he⟩, hb⟩)
  | some x =>
    rw [h, show fx s = x by unfold fx; rw [h]] at k
    exact impl_table_yes s x w k
theorem spec_tableOf (s : ByteArray) (w : World) (hm : s.size ≤ maxLen) :
    Calls Tryd.prog 14 #[.string s] w fun e w' => e = .returned (.tuple #[.string (tabF s), .bool (formT s).isSome]) ∧ Below w.heap.size w w' := by
  have k := l7_table s w hm
  unfold tabF
  unfold TabA at k
  cases h : formT s with
  | none =>
    rw [h] at k
    exact spec_table_no s w (k.mono fun e w' ⟨⟨x, he, _⟩, hb⟩ => ⟨⟨x, he⟩, hb⟩)
  | some x =>
    rw [h] at k
    refine spec_table_yes s x w (k.mono ?_)
    rintro e w' ⟨⟨y, he, hy⟩, hb⟩
    rw [hy x rfl] at he
    exact ⟨he, hb⟩
theorem law_table (s : ByteArray) (w : World) (ho : OV w) (hm : s.size ≤ maxLen) :
    Calls Tryd.prog 4 #[.string s] w fun e w' => e = .returned (.bool true) ∧ Below w.heap.size w w' := by
  have hm' := hm
  unfold maxLen at hm'
  by_cases hs : s.size ≤ 1048576
  · have hle : ¬ (1048576 < (s.size : Int)) := by omega
    have HO := hide ho
    have HM := hide hm
    clear ho hm hm' hs
    obtain ⟨b, hbe⟩ : ∃ b, (formT s).isSome = b := ⟨_, rfl⟩
    obtain ⟨t, hte⟩ : ∃ t, tabF s = t := ⟨_, rfl⟩
    have hb : (b != b) = false := by simp
    have ht : (t.toList != t.toList) = false := by simp
    have HB := hide hbe
    have HT := hide hte
    clear hbe hte
    go_enter Tryd.func4, Tryd.ntmps4
    go_wp2_with fail
    refine (spec_tableOf s w HM.out).mono ?_
    rintro e w1 ⟨rfl, hb1⟩
    rw [HB.out, HT.out]
    go_wp2_with fail
    refine (impl_tableOf s w1 (HO.out.below hb1) HM.out).mono ?_
    rintro e w2 ⟨rfl, hb2⟩
    have hbw := hb1.trans (hb2.mono hb1.size)
    rw [HB.out, HT.out]
    clear hb1 hb2
    go_wp2
    go_ret
    exact ⟨rfl, hbw⟩
  · have hle : (1048576 < (s.size : Int)) := by omega
    clear ho hm
    go_enter Tryd.func4, Tryd.ntmps4
    go_wp2
    go_ret
    exact ⟨rfl, Below.refl _ _⟩
end Go.Proofs.YtfiooclkefmijaaDoor
