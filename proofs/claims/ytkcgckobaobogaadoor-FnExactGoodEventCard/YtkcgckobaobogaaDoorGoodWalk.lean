/-
  The law of GoodEvent, walked: it returns true and turns nothing that was there. Condition: the table knownKinds reads as the program's text lays it.
-/
import Derived.Test.YtkcgckobaobogaaDoorGoodAid
namespace Go.Proofs.YtkcgckobaobogaaDoor
open Go.RowKit M

theorem bcell {W w1 : World} (hb : Below W.heap.size W w1) : (∀ b o, b < W.heap.size → w1.cell? ⟨b, o, none⟩ = W.cell? ⟨b, o, none⟩) ∧ (∀ b o, b < W.heap.size → w1.frozen? ⟨b, o, none⟩ = W.frozen? ⟨b, o, none⟩) :=
  ⟨fun b o h => hb.cell (p := ⟨b, o, none⟩) h, fun b o h => hb.frozen (p := ⟨b, o, none⟩) h⟩

set_option maxHeartbeats 1000000 in
theorem law_good (id ver kind : Int) (name : ByteArray) (w : World) (hn : name.size ≤ maxLen) (hk : KK w) :
    Calls Tryd.prog 3 #[ev id ver kind name] w fun e w' => e = .returned (.bool true) ∧ Below w.heap.size w w' := by
  by_cases hl : (name.size : Int) ≤ 1048576
  · have hge : ¬ (1048576 - (name.size : Int) < 0) := by omega
    go_enter Tryd.func3, Tryd.ntmps3
    go_wp2_with fail
    refine (sz_yes _ _ _ _ _ _ (by omega) (by omega) hl).mono ?_
    rintro e w1 ⟨rfl, hb1⟩
    obtain ⟨hc1, hf1⟩ := bcell hb1
    go_wp2_with fail
    refine (to_event _ _ _ _ _).mono ?_
    rintro e w2 ⟨rfl, hb⟩
    have hb2 := hb1.trans (hb.mono hb1.size)
    clear hb hc1 hf1
    go_wp2_with fail
    refine (spec_good _ _ _ _ _ hn).mono ?_
    rintro e w3 ⟨rfl, hb⟩
    have hb3 := hb2.trans (hb.mono hb2.size)
    obtain ⟨hc3, hf3⟩ := bcell hb3
    clear hb
    go_wp2_with fail
    refine (to_event _ _ _ _ _).mono ?_
    rintro e w4 ⟨rfl, hb⟩
    have hb4 := hb3.trans (hb.mono hb3.size)
    clear hb hc3 hf3
    go_wp2_with fail
    refine (impl_good _ _ _ _ _ hn ((hk.alloc _).below hb4)).mono ?_
    rintro e w5 ⟨rfl, hb⟩
    have hb5 := hb4.trans (hb.mono hb4.size)
    clear hb
    go_wp2
    go_ret
    exact ⟨rfl, ((Below.refl _ w).alloc (Nat.le_refl _) _).trans (hb5.mono (by simp))⟩
  · have hge : ((-1 : Int) < 0) := by omega
    go_enter Tryd.func3, Tryd.ntmps3
    go_wp2_with (go_at_call 8; refine (sz_no _ _ _ _ _ _ hn (by omega) (by omega) (by omega)).mono ?_; rintro e w1 ⟨rfl, hb1⟩)
    go_ret
    exact ⟨rfl, ((Below.refl _ w).alloc (Nat.le_refl _) _).trans (hb1.mono (by simp))⟩
end Go.Proofs.YtkcgckobaobogaaDoor
