/-
  The law of EventBytes, walked: it returns true and turns nothing that was there. Condition: the tables knownKinds and uint64pow10 read as the texts lay them.
-/
import Derived.Test.YtkcgckobaobogaaDoorBytes
import Derived.Test.YtkcgckobaobogaaDoorGoodAid
namespace Go.Proofs.YtkcgckobaobogaaDoor
open Go.RowKit M

set_option maxHeartbeats 1000000 in
theorem law_bytes (id ver kind : Int) (name : ByteArray) (w : World) (hn : name.size ≤ maxLen) (hk : KK w) (hp : PT w) :
    Calls Tryd.prog 4 #[ev id ver kind name] w fun e w' => e = .returned (.bool true) ∧ Below w.heap.size w w' := by
  by_cases hl : (name.size : Int) ≤ 1048576
  · have hge : ¬ (1048576 - (name.size : Int) < 0) := by omega
    have HP := hide hp
    clear hp
    cases hg : goodB id ver kind name
    · go_enter Tryd.func4, Tryd.ntmps4
      go_wp2_with fail
      refine (sz_yes _ _ _ _ _ _ (by omega) (by omega) hl).mono ?_
      rintro e w1 ⟨rfl, hb1⟩
      obtain ⟨hc1, hf1⟩ := bcell2 hb1
      go_wp2_with fail
      refine (to_event _ _ _ _ _).mono ?_
      rintro e w2 ⟨rfl, hb⟩
      have hb2 := hb1.trans (hb.mono hb1.size)
      clear hb hc1 hf1
      go_wp2_with fail
      refine (spec_evbytes_no _ _ _ _ _ hn hg).mono ?_
      rintro e w3 ⟨rfl, hb⟩
      have hb3 := hb2.trans (hb.mono hb2.size)
      obtain ⟨hc3, hf3⟩ := bcell2 hb3
      clear hb
      go_wp2_with fail
      refine (to_event _ _ _ _ _).mono ?_
      rintro e w4 ⟨rfl, hb⟩
      have hb4 := hb3.trans (hb.mono hb3.size)
      clear hb hc3 hf3
      go_wp2_with fail
      refine (impl_evbytes_no _ _ _ _ _ hn ((hk.alloc _).below hb4) hg).mono ?_
      rintro e w5 ⟨rfl, hb⟩
      have hb5 := hb4.trans (hb.mono hb4.size)
      clear hb
      go_wp2
      go_ret
      exact ⟨rfl, ((Below.refl _ w).alloc (Nat.le_refl _) _).trans (hb5.mono (by simp))⟩
    · go_enter Tryd.func4, Tryd.ntmps4
      go_wp2_with fail
      refine (sz_yes _ _ _ _ _ _ (by omega) (by omega) hl).mono ?_
      rintro e w1 ⟨rfl, hb1⟩
      obtain ⟨hc1, hf1⟩ := bcell2 hb1
      go_wp2_with fail
      refine (to_event _ _ _ _ _).mono ?_
      rintro e w2 ⟨rfl, hb⟩
      have hb2 := hb1.trans (hb.mono hb1.size)
      clear hb hc1 hf1
      go_wp2_with fail
      refine (spec_evbytes _ _ _ _ _ hn hg).mono ?_
      rintro e w3 ⟨rfl, hb⟩
      have hb3 := hb2.trans (hb.mono hb2.size)
      obtain ⟨hc3, hf3⟩ := bcell2 hb3
      clear hb
      go_wp2_with fail
      refine (to_event _ _ _ _ _).mono ?_
      rintro e w4 ⟨rfl, hb⟩
      have hb4 := hb3.trans (hb.mono hb3.size)
      clear hb hc3 hf3
      go_wp2_with fail
      refine (impl_evbytes _ _ _ _ _ hn ((hk.alloc _).below hb4) ((HP.out.alloc _).below hb4) hg).mono ?_
      rintro e w5 ⟨rfl, hb⟩
      have hb5 := hb4.trans (hb.mono hb4.size)
      clear hb
      go_wp2
      go_ret
      exact ⟨rfl, ((Below.refl _ w).alloc (Nat.le_refl _) _).trans (hb5.mono (by simp))⟩
  · have hge : ((-1 : Int) < 0) := by omega
    go_enter Tryd.func4, Tryd.ntmps4
    go_wp2_with (go_at_call 8; refine (sz_no _ _ _ _ _ _ hn (by omega) (by omega) (by omega)).mono ?_; rintro e w1 ⟨rfl, hb1⟩)
    go_ret
    exact ⟨rfl, ((Below.refl _ w).alloc (Nat.le_refl _) _).trans (hb1.mono (by simp))⟩
end Go.Proofs.YtkcgckobaobogaaDoor
