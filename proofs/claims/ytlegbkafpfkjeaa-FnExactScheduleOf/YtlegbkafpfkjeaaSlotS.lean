/-
  IsSchedule: the program's text, by its three tests.
-/
import Derived.Test.YtlegbkafpfkjeaaSlotN
import Derived.Test.YtlegbkafpfkjeaaPlanG
namespace Go.Proofs.Ytlegbkafpfkjeaa
open Go.ChangeShapes Go.WideShapes Go.ChangeAt Go.RowKit Go.Joins Go.Deep
open M
open Clk (upd upd_same upd_other)
namespace M
def SOk (k : Nat) (p : Int) (ts : Nat → Tk) (n : Nat) : Prop := GoodP k ts ∧ (1 ≤ p ∧ p ≤ 8) ∧ n ≤ 30
instance (k : Nat) (p : Int) (ts : Nat → Tk) (n : Nat) : Decidable (SOk k p ts n) := by unfold SOk; infer_instance
end M
theorem good_workers (p : Int) (b : Bool) (w : World) (hb : decide (1 ≤ p ∧ p ≤ 8) = b) :
    Calls Try.prog 57 #[.int .i64 p] w fun e w' => e = .returned (.bool b) ∧ w' = w := by
  have HB := hide hb
  clear hb
  go_enter Try.func57, Try.ntmps57
  go_wp2_with fail
  refine (within_to _ _ _ _ _ HB.out).mono ?_
  rintro e w1 ⟨rfl, rfl⟩
  go_wp2
  go_ret
  exact ⟨rfl, rfl⟩
set_option maxHeartbeats 2000000 in
theorem impl_sched (v : Value) (g0 k : Nat) (p : Int) (n : Nat) (f : Nat → Int) (ts : Nat → Tk) (b1 b2 : Bool) (w : World) (hv : TasksOf w v k ts) (hs : Short k ts) (hu : SlotsOf w (sl g0 n) n f) (hn : n ≤ 1048576) (h2 : decide (SOk k p ts n) = b2) (h1 : decide (SOk k p ts n ∧ Sched k p ts f n) = b1) :
    Calls Try.prog 39 #[v, .int .i64 p, sl g0 n] w fun e w' => e = .returned (.tuple #[.bool b1, .bool b2]) ∧ Below w.heap.size w w' := by
  have HV := hide hv
  have HU := hide hu
  have HS := hide hs
  obtain ⟨a, cap, rfl⟩ := hv.form
  clear hv hu hs
  by_cases hg : GoodP k ts
  · have HG := hide (impl_good _ k ts true w HV.out HS.out (decide_eq_true hg))
    have HGd := hide hg
    by_cases hp : 1 ≤ p ∧ p ≤ 8
    · have HP := hide (decide_eq_true hp)
      by_cases h30 : n ≤ 30
      · have hd30 : decide ((30 : Int) < (n : Int)) = false := decide_eq_false (by omega)
        obtain rfl : b2 = true := by rw [← h2, decide_eq_true_eq]; exact ⟨hg, hp, h30⟩
        have H1 := hide (show decide (Sched k p ts f n) = b1 by rw [← h1, Bool.eq_iff_iff]; simp only [decide_eq_true_eq]; exact ⟨fun h => ⟨⟨hg, hp, h30⟩, h⟩, fun h => h.2⟩)
        have hk30 := hg.1.1
        clear h1 h2 hg
        by_cases hA : OnceTo k p f n ∧ n = k
        · have HA := hide hA
          by_cases hB : NoneTo ts f n
          · have HB := hide hB
            obtain ⟨c, hc⟩ : ∃ c, decide (NOv ts f n) = c := ⟨_, rfl⟩
            have HC := hide hc
            have HF := hide (show c = b1 by
              rw [← H1.out, ← hc, Bool.eq_iff_iff]; simp only [decide_eq_true_eq]
              exact ⟨fun h => ⟨hA, hB, h⟩, fun h => h.2.2⟩)
            clear hA hB hc H1
            go_enter Try.func39, Try.ntmps39
            go_wp2_with fail
            refine HG.out.mono ?_
            rintro e w1 ⟨rfl, hb1⟩
            go_wp2_with fail
            refine (good_workers p true _ HP.out).mono ?_
            rintro e w1' ⟨rfl, rfl⟩
            go_wp2_with fail
            refine (each_once _ _ k p n f ts true _ (HV.out.below hb1) (HU.out.below hb1) hk30 h30 hp (decide_eq_true HA.out)).mono ?_
            rintro e w2 ⟨rfl, hb⟩
            have hb2 := hb1.trans (hb.mono hb1.size)
            clear hb
            go_wp2_with fail
            refine (none_at_once _ g0 k p n f ts true _ (HV.out.below hb2) HGd.out.1 (HU.out.below hb2) h30 HA.out.1 (decide_eq_true HB.out)).mono ?_
            rintro e w3 ⟨rfl, hb⟩
            have hb3 := hb2.trans (hb.mono hb2.size)
            clear hb
            go_wp2_with fail
            refine (needs_over _ _ k p n f ts c _ (HV.out.below hb3) HGd.out.1 (HU.out.below hb3) h30 HA.out.1 HC.out).mono ?_
            rintro e w4 ⟨rfl, hb⟩
            have hb4 := hb3.trans (hb.mono hb3.size)
            clear hb hb1 hb2 hb3 HG
            go_wp2
            go_ret2
            exact ⟨by rw [← HF.out]; rfl, hb4⟩
          · obtain rfl : b1 = false := by rw [← H1.out, decide_eq_false_iff_not]; exact fun h => hB h.2.1
            have HB := hide hB
            clear hA hB H1
            go_enter Try.func39, Try.ntmps39
            go_wp2_with fail
            refine HG.out.mono ?_
            rintro e w1 ⟨rfl, hb1⟩
            go_wp2_with fail
            refine (good_workers p true _ HP.out).mono ?_
            rintro e w1' ⟨rfl, rfl⟩
            go_wp2_with fail
            refine (each_once _ _ k p n f ts true _ (HV.out.below hb1) (HU.out.below hb1) hk30 h30 hp (decide_eq_true HA.out)).mono ?_
            rintro e w2 ⟨rfl, hb⟩
            have hb2 := hb1.trans (hb.mono hb1.size)
            clear hb
            go_wp2_with fail
            refine (none_at_once _ g0 k p n f ts false _ (HV.out.below hb2) HGd.out.1 (HU.out.below hb2) h30 HA.out.1 (decide_eq_false HB.out)).mono ?_
            rintro e w3 ⟨rfl, hb⟩
            have hb3 := hb2.trans (hb.mono hb2.size)
            clear hb hb1 hb2 HG
            go_wp2
            go_ret2
            exact ⟨rfl, hb3⟩
        · obtain rfl : b1 = false := by rw [← H1.out, decide_eq_false_iff_not]; exact fun h => hA h.1
          have HA := hide hA
          clear hA H1
          go_enter Try.func39, Try.ntmps39
          go_wp2_with fail
          refine HG.out.mono ?_
          rintro e w1 ⟨rfl, hb1⟩
          go_wp2_with fail
          refine (good_workers p true _ HP.out).mono ?_
          rintro e w1' ⟨rfl, rfl⟩
          go_wp2_with fail
          refine (each_once _ _ k p n f ts false _ (HV.out.below hb1) (HU.out.below hb1) hk30 h30 hp (decide_eq_false HA.out)).mono ?_
          rintro e w2 ⟨rfl, hb⟩
          have hb2 := hb1.trans (hb.mono hb1.size)
          clear hb hb1 HG
          go_wp2
          go_ret2
          exact ⟨rfl, hb2⟩
      · have hd30 : decide ((30 : Int) < (n : Int)) = true := decide_eq_true (by omega)
        obtain rfl : b2 = false := by rw [← h2, decide_eq_false_iff_not]; exact fun h => h30 h.2.2
        obtain rfl : b1 = false := by rw [← h1, decide_eq_false_iff_not]; exact fun h => h30 h.1.2.2
        clear h1 h2 hg
        go_enter Try.func39, Try.ntmps39
        go_wp2_with fail
        refine HG.out.mono ?_
        rintro e w1 ⟨rfl, hb1⟩
        go_wp2_with fail
        refine (good_workers p true _ HP.out).mono ?_
        rintro e w1' ⟨rfl, rfl⟩
        clear HG
        go_wp2
        go_ret2
        exact ⟨rfl, hb1⟩
    · have HP := hide (decide_eq_false hp)
      obtain rfl : b2 = false := by rw [← h2, decide_eq_false_iff_not]; exact fun h => hp h.2.1
      obtain rfl : b1 = false := by rw [← h1, decide_eq_false_iff_not]; exact fun h => hp h.1.2.1
      clear h1 h2 hg hp
      go_enter Try.func39, Try.ntmps39
      go_wp2_with fail
      refine HG.out.mono ?_
      rintro e w1 ⟨rfl, hb1⟩
      go_wp2_with fail
      refine (good_workers p false _ HP.out).mono ?_
      rintro e w1' ⟨rfl, rfl⟩
      clear HG
      go_wp2
      go_ret2
      exact ⟨rfl, hb1⟩
  · have HG := hide (impl_good _ k ts false w HV.out HS.out (decide_eq_false hg))
    obtain rfl : b2 = false := by rw [← h2, decide_eq_false_iff_not]; exact fun h => hg h.1
    obtain rfl : b1 = false := by rw [← h1, decide_eq_false_iff_not]; exact fun h => hg h.1.1
    clear h1 h2 hg
    go_enter Try.func39, Try.ntmps39
    go_wp2_with fail
    refine HG.out.mono ?_
    rintro e w1 ⟨rfl, hb1⟩
    clear HG
    go_wp2
    go_ret2
    exact ⟨rfl, hb1⟩
end Go.Proofs.Ytlegbkafpfkjeaa
