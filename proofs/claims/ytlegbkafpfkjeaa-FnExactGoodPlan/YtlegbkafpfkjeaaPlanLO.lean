/-
  The laws of GoodPlan and OrderOf, walked, at every list of tasks.
-/
import Derived.Test.YtlegbkafpfkjeaaPlanWO
import Derived.Test.YtlegbkafpfkjeaaPlanG
import Derived.Test.YtlegbkafpfkjeaaPlanS
namespace Go.Proofs.Ytlegbkafpfkjeaa
open Go.RowKit M
theorem law_order (v : Value) (k : Nat) (ts : Nat → Tk) (w : World) (hv : TasksOf w v k ts) (hl : Lens k ts) :
    Calls Try.prog 4 #[v] w fun e w' => e = .returned (.bool true) ∧ Below w.heap.size w w' := by
  refine law_orderOf_run v k ts w hv hl (fun hs => ?_)
  by_cases hg : GoodP k ts
  · exact ⟨k, lv (ord ts k k), true, hs.1, fun v w h => spec_order v k ts w h hs hg, fun v w h => impl_order v k ts w h hs hg⟩
  · exact ⟨0, fun _ => 0, false, by omega, fun v w h => (spec_order_no v k ts w h hs hg).mono fun _ _ ⟨he, hb⟩ => ⟨⟨_, he, none, 0, rfl, fun h => absurd h (Nat.lt_irrefl _)⟩, hb⟩,
      fun v w h => (impl_order_no v k ts w h hs hg).mono fun _ _ ⟨he, hb⟩ => ⟨⟨_, he, .inl ⟨rfl, rfl⟩⟩, hb⟩⟩
set_option maxHeartbeats 2000000 in
theorem law_good (v : Value) (k : Nat) (ts : Nat → Tk) (w : World) (hv : TasksOf w v k ts) (hl : Lens k ts) :
    Calls Try.prog 3 #[v] w fun e w' => e = .returned (.bool true) ∧ Below w.heap.size w w' := by
  have HV := hide hv
  obtain ⟨a, cap, rfl⟩ := hv.form
  have HL := hide hl
  have hoo : ∀ b : Bool, (b != b) = false := fun b => by simp
  clear hv hl
  go_enter Try.func3, Try.ntmps3
  go_wp2_with fail
  refine (sz_tasks _ k ts _ HV.out HL.out).mono ?_
  rintro e w1 ⟨⟨r, rfl, hr⟩, hb1⟩
  by_cases hrn : r < 0
  · clear hr HL HV
    go_wp2
    go_ret
    exact ⟨rfl, hb1⟩
  · have hsm : Small k ts := by
      rcases hr with h | ⟨_, h⟩
      · omega
      · exact h
    have HS := hide hsm.short
    clear hr hsm HL
    generalize hbb : decide (GoodP k ts) = b
    go_wp2_with fail
    refine (to_tasks _ k ts _ (HV.out.below hb1) HS.out).mono ?_
    rintro e w2 ⟨⟨rfl, X2, hX2⟩, hb⟩
    have hb2 := hb1.trans (hb.mono hb1.size)
    clear hb hb1
    go_wp2_with fail
    refine (spec_good _ k ts b _ (hX2.tasks (cap := k)) HS.out hbb).mono ?_
    rintro e w3 ⟨rfl, hb⟩
    have hb3 := hb2.trans (hb.mono hb2.size)
    clear hX2 hb hb2
    go_wp2_with fail
    refine (to_tasks _ k ts _ (HV.out.below hb3) HS.out).mono ?_
    rintro e w4 ⟨⟨rfl, X4, hX4⟩, s4⟩
    have hb4 := hb3.trans (s4.mono hb3.size)
    have HX4 := hide hX4
    clear hX4
    go_wp2_with fail
    refine (impl_good _ k ts b _ (HX4.out.tasks (cap := k)) HS.out hbb).mono ?_
    rintro e w5 ⟨rfl, hb⟩
    have hb5 := hb4.trans (hb.mono hb4.size)
    have HX5 := hide (HX4.out.below hb)
    have hob := hoo b
    clear hb hb4 s4 HX4 hoo
    go_wp2_with fail
    refine (to_tasks _ k ts _ (HV.out.below hb5) HS.out).mono ?_
    rintro e w7 ⟨⟨rfl, X7, hX7⟩, hb⟩
    have hb7 := hb5.trans (hb.mono hb5.size)
    have HX7 := hide (HX5.out.below hb)
    clear hb hb5 HX5
    go_wp2_with fail
    refine (eq_tasks _ _ k ts _ (HX7.out.tasks (cap := k)) (hX7.tasks (cap := k)) HS.out).mono ?_
    rintro e w8 ⟨rfl, hb⟩
    have hb8 := hb7.trans (hb.mono hb7.size)
    clear hb hb7 HX7 hX7 HV HS
    go_wp2
    go_ret
    exact ⟨rfl, hb8⟩
end Go.Proofs.Ytlegbkafpfkjeaa
