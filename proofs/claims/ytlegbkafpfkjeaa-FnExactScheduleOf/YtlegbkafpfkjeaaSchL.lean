/-
  The law of ScheduleOf, walked, at every list of tasks and number of workers.
-/
import Derived.Test.YtlegbkafpfkjeaaSchW
namespace Go.Proofs.Ytlegbkafpfkjeaa
open Go.RowKit M
theorem law_schedule {Q : Prop} (v : Value) (k : Nat) (ts : Nat → Tk) (x : Int) (w : World) (hv : TasksOf w v k ts) (hl : Lens k ts) (_ : Q) :
    Calls Try.prog 9 #[v, .int .i64 x] w fun e w' => e = .returned (.bool true) ∧ Below w.heap.size w w' := by
  refine law_scheduleOf_run v k ts x w hv hl (fun hs => ?_)
  by_cases hg : GoodP k ts ∧ 1 ≤ x ∧ x ≤ 8
  · obtain ⟨hG, h1, h2⟩ := hg
    obtain ⟨p, rfl⟩ := Int.eq_ofNat_of_zero_le (show 0 ≤ x by omega)
    obtain ⟨T, hT⟩ := comes_to_end hG (show 0 < p by omega)
    have hL := hT.last hG.1
    exact ⟨k, fun q => (at' ts k p T).out.getD q 0, (at' ts k p T).all, true, hs.1, fun v w h => (spec_schedule v k ts p T w h hs hG (by omega) hT).mono fun _ _ ⟨⟨R, he, ho⟩, hb⟩ => ⟨⟨R, he, (own_ansS hL ho).slots⟩, hb⟩,
      fun v w h => (impl_schedule v k ts p T w h hs hG (by omega) hT).mono fun _ _ ⟨⟨R, he, ho⟩, hb⟩ => ⟨⟨R, he, own_ansS hL ho⟩, hb⟩⟩
  · exact ⟨0, fun _ => 0, 0, false, by omega, fun v w h => (spec_schedule_no v k ts x w h hs hg).mono fun _ _ ⟨he, hb⟩ => ⟨⟨_, he, none, 0, rfl, fun h => absurd h (Nat.lt_irrefl _)⟩, hb⟩,
      fun v w h => (impl_schedule_no v k ts x w h hs hg).mono fun _ _ ⟨he, hb⟩ => ⟨⟨_, he, .inl ⟨rfl, rfl⟩⟩, hb⟩⟩
end Go.Proofs.Ytlegbkafpfkjeaa
