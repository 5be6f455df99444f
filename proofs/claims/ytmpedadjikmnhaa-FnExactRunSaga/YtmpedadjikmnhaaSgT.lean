/-
  What gives up is caught: the program's catchGivingUp.
-/
import Derived.Test.YtmpedadjikmnhaaSgS
import Derived.Defers
import Derived.Recover
namespace Go.Proofs.Ytmpedadjikmnhaa
open Go.RowKit M
open Clk (upd upd_same upd_other)
theorem catch_idle (w : World) :
    CallsD Try.prog 69 #[] .returning w fun e u' w' => e = .returned (.tuple #[]) ∧ u' = .returning ∧ w' = w := by
  refine callsD_of_wpS Try.func69 rfl fun c₀ cs hu => ?_
  apply wpS_region
  cases c₀
  simp_all [wpOpsS, go_sem, recoverD, Try.ntmps69, bodyPostS, results, Try.results69]
theorem catch_panicking (v : Value) (w : World) :
    CallsD Try.prog 69 #[] (.panicking [{ v := v, recovered := false }]) w fun e u' w' =>
      e = .returned (.tuple #[]) ∧ u' = .panicking [{ v := v, recovered := true }] ∧ w' = w := by
  refine callsD_of_wpS Try.func69 rfl fun c₀ cs hu => ?_
  apply wpS_region
  cases c₀
  simp_all [wpOpsS, go_sem, recoverD, Try.ntmps69, bodyPostS, results, Try.results69]
set_option maxRecDepth 20000 in
theorem catch_do (F : Nat) (p : Value) (R : World → Prop) (w : World) (eg : ∀ args w, (callFunc F args).run Try.prog w = .ok (.enter F args) w)
    (hc : Calls Try.prog F #[p] w fun e w' => (e = .returned (.tuple #[]) ∨ Gv e) ∧ R w') :
    Calls Try.prog 58 #[.func (.func F) #[p] #[]] w fun e w' => e = .returned (.tuple #[]) ∧ R w' := by
  have HC := hide hc
  clear hc
  go_enter_defers Try.func58, Try.ntmps58
  go_wp2_with fail
  refine HC.out.mono ?_
  rintro e w' ⟨rfl | ⟨v, rfl⟩, hR⟩
  · have HR := hide hR
    clear HC hR
    go_wp2
    refine leaves_cons (f := 69) (args := #[]) (by simp) (by simp [go_sem]) ?_
    refine (catch_idle _).mono ?_
    rintro e u' w'' ⟨rfl, rfl, rfl⟩
    exact ⟨_, results_none rfl _ _ _, rfl, HR.out⟩
  · have HR := hide hR
    clear HC hR
    go_wp2
    refine leaves_cons (f := 69) (args := #[]) (by simp) (by simp [go_sem]) ?_
    refine (catch_panicking v _).mono ?_
    rintro e u' w'' ⟨rfl, rfl, rfl⟩
    exact ⟨_, results_none rfl _ _ _, rfl, HR.out⟩
end Go.Proofs.Ytmpedadjikmnhaa
