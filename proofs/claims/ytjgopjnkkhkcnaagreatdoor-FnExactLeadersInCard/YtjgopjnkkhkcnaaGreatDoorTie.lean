/-
  DERIVED. GIVEN WITH THE SEED: THE PROGRAM's TIES (one call each: nine closed facts by the kernel) AND EACH ROW's TIE, after the 31st guide's Derived/Test/Toyas{Tie, Card}.lean. No idea stands in it: it is a product of the set-up. Laid BY PROGRAM, IN A SANDBOX (cutbox-door.mjs). By AI agents, Wed Nov 11 2026. No macro, syntax, notation, axiom, sorry.
-/
import Derived.Test.YtjgopjnkkhkcnaaGreatDoorRows
import Derived.LaidByTextLater
import Derived.SevenTiedAt
import Derived.LaidSub
import Derived.LaidOnce
namespace Go.Proofs.YtjgopjnkkhkcnaaGreatDoor
open Go
set_option maxRecDepth 100000
theorem seatTie1 : Tryz.prog.laidByTextLater [("errors.errorType", Rows.laid_errors_errorType), ("loop.example/g00269/impl.errUndone", Rows.laid_loop_example_g00269_impl_errUndone), ("loop.example/g00269/impl.errUnheard", Rows.laid_loop_example_g00269_impl_errUnheard), ("loop.example/g00269/impl.knownKinds", Rows.laid_loop_example_g00269_impl_knownKinds)] [.handle, .sentinel, .sentinel, .data] true :=
  Program.laidByTextLater_by_one 59 8 8 (by kernel_rfl) (by kernel_rfl) (by kernel_rfl) (by kernel_rfl) (by kernel_rfl) (by kernel_rfl) (fun _ _ => by kernel_rfl)
theorem noOwnUnsafe : Tryz.pinned.checked.prog.headLifts.contains "ownunsafe" = false := by kernel_rfl
theorem tie : Tryz.prog.laidByTextLater [("loop.example/g00269/impl.knownKinds", Rows.laid_loop_example_g00269_impl_knownKinds)] [.data] true :=
  Program.laidByTextLater.sub seatTie1 ["loop.example/g00269/impl.knownKinds"] (by kernel_rfl) (by kernel_rfl)
theorem fnExactTakeCall_row_tie : Rows.fnExactTakeCallRow.laidByTextAt .later Tryz.pinned [.data] true :=
  OpenClaim.laidByTextAt_later rfl rfl tie noOwnUnsafe
theorem fnExactTakeLead_row_tie : Rows.fnExactTakeLeadRow.laidByTextAt .later Tryz.pinned [.data] true :=
  OpenClaim.laidByTextAt_later rfl rfl tie noOwnUnsafe
theorem fnExactWordOf_row_tie : Rows.fnExactWordOfRow.laidByTextAt .later Tryz.pinned [.data] true :=
  OpenClaim.laidByTextAt_later rfl rfl tie noOwnUnsafe
theorem fnExactReapply_row_tie : Rows.fnExactReapplyRow.laidByTextAt .later Tryz.pinned [.data] true :=
  OpenClaim.laidByTextAt_later rfl rfl tie noOwnUnsafe
theorem fnExactGoodWorld_row_tie : Rows.fnExactGoodWorldRow.laidByTextAt .later Tryz.pinned [.data] true :=
  OpenClaim.laidByTextAt_later rfl rfl tie noOwnUnsafe
theorem fnExactSameIn_row_tie : Rows.fnExactSameInRow.laidByTextAt .later Tryz.pinned [.data] true :=
  OpenClaim.laidByTextAt_later rfl rfl tie noOwnUnsafe
theorem fnExactLeadersIn_row_tie : Rows.fnExactLeadersInRow.laidByTextAt .later Tryz.pinned [.data] true :=
  OpenClaim.laidByTextAt_later rfl rfl tie noOwnUnsafe
theorem tie2 : Tryz.prog.laidByTextLater [("errors.errorType", Rows.laid_errors_errorType), ("loop.example/g00269/impl.errUndone", Rows.laid_loop_example_g00269_impl_errUndone), ("loop.example/g00269/impl.errUnheard", Rows.laid_loop_example_g00269_impl_errUnheard), ("loop.example/g00269/impl.knownKinds", Rows.laid_loop_example_g00269_impl_knownKinds)] [.handle, .sentinel, .sentinel, .data] true :=
  Program.laidByTextLater.sub seatTie1 ["errors.errorType", "loop.example/g00269/impl.errUndone", "loop.example/g00269/impl.errUnheard", "loop.example/g00269/impl.knownKinds"] (by kernel_rfl) (by kernel_rfl)
theorem fnExactStepWorld_row_tie : Rows.fnExactStepWorldRow.laidByTextAt .later Tryz.pinned [.handle, .sentinel, .sentinel, .data] true :=
  OpenClaim.laidByTextAt_later rfl rfl tie2 noOwnUnsafe
theorem fnExactPlayWorld_row_tie : Rows.fnExactPlayWorldRow.laidByTextAt .later Tryz.pinned [.handle, .sentinel, .sentinel, .data] true :=
  OpenClaim.laidByTextAt_later rfl rfl tie2 noOwnUnsafe
theorem tie3 : Tryz.prog.laidByTextLater [("loop.example/g00269/impl.errUnheard", Rows.laid_loop_example_g00269_impl_errUnheard), ("loop.example/g00269/impl.knownKinds", Rows.laid_loop_example_g00269_impl_knownKinds)] [.sentinel, .data] true :=
  Program.laidByTextLater.sub seatTie1 ["loop.example/g00269/impl.errUnheard", "loop.example/g00269/impl.knownKinds"] (by kernel_rfl) (by kernel_rfl)
theorem fnExactSettleWorld_row_tie : Rows.fnExactSettleWorldRow.laidByTextAt .later Tryz.pinned [.sentinel, .data] true :=
  OpenClaim.laidByTextAt_later rfl rfl tie3 noOwnUnsafe
theorem fnExactTakeCallUpto_row_tie : Rows.fnExactTakeCallUptoRow.laidByTextAt .later Tryz.pinned [.data] true :=
  OpenClaim.laidByTextAt_later rfl rfl tie noOwnUnsafe
theorem fnExactTakeLeadUpto_row_tie : Rows.fnExactTakeLeadUptoRow.laidByTextAt .later Tryz.pinned [.data] true :=
  OpenClaim.laidByTextAt_later rfl rfl tie noOwnUnsafe
theorem fnExactWordOfUpto_row_tie : Rows.fnExactWordOfUptoRow.laidByTextAt .later Tryz.pinned [.data] true :=
  OpenClaim.laidByTextAt_later rfl rfl tie noOwnUnsafe
theorem fnExactReapplyUpto_row_tie : Rows.fnExactReapplyUptoRow.laidByTextAt .later Tryz.pinned [.data] true :=
  OpenClaim.laidByTextAt_later rfl rfl tie noOwnUnsafe
theorem fnExactGoodWorldUpto_row_tie : Rows.fnExactGoodWorldUptoRow.laidByTextAt .later Tryz.pinned [.data] true :=
  OpenClaim.laidByTextAt_later rfl rfl tie noOwnUnsafe
theorem fnExactStepWorldUpto_row_tie : Rows.fnExactStepWorldUptoRow.laidByTextAt .later Tryz.pinned [.handle, .sentinel, .sentinel, .data] true :=
  OpenClaim.laidByTextAt_later rfl rfl tie2 noOwnUnsafe
theorem fnExactPlayWorldUpto_row_tie : Rows.fnExactPlayWorldUptoRow.laidByTextAt .later Tryz.pinned [.handle, .sentinel, .sentinel, .data] true :=
  OpenClaim.laidByTextAt_later rfl rfl tie2 noOwnUnsafe
theorem fnExactSettleWorldUpto_row_tie : Rows.fnExactSettleWorldUptoRow.laidByTextAt .later Tryz.pinned [.sentinel, .data] true :=
  OpenClaim.laidByTextAt_later rfl rfl tie3 noOwnUnsafe
theorem fnExactSameInUpto_row_tie : Rows.fnExactSameInUptoRow.laidByTextAt .later Tryz.pinned [.data] true :=
  OpenClaim.laidByTextAt_later rfl rfl tie noOwnUnsafe
theorem fnExactLeadersInUpto_row_tie : Rows.fnExactLeadersInUptoRow.laidByTextAt .later Tryz.pinned [.data] true :=
  OpenClaim.laidByTextAt_later rfl rfl tie noOwnUnsafe
end Go.Proofs.YtjgopjnkkhkcnaaGreatDoor
