/-
  NARROWER THAN 'FOR EVERY INPUT', by the rows' own cells (each row's printed sentence says how): FnExactTakeCall: laid · FnExactTakeLead: laid · FnExactWordOf: laid · FnExactReapply: laid · FnExactGoodWorld: laid · FnExactStepWorld: ifaces, laid · FnExactPlayWorld: ifaces, laid · FnExactSettleWorld: ifaces, laid · FnExactSameIn: laid · FnExactLeadersIn: laid.
  DERIVED. THE GIVEN ROWS OF THIS SEAT. 10 by the template 'for every input the law returns true; each argument reads behind the call as it read before'; 0 by the template 'total and deterministic' (their statements: YtjgopjnkkhkcnaaGreatDoorTotals.lean).
  GIVEN WITH THE SEED: the statements are not yours to turn. If you find one false, say at which input.
  Laid BY PROGRAM, IN A SANDBOX (cutbox-rows.mjs): the forced cells as the released guide's own fill.sh prints them over the translation 1845333c86c25926… (all of the seat's roots in one cut). By AI agents, Wed Nov 11 2026. No macro, syntax, notation, axiom, sorry.
-/
import Derived.Test.YtjgopjnkkhkcnaaGreatDoorChecked
import GoSem.Claim
import GoSem.ClaimJoined
import GoSem.ClaimMapViews
import Derived.JoinedTies
import Derived.KernelRfl
namespace Go.Proofs.YtjgopjnkkhkcnaaGreatDoor
/- THE CELL 'sum', in the pinned program and in every row, IS THE sha256 OF THE DUMP (.gsa) THAT YtjgopjnkkhkcnaaGreatDoorProg.lean LOADS. Nothing in Lean hashes anything: it is a label: what it is worth is what the hold of that sum in a sandbox is worth. -/
noncomputable def Tryz.pinned : Pinned := { name := "ytjgopjnkkhkcnaagreatdoor", sum := "1845333c86c25926816ba3f3b5c23e11b4bf0abea03e96bdb35a48132dd4519c", checked := Tryz.checked }
namespace Rows
def none {H : Type} : Left H := { results := [], args := [] }

/- WHAT THE LISTED PACKAGE-LEVEL VARIABLES READ AS WHEN THE CALL BEGINS. Each datum BY PROGRAM (the guide's laid-datum.mjs) off the statement by which the dump's own 'gosem.cut.vars' lays the variable. In a bare row this is a premise. The card (YtjgopjnkkhkcnaaGreatDoorCards.lean) ties it to the program's text. -/
def laid_loop_example_g00269_impl_knownKinds {H : Type} : DataW H := .agg [.lit (.bool false), .lit (.bool true), .lit (.bool true), .lit (.bool true), .lit (.bool true), .lit (.bool true), .lit (.bool true)]
def laid_errors_errorType {H : Type} : DataW H := .iface "internal/reflectlite.rtype" (.agg [.ptr (.lit (.string [101, 114, 114, 111, 114]))])
def laid_loop_example_g00269_impl_errUndone {H : Type} : DataW H := .iface "*errors.errorString" (.ptr (.agg [.lit (.string [110, 111, 116, 104, 105, 110, 103, 32, 99, 111, 117, 108, 100, 32, 98, 101, 32, 100, 111, 110, 101])]))
def laid_loop_example_g00269_impl_errUnheard {H : Type} : DataW H := .iface "*errors.errorString" (.ptr (.agg [.lit (.string [97, 32, 119, 111, 114, 100, 32, 119, 97, 115, 32, 110, 111, 116, 32, 104, 101, 97, 114, 100])]))

/-- 'laws.FnExactTakeCall': WHATEVER THE INPUT: true; the input reads as it did. -/
def fnExactTakeCallSpec : ChangeSpec := { name := "fnExactTakeCall", vars := ["loop.example/g00269/impl.knownKinds"], fn := fun _ => fun
  | [d1, d2, d3, g1] => { results := [.lit (.bool true)], args := [d1, d2, d3], vars := [g1] }
  | _ => none }
def fnExactTakeCallRow : OpenClaim := { program := "ytjgopjnkkhkcnaagreatdoor", sum := "1845333c86c25926816ba3f3b5c23e11b4bf0abea03e96bdb35a48132dd4519c", func := "loop.example/g00269/laws.FnExactTakeCall", spec := "fnExactTakeCall", inPlace := ["slices.overlaps[string]", "slices.overlaps[loop.example/g00269/impl.Branch]"], unfollowed := true, recurses := true, named := ["loop.example/g00269/impl.knownKinds"], apart := false, laid := [("loop.example/g00269/impl.knownKinds", laid_loop_example_g00269_impl_knownKinds)] }
def FnExactTakeCallSaid : Prop := fnExactTakeCallRow.holds Tryz.pinned (OpenSpec.ofChange fnExactTakeCallSpec)

/-- ITS FALSE NEIGHBOUR: 'it returns false'. Refute it at one input. -/
def fnExactTakeCallWrong : ChangeSpec := { name := "fnExactTakeCall", vars := ["loop.example/g00269/impl.knownKinds"], fn := fun _ => fun
  | [d1, d2, d3, g1] => { results := [.lit (.bool false)], args := [d1, d2, d3], vars := [g1] }
  | _ => none }
def FnExactTakeCallWrongFalsely : Prop := fnExactTakeCallRow.holds Tryz.pinned (OpenSpec.ofChange fnExactTakeCallWrong)

/-- 'laws.FnExactTakeLead': WHATEVER THE INPUT: true; the input reads as it did. -/
def fnExactTakeLeadSpec : ChangeSpec := { name := "fnExactTakeLead", vars := ["loop.example/g00269/impl.knownKinds"], fn := fun _ => fun
  | [d, g1] => { results := [.lit (.bool true)], args := [d], vars := [g1] }
  | _ => none }
def fnExactTakeLeadRow : OpenClaim := { program := "ytjgopjnkkhkcnaagreatdoor", sum := "1845333c86c25926816ba3f3b5c23e11b4bf0abea03e96bdb35a48132dd4519c", func := "loop.example/g00269/laws.FnExactTakeLead", spec := "fnExactTakeLead", inPlace := ["slices.overlaps[string]"], unfollowed := true, recurses := true, named := ["loop.example/g00269/impl.knownKinds"], apart := false, laid := [("loop.example/g00269/impl.knownKinds", laid_loop_example_g00269_impl_knownKinds)] }
def FnExactTakeLeadSaid : Prop := fnExactTakeLeadRow.holds Tryz.pinned (OpenSpec.ofChange fnExactTakeLeadSpec)

/-- ITS FALSE NEIGHBOUR: 'it returns false'. Refute it at one input. -/
def fnExactTakeLeadWrong : ChangeSpec := { name := "fnExactTakeLead", vars := ["loop.example/g00269/impl.knownKinds"], fn := fun _ => fun
  | [d, g1] => { results := [.lit (.bool false)], args := [d], vars := [g1] }
  | _ => none }
def FnExactTakeLeadWrongFalsely : Prop := fnExactTakeLeadRow.holds Tryz.pinned (OpenSpec.ofChange fnExactTakeLeadWrong)

/-- 'laws.FnExactWordOf': WHATEVER THE INPUT: true; the input reads as it did. -/
def fnExactWordOfSpec : ChangeSpec := { name := "fnExactWordOf", vars := ["loop.example/g00269/impl.knownKinds"], fn := fun _ => fun
  | [d, g1] => { results := [.lit (.bool true)], args := [d], vars := [g1] }
  | _ => none }
def fnExactWordOfRow : OpenClaim := { program := "ytjgopjnkkhkcnaagreatdoor", sum := "1845333c86c25926816ba3f3b5c23e11b4bf0abea03e96bdb35a48132dd4519c", func := "loop.example/g00269/laws.FnExactWordOf", spec := "fnExactWordOf", inPlace := ["slices.overlaps[string]"], unfollowed := true, recurses := true, named := ["loop.example/g00269/impl.knownKinds"], apart := false, laid := [("loop.example/g00269/impl.knownKinds", laid_loop_example_g00269_impl_knownKinds)] }
def FnExactWordOfSaid : Prop := fnExactWordOfRow.holds Tryz.pinned (OpenSpec.ofChange fnExactWordOfSpec)

/-- ITS FALSE NEIGHBOUR: 'it returns false'. Refute it at one input. -/
def fnExactWordOfWrong : ChangeSpec := { name := "fnExactWordOf", vars := ["loop.example/g00269/impl.knownKinds"], fn := fun _ => fun
  | [d, g1] => { results := [.lit (.bool false)], args := [d], vars := [g1] }
  | _ => none }
def FnExactWordOfWrongFalsely : Prop := fnExactWordOfRow.holds Tryz.pinned (OpenSpec.ofChange fnExactWordOfWrong)

/-- 'laws.FnExactReapply': WHATEVER THE INPUT: true; the input reads as it did. -/
def fnExactReapplySpec : ChangeSpec := { name := "fnExactReapply", vars := ["loop.example/g00269/impl.knownKinds"], fn := fun _ => fun
  | [d, g1] => { results := [.lit (.bool true)], args := [d], vars := [g1] }
  | _ => none }
def fnExactReapplyRow : OpenClaim := { program := "ytjgopjnkkhkcnaagreatdoor", sum := "1845333c86c25926816ba3f3b5c23e11b4bf0abea03e96bdb35a48132dd4519c", func := "loop.example/g00269/laws.FnExactReapply", spec := "fnExactReapply", inPlace := ["slices.overlaps[string]", "slices.overlaps[loop.example/g00269/impl.Branch]", "sync/atomic.AddInt64", "sync/atomic.LoadInt64"], unfollowed := true, recurses := true, named := ["loop.example/g00269/impl.knownKinds"], apart := false, laid := [("loop.example/g00269/impl.knownKinds", laid_loop_example_g00269_impl_knownKinds)] }
def FnExactReapplySaid : Prop := fnExactReapplyRow.holds Tryz.pinned (OpenSpec.ofChange fnExactReapplySpec)

/-- ITS FALSE NEIGHBOUR: 'it returns false'. Refute it at one input. -/
def fnExactReapplyWrong : ChangeSpec := { name := "fnExactReapply", vars := ["loop.example/g00269/impl.knownKinds"], fn := fun _ => fun
  | [d, g1] => { results := [.lit (.bool false)], args := [d], vars := [g1] }
  | _ => none }
def FnExactReapplyWrongFalsely : Prop := fnExactReapplyRow.holds Tryz.pinned (OpenSpec.ofChange fnExactReapplyWrong)

/-- 'laws.FnExactGoodWorld': WHATEVER THE INPUT: true; the input reads as it did. -/
def fnExactGoodWorldSpec : ChangeSpec := { name := "fnExactGoodWorld", vars := ["loop.example/g00269/impl.knownKinds"], fn := fun _ => fun
  | [d, g1] => { results := [.lit (.bool true)], args := [d], vars := [g1] }
  | _ => none }
def fnExactGoodWorldRow : OpenClaim := { program := "ytjgopjnkkhkcnaagreatdoor", sum := "1845333c86c25926816ba3f3b5c23e11b4bf0abea03e96bdb35a48132dd4519c", func := "loop.example/g00269/laws.FnExactGoodWorld", spec := "fnExactGoodWorld", inPlace := ["slices.overlaps[string]"], unfollowed := true, recurses := true, named := ["loop.example/g00269/impl.knownKinds"], apart := false, laid := [("loop.example/g00269/impl.knownKinds", laid_loop_example_g00269_impl_knownKinds)] }
def FnExactGoodWorldSaid : Prop := fnExactGoodWorldRow.holds Tryz.pinned (OpenSpec.ofChange fnExactGoodWorldSpec)

/-- ITS FALSE NEIGHBOUR: 'it returns false'. Refute it at one input. -/
def fnExactGoodWorldWrong : ChangeSpec := { name := "fnExactGoodWorld", vars := ["loop.example/g00269/impl.knownKinds"], fn := fun _ => fun
  | [d, g1] => { results := [.lit (.bool false)], args := [d], vars := [g1] }
  | _ => none }
def FnExactGoodWorldWrongFalsely : Prop := fnExactGoodWorldRow.holds Tryz.pinned (OpenSpec.ofChange fnExactGoodWorldWrong)

/-- 'laws.FnExactStepWorld': WHATEVER THE INPUT: true; the input reads as it did. -/
def fnExactStepWorldSpec : ChangeSpec := { name := "fnExactStepWorld", vars := ["loop.example/g00269/impl.knownKinds", "loop.example/g00269/impl.errUndone", "loop.example/g00269/impl.errUnheard"], fn := fun _ => fun
  | [d1, d2, g1, g2, g3] => { results := [.lit (.bool true)], args := [d1, d2], vars := [g1, g2, g3] }
  | _ => none }
def fnExactStepWorldRow : OpenClaim := { program := "ytjgopjnkkhkcnaagreatdoor", sum := "1845333c86c25926816ba3f3b5c23e11b4bf0abea03e96bdb35a48132dd4519c", func := "loop.example/g00269/laws.FnExactStepWorld", spec := "fnExactStepWorld", inPlace := ["slices.overlaps[string]", "slices.overlaps[loop.example/g00269/impl.Branch]", "sync/atomic.AddInt64", "sync/atomic.LoadInt64", "internal/reflectlite.ValueOf", "(internal/reflectlite.Value).Type", "(internal/reflectlite.Value).IsNil", "internal/reflectlite.TypeOf", "(internal/reflectlite.Value).Elem", "(internal/reflectlite.Value).Set"], unfollowed := true, recurses := true, named := ["loop.example/g00269/impl.knownKinds", "loop.example/g00269/impl.errUndone", "loop.example/g00269/impl.errUnheard", "errors.errorType"], ifaces := true, apart := false, laid := [("errors.errorType", laid_errors_errorType), ("loop.example/g00269/impl.errUndone", laid_loop_example_g00269_impl_errUndone), ("loop.example/g00269/impl.errUnheard", laid_loop_example_g00269_impl_errUnheard), ("loop.example/g00269/impl.knownKinds", laid_loop_example_g00269_impl_knownKinds)] }
def FnExactStepWorldSaid : Prop := fnExactStepWorldRow.holds Tryz.pinned (OpenSpec.ofChange fnExactStepWorldSpec)

/-- ITS FALSE NEIGHBOUR: 'it returns false'. Refute it at one input. -/
def fnExactStepWorldWrong : ChangeSpec := { name := "fnExactStepWorld", vars := ["loop.example/g00269/impl.knownKinds", "loop.example/g00269/impl.errUndone", "loop.example/g00269/impl.errUnheard"], fn := fun _ => fun
  | [d1, d2, g1, g2, g3] => { results := [.lit (.bool false)], args := [d1, d2], vars := [g1, g2, g3] }
  | _ => none }
def FnExactStepWorldWrongFalsely : Prop := fnExactStepWorldRow.holds Tryz.pinned (OpenSpec.ofChange fnExactStepWorldWrong)

/-- 'laws.FnExactPlayWorld': WHATEVER THE INPUT: true; the input reads as it did. -/
def fnExactPlayWorldSpec : ChangeSpec := { name := "fnExactPlayWorld", vars := ["loop.example/g00269/impl.errUndone", "loop.example/g00269/impl.knownKinds", "loop.example/g00269/impl.errUnheard"], fn := fun _ => fun
  | [d, g1, g2, g3] => { results := [.lit (.bool true)], args := [d], vars := [g1, g2, g3] }
  | _ => none }
def fnExactPlayWorldRow : OpenClaim := { program := "ytjgopjnkkhkcnaagreatdoor", sum := "1845333c86c25926816ba3f3b5c23e11b4bf0abea03e96bdb35a48132dd4519c", func := "loop.example/g00269/laws.FnExactPlayWorld", spec := "fnExactPlayWorld", inPlace := ["slices.overlaps[string]", "slices.overlaps[loop.example/g00269/impl.Branch]", "sync/atomic.AddInt64", "sync/atomic.LoadInt64", "internal/reflectlite.ValueOf", "(internal/reflectlite.Value).Type", "(internal/reflectlite.Value).IsNil", "internal/reflectlite.TypeOf", "(internal/reflectlite.Value).Elem", "(internal/reflectlite.Value).Set"], unfollowed := true, recurses := true, named := ["loop.example/g00269/impl.errUndone", "loop.example/g00269/impl.knownKinds", "loop.example/g00269/impl.errUnheard", "errors.errorType"], ifaces := true, apart := false, laid := [("errors.errorType", laid_errors_errorType), ("loop.example/g00269/impl.errUndone", laid_loop_example_g00269_impl_errUndone), ("loop.example/g00269/impl.errUnheard", laid_loop_example_g00269_impl_errUnheard), ("loop.example/g00269/impl.knownKinds", laid_loop_example_g00269_impl_knownKinds)] }
def FnExactPlayWorldSaid : Prop := fnExactPlayWorldRow.holds Tryz.pinned (OpenSpec.ofChange fnExactPlayWorldSpec)

/-- ITS FALSE NEIGHBOUR: 'it returns false'. Refute it at one input. -/
def fnExactPlayWorldWrong : ChangeSpec := { name := "fnExactPlayWorld", vars := ["loop.example/g00269/impl.errUndone", "loop.example/g00269/impl.knownKinds", "loop.example/g00269/impl.errUnheard"], fn := fun _ => fun
  | [d, g1, g2, g3] => { results := [.lit (.bool false)], args := [d], vars := [g1, g2, g3] }
  | _ => none }
def FnExactPlayWorldWrongFalsely : Prop := fnExactPlayWorldRow.holds Tryz.pinned (OpenSpec.ofChange fnExactPlayWorldWrong)

/-- 'laws.FnExactSettleWorld': WHATEVER THE INPUT: true; the input reads as it did. -/
def fnExactSettleWorldSpec : ChangeSpec := { name := "fnExactSettleWorld", vars := ["loop.example/g00269/impl.knownKinds", "loop.example/g00269/impl.errUnheard"], fn := fun _ => fun
  | [d, g1, g2] => { results := [.lit (.bool true)], args := [d], vars := [g1, g2] }
  | _ => none }
def fnExactSettleWorldRow : OpenClaim := { program := "ytjgopjnkkhkcnaagreatdoor", sum := "1845333c86c25926816ba3f3b5c23e11b4bf0abea03e96bdb35a48132dd4519c", func := "loop.example/g00269/laws.FnExactSettleWorld", spec := "fnExactSettleWorld", inPlace := ["slices.overlaps[string]", "slices.overlaps[loop.example/g00269/impl.Branch]", "sync/atomic.AddInt64", "sync/atomic.LoadInt64"], unfollowed := true, recurses := true, named := ["loop.example/g00269/impl.knownKinds", "loop.example/g00269/impl.errUnheard"], ifaces := true, apart := false, laid := [("loop.example/g00269/impl.errUnheard", laid_loop_example_g00269_impl_errUnheard), ("loop.example/g00269/impl.knownKinds", laid_loop_example_g00269_impl_knownKinds)] }
def FnExactSettleWorldSaid : Prop := fnExactSettleWorldRow.holds Tryz.pinned (OpenSpec.ofChange fnExactSettleWorldSpec)

/-- ITS FALSE NEIGHBOUR: 'it returns false'. Refute it at one input. -/
def fnExactSettleWorldWrong : ChangeSpec := { name := "fnExactSettleWorld", vars := ["loop.example/g00269/impl.knownKinds", "loop.example/g00269/impl.errUnheard"], fn := fun _ => fun
  | [d, g1, g2] => { results := [.lit (.bool false)], args := [d], vars := [g1, g2] }
  | _ => none }
def FnExactSettleWorldWrongFalsely : Prop := fnExactSettleWorldRow.holds Tryz.pinned (OpenSpec.ofChange fnExactSettleWorldWrong)

/-- 'laws.FnExactSameIn': WHATEVER THE INPUT: true; the input reads as it did. -/
def fnExactSameInSpec : ChangeSpec := { name := "fnExactSameIn", vars := ["loop.example/g00269/impl.knownKinds"], fn := fun _ => fun
  | [d, g1] => { results := [.lit (.bool true)], args := [d], vars := [g1] }
  | _ => none }
def fnExactSameInRow : OpenClaim := { program := "ytjgopjnkkhkcnaagreatdoor", sum := "1845333c86c25926816ba3f3b5c23e11b4bf0abea03e96bdb35a48132dd4519c", func := "loop.example/g00269/laws.FnExactSameIn", spec := "fnExactSameIn", inPlace := ["slices.overlaps[string]"], unfollowed := true, recurses := true, named := ["loop.example/g00269/impl.knownKinds"], apart := false, laid := [("loop.example/g00269/impl.knownKinds", laid_loop_example_g00269_impl_knownKinds)] }
def FnExactSameInSaid : Prop := fnExactSameInRow.holds Tryz.pinned (OpenSpec.ofChange fnExactSameInSpec)

/-- ITS FALSE NEIGHBOUR: 'it returns false'. Refute it at one input. -/
def fnExactSameInWrong : ChangeSpec := { name := "fnExactSameIn", vars := ["loop.example/g00269/impl.knownKinds"], fn := fun _ => fun
  | [d, g1] => { results := [.lit (.bool false)], args := [d], vars := [g1] }
  | _ => none }
def FnExactSameInWrongFalsely : Prop := fnExactSameInRow.holds Tryz.pinned (OpenSpec.ofChange fnExactSameInWrong)

/-- 'laws.FnExactLeadersIn': WHATEVER THE INPUT: true; the input reads as it did. -/
def fnExactLeadersInSpec : ChangeSpec := { name := "fnExactLeadersIn", vars := ["loop.example/g00269/impl.knownKinds"], fn := fun _ => fun
  | [d, g1] => { results := [.lit (.bool true)], args := [d], vars := [g1] }
  | _ => none }
def fnExactLeadersInRow : OpenClaim := { program := "ytjgopjnkkhkcnaagreatdoor", sum := "1845333c86c25926816ba3f3b5c23e11b4bf0abea03e96bdb35a48132dd4519c", func := "loop.example/g00269/laws.FnExactLeadersIn", spec := "fnExactLeadersIn", inPlace := ["slices.overlaps[string]"], unfollowed := true, recurses := true, named := ["loop.example/g00269/impl.knownKinds"], apart := false, laid := [("loop.example/g00269/impl.knownKinds", laid_loop_example_g00269_impl_knownKinds)] }
def FnExactLeadersInSaid : Prop := fnExactLeadersInRow.holds Tryz.pinned (OpenSpec.ofChange fnExactLeadersInSpec)

/-- ITS FALSE NEIGHBOUR: 'it returns false'. Refute it at one input. -/
def fnExactLeadersInWrong : ChangeSpec := { name := "fnExactLeadersIn", vars := ["loop.example/g00269/impl.knownKinds"], fn := fun _ => fun
  | [d, g1] => { results := [.lit (.bool false)], args := [d], vars := [g1] }
  | _ => none }
def FnExactLeadersInWrongFalsely : Prop := fnExactLeadersInRow.holds Tryz.pinned (OpenSpec.ofChange fnExactLeadersInWrong)

/- THE SECOND FORM. 'bulk': how many values and letters a reading holds, each counted each time it is reached (what is shared counts as often as it is met; a slice's spare places count too). A statement '..UptoSaid' is the law's where the arguments, and the package variables that the reading takes, are together of bulk at most 1048576: NARROWER than '..Said'. Prove '..Said' where nothing that the law and all that it calls make is longer than what came in: it says more and counts as full. Else prove '..UptoSaid'. A law counts once. -/
mutual
def uptoBulk {H : Type} : DataW H → Nat
  | .lit (.string bytes) => bytes.length + 1
  | .lit _ => 1
  | .nil => 1
  | .ptr d => uptoBulk d + 1
  | .slice elems spare => uptoBulkAll elems + uptoBulkAll spare + 1
  | .agg parts => uptoBulkAll parts + 1
  | .iface _ d => uptoBulk d + 1
  | .map entries => uptoBulkEntries entries + 1
  | .held _ => 1
def uptoBulkAll {H : Type} : List (DataW H) → Nat
  | [] => 0
  | d :: r => uptoBulk d + uptoBulkAll r
def uptoBulkEntries {H : Type} : List (Lit × DataW H) → Nat
  | [] => 0
  | x :: r => uptoBulkEntry x + uptoBulkEntries r
def uptoBulkEntry {H : Type} : Lit × DataW H → Nat
  | (.string bytes, d) => bytes.length + uptoBulk d + 1
  | (_, d) => uptoBulk d + 1
 end
def uptoSmall : (H : Type) → List (DataW H) → Bool := fun _ ds => decide (uptoBulkAll ds ≤ 1048576)
def OpenSpec.upto (s : _root_.Go.ChangeSpec) : _root_.Go.OpenSpec := { _root_.Go.OpenSpec.ofChange s with cond := some uptoSmall }

/-- 'laws.FnExactTakeCall', WHERE WHAT IT READS IS OF BULK AT MOST 1048576: true; the input reads as it did. -/
def fnExactTakeCallUptoRow : OpenClaim := { program := "ytjgopjnkkhkcnaagreatdoor", sum := "1845333c86c25926816ba3f3b5c23e11b4bf0abea03e96bdb35a48132dd4519c", func := "loop.example/g00269/laws.FnExactTakeCall", spec := "fnExactTakeCall", inPlace := ["slices.overlaps[string]", "slices.overlaps[loop.example/g00269/impl.Branch]"], unfollowed := true, recurses := true, named := ["loop.example/g00269/impl.knownKinds"], apart := false, laid := [("loop.example/g00269/impl.knownKinds", laid_loop_example_g00269_impl_knownKinds)], narrowed := true }
def FnExactTakeCallUptoSaid : Prop := fnExactTakeCallUptoRow.holds Tryz.pinned (OpenSpec.upto fnExactTakeCallSpec)

/-- 'laws.FnExactTakeLead', WHERE WHAT IT READS IS OF BULK AT MOST 1048576: true; the input reads as it did. -/
def fnExactTakeLeadUptoRow : OpenClaim := { program := "ytjgopjnkkhkcnaagreatdoor", sum := "1845333c86c25926816ba3f3b5c23e11b4bf0abea03e96bdb35a48132dd4519c", func := "loop.example/g00269/laws.FnExactTakeLead", spec := "fnExactTakeLead", inPlace := ["slices.overlaps[string]"], unfollowed := true, recurses := true, named := ["loop.example/g00269/impl.knownKinds"], apart := false, laid := [("loop.example/g00269/impl.knownKinds", laid_loop_example_g00269_impl_knownKinds)], narrowed := true }
def FnExactTakeLeadUptoSaid : Prop := fnExactTakeLeadUptoRow.holds Tryz.pinned (OpenSpec.upto fnExactTakeLeadSpec)

/-- 'laws.FnExactWordOf', WHERE WHAT IT READS IS OF BULK AT MOST 1048576: true; the input reads as it did. -/
def fnExactWordOfUptoRow : OpenClaim := { program := "ytjgopjnkkhkcnaagreatdoor", sum := "1845333c86c25926816ba3f3b5c23e11b4bf0abea03e96bdb35a48132dd4519c", func := "loop.example/g00269/laws.FnExactWordOf", spec := "fnExactWordOf", inPlace := ["slices.overlaps[string]"], unfollowed := true, recurses := true, named := ["loop.example/g00269/impl.knownKinds"], apart := false, laid := [("loop.example/g00269/impl.knownKinds", laid_loop_example_g00269_impl_knownKinds)], narrowed := true }
def FnExactWordOfUptoSaid : Prop := fnExactWordOfUptoRow.holds Tryz.pinned (OpenSpec.upto fnExactWordOfSpec)

/-- 'laws.FnExactReapply', WHERE WHAT IT READS IS OF BULK AT MOST 1048576: true; the input reads as it did. -/
def fnExactReapplyUptoRow : OpenClaim := { program := "ytjgopjnkkhkcnaagreatdoor", sum := "1845333c86c25926816ba3f3b5c23e11b4bf0abea03e96bdb35a48132dd4519c", func := "loop.example/g00269/laws.FnExactReapply", spec := "fnExactReapply", inPlace := ["slices.overlaps[string]", "slices.overlaps[loop.example/g00269/impl.Branch]", "sync/atomic.AddInt64", "sync/atomic.LoadInt64"], unfollowed := true, recurses := true, named := ["loop.example/g00269/impl.knownKinds"], apart := false, laid := [("loop.example/g00269/impl.knownKinds", laid_loop_example_g00269_impl_knownKinds)], narrowed := true }
def FnExactReapplyUptoSaid : Prop := fnExactReapplyUptoRow.holds Tryz.pinned (OpenSpec.upto fnExactReapplySpec)

/-- 'laws.FnExactGoodWorld', WHERE WHAT IT READS IS OF BULK AT MOST 1048576: true; the input reads as it did. -/
def fnExactGoodWorldUptoRow : OpenClaim := { program := "ytjgopjnkkhkcnaagreatdoor", sum := "1845333c86c25926816ba3f3b5c23e11b4bf0abea03e96bdb35a48132dd4519c", func := "loop.example/g00269/laws.FnExactGoodWorld", spec := "fnExactGoodWorld", inPlace := ["slices.overlaps[string]"], unfollowed := true, recurses := true, named := ["loop.example/g00269/impl.knownKinds"], apart := false, laid := [("loop.example/g00269/impl.knownKinds", laid_loop_example_g00269_impl_knownKinds)], narrowed := true }
def FnExactGoodWorldUptoSaid : Prop := fnExactGoodWorldUptoRow.holds Tryz.pinned (OpenSpec.upto fnExactGoodWorldSpec)

/-- 'laws.FnExactStepWorld', WHERE WHAT IT READS IS OF BULK AT MOST 1048576: true; the input reads as it did. -/
def fnExactStepWorldUptoRow : OpenClaim := { program := "ytjgopjnkkhkcnaagreatdoor", sum := "1845333c86c25926816ba3f3b5c23e11b4bf0abea03e96bdb35a48132dd4519c", func := "loop.example/g00269/laws.FnExactStepWorld", spec := "fnExactStepWorld", inPlace := ["slices.overlaps[string]", "slices.overlaps[loop.example/g00269/impl.Branch]", "sync/atomic.AddInt64", "sync/atomic.LoadInt64", "internal/reflectlite.ValueOf", "(internal/reflectlite.Value).Type", "(internal/reflectlite.Value).IsNil", "internal/reflectlite.TypeOf", "(internal/reflectlite.Value).Elem", "(internal/reflectlite.Value).Set"], unfollowed := true, recurses := true, named := ["loop.example/g00269/impl.knownKinds", "loop.example/g00269/impl.errUndone", "loop.example/g00269/impl.errUnheard", "errors.errorType"], ifaces := true, apart := false, laid := [("errors.errorType", laid_errors_errorType), ("loop.example/g00269/impl.errUndone", laid_loop_example_g00269_impl_errUndone), ("loop.example/g00269/impl.errUnheard", laid_loop_example_g00269_impl_errUnheard), ("loop.example/g00269/impl.knownKinds", laid_loop_example_g00269_impl_knownKinds)], narrowed := true }
def FnExactStepWorldUptoSaid : Prop := fnExactStepWorldUptoRow.holds Tryz.pinned (OpenSpec.upto fnExactStepWorldSpec)

/-- 'laws.FnExactPlayWorld', WHERE WHAT IT READS IS OF BULK AT MOST 1048576: true; the input reads as it did. -/
def fnExactPlayWorldUptoRow : OpenClaim := { program := "ytjgopjnkkhkcnaagreatdoor", sum := "1845333c86c25926816ba3f3b5c23e11b4bf0abea03e96bdb35a48132dd4519c", func := "loop.example/g00269/laws.FnExactPlayWorld", spec := "fnExactPlayWorld", inPlace := ["slices.overlaps[string]", "slices.overlaps[loop.example/g00269/impl.Branch]", "sync/atomic.AddInt64", "sync/atomic.LoadInt64", "internal/reflectlite.ValueOf", "(internal/reflectlite.Value).Type", "(internal/reflectlite.Value).IsNil", "internal/reflectlite.TypeOf", "(internal/reflectlite.Value).Elem", "(internal/reflectlite.Value).Set"], unfollowed := true, recurses := true, named := ["loop.example/g00269/impl.errUndone", "loop.example/g00269/impl.knownKinds", "loop.example/g00269/impl.errUnheard", "errors.errorType"], ifaces := true, apart := false, laid := [("errors.errorType", laid_errors_errorType), ("loop.example/g00269/impl.errUndone", laid_loop_example_g00269_impl_errUndone), ("loop.example/g00269/impl.errUnheard", laid_loop_example_g00269_impl_errUnheard), ("loop.example/g00269/impl.knownKinds", laid_loop_example_g00269_impl_knownKinds)], narrowed := true }
def FnExactPlayWorldUptoSaid : Prop := fnExactPlayWorldUptoRow.holds Tryz.pinned (OpenSpec.upto fnExactPlayWorldSpec)

/-- 'laws.FnExactSettleWorld', WHERE WHAT IT READS IS OF BULK AT MOST 1048576: true; the input reads as it did. -/
def fnExactSettleWorldUptoRow : OpenClaim := { program := "ytjgopjnkkhkcnaagreatdoor", sum := "1845333c86c25926816ba3f3b5c23e11b4bf0abea03e96bdb35a48132dd4519c", func := "loop.example/g00269/laws.FnExactSettleWorld", spec := "fnExactSettleWorld", inPlace := ["slices.overlaps[string]", "slices.overlaps[loop.example/g00269/impl.Branch]", "sync/atomic.AddInt64", "sync/atomic.LoadInt64"], unfollowed := true, recurses := true, named := ["loop.example/g00269/impl.knownKinds", "loop.example/g00269/impl.errUnheard"], ifaces := true, apart := false, laid := [("loop.example/g00269/impl.errUnheard", laid_loop_example_g00269_impl_errUnheard), ("loop.example/g00269/impl.knownKinds", laid_loop_example_g00269_impl_knownKinds)], narrowed := true }
def FnExactSettleWorldUptoSaid : Prop := fnExactSettleWorldUptoRow.holds Tryz.pinned (OpenSpec.upto fnExactSettleWorldSpec)

/-- 'laws.FnExactSameIn', WHERE WHAT IT READS IS OF BULK AT MOST 1048576: true; the input reads as it did. -/
def fnExactSameInUptoRow : OpenClaim := { program := "ytjgopjnkkhkcnaagreatdoor", sum := "1845333c86c25926816ba3f3b5c23e11b4bf0abea03e96bdb35a48132dd4519c", func := "loop.example/g00269/laws.FnExactSameIn", spec := "fnExactSameIn", inPlace := ["slices.overlaps[string]"], unfollowed := true, recurses := true, named := ["loop.example/g00269/impl.knownKinds"], apart := false, laid := [("loop.example/g00269/impl.knownKinds", laid_loop_example_g00269_impl_knownKinds)], narrowed := true }
def FnExactSameInUptoSaid : Prop := fnExactSameInUptoRow.holds Tryz.pinned (OpenSpec.upto fnExactSameInSpec)

/-- 'laws.FnExactLeadersIn', WHERE WHAT IT READS IS OF BULK AT MOST 1048576: true; the input reads as it did. -/
def fnExactLeadersInUptoRow : OpenClaim := { program := "ytjgopjnkkhkcnaagreatdoor", sum := "1845333c86c25926816ba3f3b5c23e11b4bf0abea03e96bdb35a48132dd4519c", func := "loop.example/g00269/laws.FnExactLeadersIn", spec := "fnExactLeadersIn", inPlace := ["slices.overlaps[string]"], unfollowed := true, recurses := true, named := ["loop.example/g00269/impl.knownKinds"], apart := false, laid := [("loop.example/g00269/impl.knownKinds", laid_loop_example_g00269_impl_knownKinds)], narrowed := true }
def FnExactLeadersInUptoSaid : Prop := fnExactLeadersInUptoRow.holds Tryz.pinned (OpenSpec.upto fnExactLeadersInSpec)

end Rows
end Go.Proofs.YtjgopjnkkhkcnaaGreatDoor
