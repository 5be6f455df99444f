/-
  NARROWER THAN 'FOR EVERY INPUT', by the rows' own cells (each row's printed sentence says how): FnExactGoodForm: laid · FnExactTableOf: laid · FnExactDiagramOf: laid · FnExactGoodDiagram: laid · FnExactDecide: laid · FnExactCountYes: laid · FnExactRestrict: laid · FnExactBothOf: laid · FnExactNotOf: laid.
  DERIVED. THE GIVEN ROWS OF THIS SEAT. 9 by the template 'for every input the law returns true; each argument reads behind the call as it read before'; 0 by the template 'total and deterministic' (their statements: YtfiooclkefmijaaDoorTotals.lean).
  GIVEN WITH THE SEED: the statements are not yours to turn. If you find one false, say at which input.
  Laid BY PROGRAM, IN A SANDBOX (cutbox-rows.mjs): the forced cells as the released guide's own fill.sh prints them over the translation 9bb9e110d5af6fd7… (all of the seat's roots in one cut). By AI agents, Wed Nov 11 2026. No macro, syntax, notation, axiom, sorry.
-/
import Derived.Test.YtfiooclkefmijaaDoorChecked
import GoSem.Claim
import GoSem.ClaimJoined
import GoSem.ClaimMapViews
import Derived.JoinedTies
import Derived.KernelRfl
namespace Go.Proofs.YtfiooclkefmijaaDoor
/- THE CELL 'sum', in the pinned program and in every row, IS THE sha256 OF THE DUMP (.gsa) THAT YtfiooclkefmijaaDoorProg.lean LOADS. Nothing in Lean hashes anything: it is a label: what it is worth is what the hold of that sum in a sandbox is worth. -/
noncomputable def Tryd.pinned : Pinned := { name := "ytfiooclkefmijaadoor", sum := "9bb9e110d5af6fd7b453ced99f7fa0047215f19d04b912a952880557de5f2afc", checked := Tryd.checked }
namespace Rows
def none {H : Type} : Left H := { results := [], args := [] }

/- WHAT THE LISTED PACKAGE-LEVEL VARIABLES READ AS WHEN THE CALL BEGINS. Each datum BY PROGRAM (the guide's laid-datum.mjs) off the statement by which the dump's own 'gosem.cut.vars' lays the variable. In a bare row this is a premise. The card (YtfiooclkefmijaaDoorCards.lean) ties it to the program's text. -/
def laid_loop_example_g00269_impl_ofVariable {H : Type} : DataW H := .agg [.lit (.int .u64 12297829382473034410), .lit (.int .u64 14757395258967641292), .lit (.int .u64 17361641481138401520), .lit (.int .u64 18374966859414961920), .lit (.int .u64 18446462603027742720), .lit (.int .u64 18446744069414584320)]

/-- 'laws.FnExactGoodForm': WHATEVER THE INPUT: true; the input reads as it did. -/
def fnExactGoodFormSpec : ChangeSpec := { name := "fnExactGoodForm", vars := ["loop.example/g00269/impl.ofVariable"], fn := fun _ => fun
  | [d, g1] => { results := [.lit (.bool true)], args := [d], vars := [g1] }
  | _ => none }
def fnExactGoodFormRow : OpenClaim := { program := "ytfiooclkefmijaadoor", sum := "9bb9e110d5af6fd7b453ced99f7fa0047215f19d04b912a952880557de5f2afc", func := "loop.example/g00269/laws.FnExactGoodForm", spec := "fnExactGoodForm", recurses := true, named := ["loop.example/g00269/impl.ofVariable"], plainKeys := false, apart := false, laid := [("loop.example/g00269/impl.ofVariable", laid_loop_example_g00269_impl_ofVariable)] }
def FnExactGoodFormSaid : Prop := fnExactGoodFormRow.holds Tryd.pinned (OpenSpec.ofChange fnExactGoodFormSpec)

/-- ITS FALSE NEIGHBOUR: 'it returns false'. Refute it at one input. -/
def fnExactGoodFormWrong : ChangeSpec := { name := "fnExactGoodForm", vars := ["loop.example/g00269/impl.ofVariable"], fn := fun _ => fun
  | [d, g1] => { results := [.lit (.bool false)], args := [d], vars := [g1] }
  | _ => none }
def FnExactGoodFormWrongFalsely : Prop := fnExactGoodFormRow.holds Tryd.pinned (OpenSpec.ofChange fnExactGoodFormWrong)

/-- 'laws.FnExactTableOf': WHATEVER THE INPUT: true; the input reads as it did. -/
def fnExactTableOfSpec : ChangeSpec := { name := "fnExactTableOf", vars := ["loop.example/g00269/impl.ofVariable"], fn := fun _ => fun
  | [d, g1] => { results := [.lit (.bool true)], args := [d], vars := [g1] }
  | _ => none }
def fnExactTableOfRow : OpenClaim := { program := "ytfiooclkefmijaadoor", sum := "9bb9e110d5af6fd7b453ced99f7fa0047215f19d04b912a952880557de5f2afc", func := "loop.example/g00269/laws.FnExactTableOf", spec := "fnExactTableOf", recurses := true, named := ["loop.example/g00269/impl.ofVariable"], plainKeys := false, apart := false, laid := [("loop.example/g00269/impl.ofVariable", laid_loop_example_g00269_impl_ofVariable)] }
def FnExactTableOfSaid : Prop := fnExactTableOfRow.holds Tryd.pinned (OpenSpec.ofChange fnExactTableOfSpec)

/-- ITS FALSE NEIGHBOUR: 'it returns false'. Refute it at one input. -/
def fnExactTableOfWrong : ChangeSpec := { name := "fnExactTableOf", vars := ["loop.example/g00269/impl.ofVariable"], fn := fun _ => fun
  | [d, g1] => { results := [.lit (.bool false)], args := [d], vars := [g1] }
  | _ => none }
def FnExactTableOfWrongFalsely : Prop := fnExactTableOfRow.holds Tryd.pinned (OpenSpec.ofChange fnExactTableOfWrong)

/-- 'laws.FnExactDiagramOf': WHATEVER THE INPUT: true; the input reads as it did. -/
def fnExactDiagramOfSpec : ChangeSpec := { name := "fnExactDiagramOf", vars := ["loop.example/g00269/impl.ofVariable"], fn := fun _ => fun
  | [d, g1] => { results := [.lit (.bool true)], args := [d], vars := [g1] }
  | _ => none }
def fnExactDiagramOfRow : OpenClaim := { program := "ytfiooclkefmijaadoor", sum := "9bb9e110d5af6fd7b453ced99f7fa0047215f19d04b912a952880557de5f2afc", func := "loop.example/g00269/laws.FnExactDiagramOf", spec := "fnExactDiagramOf", inPlace := ["sync/atomic.LoadUint32", "(*internal/sync.Mutex).Lock", "internal/race.Disable", "sync/atomic.CompareAndSwapInt32", "internal/race.Enable", "internal/race.Acquire", "(*internal/sync.Mutex).lockSlow", "internal/sync.runtime_canSpin", "internal/sync.runtime_doSpin", "internal/sync.throw", "internal/sync.runtime_nanotime", "internal/sync.runtime_SemacquireMutex", "sync/atomic.AddInt32", "(*internal/sync.Mutex).Unlock", "internal/race.ReleaseMerge", "(*internal/sync.Mutex).unlockSlow", "internal/sync.fatal", "internal/sync.runtime_Semrelease", "sync/atomic.StoreUint32"], unfollowed := true, recurses := true, named := ["loop.example/g00269/impl.ofVariable"], plainKeys := false, apart := false, laid := [("loop.example/g00269/impl.ofVariable", laid_loop_example_g00269_impl_ofVariable)] }
def FnExactDiagramOfSaid : Prop := fnExactDiagramOfRow.holds Tryd.pinned (OpenSpec.ofChange fnExactDiagramOfSpec)

/-- ITS FALSE NEIGHBOUR: 'it returns false'. Refute it at one input. -/
def fnExactDiagramOfWrong : ChangeSpec := { name := "fnExactDiagramOf", vars := ["loop.example/g00269/impl.ofVariable"], fn := fun _ => fun
  | [d, g1] => { results := [.lit (.bool false)], args := [d], vars := [g1] }
  | _ => none }
def FnExactDiagramOfWrongFalsely : Prop := fnExactDiagramOfRow.holds Tryd.pinned (OpenSpec.ofChange fnExactDiagramOfWrong)

/-- 'laws.FnExactGoodDiagram': WHATEVER THE INPUT: true; the input reads as it did. -/
def fnExactGoodDiagramSpec : ChangeSpec := { name := "fnExactGoodDiagram", vars := ["loop.example/g00269/impl.ofVariable"], fn := fun _ => fun
  | [d, g1] => { results := [.lit (.bool true)], args := [d], vars := [g1] }
  | _ => none }
def fnExactGoodDiagramRow : OpenClaim := { program := "ytfiooclkefmijaadoor", sum := "9bb9e110d5af6fd7b453ced99f7fa0047215f19d04b912a952880557de5f2afc", func := "loop.example/g00269/laws.FnExactGoodDiagram", spec := "fnExactGoodDiagram", inPlace := ["sync/atomic.LoadUint32", "(*internal/sync.Mutex).Lock", "internal/race.Disable", "sync/atomic.CompareAndSwapInt32", "internal/race.Enable", "internal/race.Acquire", "(*internal/sync.Mutex).lockSlow", "internal/sync.runtime_canSpin", "internal/sync.runtime_doSpin", "internal/sync.throw", "internal/sync.runtime_nanotime", "internal/sync.runtime_SemacquireMutex", "sync/atomic.AddInt32", "(*internal/sync.Mutex).Unlock", "internal/race.ReleaseMerge", "(*internal/sync.Mutex).unlockSlow", "internal/sync.fatal", "internal/sync.runtime_Semrelease", "sync/atomic.StoreUint32"], unfollowed := true, recurses := true, named := ["loop.example/g00269/impl.ofVariable"], plainKeys := false, apart := false, laid := [("loop.example/g00269/impl.ofVariable", laid_loop_example_g00269_impl_ofVariable)] }
def FnExactGoodDiagramSaid : Prop := fnExactGoodDiagramRow.holds Tryd.pinned (OpenSpec.ofChange fnExactGoodDiagramSpec)

/-- ITS FALSE NEIGHBOUR: 'it returns false'. Refute it at one input. -/
def fnExactGoodDiagramWrong : ChangeSpec := { name := "fnExactGoodDiagram", vars := ["loop.example/g00269/impl.ofVariable"], fn := fun _ => fun
  | [d, g1] => { results := [.lit (.bool false)], args := [d], vars := [g1] }
  | _ => none }
def FnExactGoodDiagramWrongFalsely : Prop := fnExactGoodDiagramRow.holds Tryd.pinned (OpenSpec.ofChange fnExactGoodDiagramWrong)

/-- 'laws.FnExactDecide': WHATEVER THE INPUT: true; the input reads as it did. -/
def fnExactDecideSpec : ChangeSpec := { name := "fnExactDecide", vars := ["loop.example/g00269/impl.ofVariable"], fn := fun _ => fun
  | [d1, d2, g1] => { results := [.lit (.bool true)], args := [d1, d2], vars := [g1] }
  | _ => none }
def fnExactDecideRow : OpenClaim := { program := "ytfiooclkefmijaadoor", sum := "9bb9e110d5af6fd7b453ced99f7fa0047215f19d04b912a952880557de5f2afc", func := "loop.example/g00269/laws.FnExactDecide", spec := "fnExactDecide", inPlace := ["sync/atomic.LoadUint32", "(*internal/sync.Mutex).Lock", "internal/race.Disable", "sync/atomic.CompareAndSwapInt32", "internal/race.Enable", "internal/race.Acquire", "(*internal/sync.Mutex).lockSlow", "internal/sync.runtime_canSpin", "internal/sync.runtime_doSpin", "internal/sync.throw", "internal/sync.runtime_nanotime", "internal/sync.runtime_SemacquireMutex", "sync/atomic.AddInt32", "(*internal/sync.Mutex).Unlock", "internal/race.ReleaseMerge", "(*internal/sync.Mutex).unlockSlow", "internal/sync.fatal", "internal/sync.runtime_Semrelease", "sync/atomic.StoreUint32"], unfollowed := true, recurses := true, named := ["loop.example/g00269/impl.ofVariable"], plainKeys := false, apart := false, laid := [("loop.example/g00269/impl.ofVariable", laid_loop_example_g00269_impl_ofVariable)] }
def FnExactDecideSaid : Prop := fnExactDecideRow.holds Tryd.pinned (OpenSpec.ofChange fnExactDecideSpec)

/-- ITS FALSE NEIGHBOUR: 'it returns false'. Refute it at one input. -/
def fnExactDecideWrong : ChangeSpec := { name := "fnExactDecide", vars := ["loop.example/g00269/impl.ofVariable"], fn := fun _ => fun
  | [d1, d2, g1] => { results := [.lit (.bool false)], args := [d1, d2], vars := [g1] }
  | _ => none }
def FnExactDecideWrongFalsely : Prop := fnExactDecideRow.holds Tryd.pinned (OpenSpec.ofChange fnExactDecideWrong)

/-- 'laws.FnExactCountYes': WHATEVER THE INPUT: true; the input reads as it did. -/
def fnExactCountYesSpec : ChangeSpec := { name := "fnExactCountYes", vars := ["loop.example/g00269/impl.ofVariable"], fn := fun _ => fun
  | [d, g1] => { results := [.lit (.bool true)], args := [d], vars := [g1] }
  | _ => none }
def fnExactCountYesRow : OpenClaim := { program := "ytfiooclkefmijaadoor", sum := "9bb9e110d5af6fd7b453ced99f7fa0047215f19d04b912a952880557de5f2afc", func := "loop.example/g00269/laws.FnExactCountYes", spec := "fnExactCountYes", inPlace := ["sync/atomic.LoadUint32", "(*internal/sync.Mutex).Lock", "internal/race.Disable", "sync/atomic.CompareAndSwapInt32", "internal/race.Enable", "internal/race.Acquire", "(*internal/sync.Mutex).lockSlow", "internal/sync.runtime_canSpin", "internal/sync.runtime_doSpin", "internal/sync.throw", "internal/sync.runtime_nanotime", "internal/sync.runtime_SemacquireMutex", "sync/atomic.AddInt32", "(*internal/sync.Mutex).Unlock", "internal/race.ReleaseMerge", "(*internal/sync.Mutex).unlockSlow", "internal/sync.fatal", "internal/sync.runtime_Semrelease", "sync/atomic.StoreUint32"], unfollowed := true, recurses := true, named := ["loop.example/g00269/impl.ofVariable"], plainKeys := false, apart := false, laid := [("loop.example/g00269/impl.ofVariable", laid_loop_example_g00269_impl_ofVariable)] }
def FnExactCountYesSaid : Prop := fnExactCountYesRow.holds Tryd.pinned (OpenSpec.ofChange fnExactCountYesSpec)

/-- ITS FALSE NEIGHBOUR: 'it returns false'. Refute it at one input. -/
def fnExactCountYesWrong : ChangeSpec := { name := "fnExactCountYes", vars := ["loop.example/g00269/impl.ofVariable"], fn := fun _ => fun
  | [d, g1] => { results := [.lit (.bool false)], args := [d], vars := [g1] }
  | _ => none }
def FnExactCountYesWrongFalsely : Prop := fnExactCountYesRow.holds Tryd.pinned (OpenSpec.ofChange fnExactCountYesWrong)

/-- 'laws.FnExactRestrict': WHATEVER THE INPUT: true; the input reads as it did. -/
def fnExactRestrictSpec : ChangeSpec := { name := "fnExactRestrict", vars := ["loop.example/g00269/impl.ofVariable"], fn := fun _ => fun
  | [d1, d2, d3, g1] => { results := [.lit (.bool true)], args := [d1, d2, d3], vars := [g1] }
  | _ => none }
def fnExactRestrictRow : OpenClaim := { program := "ytfiooclkefmijaadoor", sum := "9bb9e110d5af6fd7b453ced99f7fa0047215f19d04b912a952880557de5f2afc", func := "loop.example/g00269/laws.FnExactRestrict", spec := "fnExactRestrict", inPlace := ["sync/atomic.LoadUint32", "(*internal/sync.Mutex).Lock", "internal/race.Disable", "sync/atomic.CompareAndSwapInt32", "internal/race.Enable", "internal/race.Acquire", "(*internal/sync.Mutex).lockSlow", "internal/sync.runtime_canSpin", "internal/sync.runtime_doSpin", "internal/sync.throw", "internal/sync.runtime_nanotime", "internal/sync.runtime_SemacquireMutex", "sync/atomic.AddInt32", "(*internal/sync.Mutex).Unlock", "internal/race.ReleaseMerge", "(*internal/sync.Mutex).unlockSlow", "internal/sync.fatal", "internal/sync.runtime_Semrelease", "sync/atomic.StoreUint32"], unfollowed := true, recurses := true, named := ["loop.example/g00269/impl.ofVariable"], plainKeys := false, apart := false, laid := [("loop.example/g00269/impl.ofVariable", laid_loop_example_g00269_impl_ofVariable)] }
def FnExactRestrictSaid : Prop := fnExactRestrictRow.holds Tryd.pinned (OpenSpec.ofChange fnExactRestrictSpec)

/-- ITS FALSE NEIGHBOUR: 'it returns false'. Refute it at one input. -/
def fnExactRestrictWrong : ChangeSpec := { name := "fnExactRestrict", vars := ["loop.example/g00269/impl.ofVariable"], fn := fun _ => fun
  | [d1, d2, d3, g1] => { results := [.lit (.bool false)], args := [d1, d2, d3], vars := [g1] }
  | _ => none }
def FnExactRestrictWrongFalsely : Prop := fnExactRestrictRow.holds Tryd.pinned (OpenSpec.ofChange fnExactRestrictWrong)

/-- 'laws.FnExactBothOf': WHATEVER THE INPUT: true; the input reads as it did. -/
def fnExactBothOfSpec : ChangeSpec := { name := "fnExactBothOf", vars := ["loop.example/g00269/impl.ofVariable"], fn := fun _ => fun
  | [d1, d2, g1] => { results := [.lit (.bool true)], args := [d1, d2], vars := [g1] }
  | _ => none }
def fnExactBothOfRow : OpenClaim := { program := "ytfiooclkefmijaadoor", sum := "9bb9e110d5af6fd7b453ced99f7fa0047215f19d04b912a952880557de5f2afc", func := "loop.example/g00269/laws.FnExactBothOf", spec := "fnExactBothOf", inPlace := ["sync/atomic.LoadUint32", "(*internal/sync.Mutex).Lock", "internal/race.Disable", "sync/atomic.CompareAndSwapInt32", "internal/race.Enable", "internal/race.Acquire", "(*internal/sync.Mutex).lockSlow", "internal/sync.runtime_canSpin", "internal/sync.runtime_doSpin", "internal/sync.throw", "internal/sync.runtime_nanotime", "internal/sync.runtime_SemacquireMutex", "sync/atomic.AddInt32", "(*internal/sync.Mutex).Unlock", "internal/race.ReleaseMerge", "(*internal/sync.Mutex).unlockSlow", "internal/sync.fatal", "internal/sync.runtime_Semrelease", "sync/atomic.StoreUint32"], unfollowed := true, recurses := true, named := ["loop.example/g00269/impl.ofVariable"], plainKeys := false, apart := false, laid := [("loop.example/g00269/impl.ofVariable", laid_loop_example_g00269_impl_ofVariable)] }
def FnExactBothOfSaid : Prop := fnExactBothOfRow.holds Tryd.pinned (OpenSpec.ofChange fnExactBothOfSpec)

/-- ITS FALSE NEIGHBOUR: 'it returns false'. Refute it at one input. -/
def fnExactBothOfWrong : ChangeSpec := { name := "fnExactBothOf", vars := ["loop.example/g00269/impl.ofVariable"], fn := fun _ => fun
  | [d1, d2, g1] => { results := [.lit (.bool false)], args := [d1, d2], vars := [g1] }
  | _ => none }
def FnExactBothOfWrongFalsely : Prop := fnExactBothOfRow.holds Tryd.pinned (OpenSpec.ofChange fnExactBothOfWrong)

/-- 'laws.FnExactNotOf': WHATEVER THE INPUT: true; the input reads as it did. -/
def fnExactNotOfSpec : ChangeSpec := { name := "fnExactNotOf", vars := ["loop.example/g00269/impl.ofVariable"], fn := fun _ => fun
  | [d, g1] => { results := [.lit (.bool true)], args := [d], vars := [g1] }
  | _ => none }
def fnExactNotOfRow : OpenClaim := { program := "ytfiooclkefmijaadoor", sum := "9bb9e110d5af6fd7b453ced99f7fa0047215f19d04b912a952880557de5f2afc", func := "loop.example/g00269/laws.FnExactNotOf", spec := "fnExactNotOf", inPlace := ["sync/atomic.LoadUint32", "(*internal/sync.Mutex).Lock", "internal/race.Disable", "sync/atomic.CompareAndSwapInt32", "internal/race.Enable", "internal/race.Acquire", "(*internal/sync.Mutex).lockSlow", "internal/sync.runtime_canSpin", "internal/sync.runtime_doSpin", "internal/sync.throw", "internal/sync.runtime_nanotime", "internal/sync.runtime_SemacquireMutex", "sync/atomic.AddInt32", "(*internal/sync.Mutex).Unlock", "internal/race.ReleaseMerge", "(*internal/sync.Mutex).unlockSlow", "internal/sync.fatal", "internal/sync.runtime_Semrelease", "sync/atomic.StoreUint32"], unfollowed := true, recurses := true, named := ["loop.example/g00269/impl.ofVariable"], plainKeys := false, apart := false, laid := [("loop.example/g00269/impl.ofVariable", laid_loop_example_g00269_impl_ofVariable)] }
def FnExactNotOfSaid : Prop := fnExactNotOfRow.holds Tryd.pinned (OpenSpec.ofChange fnExactNotOfSpec)

/-- ITS FALSE NEIGHBOUR: 'it returns false'. Refute it at one input. -/
def fnExactNotOfWrong : ChangeSpec := { name := "fnExactNotOf", vars := ["loop.example/g00269/impl.ofVariable"], fn := fun _ => fun
  | [d, g1] => { results := [.lit (.bool false)], args := [d], vars := [g1] }
  | _ => none }
def FnExactNotOfWrongFalsely : Prop := fnExactNotOfRow.holds Tryd.pinned (OpenSpec.ofChange fnExactNotOfWrong)

/- THE SECOND FORM. 'bulk': how many values and letters a reading holds, each counted each time it is reached (what is shared counts as often as it is met; a slice's spare places count too). A statement '..UptoSaid' is the law's where the arguments, and the package variables that the reading takes, are together of bulk at most 1048576: NARROWER than '..Said'. Prove '..Said' where nothing that the law and all that it calls make is longer than what came in: it says more and counts as full. Else prove '..UptoSaid'. A law counts once. -/
mutual
def uptoBulk {H : Type} : DataW H → Nat
  | .lit (.string bytes) => bytes.length + 1
  | .lit _ => 1
  | .nil => 1
  | .ptr d => uptoBulk d + 1
  | .slice elems spare => uptoBulkAll elems + uptoBulkAll spare + 1
  | .agg parts => uptoBulkAll parts + 1
  | .iface _ d => uptoBulk d + 1
  | .map entries => uptoBulkEntries entries + 1
  | .held _ => 1
def uptoBulkAll {H : Type} : List (DataW H) → Nat
  | [] => 0
  | d :: r => uptoBulk d + uptoBulkAll r
def uptoBulkEntries {H : Type} : List (Lit × DataW H) → Nat
  | [] => 0
  | x :: r => uptoBulkEntry x + uptoBulkEntries r
def uptoBulkEntry {H : Type} : Lit × DataW H → Nat
  | (.string bytes, d) => bytes.length + uptoBulk d + 1
  | (_, d) => uptoBulk d + 1
 end
def uptoSmall : (H : Type) → List (DataW H) → Bool := fun _ ds => decide (uptoBulkAll ds ≤ 1048576)
def OpenSpec.upto (s : _root_.Go.ChangeSpec) : _root_.Go.OpenSpec := { _root_.Go.OpenSpec.ofChange s with cond := some uptoSmall }

/-- 'laws.FnExactGoodForm', WHERE WHAT IT READS IS OF BULK AT MOST 1048576: true; the input reads as it did. -/
def fnExactGoodFormUptoRow : OpenClaim := { program := "ytfiooclkefmijaadoor", sum := "9bb9e110d5af6fd7b453ced99f7fa0047215f19d04b912a952880557de5f2afc", func := "loop.example/g00269/laws.FnExactGoodForm", spec := "fnExactGoodForm", recurses := true, named := ["loop.example/g00269/impl.ofVariable"], plainKeys := false, apart := false, laid := [("loop.example/g00269/impl.ofVariable", laid_loop_example_g00269_impl_ofVariable)], narrowed := true }
def FnExactGoodFormUptoSaid : Prop := fnExactGoodFormUptoRow.holds Tryd.pinned (OpenSpec.upto fnExactGoodFormSpec)

/-- 'laws.FnExactTableOf', WHERE WHAT IT READS IS OF BULK AT MOST 1048576: true; the input reads as it did. -/
def fnExactTableOfUptoRow : OpenClaim := { program := "ytfiooclkefmijaadoor", sum := "9bb9e110d5af6fd7b453ced99f7fa0047215f19d04b912a952880557de5f2afc", func := "loop.example/g00269/laws.FnExactTableOf", spec := "fnExactTableOf", recurses := true, named := ["loop.example/g00269/impl.ofVariable"], plainKeys := false, apart := false, laid := [("loop.example/g00269/impl.ofVariable", laid_loop_example_g00269_impl_ofVariable)], narrowed := true }
def FnExactTableOfUptoSaid : Prop := fnExactTableOfUptoRow.holds Tryd.pinned (OpenSpec.upto fnExactTableOfSpec)

/-- 'laws.FnExactDiagramOf', WHERE WHAT IT READS IS OF BULK AT MOST 1048576: true; the input reads as it did. -/
def fnExactDiagramOfUptoRow : OpenClaim := { program := "ytfiooclkefmijaadoor", sum := "9bb9e110d5af6fd7b453ced99f7fa0047215f19d04b912a952880557de5f2afc", func := "loop.example/g00269/laws.FnExactDiagramOf", spec := "fnExactDiagramOf", inPlace := ["sync/atomic.LoadUint32", "(*internal/sync.Mutex).Lock", "internal/race.Disable", "sync/atomic.CompareAndSwapInt32", "internal/race.Enable", "internal/race.Acquire", "(*internal/sync.Mutex).lockSlow", "internal/sync.runtime_canSpin", "internal/sync.runtime_doSpin", "internal/sync.throw", "internal/sync.runtime_nanotime", "internal/sync.runtime_SemacquireMutex", "sync/atomic.AddInt32", "(*internal/sync.Mutex).Unlock", "internal/race.ReleaseMerge", "(*internal/sync.Mutex).unlockSlow", "internal/sync.fatal", "internal/sync.runtime_Semrelease", "sync/atomic.StoreUint32"], unfollowed := true, recurses := true, named := ["loop.example/g00269/impl.ofVariable"], plainKeys := false, apart := false, laid := [("loop.example/g00269/impl.ofVariable", laid_loop_example_g00269_impl_ofVariable)], narrowed := true }
def FnExactDiagramOfUptoSaid : Prop := fnExactDiagramOfUptoRow.holds Tryd.pinned (OpenSpec.upto fnExactDiagramOfSpec)

/-- 'laws.FnExactGoodDiagram', WHERE WHAT IT READS IS OF BULK AT MOST 1048576: true; the input reads as it did. -/
def fnExactGoodDiagramUptoRow : OpenClaim := { program := "ytfiooclkefmijaadoor", sum := "9bb9e110d5af6fd7b453ced99f7fa0047215f19d04b912a952880557de5f2afc", func := "loop.example/g00269/laws.FnExactGoodDiagram", spec := "fnExactGoodDiagram", inPlace := ["sync/atomic.LoadUint32", "(*internal/sync.Mutex).Lock", "internal/race.Disable", "sync/atomic.CompareAndSwapInt32", "internal/race.Enable", "internal/race.Acquire", "(*internal/sync.Mutex).lockSlow", "internal/sync.runtime_canSpin", "internal/sync.runtime_doSpin", "internal/sync.throw", "internal/sync.runtime_nanotime", "internal/sync.runtime_SemacquireMutex", "sync/atomic.AddInt32", "(*internal/sync.Mutex).Unlock", "internal/race.ReleaseMerge", "(*internal/sync.Mutex).unlockSlow", "internal/sync.fatal", "internal/sync.runtime_Semrelease", "sync/atomic.StoreUint32"], unfollowed := true, recurses := true, named := ["loop.example/g00269/impl.ofVariable"], plainKeys := false, apart := false, laid := [("loop.example/g00269/impl.ofVariable", laid_loop_example_g00269_impl_ofVariable)], narrowed := true }
def FnExactGoodDiagramUptoSaid : Prop := fnExactGoodDiagramUptoRow.holds Tryd.pinned (OpenSpec.upto fnExactGoodDiagramSpec)

/-- 'laws.FnExactDecide', WHERE WHAT IT READS IS OF BULK AT MOST 1048576: true; the input reads as it did. -/
def fnExactDecideUptoRow : OpenClaim := { program := "ytfiooclkefmijaadoor", sum := "9bb9e110d5af6fd7b453ced99f7fa0047215f19d04b912a952880557de5f2afc", func := "loop.example/g00269/laws.FnExactDecide", spec := "fnExactDecide", inPlace := ["sync/atomic.LoadUint32", "(*internal/sync.Mutex).Lock", "internal/race.Disable", "sync/atomic.CompareAndSwapInt32", "internal/race.Enable", "internal/race.Acquire", "(*internal/sync.Mutex).lockSlow", "internal/sync.runtime_canSpin", "internal/sync.runtime_doSpin", "internal/sync.throw", "internal/sync.runtime_nanotime", "internal/sync.runtime_SemacquireMutex", "sync/atomic.AddInt32", "(*internal/sync.Mutex).Unlock", "internal/race.ReleaseMerge", "(*internal/sync.Mutex).unlockSlow", "internal/sync.fatal", "internal/sync.runtime_Semrelease", "sync/atomic.StoreUint32"], unfollowed := true, recurses := true, named := ["loop.example/g00269/impl.ofVariable"], plainKeys := false, apart := false, laid := [("loop.example/g00269/impl.ofVariable", laid_loop_example_g00269_impl_ofVariable)], narrowed := true }
def FnExactDecideUptoSaid : Prop := fnExactDecideUptoRow.holds Tryd.pinned (OpenSpec.upto fnExactDecideSpec)

/-- 'laws.FnExactCountYes', WHERE WHAT IT READS IS OF BULK AT MOST 1048576: true; the input reads as it did. -/
def fnExactCountYesUptoRow : OpenClaim := { program := "ytfiooclkefmijaadoor", sum := "9bb9e110d5af6fd7b453ced99f7fa0047215f19d04b912a952880557de5f2afc", func := "loop.example/g00269/laws.FnExactCountYes", spec := "fnExactCountYes", inPlace := ["sync/atomic.LoadUint32", "(*internal/sync.Mutex).Lock", "internal/race.Disable", "sync/atomic.CompareAndSwapInt32", "internal/race.Enable", "internal/race.Acquire", "(*internal/sync.Mutex).lockSlow", "internal/sync.runtime_canSpin", "internal/sync.runtime_doSpin", "internal/sync.throw", "internal/sync.runtime_nanotime", "internal/sync.runtime_SemacquireMutex", "sync/atomic.AddInt32", "(*internal/sync.Mutex).Unlock", "internal/race.ReleaseMerge", "(*internal/sync.Mutex).unlockSlow", "internal/sync.fatal", "internal/sync.runtime_Semrelease", "sync/atomic.StoreUint32"], unfollowed := true, recurses := true, named := ["loop.example/g00269/impl.ofVariable"], plainKeys := false, apart := false, laid := [("loop.example/g00269/impl.ofVariable", laid_loop_example_g00269_impl_ofVariable)], narrowed := true }
def FnExactCountYesUptoSaid : Prop := fnExactCountYesUptoRow.holds Tryd.pinned (OpenSpec.upto fnExactCountYesSpec)

/-- 'laws.FnExactRestrict', WHERE WHAT IT READS IS OF BULK AT MOST 1048576: true; the input reads as it did. -/
def fnExactRestrictUptoRow : OpenClaim := { program := "ytfiooclkefmijaadoor", sum := "9bb9e110d5af6fd7b453ced99f7fa0047215f19d04b912a952880557de5f2afc", func := "loop.example/g00269/laws.FnExactRestrict", spec := "fnExactRestrict", inPlace := ["sync/atomic.LoadUint32", "(*internal/sync.Mutex).Lock", "internal/race.Disable", "sync/atomic.CompareAndSwapInt32", "internal/race.Enable", "internal/race.Acquire", "(*internal/sync.Mutex).lockSlow", "internal/sync.runtime_canSpin", "internal/sync.runtime_doSpin", "internal/sync.throw", "internal/sync.runtime_nanotime", "internal/sync.runtime_SemacquireMutex", "sync/atomic.AddInt32", "(*internal/sync.Mutex).Unlock", "internal/race.ReleaseMerge", "(*internal/sync.Mutex).unlockSlow", "internal/sync.fatal", "internal/sync.runtime_Semrelease", "sync/atomic.StoreUint32"], unfollowed := true, recurses := true, named := ["loop.example/g00269/impl.ofVariable"], plainKeys := false, apart := false, laid := [("loop.example/g00269/impl.ofVariable", laid_loop_example_g00269_impl_ofVariable)], narrowed := true }
def FnExactRestrictUptoSaid : Prop := fnExactRestrictUptoRow.holds Tryd.pinned (OpenSpec.upto fnExactRestrictSpec)

/-- 'laws.FnExactBothOf', WHERE WHAT IT READS IS OF BULK AT MOST 1048576: true; the input reads as it did. -/
def fnExactBothOfUptoRow : OpenClaim := { program := "ytfiooclkefmijaadoor", sum := "9bb9e110d5af6fd7b453ced99f7fa0047215f19d04b912a952880557de5f2afc", func := "loop.example/g00269/laws.FnExactBothOf", spec := "fnExactBothOf", inPlace := ["sync/atomic.LoadUint32", "(*internal/sync.Mutex).Lock", "internal/race.Disable", "sync/atomic.CompareAndSwapInt32", "internal/race.Enable", "internal/race.Acquire", "(*internal/sync.Mutex).lockSlow", "internal/sync.runtime_canSpin", "internal/sync.runtime_doSpin", "internal/sync.throw", "internal/sync.runtime_nanotime", "internal/sync.runtime_SemacquireMutex", "sync/atomic.AddInt32", "(*internal/sync.Mutex).Unlock", "internal/race.ReleaseMerge", "(*internal/sync.Mutex).unlockSlow", "internal/sync.fatal", "internal/sync.runtime_Semrelease", "sync/atomic.StoreUint32"], unfollowed := true, recurses := true, named := ["loop.example/g00269/impl.ofVariable"], plainKeys := false, apart := false, laid := [("loop.example/g00269/impl.ofVariable", laid_loop_example_g00269_impl_ofVariable)], narrowed := true }
def FnExactBothOfUptoSaid : Prop := fnExactBothOfUptoRow.holds Tryd.pinned (OpenSpec.upto fnExactBothOfSpec)

/-- 'laws.FnExactNotOf', WHERE WHAT IT READS IS OF BULK AT MOST 1048576: true; the input reads as it did. -/
def fnExactNotOfUptoRow : OpenClaim := { program := "ytfiooclkefmijaadoor", sum := "9bb9e110d5af6fd7b453ced99f7fa0047215f19d04b912a952880557de5f2afc", func := "loop.example/g00269/laws.FnExactNotOf", spec := "fnExactNotOf", inPlace := ["sync/atomic.LoadUint32", "(*internal/sync.Mutex).Lock", "internal/race.Disable", "sync/atomic.CompareAndSwapInt32", "internal/race.Enable", "internal/race.Acquire", "(*internal/sync.Mutex).lockSlow", "internal/sync.runtime_canSpin", "internal/sync.runtime_doSpin", "internal/sync.throw", "internal/sync.runtime_nanotime", "internal/sync.runtime_SemacquireMutex", "sync/atomic.AddInt32", "(*internal/sync.Mutex).Unlock", "internal/race.ReleaseMerge", "(*internal/sync.Mutex).unlockSlow", "internal/sync.fatal", "internal/sync.runtime_Semrelease", "sync/atomic.StoreUint32"], unfollowed := true, recurses := true, named := ["loop.example/g00269/impl.ofVariable"], plainKeys := false, apart := false, laid := [("loop.example/g00269/impl.ofVariable", laid_loop_example_g00269_impl_ofVariable)], narrowed := true }
def FnExactNotOfUptoSaid : Prop := fnExactNotOfUptoRow.holds Tryd.pinned (OpenSpec.upto fnExactNotOfSpec)

end Rows
end Go.Proofs.YtfiooclkefmijaaDoor
