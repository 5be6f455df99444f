/-
  NARROWER THAN 'FOR EVERY INPUT', by the rows' own cells (each row's printed sentence says how): FnExactIsActive: laid · FnExactTakeCall: laid · FnExactTakeLead: laid · FnExactWordOf: laid · FnExactHearWord: laid · FnExactReapply: laid · FnExactStateOf: laid · FnCalls: laid · FnHeard: laid.
  DERIVED. THE GIVEN ROWS OF THIS SEAT. 9 by the template 'for every input the law returns true; each argument reads behind the call as it read before'; 0 by the template 'total and deterministic' (their statements: YtfkeokglifpkoaaGreatDoorTotals.lean).
  GIVEN WITH THE SEED: the statements are not yours to turn. If you find one false, say at which input.
  Laid BY PROGRAM, IN A SANDBOX (cutbox-rows.mjs): the forced cells as the released guide's own fill.sh prints them over the translation a72c27876a2871ca… (all of the seat's roots in one cut). By AI agents, Wed Nov 11 2026. No macro, syntax, notation, axiom, sorry.
-/
import Derived.Test.YtfkeokglifpkoaaGreatDoorChecked
import GoSem.Claim
import GoSem.ClaimJoined
import GoSem.ClaimMapViews
import Derived.JoinedTies
import Derived.KernelRfl
namespace Go.Proofs.YtfkeokglifpkoaaGreatDoor
/- THE CELL 'sum', in the pinned program and in every row, IS THE sha256 OF THE DUMP (.gsa) THAT YtfkeokglifpkoaaGreatDoorProg.lean LOADS. Nothing in Lean hashes anything: it is a label: what it is worth is what the hold of that sum in a sandbox is worth. -/
noncomputable def Tryz.pinned : Pinned := { name := "ytfkeokglifpkoaagreatdoor", sum := "a72c27876a2871cac0009e715d0ab83c9dc63a21055d50816fcdd5ce7a52778a", checked := Tryz.checked }
namespace Rows
def none {H : Type} : Left H := { results := [], args := [] }

/- WHAT THE LISTED PACKAGE-LEVEL VARIABLES READ AS WHEN THE CALL BEGINS. Each datum BY PROGRAM (the guide's laid-datum.mjs) off the statement by which the dump's own 'gosem.cut.vars' lays the variable. In a bare row this is a premise. The card (YtfkeokglifpkoaaGreatDoorCards.lean) ties it to the program's text. -/
def laid_loop_example_g00269_impl_knownKinds {H : Type} : DataW H := .agg [.lit (.bool false), .lit (.bool true), .lit (.bool true), .lit (.bool true), .lit (.bool true), .lit (.bool true), .lit (.bool true)]

/-- 'laws.FnExactIsActive': WHATEVER THE INPUT: true; the input reads as it did. -/
def fnExactIsActiveSpec : ChangeSpec := { name := "fnExactIsActive", vars := ["loop.example/g00269/impl.knownKinds"], fn := fun _ => fun
  | [d, g1] => { results := [.lit (.bool true)], args := [d], vars := [g1] }
  | _ => none }
def fnExactIsActiveRow : OpenClaim := { program := "ytfkeokglifpkoaagreatdoor", sum := "a72c27876a2871cac0009e715d0ab83c9dc63a21055d50816fcdd5ce7a52778a", func := "loop.example/g00269/laws.FnExactIsActive", spec := "fnExactIsActive", inPlace := ["slices.overlaps[string]"], unfollowed := true, recurses := true, named := ["loop.example/g00269/impl.knownKinds"], apart := false, laid := [("loop.example/g00269/impl.knownKinds", laid_loop_example_g00269_impl_knownKinds)] }
def FnExactIsActiveSaid : Prop := fnExactIsActiveRow.holds Tryz.pinned (OpenSpec.ofChange fnExactIsActiveSpec)

/-- ITS FALSE NEIGHBOUR: 'it returns false'. Refute it at one input. -/
def fnExactIsActiveWrong : ChangeSpec := { name := "fnExactIsActive", vars := ["loop.example/g00269/impl.knownKinds"], fn := fun _ => fun
  | [d, g1] => { results := [.lit (.bool false)], args := [d], vars := [g1] }
  | _ => none }
def FnExactIsActiveWrongFalsely : Prop := fnExactIsActiveRow.holds Tryz.pinned (OpenSpec.ofChange fnExactIsActiveWrong)

/-- 'laws.FnExactTakeCall': WHATEVER THE INPUT: true; the input reads as it did. -/
def fnExactTakeCallSpec : ChangeSpec := { name := "fnExactTakeCall", vars := ["loop.example/g00269/impl.knownKinds"], fn := fun _ => fun
  | [d1, d2, d3, g1] => { results := [.lit (.bool true)], args := [d1, d2, d3], vars := [g1] }
  | _ => none }
def fnExactTakeCallRow : OpenClaim := { program := "ytfkeokglifpkoaagreatdoor", sum := "a72c27876a2871cac0009e715d0ab83c9dc63a21055d50816fcdd5ce7a52778a", func := "loop.example/g00269/laws.FnExactTakeCall", spec := "fnExactTakeCall", inPlace := ["slices.overlaps[string]", "slices.overlaps[loop.example/g00269/impl.Branch]"], unfollowed := true, recurses := true, named := ["loop.example/g00269/impl.knownKinds"], apart := false, laid := [("loop.example/g00269/impl.knownKinds", laid_loop_example_g00269_impl_knownKinds)] }
def FnExactTakeCallSaid : Prop := fnExactTakeCallRow.holds Tryz.pinned (OpenSpec.ofChange fnExactTakeCallSpec)

/-- ITS FALSE NEIGHBOUR: 'it returns false'. Refute it at one input. -/
def fnExactTakeCallWrong : ChangeSpec := { name := "fnExactTakeCall", vars := ["loop.example/g00269/impl.knownKinds"], fn := fun _ => fun
  | [d1, d2, d3, g1] => { results := [.lit (.bool false)], args := [d1, d2, d3], vars := [g1] }
  | _ => none }
def FnExactTakeCallWrongFalsely : Prop := fnExactTakeCallRow.holds Tryz.pinned (OpenSpec.ofChange fnExactTakeCallWrong)

/-- 'laws.FnExactTakeLead': WHATEVER THE INPUT: true; the input reads as it did. -/
def fnExactTakeLeadSpec : ChangeSpec := { name := "fnExactTakeLead", vars := ["loop.example/g00269/impl.knownKinds"], fn := fun _ => fun
  | [d, g1] => { results := [.lit (.bool true)], args := [d], vars := [g1] }
  | _ => none }
def fnExactTakeLeadRow : OpenClaim := { program := "ytfkeokglifpkoaagreatdoor", sum := "a72c27876a2871cac0009e715d0ab83c9dc63a21055d50816fcdd5ce7a52778a", func := "loop.example/g00269/laws.FnExactTakeLead", spec := "fnExactTakeLead", inPlace := ["slices.overlaps[string]"], unfollowed := true, recurses := true, named := ["loop.example/g00269/impl.knownKinds"], apart := false, laid := [("loop.example/g00269/impl.knownKinds", laid_loop_example_g00269_impl_knownKinds)] }
def FnExactTakeLeadSaid : Prop := fnExactTakeLeadRow.holds Tryz.pinned (OpenSpec.ofChange fnExactTakeLeadSpec)

/-- ITS FALSE NEIGHBOUR: 'it returns false'. Refute it at one input. -/
def fnExactTakeLeadWrong : ChangeSpec := { name := "fnExactTakeLead", vars := ["loop.example/g00269/impl.knownKinds"], fn := fun _ => fun
  | [d, g1] => { results := [.lit (.bool false)], args := [d], vars := [g1] }
  | _ => none }
def FnExactTakeLeadWrongFalsely : Prop := fnExactTakeLeadRow.holds Tryz.pinned (OpenSpec.ofChange fnExactTakeLeadWrong)

/-- 'laws.FnExactWordOf': WHATEVER THE INPUT: true; the input reads as it did. -/
def fnExactWordOfSpec : ChangeSpec := { name := "fnExactWordOf", vars := ["loop.example/g00269/impl.knownKinds"], fn := fun _ => fun
  | [d, g1] => { results := [.lit (.bool true)], args := [d], vars := [g1] }
  | _ => none }
def fnExactWordOfRow : OpenClaim := { program := "ytfkeokglifpkoaagreatdoor", sum := "a72c27876a2871cac0009e715d0ab83c9dc63a21055d50816fcdd5ce7a52778a", func := "loop.example/g00269/laws.FnExactWordOf", spec := "fnExactWordOf", inPlace := ["slices.overlaps[string]"], unfollowed := true, recurses := true, named := ["loop.example/g00269/impl.knownKinds"], apart := false, laid := [("loop.example/g00269/impl.knownKinds", laid_loop_example_g00269_impl_knownKinds)] }
def FnExactWordOfSaid : Prop := fnExactWordOfRow.holds Tryz.pinned (OpenSpec.ofChange fnExactWordOfSpec)

/-- ITS FALSE NEIGHBOUR: 'it returns false'. Refute it at one input. -/
def fnExactWordOfWrong : ChangeSpec := { name := "fnExactWordOf", vars := ["loop.example/g00269/impl.knownKinds"], fn := fun _ => fun
  | [d, g1] => { results := [.lit (.bool false)], args := [d], vars := [g1] }
  | _ => none }
def FnExactWordOfWrongFalsely : Prop := fnExactWordOfRow.holds Tryz.pinned (OpenSpec.ofChange fnExactWordOfWrong)

/-- 'laws.FnExactHearWord': WHATEVER THE INPUT: true; the input reads as it did. -/
def fnExactHearWordSpec : ChangeSpec := { name := "fnExactHearWord", vars := ["loop.example/g00269/impl.knownKinds"], fn := fun _ => fun
  | [d1, d2, g1] => { results := [.lit (.bool true)], args := [d1, d2], vars := [g1] }
  | _ => none }
def fnExactHearWordRow : OpenClaim := { program := "ytfkeokglifpkoaagreatdoor", sum := "a72c27876a2871cac0009e715d0ab83c9dc63a21055d50816fcdd5ce7a52778a", func := "loop.example/g00269/laws.FnExactHearWord", spec := "fnExactHearWord", inPlace := ["slices.overlaps[string]", "slices.overlaps[loop.example/g00269/impl.Branch]"], unfollowed := true, recurses := true, named := ["loop.example/g00269/impl.knownKinds"], apart := false, laid := [("loop.example/g00269/impl.knownKinds", laid_loop_example_g00269_impl_knownKinds)] }
def FnExactHearWordSaid : Prop := fnExactHearWordRow.holds Tryz.pinned (OpenSpec.ofChange fnExactHearWordSpec)

/-- ITS FALSE NEIGHBOUR: 'it returns false'. Refute it at one input. -/
def fnExactHearWordWrong : ChangeSpec := { name := "fnExactHearWord", vars := ["loop.example/g00269/impl.knownKinds"], fn := fun _ => fun
  | [d1, d2, g1] => { results := [.lit (.bool false)], args := [d1, d2], vars := [g1] }
  | _ => none }
def FnExactHearWordWrongFalsely : Prop := fnExactHearWordRow.holds Tryz.pinned (OpenSpec.ofChange fnExactHearWordWrong)

/-- 'laws.FnExactReapply': WHATEVER THE INPUT: true; the input reads as it did. -/
def fnExactReapplySpec : ChangeSpec := { name := "fnExactReapply", vars := ["loop.example/g00269/impl.knownKinds"], fn := fun _ => fun
  | [d, g1] => { results := [.lit (.bool true)], args := [d], vars := [g1] }
  | _ => none }
def fnExactReapplyRow : OpenClaim := { program := "ytfkeokglifpkoaagreatdoor", sum := "a72c27876a2871cac0009e715d0ab83c9dc63a21055d50816fcdd5ce7a52778a", func := "loop.example/g00269/laws.FnExactReapply", spec := "fnExactReapply", inPlace := ["slices.overlaps[string]", "slices.overlaps[loop.example/g00269/impl.Branch]", "sync/atomic.AddInt64", "sync/atomic.LoadInt64"], unfollowed := true, recurses := true, named := ["loop.example/g00269/impl.knownKinds"], apart := false, laid := [("loop.example/g00269/impl.knownKinds", laid_loop_example_g00269_impl_knownKinds)] }
def FnExactReapplySaid : Prop := fnExactReapplyRow.holds Tryz.pinned (OpenSpec.ofChange fnExactReapplySpec)

/-- ITS FALSE NEIGHBOUR: 'it returns false'. Refute it at one input. -/
def fnExactReapplyWrong : ChangeSpec := { name := "fnExactReapply", vars := ["loop.example/g00269/impl.knownKinds"], fn := fun _ => fun
  | [d, g1] => { results := [.lit (.bool false)], args := [d], vars := [g1] }
  | _ => none }
def FnExactReapplyWrongFalsely : Prop := fnExactReapplyRow.holds Tryz.pinned (OpenSpec.ofChange fnExactReapplyWrong)

/-- 'laws.FnExactStateOf': WHATEVER THE INPUT: true; the input reads as it did. -/
def fnExactStateOfSpec : ChangeSpec := { name := "fnExactStateOf", vars := ["loop.example/g00269/impl.knownKinds"], fn := fun _ => fun
  | [d, g1] => { results := [.lit (.bool true)], args := [d], vars := [g1] }
  | _ => none }
def fnExactStateOfRow : OpenClaim := { program := "ytfkeokglifpkoaagreatdoor", sum := "a72c27876a2871cac0009e715d0ab83c9dc63a21055d50816fcdd5ce7a52778a", func := "loop.example/g00269/laws.FnExactStateOf", spec := "fnExactStateOf", inPlace := ["slices.overlaps[string]"], unfollowed := true, recurses := true, named := ["loop.example/g00269/impl.knownKinds"], apart := false, laid := [("loop.example/g00269/impl.knownKinds", laid_loop_example_g00269_impl_knownKinds)] }
def FnExactStateOfSaid : Prop := fnExactStateOfRow.holds Tryz.pinned (OpenSpec.ofChange fnExactStateOfSpec)

/-- ITS FALSE NEIGHBOUR: 'it returns false'. Refute it at one input. -/
def fnExactStateOfWrong : ChangeSpec := { name := "fnExactStateOf", vars := ["loop.example/g00269/impl.knownKinds"], fn := fun _ => fun
  | [d, g1] => { results := [.lit (.bool false)], args := [d], vars := [g1] }
  | _ => none }
def FnExactStateOfWrongFalsely : Prop := fnExactStateOfRow.holds Tryz.pinned (OpenSpec.ofChange fnExactStateOfWrong)

/-- 'laws.FnCalls': WHATEVER THE INPUT: true; the input reads as it did. -/
def fnCallsSpec : ChangeSpec := { name := "fnCalls", vars := ["loop.example/g00269/impl.knownKinds"], fn := fun _ => fun
  | [d1, d2, g1] => { results := [.lit (.bool true)], args := [d1, d2], vars := [g1] }
  | _ => none }
def fnCallsRow : OpenClaim := { program := "ytfkeokglifpkoaagreatdoor", sum := "a72c27876a2871cac0009e715d0ab83c9dc63a21055d50816fcdd5ce7a52778a", func := "loop.example/g00269/laws.FnCalls", spec := "fnCalls", inPlace := ["slices.overlaps[string]", "slices.overlaps[loop.example/g00269/impl.Branch]"], unfollowed := true, recurses := true, named := ["loop.example/g00269/impl.knownKinds"], apart := false, laid := [("loop.example/g00269/impl.knownKinds", laid_loop_example_g00269_impl_knownKinds)] }
def FnCallsSaid : Prop := fnCallsRow.holds Tryz.pinned (OpenSpec.ofChange fnCallsSpec)

/-- ITS FALSE NEIGHBOUR: 'it returns false'. Refute it at one input. -/
def fnCallsWrong : ChangeSpec := { name := "fnCalls", vars := ["loop.example/g00269/impl.knownKinds"], fn := fun _ => fun
  | [d1, d2, g1] => { results := [.lit (.bool false)], args := [d1, d2], vars := [g1] }
  | _ => none }
def FnCallsWrongFalsely : Prop := fnCallsRow.holds Tryz.pinned (OpenSpec.ofChange fnCallsWrong)

/-- 'laws.FnHeard': WHATEVER THE INPUT: true; the input reads as it did. -/
def fnHeardSpec : ChangeSpec := { name := "fnHeard", vars := ["loop.example/g00269/impl.knownKinds"], fn := fun _ => fun
  | [d1, d2, g1] => { results := [.lit (.bool true)], args := [d1, d2], vars := [g1] }
  | _ => none }
def fnHeardRow : OpenClaim := { program := "ytfkeokglifpkoaagreatdoor", sum := "a72c27876a2871cac0009e715d0ab83c9dc63a21055d50816fcdd5ce7a52778a", func := "loop.example/g00269/laws.FnHeard", spec := "fnHeard", inPlace := ["slices.overlaps[string]", "slices.overlaps[loop.example/g00269/impl.Branch]", "sync/atomic.AddInt64", "sync/atomic.LoadInt64"], unfollowed := true, recurses := true, named := ["loop.example/g00269/impl.knownKinds"], apart := false, laid := [("loop.example/g00269/impl.knownKinds", laid_loop_example_g00269_impl_knownKinds)] }
def FnHeardSaid : Prop := fnHeardRow.holds Tryz.pinned (OpenSpec.ofChange fnHeardSpec)

/-- ITS FALSE NEIGHBOUR: 'it returns false'. Refute it at one input. -/
def fnHeardWrong : ChangeSpec := { name := "fnHeard", vars := ["loop.example/g00269/impl.knownKinds"], fn := fun _ => fun
  | [d1, d2, g1] => { results := [.lit (.bool false)], args := [d1, d2], vars := [g1] }
  | _ => none }
def FnHeardWrongFalsely : Prop := fnHeardRow.holds Tryz.pinned (OpenSpec.ofChange fnHeardWrong)

/- THE SECOND FORM. 'bulk': how many values and letters a reading holds, each counted each time it is reached (what is shared counts as often as it is met; a slice's spare places count too). A statement '..UptoSaid' is the law's where the arguments, and the package variables that the reading takes, are together of bulk at most 1048576: NARROWER than '..Said'. Prove '..Said' where nothing that the law and all that it calls make is longer than what came in: it says more and counts as full. Else prove '..UptoSaid'. A law counts once. -/
mutual
def uptoBulk {H : Type} : DataW H → Nat
  | .lit (.string bytes) => bytes.length + 1
  | .lit _ => 1
  | .nil => 1
  | .ptr d => uptoBulk d + 1
  | .slice elems spare => uptoBulkAll elems + uptoBulkAll spare + 1
  | .agg parts => uptoBulkAll parts + 1
  | .iface _ d => uptoBulk d + 1
  | .map entries => uptoBulkEntries entries + 1
  | .held _ => 1
def uptoBulkAll {H : Type} : List (DataW H) → Nat
  | [] => 0
  | d :: r => uptoBulk d + uptoBulkAll r
def uptoBulkEntries {H : Type} : List (Lit × DataW H) → Nat
  | [] => 0
  | x :: r => uptoBulkEntry x + uptoBulkEntries r
def uptoBulkEntry {H : Type} : Lit × DataW H → Nat
  | (.string bytes, d) => bytes.length + uptoBulk d + 1
  | (_, d) => uptoBulk d + 1
 end
def uptoSmall : (H : Type) → List (DataW H) → Bool := fun _ ds => decide (uptoBulkAll ds ≤ 1048576)
def OpenSpec.upto (s : _root_.Go.ChangeSpec) : _root_.Go.OpenSpec := { _root_.Go.OpenSpec.ofChange s with cond := some uptoSmall }

/-- 'laws.FnExactIsActive', WHERE WHAT IT READS IS OF BULK AT MOST 1048576: true; the input reads as it did. -/
def fnExactIsActiveUptoRow : OpenClaim := { program := "ytfkeokglifpkoaagreatdoor", sum := "a72c27876a2871cac0009e715d0ab83c9dc63a21055d50816fcdd5ce7a52778a", func := "loop.example/g00269/laws.FnExactIsActive", spec := "fnExactIsActive", inPlace := ["slices.overlaps[string]"], unfollowed := true, recurses := true, named := ["loop.example/g00269/impl.knownKinds"], apart := false, laid := [("loop.example/g00269/impl.knownKinds", laid_loop_example_g00269_impl_knownKinds)], narrowed := true }
def FnExactIsActiveUptoSaid : Prop := fnExactIsActiveUptoRow.holds Tryz.pinned (OpenSpec.upto fnExactIsActiveSpec)

/-- 'laws.FnExactTakeCall', WHERE WHAT IT READS IS OF BULK AT MOST 1048576: true; the input reads as it did. -/
def fnExactTakeCallUptoRow : OpenClaim := { program := "ytfkeokglifpkoaagreatdoor", sum := "a72c27876a2871cac0009e715d0ab83c9dc63a21055d50816fcdd5ce7a52778a", func := "loop.example/g00269/laws.FnExactTakeCall", spec := "fnExactTakeCall", inPlace := ["slices.overlaps[string]", "slices.overlaps[loop.example/g00269/impl.Branch]"], unfollowed := true, recurses := true, named := ["loop.example/g00269/impl.knownKinds"], apart := false, laid := [("loop.example/g00269/impl.knownKinds", laid_loop_example_g00269_impl_knownKinds)], narrowed := true }
def FnExactTakeCallUptoSaid : Prop := fnExactTakeCallUptoRow.holds Tryz.pinned (OpenSpec.upto fnExactTakeCallSpec)

/-- 'laws.FnExactTakeLead', WHERE WHAT IT READS IS OF BULK AT MOST 1048576: true; the input reads as it did. -/
def fnExactTakeLeadUptoRow : OpenClaim := { program := "ytfkeokglifpkoaagreatdoor", sum := "a72c27876a2871cac0009e715d0ab83c9dc63a21055d50816fcdd5ce7a52778a", func := "loop.example/g00269/laws.FnExactTakeLead", spec := "fnExactTakeLead", inPlace := ["slices.overlaps[string]"], unfollowed := true, recurses := true, named := ["loop.example/g00269/impl.knownKinds"], apart := false, laid := [("loop.example/g00269/impl.knownKinds", laid_loop_example_g00269_impl_knownKinds)], narrowed := true }
def FnExactTakeLeadUptoSaid : Prop := fnExactTakeLeadUptoRow.holds Tryz.pinned (OpenSpec.upto fnExactTakeLeadSpec)

/-- 'laws.FnExactWordOf', WHERE WHAT IT READS IS OF BULK AT MOST 1048576: true; the input reads as it did. -/
def fnExactWordOfUptoRow : OpenClaim := { program := "ytfkeokglifpkoaagreatdoor", sum := "a72c27876a2871cac0009e715d0ab83c9dc63a21055d50816fcdd5ce7a52778a", func := "loop.example/g00269/laws.FnExactWordOf", spec := "fnExactWordOf", inPlace := ["slices.overlaps[string]"], unfollowed := true, recurses := true, named := ["loop.example/g00269/impl.knownKinds"], apart := false, laid := [("loop.example/g00269/impl.knownKinds", laid_loop_example_g00269_impl_knownKinds)], narrowed := true }
def FnExactWordOfUptoSaid : Prop := fnExactWordOfUptoRow.holds Tryz.pinned (OpenSpec.upto fnExactWordOfSpec)

/-- 'laws.FnExactHearWord', WHERE WHAT IT READS IS OF BULK AT MOST 1048576: true; the input reads as it did. -/
def fnExactHearWordUptoRow : OpenClaim := { program := "ytfkeokglifpkoaagreatdoor", sum := "a72c27876a2871cac0009e715d0ab83c9dc63a21055d50816fcdd5ce7a52778a", func := "loop.example/g00269/laws.FnExactHearWord", spec := "fnExactHearWord", inPlace := ["slices.overlaps[string]", "slices.overlaps[loop.example/g00269/impl.Branch]"], unfollowed := true, recurses := true, named := ["loop.example/g00269/impl.knownKinds"], apart := false, laid := [("loop.example/g00269/impl.knownKinds", laid_loop_example_g00269_impl_knownKinds)], narrowed := true }
def FnExactHearWordUptoSaid : Prop := fnExactHearWordUptoRow.holds Tryz.pinned (OpenSpec.upto fnExactHearWordSpec)

/-- 'laws.FnExactReapply', WHERE WHAT IT READS IS OF BULK AT MOST 1048576: true; the input reads as it did. -/
def fnExactReapplyUptoRow : OpenClaim := { program := "ytfkeokglifpkoaagreatdoor", sum := "a72c27876a2871cac0009e715d0ab83c9dc63a21055d50816fcdd5ce7a52778a", func := "loop.example/g00269/laws.FnExactReapply", spec := "fnExactReapply", inPlace := ["slices.overlaps[string]", "slices.overlaps[loop.example/g00269/impl.Branch]", "sync/atomic.AddInt64", "sync/atomic.LoadInt64"], unfollowed := true, recurses := true, named := ["loop.example/g00269/impl.knownKinds"], apart := false, laid := [("loop.example/g00269/impl.knownKinds", laid_loop_example_g00269_impl_knownKinds)], narrowed := true }
def FnExactReapplyUptoSaid : Prop := fnExactReapplyUptoRow.holds Tryz.pinned (OpenSpec.upto fnExactReapplySpec)

/-- 'laws.FnExactStateOf', WHERE WHAT IT READS IS OF BULK AT MOST 1048576: true; the input reads as it did. -/
def fnExactStateOfUptoRow : OpenClaim := { program := "ytfkeokglifpkoaagreatdoor", sum := "a72c27876a2871cac0009e715d0ab83c9dc63a21055d50816fcdd5ce7a52778a", func := "loop.example/g00269/laws.FnExactStateOf", spec := "fnExactStateOf", inPlace := ["slices.overlaps[string]"], unfollowed := true, recurses := true, named := ["loop.example/g00269/impl.knownKinds"], apart := false, laid := [("loop.example/g00269/impl.knownKinds", laid_loop_example_g00269_impl_knownKinds)], narrowed := true }
def FnExactStateOfUptoSaid : Prop := fnExactStateOfUptoRow.holds Tryz.pinned (OpenSpec.upto fnExactStateOfSpec)

/-- 'laws.FnCalls', WHERE WHAT IT READS IS OF BULK AT MOST 1048576: true; the input reads as it did. -/
def fnCallsUptoRow : OpenClaim := { program := "ytfkeokglifpkoaagreatdoor", sum := "a72c27876a2871cac0009e715d0ab83c9dc63a21055d50816fcdd5ce7a52778a", func := "loop.example/g00269/laws.FnCalls", spec := "fnCalls", inPlace := ["slices.overlaps[string]", "slices.overlaps[loop.example/g00269/impl.Branch]"], unfollowed := true, recurses := true, named := ["loop.example/g00269/impl.knownKinds"], apart := false, laid := [("loop.example/g00269/impl.knownKinds", laid_loop_example_g00269_impl_knownKinds)], narrowed := true }
def FnCallsUptoSaid : Prop := fnCallsUptoRow.holds Tryz.pinned (OpenSpec.upto fnCallsSpec)

/-- 'laws.FnHeard', WHERE WHAT IT READS IS OF BULK AT MOST 1048576: true; the input reads as it did. -/
def fnHeardUptoRow : OpenClaim := { program := "ytfkeokglifpkoaagreatdoor", sum := "a72c27876a2871cac0009e715d0ab83c9dc63a21055d50816fcdd5ce7a52778a", func := "loop.example/g00269/laws.FnHeard", spec := "fnHeard", inPlace := ["slices.overlaps[string]", "slices.overlaps[loop.example/g00269/impl.Branch]", "sync/atomic.AddInt64", "sync/atomic.LoadInt64"], unfollowed := true, recurses := true, named := ["loop.example/g00269/impl.knownKinds"], apart := false, laid := [("loop.example/g00269/impl.knownKinds", laid_loop_example_g00269_impl_knownKinds)], narrowed := true }
def FnHeardUptoSaid : Prop := fnHeardUptoRow.holds Tryz.pinned (OpenSpec.upto fnHeardSpec)

end Rows
end Go.Proofs.YtfkeokglifpkoaaGreatDoor
