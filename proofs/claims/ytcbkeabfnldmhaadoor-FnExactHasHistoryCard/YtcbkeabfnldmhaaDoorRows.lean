/-
  NARROWER THAN 'FOR EVERY INPUT', by the rows' own cells (each row's printed sentence says how): FnExactGoodTellings: laid · FnExactCurrentOf: laid · FnExactHasHistory: laid · FnExactBranchLess: laid · FnExactEventsIn: laid.
  DERIVED. THE GIVEN ROWS OF THIS SEAT. 5 by the template 'for every input the law returns true; each argument reads behind the call as it read before'; 0 by the template 'total and deterministic' (their statements: YtcbkeabfnldmhaaDoorTotals.lean).
  GIVEN WITH THE SEED: the statements are not yours to turn. If you find one false, say at which input.
  Laid BY PROGRAM, IN A SANDBOX (cutbox-rows.mjs): the forced cells as the released guide's own fill.sh prints them over the translation e982297cc13ab81c… (all of the seat's roots in one cut). By AI agents, Wed Nov 11 2026. No macro, syntax, notation, axiom, sorry.
-/
import Derived.Test.YtcbkeabfnldmhaaDoorChecked
import GoSem.Claim
import GoSem.ClaimJoined
import GoSem.ClaimMapViews
import Derived.JoinedTies
import Derived.KernelRfl
namespace Go.Proofs.YtcbkeabfnldmhaaDoor
/- THE CELL 'sum', in the pinned program and in every row, IS THE sha256 OF THE DUMP (.gsa) THAT YtcbkeabfnldmhaaDoorProg.lean LOADS. Nothing in Lean hashes anything: it is a label: what it is worth is what the hold of that sum in a sandbox is worth. -/
noncomputable def Tryd.pinned : Pinned := { name := "ytcbkeabfnldmhaadoor", sum := "e982297cc13ab81c005c337405bfab26c133dd782530f1a1e93deae8f45abefe", checked := Tryd.checked }
namespace Rows
def none {H : Type} : Left H := { results := [], args := [] }

/- WHAT THE LISTED PACKAGE-LEVEL VARIABLES READ AS WHEN THE CALL BEGINS. Each datum BY PROGRAM (the guide's laid-datum.mjs) off the statement by which the dump's own 'gosem.cut.vars' lays the variable. In a bare row this is a premise. The card (YtcbkeabfnldmhaaDoorCards.lean) ties it to the program's text. -/
def laid_loop_example_g00269_impl_knownKinds {H : Type} : DataW H := .agg [.lit (.bool false), .lit (.bool true), .lit (.bool true), .lit (.bool true), .lit (.bool true), .lit (.bool true), .lit (.bool true)]

/-- 'laws.FnExactGoodTellings': WHATEVER THE INPUT: true; the input reads as it did. -/
def fnExactGoodTellingsSpec : ChangeSpec := { name := "fnExactGoodTellings", vars := ["loop.example/g00269/impl.knownKinds"], fn := fun _ => fun
  | [d, g1] => { results := [.lit (.bool true)], args := [d], vars := [g1] }
  | _ => none }
def fnExactGoodTellingsRow : OpenClaim := { program := "ytcbkeabfnldmhaadoor", sum := "e982297cc13ab81c005c337405bfab26c133dd782530f1a1e93deae8f45abefe", func := "loop.example/g00269/laws.FnExactGoodTellings", spec := "fnExactGoodTellings", inPlace := ["slices.overlaps[string]"], unfollowed := true, recurses := true, named := ["loop.example/g00269/impl.knownKinds"], apart := false, laid := [("loop.example/g00269/impl.knownKinds", laid_loop_example_g00269_impl_knownKinds)] }
def FnExactGoodTellingsSaid : Prop := fnExactGoodTellingsRow.holds Tryd.pinned (OpenSpec.ofChange fnExactGoodTellingsSpec)

/-- ITS FALSE NEIGHBOUR: 'it returns false'. Refute it at one input. -/
def fnExactGoodTellingsWrong : ChangeSpec := { name := "fnExactGoodTellings", vars := ["loop.example/g00269/impl.knownKinds"], fn := fun _ => fun
  | [d, g1] => { results := [.lit (.bool false)], args := [d], vars := [g1] }
  | _ => none }
def FnExactGoodTellingsWrongFalsely : Prop := fnExactGoodTellingsRow.holds Tryd.pinned (OpenSpec.ofChange fnExactGoodTellingsWrong)

/-- 'laws.FnExactCurrentOf': WHATEVER THE INPUT: true; the input reads as it did. -/
def fnExactCurrentOfSpec : ChangeSpec := { name := "fnExactCurrentOf", vars := ["loop.example/g00269/impl.knownKinds"], fn := fun _ => fun
  | [d, g1] => { results := [.lit (.bool true)], args := [d], vars := [g1] }
  | _ => none }
def fnExactCurrentOfRow : OpenClaim := { program := "ytcbkeabfnldmhaadoor", sum := "e982297cc13ab81c005c337405bfab26c133dd782530f1a1e93deae8f45abefe", func := "loop.example/g00269/laws.FnExactCurrentOf", spec := "fnExactCurrentOf", inPlace := ["slices.overlaps[string]"], unfollowed := true, recurses := true, named := ["loop.example/g00269/impl.knownKinds"], apart := false, laid := [("loop.example/g00269/impl.knownKinds", laid_loop_example_g00269_impl_knownKinds)] }
def FnExactCurrentOfSaid : Prop := fnExactCurrentOfRow.holds Tryd.pinned (OpenSpec.ofChange fnExactCurrentOfSpec)

/-- ITS FALSE NEIGHBOUR: 'it returns false'. Refute it at one input. -/
def fnExactCurrentOfWrong : ChangeSpec := { name := "fnExactCurrentOf", vars := ["loop.example/g00269/impl.knownKinds"], fn := fun _ => fun
  | [d, g1] => { results := [.lit (.bool false)], args := [d], vars := [g1] }
  | _ => none }
def FnExactCurrentOfWrongFalsely : Prop := fnExactCurrentOfRow.holds Tryd.pinned (OpenSpec.ofChange fnExactCurrentOfWrong)

/-- 'laws.FnExactHasHistory': WHATEVER THE INPUT: true; the input reads as it did. -/
def fnExactHasHistorySpec : ChangeSpec := { name := "fnExactHasHistory", vars := ["loop.example/g00269/impl.knownKinds"], fn := fun _ => fun
  | [d1, d2, g1] => { results := [.lit (.bool true)], args := [d1, d2], vars := [g1] }
  | _ => none }
def fnExactHasHistoryRow : OpenClaim := { program := "ytcbkeabfnldmhaadoor", sum := "e982297cc13ab81c005c337405bfab26c133dd782530f1a1e93deae8f45abefe", func := "loop.example/g00269/laws.FnExactHasHistory", spec := "fnExactHasHistory", inPlace := ["slices.overlaps[string]"], unfollowed := true, recurses := true, named := ["loop.example/g00269/impl.knownKinds"], apart := false, laid := [("loop.example/g00269/impl.knownKinds", laid_loop_example_g00269_impl_knownKinds)] }
def FnExactHasHistorySaid : Prop := fnExactHasHistoryRow.holds Tryd.pinned (OpenSpec.ofChange fnExactHasHistorySpec)

/-- ITS FALSE NEIGHBOUR: 'it returns false'. Refute it at one input. -/
def fnExactHasHistoryWrong : ChangeSpec := { name := "fnExactHasHistory", vars := ["loop.example/g00269/impl.knownKinds"], fn := fun _ => fun
  | [d1, d2, g1] => { results := [.lit (.bool false)], args := [d1, d2], vars := [g1] }
  | _ => none }
def FnExactHasHistoryWrongFalsely : Prop := fnExactHasHistoryRow.holds Tryd.pinned (OpenSpec.ofChange fnExactHasHistoryWrong)

/-- 'laws.FnExactBranchLess': WHATEVER THE INPUT: true; the input reads as it did. -/
def fnExactBranchLessSpec : ChangeSpec := { name := "fnExactBranchLess", vars := ["loop.example/g00269/impl.knownKinds"], fn := fun _ => fun
  | [d1, d2, g1] => { results := [.lit (.bool true)], args := [d1, d2], vars := [g1] }
  | _ => none }
def fnExactBranchLessRow : OpenClaim := { program := "ytcbkeabfnldmhaadoor", sum := "e982297cc13ab81c005c337405bfab26c133dd782530f1a1e93deae8f45abefe", func := "loop.example/g00269/laws.FnExactBranchLess", spec := "fnExactBranchLess", inPlace := ["slices.overlaps[string]", "internal/bytealg.abigen_runtime_cmpstring"], unfollowed := true, recurses := true, named := ["loop.example/g00269/impl.knownKinds"], apart := false, laid := [("loop.example/g00269/impl.knownKinds", laid_loop_example_g00269_impl_knownKinds)] }
def FnExactBranchLessSaid : Prop := fnExactBranchLessRow.holds Tryd.pinned (OpenSpec.ofChange fnExactBranchLessSpec)

/-- ITS FALSE NEIGHBOUR: 'it returns false'. Refute it at one input. -/
def fnExactBranchLessWrong : ChangeSpec := { name := "fnExactBranchLess", vars := ["loop.example/g00269/impl.knownKinds"], fn := fun _ => fun
  | [d1, d2, g1] => { results := [.lit (.bool false)], args := [d1, d2], vars := [g1] }
  | _ => none }
def FnExactBranchLessWrongFalsely : Prop := fnExactBranchLessRow.holds Tryd.pinned (OpenSpec.ofChange fnExactBranchLessWrong)

/-- 'laws.FnExactEventsIn': WHATEVER THE INPUT: true; the input reads as it did. -/
def fnExactEventsInSpec : ChangeSpec := { name := "fnExactEventsIn", vars := ["loop.example/g00269/impl.knownKinds"], fn := fun _ => fun
  | [d, g1] => { results := [.lit (.bool true)], args := [d], vars := [g1] }
  | _ => none }
def fnExactEventsInRow : OpenClaim := { program := "ytcbkeabfnldmhaadoor", sum := "e982297cc13ab81c005c337405bfab26c133dd782530f1a1e93deae8f45abefe", func := "loop.example/g00269/laws.FnExactEventsIn", spec := "fnExactEventsIn", inPlace := ["slices.overlaps[string]"], unfollowed := true, recurses := true, named := ["loop.example/g00269/impl.knownKinds"], apart := false, laid := [("loop.example/g00269/impl.knownKinds", laid_loop_example_g00269_impl_knownKinds)] }
def FnExactEventsInSaid : Prop := fnExactEventsInRow.holds Tryd.pinned (OpenSpec.ofChange fnExactEventsInSpec)

/-- ITS FALSE NEIGHBOUR: 'it returns false'. Refute it at one input. -/
def fnExactEventsInWrong : ChangeSpec := { name := "fnExactEventsIn", vars := ["loop.example/g00269/impl.knownKinds"], fn := fun _ => fun
  | [d, g1] => { results := [.lit (.bool false)], args := [d], vars := [g1] }
  | _ => none }
def FnExactEventsInWrongFalsely : Prop := fnExactEventsInRow.holds Tryd.pinned (OpenSpec.ofChange fnExactEventsInWrong)

/- THE SECOND FORM. 'bulk': how many values and letters a reading holds, each counted each time it is reached (what is shared counts as often as it is met; a slice's spare places count too). A statement '..UptoSaid' is the law's where the arguments, and the package variables that the reading takes, are together of bulk at most 1048576: NARROWER than '..Said'. Prove '..Said' where nothing that the law and all that it calls make is longer than what came in: it says more and counts as full. Else prove '..UptoSaid'. A law counts once. -/
mutual
def uptoBulk {H : Type} : DataW H → Nat
  | .lit (.string bytes) => bytes.length + 1
  | .lit _ => 1
  | .nil => 1
  | .ptr d => uptoBulk d + 1
  | .slice elems spare => uptoBulkAll elems + uptoBulkAll spare + 1
  | .agg parts => uptoBulkAll parts + 1
  | .iface _ d => uptoBulk d + 1
  | .map entries => uptoBulkEntries entries + 1
  | .held _ => 1
def uptoBulkAll {H : Type} : List (DataW H) → Nat
  | [] => 0
  | d :: r => uptoBulk d + uptoBulkAll r
def uptoBulkEntries {H : Type} : List (Lit × DataW H) → Nat
  | [] => 0
  | x :: r => uptoBulkEntry x + uptoBulkEntries r
def uptoBulkEntry {H : Type} : Lit × DataW H → Nat
  | (.string bytes, d) => bytes.length + uptoBulk d + 1
  | (_, d) => uptoBulk d + 1
 end
def uptoSmall : (H : Type) → List (DataW H) → Bool := fun _ ds => decide (uptoBulkAll ds ≤ 1048576)
def OpenSpec.upto (s : _root_.Go.ChangeSpec) : _root_.Go.OpenSpec := { _root_.Go.OpenSpec.ofChange s with cond := some uptoSmall }

/-- 'laws.FnExactGoodTellings', WHERE WHAT IT READS IS OF BULK AT MOST 1048576: true; the input reads as it did. -/
def fnExactGoodTellingsUptoRow : OpenClaim := { program := "ytcbkeabfnldmhaadoor", sum := "e982297cc13ab81c005c337405bfab26c133dd782530f1a1e93deae8f45abefe", func := "loop.example/g00269/laws.FnExactGoodTellings", spec := "fnExactGoodTellings", inPlace := ["slices.overlaps[string]"], unfollowed := true, recurses := true, named := ["loop.example/g00269/impl.knownKinds"], apart := false, laid := [("loop.example/g00269/impl.knownKinds", laid_loop_example_g00269_impl_knownKinds)], narrowed := true }
def FnExactGoodTellingsUptoSaid : Prop := fnExactGoodTellingsUptoRow.holds Tryd.pinned (OpenSpec.upto fnExactGoodTellingsSpec)

/-- 'laws.FnExactCurrentOf', WHERE WHAT IT READS IS OF BULK AT MOST 1048576: true; the input reads as it did. -/
def fnExactCurrentOfUptoRow : OpenClaim := { program := "ytcbkeabfnldmhaadoor", sum := "e982297cc13ab81c005c337405bfab26c133dd782530f1a1e93deae8f45abefe", func := "loop.example/g00269/laws.FnExactCurrentOf", spec := "fnExactCurrentOf", inPlace := ["slices.overlaps[string]"], unfollowed := true, recurses := true, named := ["loop.example/g00269/impl.knownKinds"], apart := false, laid := [("loop.example/g00269/impl.knownKinds", laid_loop_example_g00269_impl_knownKinds)], narrowed := true }
def FnExactCurrentOfUptoSaid : Prop := fnExactCurrentOfUptoRow.holds Tryd.pinned (OpenSpec.upto fnExactCurrentOfSpec)

/-- 'laws.FnExactHasHistory', WHERE WHAT IT READS IS OF BULK AT MOST 1048576: true; the input reads as it did. -/
def fnExactHasHistoryUptoRow : OpenClaim := { program := "ytcbkeabfnldmhaadoor", sum := "e982297cc13ab81c005c337405bfab26c133dd782530f1a1e93deae8f45abefe", func := "loop.example/g00269/laws.FnExactHasHistory", spec := "fnExactHasHistory", inPlace := ["slices.overlaps[string]"], unfollowed := true, recurses := true, named := ["loop.example/g00269/impl.knownKinds"], apart := false, laid := [("loop.example/g00269/impl.knownKinds", laid_loop_example_g00269_impl_knownKinds)], narrowed := true }
def FnExactHasHistoryUptoSaid : Prop := fnExactHasHistoryUptoRow.holds Tryd.pinned (OpenSpec.upto fnExactHasHistorySpec)

/-- 'laws.FnExactBranchLess', WHERE WHAT IT READS IS OF BULK AT MOST 1048576: true; the input reads as it did. -/
def fnExactBranchLessUptoRow : OpenClaim := { program := "ytcbkeabfnldmhaadoor", sum := "e982297cc13ab81c005c337405bfab26c133dd782530f1a1e93deae8f45abefe", func := "loop.example/g00269/laws.FnExactBranchLess", spec := "fnExactBranchLess", inPlace := ["slices.overlaps[string]", "internal/bytealg.abigen_runtime_cmpstring"], unfollowed := true, recurses := true, named := ["loop.example/g00269/impl.knownKinds"], apart := false, laid := [("loop.example/g00269/impl.knownKinds", laid_loop_example_g00269_impl_knownKinds)], narrowed := true }
def FnExactBranchLessUptoSaid : Prop := fnExactBranchLessUptoRow.holds Tryd.pinned (OpenSpec.upto fnExactBranchLessSpec)

/-- 'laws.FnExactEventsIn', WHERE WHAT IT READS IS OF BULK AT MOST 1048576: true; the input reads as it did. -/
def fnExactEventsInUptoRow : OpenClaim := { program := "ytcbkeabfnldmhaadoor", sum := "e982297cc13ab81c005c337405bfab26c133dd782530f1a1e93deae8f45abefe", func := "loop.example/g00269/laws.FnExactEventsIn", spec := "fnExactEventsIn", inPlace := ["slices.overlaps[string]"], unfollowed := true, recurses := true, named := ["loop.example/g00269/impl.knownKinds"], apart := false, laid := [("loop.example/g00269/impl.knownKinds", laid_loop_example_g00269_impl_knownKinds)], narrowed := true }
def FnExactEventsInUptoSaid : Prop := fnExactEventsInUptoRow.holds Tryd.pinned (OpenSpec.upto fnExactEventsInSpec)

end Rows
end Go.Proofs.YtcbkeabfnldmhaaDoor
