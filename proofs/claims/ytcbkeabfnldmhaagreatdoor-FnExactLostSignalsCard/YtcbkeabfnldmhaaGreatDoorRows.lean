/-
  NARROWER THAN 'FOR EVERY INPUT', by the rows' own cells (each row's printed sentence says how): FnExactAddBranch: laid · FnExactMergeTellings: laid · FnExactLostSignals: laid · FnBranches: laid · FnCurrent: laid.
  DERIVED. THE GIVEN ROWS OF THIS SEAT. 5 by the template 'for every input the law returns true; each argument reads behind the call as it read before'; 0 by the template 'total and deterministic' (their statements: YtcbkeabfnldmhaaGreatDoorTotals.lean).
  GIVEN WITH THE SEED: the statements are not yours to turn. If you find one false, say at which input.
  Laid BY PROGRAM, IN A SANDBOX (cutbox-rows.mjs): the forced cells as the released guide's own fill.sh prints them over the translation 83038b7f91890cdc… (all of the seat's roots in one cut). By AI agents, Wed Nov 11 2026. No macro, syntax, notation, axiom, sorry.
-/
import Derived.Test.YtcbkeabfnldmhaaGreatDoorChecked
import GoSem.Claim
import GoSem.ClaimJoined
import GoSem.ClaimMapViews
import Derived.JoinedTies
import Derived.KernelRfl
namespace Go.Proofs.YtcbkeabfnldmhaaGreatDoor
/- THE CELL 'sum', in the pinned program and in every row, IS THE sha256 OF THE DUMP (.gsa) THAT YtcbkeabfnldmhaaGreatDoorProg.lean LOADS. Nothing in Lean hashes anything: it is a label: what it is worth is what the hold of that sum in a sandbox is worth. -/
noncomputable def Tryz.pinned : Pinned := { name := "ytcbkeabfnldmhaagreatdoor", sum := "83038b7f91890cdc807a01fc7feab2f1128b12cac9379a2fb5e178ca0302ff4c", checked := Tryz.checked }
namespace Rows
def none {H : Type} : Left H := { results := [], args := [] }

/- WHAT THE LISTED PACKAGE-LEVEL VARIABLES READ AS WHEN THE CALL BEGINS. Each datum BY PROGRAM (the guide's laid-datum.mjs) off the statement by which the dump's own 'gosem.cut.vars' lays the variable. In a bare row this is a premise. The card (YtcbkeabfnldmhaaGreatDoorCards.lean) ties it to the program's text. -/
def laid_loop_example_g00269_impl_knownKinds {H : Type} : DataW H := .agg [.lit (.bool false), .lit (.bool true), .lit (.bool true), .lit (.bool true), .lit (.bool true), .lit (.bool true), .lit (.bool true)]

/-- 'laws.FnExactAddBranch': WHATEVER THE INPUT: true; the input reads as it did. -/
def fnExactAddBranchSpec : ChangeSpec := { name := "fnExactAddBranch", vars := ["loop.example/g00269/impl.knownKinds"], fn := fun _ => fun
  | [d1, d2, g1] => { results := [.lit (.bool true)], args := [d1, d2], vars := [g1] }
  | _ => none }
def fnExactAddBranchRow : OpenClaim := { program := "ytcbkeabfnldmhaagreatdoor", sum := "83038b7f91890cdc807a01fc7feab2f1128b12cac9379a2fb5e178ca0302ff4c", func := "loop.example/g00269/laws.FnExactAddBranch", spec := "fnExactAddBranch", inPlace := ["slices.overlaps[string]", "slices.overlaps[loop.example/g00269/impl.Branch]"], unfollowed := true, recurses := true, named := ["loop.example/g00269/impl.knownKinds"], apart := false, laid := [("loop.example/g00269/impl.knownKinds", laid_loop_example_g00269_impl_knownKinds)] }
def FnExactAddBranchSaid : Prop := fnExactAddBranchRow.holds Tryz.pinned (OpenSpec.ofChange fnExactAddBranchSpec)

/-- ITS FALSE NEIGHBOUR: 'it returns false'. Refute it at one input. -/
def fnExactAddBranchWrong : ChangeSpec := { name := "fnExactAddBranch", vars := ["loop.example/g00269/impl.knownKinds"], fn := fun _ => fun
  | [d1, d2, g1] => { results := [.lit (.bool false)], args := [d1, d2], vars := [g1] }
  | _ => none }
def FnExactAddBranchWrongFalsely : Prop := fnExactAddBranchRow.holds Tryz.pinned (OpenSpec.ofChange fnExactAddBranchWrong)

/-- 'laws.FnExactMergeTellings': WHATEVER THE INPUT: true; the input reads as it did. -/
def fnExactMergeTellingsSpec : ChangeSpec := { name := "fnExactMergeTellings", vars := ["loop.example/g00269/impl.knownKinds"], fn := fun _ => fun
  | [d1, d2, g1] => { results := [.lit (.bool true)], args := [d1, d2], vars := [g1] }
  | _ => none }
def fnExactMergeTellingsRow : OpenClaim := { program := "ytcbkeabfnldmhaagreatdoor", sum := "83038b7f91890cdc807a01fc7feab2f1128b12cac9379a2fb5e178ca0302ff4c", func := "loop.example/g00269/laws.FnExactMergeTellings", spec := "fnExactMergeTellings", inPlace := ["slices.overlaps[string]", "slices.overlaps[loop.example/g00269/impl.Branch]"], unfollowed := true, recurses := true, named := ["loop.example/g00269/impl.knownKinds"], apart := false, laid := [("loop.example/g00269/impl.knownKinds", laid_loop_example_g00269_impl_knownKinds)] }
def FnExactMergeTellingsSaid : Prop := fnExactMergeTellingsRow.holds Tryz.pinned (OpenSpec.ofChange fnExactMergeTellingsSpec)

/-- ITS FALSE NEIGHBOUR: 'it returns false'. Refute it at one input. -/
def fnExactMergeTellingsWrong : ChangeSpec := { name := "fnExactMergeTellings", vars := ["loop.example/g00269/impl.knownKinds"], fn := fun _ => fun
  | [d1, d2, g1] => { results := [.lit (.bool false)], args := [d1, d2], vars := [g1] }
  | _ => none }
def FnExactMergeTellingsWrongFalsely : Prop := fnExactMergeTellingsRow.holds Tryz.pinned (OpenSpec.ofChange fnExactMergeTellingsWrong)

/-- 'laws.FnExactLostSignals': WHATEVER THE INPUT: true; the input reads as it did. -/
def fnExactLostSignalsSpec : ChangeSpec := { name := "fnExactLostSignals", vars := ["loop.example/g00269/impl.knownKinds"], fn := fun _ => fun
  | [d, g1] => { results := [.lit (.bool true)], args := [d], vars := [g1] }
  | _ => none }
def fnExactLostSignalsRow : OpenClaim := { program := "ytcbkeabfnldmhaagreatdoor", sum := "83038b7f91890cdc807a01fc7feab2f1128b12cac9379a2fb5e178ca0302ff4c", func := "loop.example/g00269/laws.FnExactLostSignals", spec := "fnExactLostSignals", inPlace := ["slices.overlaps[string]"], unfollowed := true, recurses := true, named := ["loop.example/g00269/impl.knownKinds"], apart := false, laid := [("loop.example/g00269/impl.knownKinds", laid_loop_example_g00269_impl_knownKinds)] }
def FnExactLostSignalsSaid : Prop := fnExactLostSignalsRow.holds Tryz.pinned (OpenSpec.ofChange fnExactLostSignalsSpec)

/-- ITS FALSE NEIGHBOUR: 'it returns false'. Refute it at one input. -/
def fnExactLostSignalsWrong : ChangeSpec := { name := "fnExactLostSignals", vars := ["loop.example/g00269/impl.knownKinds"], fn := fun _ => fun
  | [d, g1] => { results := [.lit (.bool false)], args := [d], vars := [g1] }
  | _ => none }
def FnExactLostSignalsWrongFalsely : Prop := fnExactLostSignalsRow.holds Tryz.pinned (OpenSpec.ofChange fnExactLostSignalsWrong)

/-- 'laws.FnBranches': WHATEVER THE INPUT: true; the input reads as it did. -/
def fnBranchesSpec : ChangeSpec := { name := "fnBranches", vars := ["loop.example/g00269/impl.knownKinds"], fn := fun _ => fun
  | [d1, d2, g1] => { results := [.lit (.bool true)], args := [d1, d2], vars := [g1] }
  | _ => none }
def fnBranchesRow : OpenClaim := { program := "ytcbkeabfnldmhaagreatdoor", sum := "83038b7f91890cdc807a01fc7feab2f1128b12cac9379a2fb5e178ca0302ff4c", func := "loop.example/g00269/laws.FnBranches", spec := "fnBranches", inPlace := ["slices.overlaps[string]", "slices.overlaps[loop.example/g00269/impl.Branch]"], unfollowed := true, recurses := true, named := ["loop.example/g00269/impl.knownKinds"], apart := false, laid := [("loop.example/g00269/impl.knownKinds", laid_loop_example_g00269_impl_knownKinds)] }
def FnBranchesSaid : Prop := fnBranchesRow.holds Tryz.pinned (OpenSpec.ofChange fnBranchesSpec)

/-- ITS FALSE NEIGHBOUR: 'it returns false'. Refute it at one input. -/
def fnBranchesWrong : ChangeSpec := { name := "fnBranches", vars := ["loop.example/g00269/impl.knownKinds"], fn := fun _ => fun
  | [d1, d2, g1] => { results := [.lit (.bool false)], args := [d1, d2], vars := [g1] }
  | _ => none }
def FnBranchesWrongFalsely : Prop := fnBranchesRow.holds Tryz.pinned (OpenSpec.ofChange fnBranchesWrong)

/-- 'laws.FnCurrent': WHATEVER THE INPUT: true; the input reads as it did. -/
def fnCurrentSpec : ChangeSpec := { name := "fnCurrent", vars := ["loop.example/g00269/impl.knownKinds"], fn := fun _ => fun
  | [d1, d2, g1] => { results := [.lit (.bool true)], args := [d1, d2], vars := [g1] }
  | _ => none }
def fnCurrentRow : OpenClaim := { program := "ytcbkeabfnldmhaagreatdoor", sum := "83038b7f91890cdc807a01fc7feab2f1128b12cac9379a2fb5e178ca0302ff4c", func := "loop.example/g00269/laws.FnCurrent", spec := "fnCurrent", inPlace := ["slices.overlaps[string]", "internal/bytealg.abigen_runtime_cmpstring"], unfollowed := true, recurses := true, named := ["loop.example/g00269/impl.knownKinds"], apart := false, laid := [("loop.example/g00269/impl.knownKinds", laid_loop_example_g00269_impl_knownKinds)] }
def FnCurrentSaid : Prop := fnCurrentRow.holds Tryz.pinned (OpenSpec.ofChange fnCurrentSpec)

/-- ITS FALSE NEIGHBOUR: 'it returns false'. Refute it at one input. -/
def fnCurrentWrong : ChangeSpec := { name := "fnCurrent", vars := ["loop.example/g00269/impl.knownKinds"], fn := fun _ => fun
  | [d1, d2, g1] => { results := [.lit (.bool false)], args := [d1, d2], vars := [g1] }
  | _ => none }
def FnCurrentWrongFalsely : Prop := fnCurrentRow.holds Tryz.pinned (OpenSpec.ofChange fnCurrentWrong)

/- THE SECOND FORM. 'bulk': how many values and letters a reading holds, each counted each time it is reached (what is shared counts as often as it is met; a slice's spare places count too). A statement '..UptoSaid' is the law's where the arguments, and the package variables that the reading takes, are together of bulk at most 1048576: NARROWER than '..Said'. Prove '..Said' where nothing that the law and all that it calls make is longer than what came in: it says more and counts as full. Else prove '..UptoSaid'. A law counts once. -/
mutual
def uptoBulk {H : Type} : DataW H → Nat
  | .lit (.string bytes) => bytes.length + 1
  | .lit _ => 1
  | .nil => 1
  | .ptr d => uptoBulk d + 1
  | .slice elems spare => uptoBulkAll elems + uptoBulkAll spare + 1
  | .agg parts => uptoBulkAll parts + 1
  | .iface _ d => uptoBulk d + 1
  | .map entries => uptoBulkEntries entries + 1
  | .held _ => 1
def uptoBulkAll {H : Type} : List (DataW H) → Nat
  | [] => 0
  | d :: r => uptoBulk d + uptoBulkAll r
def uptoBulkEntries {H : Type} : List (Lit × DataW H) → Nat
  | [] => 0
  | x :: r => uptoBulkEntry x + uptoBulkEntries r
def uptoBulkEntry {H : Type} : Lit × DataW H → Nat
  | (.string bytes, d) => bytes.length + uptoBulk d + 1
  | (_, d) => uptoBulk d + 1
 end
def uptoSmall : (H : Type) → List (DataW H) → Bool := fun _ ds => decide (uptoBulkAll ds ≤ 1048576)
def OpenSpec.upto (s : _root_.Go.ChangeSpec) : _root_.Go.OpenSpec := { _root_.Go.OpenSpec.ofChange s with cond := some uptoSmall }

/-- 'laws.FnExactAddBranch', WHERE WHAT IT READS IS OF BULK AT MOST 1048576: true; the input reads as it did. -/
def fnExactAddBranchUptoRow : OpenClaim := { program := "ytcbkeabfnldmhaagreatdoor", sum := "83038b7f91890cdc807a01fc7feab2f1128b12cac9379a2fb5e178ca0302ff4c", func := "loop.example/g00269/laws.FnExactAddBranch", spec := "fnExactAddBranch", inPlace := ["slices.overlaps[string]", "slices.overlaps[loop.example/g00269/impl.Branch]"], unfollowed := true, recurses := true, named := ["loop.example/g00269/impl.knownKinds"], apart := false, laid := [("loop.example/g00269/impl.knownKinds", laid_loop_example_g00269_impl_knownKinds)], narrowed := true }
def FnExactAddBranchUptoSaid : Prop := fnExactAddBranchUptoRow.holds Tryz.pinned (OpenSpec.upto fnExactAddBranchSpec)

/-- 'laws.FnExactMergeTellings', WHERE WHAT IT READS IS OF BULK AT MOST 1048576: true; the input reads as it did. -/
def fnExactMergeTellingsUptoRow : OpenClaim := { program := "ytcbkeabfnldmhaagreatdoor", sum := "83038b7f91890cdc807a01fc7feab2f1128b12cac9379a2fb5e178ca0302ff4c", func := "loop.example/g00269/laws.FnExactMergeTellings", spec := "fnExactMergeTellings", inPlace := ["slices.overlaps[string]", "slices.overlaps[loop.example/g00269/impl.Branch]"], unfollowed := true, recurses := true, named := ["loop.example/g00269/impl.knownKinds"], apart := false, laid := [("loop.example/g00269/impl.knownKinds", laid_loop_example_g00269_impl_knownKinds)], narrowed := true }
def FnExactMergeTellingsUptoSaid : Prop := fnExactMergeTellingsUptoRow.holds Tryz.pinned (OpenSpec.upto fnExactMergeTellingsSpec)

/-- 'laws.FnExactLostSignals', WHERE WHAT IT READS IS OF BULK AT MOST 1048576: true; the input reads as it did. -/
def fnExactLostSignalsUptoRow : OpenClaim := { program := "ytcbkeabfnldmhaagreatdoor", sum := "83038b7f91890cdc807a01fc7feab2f1128b12cac9379a2fb5e178ca0302ff4c", func := "loop.example/g00269/laws.FnExactLostSignals", spec := "fnExactLostSignals", inPlace := ["slices.overlaps[string]"], unfollowed := true, recurses := true, named := ["loop.example/g00269/impl.knownKinds"], apart := false, laid := [("loop.example/g00269/impl.knownKinds", laid_loop_example_g00269_impl_knownKinds)], narrowed := true }
def FnExactLostSignalsUptoSaid : Prop := fnExactLostSignalsUptoRow.holds Tryz.pinned (OpenSpec.upto fnExactLostSignalsSpec)

/-- 'laws.FnBranches', WHERE WHAT IT READS IS OF BULK AT MOST 1048576: true; the input reads as it did. -/
def fnBranchesUptoRow : OpenClaim := { program := "ytcbkeabfnldmhaagreatdoor", sum := "83038b7f91890cdc807a01fc7feab2f1128b12cac9379a2fb5e178ca0302ff4c", func := "loop.example/g00269/laws.FnBranches", spec := "fnBranches", inPlace := ["slices.overlaps[string]", "slices.overlaps[loop.example/g00269/impl.Branch]"], unfollowed := true, recurses := true, named := ["loop.example/g00269/impl.knownKinds"], apart := false, laid := [("loop.example/g00269/impl.knownKinds", laid_loop_example_g00269_impl_knownKinds)], narrowed := true }
def FnBranchesUptoSaid : Prop := fnBranchesUptoRow.holds Tryz.pinned (OpenSpec.upto fnBranchesSpec)

/-- 'laws.FnCurrent', WHERE WHAT IT READS IS OF BULK AT MOST 1048576: true; the input reads as it did. -/
def fnCurrentUptoRow : OpenClaim := { program := "ytcbkeabfnldmhaagreatdoor", sum := "83038b7f91890cdc807a01fc7feab2f1128b12cac9379a2fb5e178ca0302ff4c", func := "loop.example/g00269/laws.FnCurrent", spec := "fnCurrent", inPlace := ["slices.overlaps[string]", "internal/bytealg.abigen_runtime_cmpstring"], unfollowed := true, recurses := true, named := ["loop.example/g00269/impl.knownKinds"], apart := false, laid := [("loop.example/g00269/impl.knownKinds", laid_loop_example_g00269_impl_knownKinds)], narrowed := true }
def FnCurrentUptoSaid : Prop := fnCurrentUptoRow.holds Tryz.pinned (OpenSpec.upto fnCurrentSpec)

end Rows
end Go.Proofs.YtcbkeabfnldmhaaGreatDoor
