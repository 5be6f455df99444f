/-
  NARROWER THAN 'FOR EVERY INPUT', by the rows' own cells (each row's printed sentence says how): FnExactApplyEvent: laid · FnExactFoldEvents: laid · FnExactMayCome: laid · FnExactIsHistory: laid · FnExactSignalsIn: laid · FnStates: laid.
  DERIVED. THE GIVEN ROWS OF THIS SEAT. 6 by the template 'for every input the law returns true; each argument reads behind the call as it read before'; 0 by the template 'total and deterministic' (their statements: YtglpkikncgdghaaDoorTotals.lean).
  GIVEN WITH THE SEED: the statements are not yours to turn. If you find one false, say at which input.
  Laid BY PROGRAM, IN A SANDBOX (cutbox-rows.mjs): the forced cells as the released guide's own fill.sh prints them over the translation 15b8f7b43d088d9f… (all of the seat's roots in one cut). By AI agents, Wed Nov 11 2026. No macro, syntax, notation, axiom, sorry.
-/
import Derived.Test.YtglpkikncgdghaaDoorChecked
import GoSem.Claim
import GoSem.ClaimJoined
import GoSem.ClaimMapViews
import Derived.JoinedTies
import Derived.KernelRfl
namespace Go.Proofs.YtglpkikncgdghaaDoor
/- THE CELL 'sum', in the pinned program and in every row, IS THE sha256 OF THE DUMP (.gsa) THAT YtglpkikncgdghaaDoorProg.lean LOADS. Nothing in Lean hashes anything: it is a label: what it is worth is what the hold of that sum in a sandbox is worth. -/
noncomputable def Tryd.pinned : Pinned := { name := "ytglpkikncgdghaadoor", sum := "15b8f7b43d088d9f95c966c29f73e136644375206e6b3bb7d56276397b7e5762", checked := Tryd.checked }
namespace Rows
def none {H : Type} : Left H := { results := [], args := [] }

/- WHAT THE LISTED PACKAGE-LEVEL VARIABLES READ AS WHEN THE CALL BEGINS. Each datum BY PROGRAM (the guide's laid-datum.mjs) off the statement by which the dump's own 'gosem.cut.vars' lays the variable. In a bare row this is a premise. The card (YtglpkikncgdghaaDoorCards.lean) ties it to the program's text. -/
def laid_loop_example_g00269_impl_knownKinds {H : Type} : DataW H := .agg [.lit (.bool false), .lit (.bool true), .lit (.bool true), .lit (.bool true), .lit (.bool true), .lit (.bool true), .lit (.bool true)]

/-- 'laws.FnExactApplyEvent': WHATEVER THE INPUT: true; the input reads as it did. -/
def fnExactApplyEventSpec : ChangeSpec := { name := "fnExactApplyEvent", vars := ["loop.example/g00269/impl.knownKinds"], fn := fun _ => fun
  | [d1, d2, g1] => { results := [.lit (.bool true)], args := [d1, d2], vars := [g1] }
  | _ => none }
def fnExactApplyEventRow : OpenClaim := { program := "ytglpkikncgdghaadoor", sum := "15b8f7b43d088d9f95c966c29f73e136644375206e6b3bb7d56276397b7e5762", func := "loop.example/g00269/laws.FnExactApplyEvent", spec := "fnExactApplyEvent", inPlace := ["slices.overlaps[string]"], unfollowed := true, recurses := true, named := ["loop.example/g00269/impl.knownKinds"], apart := false, laid := [("loop.example/g00269/impl.knownKinds", laid_loop_example_g00269_impl_knownKinds)] }
def FnExactApplyEventSaid : Prop := fnExactApplyEventRow.holds Tryd.pinned (OpenSpec.ofChange fnExactApplyEventSpec)

/-- ITS FALSE NEIGHBOUR: 'it returns false'. Refute it at one input. -/
def fnExactApplyEventWrong : ChangeSpec := { name := "fnExactApplyEvent", vars := ["loop.example/g00269/impl.knownKinds"], fn := fun _ => fun
  | [d1, d2, g1] => { results := [.lit (.bool false)], args := [d1, d2], vars := [g1] }
  | _ => none }
def FnExactApplyEventWrongFalsely : Prop := fnExactApplyEventRow.holds Tryd.pinned (OpenSpec.ofChange fnExactApplyEventWrong)

/-- 'laws.FnExactFoldEvents': WHATEVER THE INPUT: true; the input reads as it did. -/
def fnExactFoldEventsSpec : ChangeSpec := { name := "fnExactFoldEvents", vars := ["loop.example/g00269/impl.knownKinds"], fn := fun _ => fun
  | [d, g1] => { results := [.lit (.bool true)], args := [d], vars := [g1] }
  | _ => none }
def fnExactFoldEventsRow : OpenClaim := { program := "ytglpkikncgdghaadoor", sum := "15b8f7b43d088d9f95c966c29f73e136644375206e6b3bb7d56276397b7e5762", func := "loop.example/g00269/laws.FnExactFoldEvents", spec := "fnExactFoldEvents", inPlace := ["slices.overlaps[string]"], unfollowed := true, recurses := true, named := ["loop.example/g00269/impl.knownKinds"], apart := false, laid := [("loop.example/g00269/impl.knownKinds", laid_loop_example_g00269_impl_knownKinds)] }
def FnExactFoldEventsSaid : Prop := fnExactFoldEventsRow.holds Tryd.pinned (OpenSpec.ofChange fnExactFoldEventsSpec)

/-- ITS FALSE NEIGHBOUR: 'it returns false'. Refute it at one input. -/
def fnExactFoldEventsWrong : ChangeSpec := { name := "fnExactFoldEvents", vars := ["loop.example/g00269/impl.knownKinds"], fn := fun _ => fun
  | [d, g1] => { results := [.lit (.bool false)], args := [d], vars := [g1] }
  | _ => none }
def FnExactFoldEventsWrongFalsely : Prop := fnExactFoldEventsRow.holds Tryd.pinned (OpenSpec.ofChange fnExactFoldEventsWrong)

/-- 'laws.FnExactMayCome': WHATEVER THE INPUT: true; the input reads as it did. -/
def fnExactMayComeSpec : ChangeSpec := { name := "fnExactMayCome", vars := ["loop.example/g00269/impl.knownKinds"], fn := fun _ => fun
  | [d1, d2, d3, g1] => { results := [.lit (.bool true)], args := [d1, d2, d3], vars := [g1] }
  | _ => none }
def fnExactMayComeRow : OpenClaim := { program := "ytglpkikncgdghaadoor", sum := "15b8f7b43d088d9f95c966c29f73e136644375206e6b3bb7d56276397b7e5762", func := "loop.example/g00269/laws.FnExactMayCome", spec := "fnExactMayCome", inPlace := ["slices.overlaps[string]"], unfollowed := true, recurses := true, named := ["loop.example/g00269/impl.knownKinds"], apart := false, laid := [("loop.example/g00269/impl.knownKinds", laid_loop_example_g00269_impl_knownKinds)] }
def FnExactMayComeSaid : Prop := fnExactMayComeRow.holds Tryd.pinned (OpenSpec.ofChange fnExactMayComeSpec)

/-- ITS FALSE NEIGHBOUR: 'it returns false'. Refute it at one input. -/
def fnExactMayComeWrong : ChangeSpec := { name := "fnExactMayCome", vars := ["loop.example/g00269/impl.knownKinds"], fn := fun _ => fun
  | [d1, d2, d3, g1] => { results := [.lit (.bool false)], args := [d1, d2, d3], vars := [g1] }
  | _ => none }
def FnExactMayComeWrongFalsely : Prop := fnExactMayComeRow.holds Tryd.pinned (OpenSpec.ofChange fnExactMayComeWrong)

/-- 'laws.FnExactIsHistory': WHATEVER THE INPUT: true; the input reads as it did. -/
def fnExactIsHistorySpec : ChangeSpec := { name := "fnExactIsHistory", vars := ["loop.example/g00269/impl.knownKinds"], fn := fun _ => fun
  | [d, g1] => { results := [.lit (.bool true)], args := [d], vars := [g1] }
  | _ => none }
def fnExactIsHistoryRow : OpenClaim := { program := "ytglpkikncgdghaadoor", sum := "15b8f7b43d088d9f95c966c29f73e136644375206e6b3bb7d56276397b7e5762", func := "loop.example/g00269/laws.FnExactIsHistory", spec := "fnExactIsHistory", inPlace := ["slices.overlaps[string]"], unfollowed := true, recurses := true, named := ["loop.example/g00269/impl.knownKinds"], apart := false, laid := [("loop.example/g00269/impl.knownKinds", laid_loop_example_g00269_impl_knownKinds)] }
def FnExactIsHistorySaid : Prop := fnExactIsHistoryRow.holds Tryd.pinned (OpenSpec.ofChange fnExactIsHistorySpec)

/-- ITS FALSE NEIGHBOUR: 'it returns false'. Refute it at one input. -/
def fnExactIsHistoryWrong : ChangeSpec := { name := "fnExactIsHistory", vars := ["loop.example/g00269/impl.knownKinds"], fn := fun _ => fun
  | [d, g1] => { results := [.lit (.bool false)], args := [d], vars := [g1] }
  | _ => none }
def FnExactIsHistoryWrongFalsely : Prop := fnExactIsHistoryRow.holds Tryd.pinned (OpenSpec.ofChange fnExactIsHistoryWrong)

/-- 'laws.FnExactSignalsIn': WHATEVER THE INPUT: true; the input reads as it did. -/
def fnExactSignalsInSpec : ChangeSpec := { name := "fnExactSignalsIn", vars := ["loop.example/g00269/impl.knownKinds"], fn := fun _ => fun
  | [d, g1] => { results := [.lit (.bool true)], args := [d], vars := [g1] }
  | _ => none }
def fnExactSignalsInRow : OpenClaim := { program := "ytglpkikncgdghaadoor", sum := "15b8f7b43d088d9f95c966c29f73e136644375206e6b3bb7d56276397b7e5762", func := "loop.example/g00269/laws.FnExactSignalsIn", spec := "fnExactSignalsIn", inPlace := ["slices.overlaps[string]"], unfollowed := true, recurses := true, named := ["loop.example/g00269/impl.knownKinds"], apart := false, laid := [("loop.example/g00269/impl.knownKinds", laid_loop_example_g00269_impl_knownKinds)] }
def FnExactSignalsInSaid : Prop := fnExactSignalsInRow.holds Tryd.pinned (OpenSpec.ofChange fnExactSignalsInSpec)

/-- ITS FALSE NEIGHBOUR: 'it returns false'. Refute it at one input. -/
def fnExactSignalsInWrong : ChangeSpec := { name := "fnExactSignalsIn", vars := ["loop.example/g00269/impl.knownKinds"], fn := fun _ => fun
  | [d, g1] => { results := [.lit (.bool false)], args := [d], vars := [g1] }
  | _ => none }
def FnExactSignalsInWrongFalsely : Prop := fnExactSignalsInRow.holds Tryd.pinned (OpenSpec.ofChange fnExactSignalsInWrong)

/-- 'laws.FnStates': WHATEVER THE INPUT: true; the input reads as it did. -/
def fnStatesSpec : ChangeSpec := { name := "fnStates", vars := ["loop.example/g00269/impl.knownKinds"], fn := fun _ => fun
  | [d1, d2, g1] => { results := [.lit (.bool true)], args := [d1, d2], vars := [g1] }
  | _ => none }
def fnStatesRow : OpenClaim := { program := "ytglpkikncgdghaadoor", sum := "15b8f7b43d088d9f95c966c29f73e136644375206e6b3bb7d56276397b7e5762", func := "loop.example/g00269/laws.FnStates", spec := "fnStates", inPlace := ["slices.overlaps[string]"], unfollowed := true, recurses := true, named := ["loop.example/g00269/impl.knownKinds"], apart := false, laid := [("loop.example/g00269/impl.knownKinds", laid_loop_example_g00269_impl_knownKinds)] }
def FnStatesSaid : Prop := fnStatesRow.holds Tryd.pinned (OpenSpec.ofChange fnStatesSpec)

/-- ITS FALSE NEIGHBOUR: 'it returns false'. Refute it at one input. -/
def fnStatesWrong : ChangeSpec := { name := "fnStates", vars := ["loop.example/g00269/impl.knownKinds"], fn := fun _ => fun
  | [d1, d2, g1] => { results := [.lit (.bool false)], args := [d1, d2], vars := [g1] }
  | _ => none }
def FnStatesWrongFalsely : Prop := fnStatesRow.holds Tryd.pinned (OpenSpec.ofChange fnStatesWrong)

/- THE SECOND FORM. 'bulk': how many values and letters a reading holds, each counted each time it is reached (what is shared counts as often as it is met; a slice's spare places count too). A statement '..UptoSaid' is the law's where the arguments, and the package variables that the reading takes, are together of bulk at most 1048576: NARROWER than '..Said'. Prove '..Said' where nothing that the law and all that it calls make is longer than what came in: it says more and counts as full. Else prove '..UptoSaid'. A law counts once. -/
mutual
def uptoBulk {H : Type} : DataW H → Nat
  | .lit (.string bytes) => bytes.length + 1
  | .lit _ => 1
  | .nil => 1
  | .ptr d => uptoBulk d + 1
  | .slice elems spare => uptoBulkAll elems + uptoBulkAll spare + 1
  | .agg parts => uptoBulkAll parts + 1
  | .iface _ d => uptoBulk d + 1
  | .map entries => uptoBulkEntries entries + 1
  | .held _ => 1
def uptoBulkAll {H : Type} : List (DataW H) → Nat
  | [] => 0
  | d :: r => uptoBulk d + uptoBulkAll r
def uptoBulkEntries {H : Type} : List (Lit × DataW H) → Nat
  | [] => 0
  | x :: r => uptoBulkEntry x + uptoBulkEntries r
def uptoBulkEntry {H : Type} : Lit × DataW H → Nat
  | (.string bytes, d) => bytes.length + uptoBulk d + 1
  | (_, d) => uptoBulk d + 1
 end
def uptoSmall : (H : Type) → List (DataW H) → Bool := fun _ ds => decide (uptoBulkAll ds ≤ 1048576)
def OpenSpec.upto (s : _root_.Go.ChangeSpec) : _root_.Go.OpenSpec := { _root_.Go.OpenSpec.ofChange s with cond := some uptoSmall }

/-- 'laws.FnExactApplyEvent', WHERE WHAT IT READS IS OF BULK AT MOST 1048576: true; the input reads as it did. -/
def fnExactApplyEventUptoRow : OpenClaim := { program := "ytglpkikncgdghaadoor", sum := "15b8f7b43d088d9f95c966c29f73e136644375206e6b3bb7d56276397b7e5762", func := "loop.example/g00269/laws.FnExactApplyEvent", spec := "fnExactApplyEvent", inPlace := ["slices.overlaps[string]"], unfollowed := true, recurses := true, named := ["loop.example/g00269/impl.knownKinds"], apart := false, laid := [("loop.example/g00269/impl.knownKinds", laid_loop_example_g00269_impl_knownKinds)], narrowed := true }
def FnExactApplyEventUptoSaid : Prop := fnExactApplyEventUptoRow.holds Tryd.pinned (OpenSpec.upto fnExactApplyEventSpec)

/-- 'laws.FnExactFoldEvents', WHERE WHAT IT READS IS OF BULK AT MOST 1048576: true; the input reads as it did. -/
def fnExactFoldEventsUptoRow : OpenClaim := { program := "ytglpkikncgdghaadoor", sum := "15b8f7b43d088d9f95c966c29f73e136644375206e6b3bb7d56276397b7e5762", func := "loop.example/g00269/laws.FnExactFoldEvents", spec := "fnExactFoldEvents", inPlace := ["slices.overlaps[string]"], unfollowed := true, recurses := true, named := ["loop.example/g00269/impl.knownKinds"], apart := false, laid := [("loop.example/g00269/impl.knownKinds", laid_loop_example_g00269_impl_knownKinds)], narrowed := true }
def FnExactFoldEventsUptoSaid : Prop := fnExactFoldEventsUptoRow.holds Tryd.pinned (OpenSpec.upto fnExactFoldEventsSpec)

/-- 'laws.FnExactMayCome', WHERE WHAT IT READS IS OF BULK AT MOST 1048576: true; the input reads as it did. -/
def fnExactMayComeUptoRow : OpenClaim := { program := "ytglpkikncgdghaadoor", sum := "15b8f7b43d088d9f95c966c29f73e136644375206e6b3bb7d56276397b7e5762", func := "loop.example/g00269/laws.FnExactMayCome", spec := "fnExactMayCome", inPlace := ["slices.overlaps[string]"], unfollowed := true, recurses := true, named := ["loop.example/g00269/impl.knownKinds"], apart := false, laid := [("loop.example/g00269/impl.knownKinds", laid_loop_example_g00269_impl_knownKinds)], narrowed := true }
def FnExactMayComeUptoSaid : Prop := fnExactMayComeUptoRow.holds Tryd.pinned (OpenSpec.upto fnExactMayComeSpec)

/-- 'laws.FnExactIsHistory', WHERE WHAT IT READS IS OF BULK AT MOST 1048576: true; the input reads as it did. -/
def fnExactIsHistoryUptoRow : OpenClaim := { program := "ytglpkikncgdghaadoor", sum := "15b8f7b43d088d9f95c966c29f73e136644375206e6b3bb7d56276397b7e5762", func := "loop.example/g00269/laws.FnExactIsHistory", spec := "fnExactIsHistory", inPlace := ["slices.overlaps[string]"], unfollowed := true, recurses := true, named := ["loop.example/g00269/impl.knownKinds"], apart := false, laid := [("loop.example/g00269/impl.knownKinds", laid_loop_example_g00269_impl_knownKinds)], narrowed := true }
def FnExactIsHistoryUptoSaid : Prop := fnExactIsHistoryUptoRow.holds Tryd.pinned (OpenSpec.upto fnExactIsHistorySpec)

/-- 'laws.FnExactSignalsIn', WHERE WHAT IT READS IS OF BULK AT MOST 1048576: true; the input reads as it did. -/
def fnExactSignalsInUptoRow : OpenClaim := { program := "ytglpkikncgdghaadoor", sum := "15b8f7b43d088d9f95c966c29f73e136644375206e6b3bb7d56276397b7e5762", func := "loop.example/g00269/laws.FnExactSignalsIn", spec := "fnExactSignalsIn", inPlace := ["slices.overlaps[string]"], unfollowed := true, recurses := true, named := ["loop.example/g00269/impl.knownKinds"], apart := false, laid := [("loop.example/g00269/impl.knownKinds", laid_loop_example_g00269_impl_knownKinds)], narrowed := true }
def FnExactSignalsInUptoSaid : Prop := fnExactSignalsInUptoRow.holds Tryd.pinned (OpenSpec.upto fnExactSignalsInSpec)

/-- 'laws.FnStates', WHERE WHAT IT READS IS OF BULK AT MOST 1048576: true; the input reads as it did. -/
def fnStatesUptoRow : OpenClaim := { program := "ytglpkikncgdghaadoor", sum := "15b8f7b43d088d9f95c966c29f73e136644375206e6b3bb7d56276397b7e5762", func := "loop.example/g00269/laws.FnStates", spec := "fnStates", inPlace := ["slices.overlaps[string]"], unfollowed := true, recurses := true, named := ["loop.example/g00269/impl.knownKinds"], apart := false, laid := [("loop.example/g00269/impl.knownKinds", laid_loop_example_g00269_impl_knownKinds)], narrowed := true }
def FnStatesUptoSaid : Prop := fnStatesUptoRow.holds Tryd.pinned (OpenSpec.upto fnStatesSpec)

end Rows
end Go.Proofs.YtglpkikncgdghaaDoor
