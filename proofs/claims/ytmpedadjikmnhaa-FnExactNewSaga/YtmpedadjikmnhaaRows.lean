/-
  No cell of these rows narrows 'for every input' (looked for: loops, veiled, ifaces, maps, wideKeys, modest, calm, conditions, laid).
  DERIVED. THE GIVEN ROWS OF THIS SEAT. 8 by the template 'for every input the law returns true; each argument reads behind the call as it read before'; 0 by the template 'total and deterministic' (their statements: YtmpedadjikmnhaaTotals.lean).
  GIVEN WITH THE SEED: the statements are not yours to turn. If you find one false, say at which input.
  Laid BY PROGRAM, IN A SANDBOX (cutbox-rows.mjs): the forced cells as the released guide's own fill.sh prints them over the translation d1497ef83fb9e1a6… (all of the seat's roots in one cut). By AI agents, Wed Nov 11 2026. No macro, syntax, notation, axiom, sorry.
-/
import Derived.Test.YtmpedadjikmnhaaChecked
import GoSem.Claim
import GoSem.ClaimJoined
import GoSem.ClaimMapViews
import Derived.JoinedTies
import Derived.KernelRfl
namespace Go.Proofs.Ytmpedadjikmnhaa
/- THE CELL 'sum', in the pinned program and in every row, IS THE sha256 OF THE DUMP (.gsa) THAT YtmpedadjikmnhaaProg.lean LOADS. Nothing in Lean hashes anything: it is a label: what it is worth is what the hold of that sum in a sandbox is worth. -/
noncomputable def Try.pinned : Pinned := { name := "ytmpedadjikmnhaa", sum := "d1497ef83fb9e1a623757baeb5b3a2590e8ebcba58b6f2c9f5cc9e82908ae065", checked := Try.checked }
namespace Rows
def none {H : Type} : Left H := { results := [], args := [] }

/-- 'laws.FnExactNewSaga': WHATEVER THE INPUT: true; the input reads as it did. -/
def fnExactNewSagaSpec : ChangeSpec := { name := "fnExactNewSaga", fn := fun _ => fun
  | [d1, d2] => { results := [.lit (.bool true)], args := [d1, d2] }
  | _ => none }
def fnExactNewSagaRow : OpenClaim := { program := "ytmpedadjikmnhaa", sum := "d1497ef83fb9e1a623757baeb5b3a2590e8ebcba58b6f2c9f5cc9e82908ae065", func := "loop.example/g00269/laws.FnExactNewSaga", spec := "fnExactNewSaga", unfollowed := true, recurses := true, apart := false }
def FnExactNewSagaSaid : Prop := fnExactNewSagaRow.holds Try.pinned (OpenSpec.ofChange fnExactNewSagaSpec)

/-- ITS FALSE NEIGHBOUR: 'it returns false'. Refute it at one input. -/
def fnExactNewSagaWrong : ChangeSpec := { name := "fnExactNewSaga", fn := fun _ => fun
  | [d1, d2] => { results := [.lit (.bool false)], args := [d1, d2] }
  | _ => none }
def FnExactNewSagaWrongFalsely : Prop := fnExactNewSagaRow.holds Try.pinned (OpenSpec.ofChange fnExactNewSagaWrong)

/-- 'laws.FnExactGoodSaga': WHATEVER THE INPUT: true; the input reads as it did. -/
def fnExactGoodSagaSpec : ChangeSpec := { name := "fnExactGoodSaga", fn := fun _ => fun
  | [d] => { results := [.lit (.bool true)], args := [d] }
  | _ => none }
def fnExactGoodSagaRow : OpenClaim := { program := "ytmpedadjikmnhaa", sum := "d1497ef83fb9e1a623757baeb5b3a2590e8ebcba58b6f2c9f5cc9e82908ae065", func := "loop.example/g00269/laws.FnExactGoodSaga", spec := "fnExactGoodSaga", unfollowed := true, recurses := true, apart := false }
def FnExactGoodSagaSaid : Prop := fnExactGoodSagaRow.holds Try.pinned (OpenSpec.ofChange fnExactGoodSagaSpec)

/-- ITS FALSE NEIGHBOUR: 'it returns false'. Refute it at one input. -/
def fnExactGoodSagaWrong : ChangeSpec := { name := "fnExactGoodSaga", fn := fun _ => fun
  | [d] => { results := [.lit (.bool false)], args := [d] }
  | _ => none }
def FnExactGoodSagaWrongFalsely : Prop := fnExactGoodSagaRow.holds Try.pinned (OpenSpec.ofChange fnExactGoodSagaWrong)

/-- 'laws.FnExactStepSaga': WHATEVER THE INPUT: true; the input reads as it did. -/
def fnExactStepSagaSpec : ChangeSpec := { name := "fnExactStepSaga", fn := fun _ => fun
  | [d] => { results := [.lit (.bool true)], args := [d] }
  | _ => none }
def fnExactStepSagaRow : OpenClaim := { program := "ytmpedadjikmnhaa", sum := "d1497ef83fb9e1a623757baeb5b3a2590e8ebcba58b6f2c9f5cc9e82908ae065", func := "loop.example/g00269/laws.FnExactStepSaga", spec := "fnExactStepSaga", unfollowed := true, recurses := true, apart := false }
def FnExactStepSagaSaid : Prop := fnExactStepSagaRow.holds Try.pinned (OpenSpec.ofChange fnExactStepSagaSpec)

/-- ITS FALSE NEIGHBOUR: 'it returns false'. Refute it at one input. -/
def fnExactStepSagaWrong : ChangeSpec := { name := "fnExactStepSaga", fn := fun _ => fun
  | [d] => { results := [.lit (.bool false)], args := [d] }
  | _ => none }
def FnExactStepSagaWrongFalsely : Prop := fnExactStepSagaRow.holds Try.pinned (OpenSpec.ofChange fnExactStepSagaWrong)

/-- 'laws.FnExactFailSaga': WHATEVER THE INPUT: true; the input reads as it did. -/
def fnExactFailSagaSpec : ChangeSpec := { name := "fnExactFailSaga", fn := fun _ => fun
  | [d] => { results := [.lit (.bool true)], args := [d] }
  | _ => none }
def fnExactFailSagaRow : OpenClaim := { program := "ytmpedadjikmnhaa", sum := "d1497ef83fb9e1a623757baeb5b3a2590e8ebcba58b6f2c9f5cc9e82908ae065", func := "loop.example/g00269/laws.FnExactFailSaga", spec := "fnExactFailSaga", unfollowed := true, recurses := true, apart := false }
def FnExactFailSagaSaid : Prop := fnExactFailSagaRow.holds Try.pinned (OpenSpec.ofChange fnExactFailSagaSpec)

/-- ITS FALSE NEIGHBOUR: 'it returns false'. Refute it at one input. -/
def fnExactFailSagaWrong : ChangeSpec := { name := "fnExactFailSaga", fn := fun _ => fun
  | [d] => { results := [.lit (.bool false)], args := [d] }
  | _ => none }
def FnExactFailSagaWrongFalsely : Prop := fnExactFailSagaRow.holds Try.pinned (OpenSpec.ofChange fnExactFailSagaWrong)

/-- 'laws.FnExactRunSaga': WHATEVER THE INPUT: true; the input reads as it did. -/
def fnExactRunSagaSpec : ChangeSpec := { name := "fnExactRunSaga", fn := fun _ => fun
  | [d1, d2] => { results := [.lit (.bool true)], args := [d1, d2] }
  | _ => none }
def fnExactRunSagaRow : OpenClaim := { program := "ytmpedadjikmnhaa", sum := "d1497ef83fb9e1a623757baeb5b3a2590e8ebcba58b6f2c9f5cc9e82908ae065", func := "loop.example/g00269/laws.FnExactRunSaga", spec := "fnExactRunSaga", unfollowed := true, recurses := true, apart := false }
def FnExactRunSagaSaid : Prop := fnExactRunSagaRow.holds Try.pinned (OpenSpec.ofChange fnExactRunSagaSpec)

/-- ITS FALSE NEIGHBOUR: 'it returns false'. Refute it at one input. -/
def fnExactRunSagaWrong : ChangeSpec := { name := "fnExactRunSaga", fn := fun _ => fun
  | [d1, d2] => { results := [.lit (.bool false)], args := [d1, d2] }
  | _ => none }
def FnExactRunSagaWrongFalsely : Prop := fnExactRunSagaRow.holds Try.pinned (OpenSpec.ofChange fnExactRunSagaWrong)

/-- 'laws.FnExactIsOver': WHATEVER THE INPUT: true; the input reads as it did. -/
def fnExactIsOverSpec : ChangeSpec := { name := "fnExactIsOver", fn := fun _ => fun
  | [d] => { results := [.lit (.bool true)], args := [d] }
  | _ => none }
def fnExactIsOverRow : OpenClaim := { program := "ytmpedadjikmnhaa", sum := "d1497ef83fb9e1a623757baeb5b3a2590e8ebcba58b6f2c9f5cc9e82908ae065", func := "loop.example/g00269/laws.FnExactIsOver", spec := "fnExactIsOver", unfollowed := true, recurses := true, apart := false }
def FnExactIsOverSaid : Prop := fnExactIsOverRow.holds Try.pinned (OpenSpec.ofChange fnExactIsOverSpec)

/-- ITS FALSE NEIGHBOUR: 'it returns false'. Refute it at one input. -/
def fnExactIsOverWrong : ChangeSpec := { name := "fnExactIsOver", fn := fun _ => fun
  | [d] => { results := [.lit (.bool false)], args := [d] }
  | _ => none }
def FnExactIsOverWrongFalsely : Prop := fnExactIsOverRow.holds Try.pinned (OpenSpec.ofChange fnExactIsOverWrong)

/-- 'laws.FnExactSumIn': WHATEVER THE INPUT: true; the input reads as it did. -/
def fnExactSumInSpec : ChangeSpec := { name := "fnExactSumIn", fn := fun _ => fun
  | [d] => { results := [.lit (.bool true)], args := [d] }
  | _ => none }
def fnExactSumInRow : OpenClaim := { program := "ytmpedadjikmnhaa", sum := "d1497ef83fb9e1a623757baeb5b3a2590e8ebcba58b6f2c9f5cc9e82908ae065", func := "loop.example/g00269/laws.FnExactSumIn", spec := "fnExactSumIn", unfollowed := true, recurses := true, apart := false }
def FnExactSumInSaid : Prop := fnExactSumInRow.holds Try.pinned (OpenSpec.ofChange fnExactSumInSpec)

/-- ITS FALSE NEIGHBOUR: 'it returns false'. Refute it at one input. -/
def fnExactSumInWrong : ChangeSpec := { name := "fnExactSumIn", fn := fun _ => fun
  | [d] => { results := [.lit (.bool false)], args := [d] }
  | _ => none }
def FnExactSumInWrongFalsely : Prop := fnExactSumInRow.holds Try.pinned (OpenSpec.ofChange fnExactSumInWrong)

/-- 'laws.FnExactUndoOf': WHATEVER THE INPUT: true; the input reads as it did. -/
def fnExactUndoOfSpec : ChangeSpec := { name := "fnExactUndoOf", fn := fun _ => fun
  | [d] => { results := [.lit (.bool true)], args := [d] }
  | _ => none }
def fnExactUndoOfRow : OpenClaim := { program := "ytmpedadjikmnhaa", sum := "d1497ef83fb9e1a623757baeb5b3a2590e8ebcba58b6f2c9f5cc9e82908ae065", func := "loop.example/g00269/laws.FnExactUndoOf", spec := "fnExactUndoOf", apart := false }
def FnExactUndoOfSaid : Prop := fnExactUndoOfRow.holds Try.pinned (OpenSpec.ofChange fnExactUndoOfSpec)

/-- ITS FALSE NEIGHBOUR: 'it returns false'. Refute it at one input. -/
def fnExactUndoOfWrong : ChangeSpec := { name := "fnExactUndoOf", fn := fun _ => fun
  | [d] => { results := [.lit (.bool false)], args := [d] }
  | _ => none }
def FnExactUndoOfWrongFalsely : Prop := fnExactUndoOfRow.holds Try.pinned (OpenSpec.ofChange fnExactUndoOfWrong)

/- THE SECOND FORM. 'bulk': how many values and letters a reading holds, each counted each time it is reached (what is shared counts as often as it is met; a slice's spare places count too). A statement '..UptoSaid' is the law's where the arguments, and the package variables that the reading takes, are together of bulk at most 1048576: NARROWER than '..Said'. Prove '..Said' where nothing that the law and all that it calls make is longer than what came in: it says more and counts as full. Else prove '..UptoSaid'. A law counts once. -/
mutual
def uptoBulk {H : Type} : DataW H → Nat
  | .lit (.string bytes) => bytes.length + 1
  | .lit _ => 1
  | .nil => 1
  | .ptr d => uptoBulk d + 1
  | .slice elems spare => uptoBulkAll elems + uptoBulkAll spare + 1
  | .agg parts => uptoBulkAll parts + 1
  | .iface _ d => uptoBulk d + 1
  | .map entries => uptoBulkEntries entries + 1
  | .held _ => 1
def uptoBulkAll {H : Type} : List (DataW H) → Nat
  | [] => 0
  | d :: r => uptoBulk d + uptoBulkAll r
def uptoBulkEntries {H : Type} : List (Lit × DataW H) → Nat
  | [] => 0
  | x :: r => uptoBulkEntry x + uptoBulkEntries r
def uptoBulkEntry {H : Type} : Lit × DataW H → Nat
  | (.string bytes, d) => bytes.length + uptoBulk d + 1
  | (_, d) => uptoBulk d + 1
 end
def uptoSmall : (H : Type) → List (DataW H) → Bool := fun _ ds => decide (uptoBulkAll ds ≤ 1048576)
def OpenSpec.upto (s : _root_.Go.ChangeSpec) : _root_.Go.OpenSpec := { _root_.Go.OpenSpec.ofChange s with cond := some uptoSmall }

/-- 'laws.FnExactNewSaga', WHERE WHAT IT READS IS OF BULK AT MOST 1048576: true; the input reads as it did. -/
def fnExactNewSagaUptoRow : OpenClaim := { program := "ytmpedadjikmnhaa", sum := "d1497ef83fb9e1a623757baeb5b3a2590e8ebcba58b6f2c9f5cc9e82908ae065", func := "loop.example/g00269/laws.FnExactNewSaga", spec := "fnExactNewSaga", unfollowed := true, recurses := true, apart := false, narrowed := true }
def FnExactNewSagaUptoSaid : Prop := fnExactNewSagaUptoRow.holds Try.pinned (OpenSpec.upto fnExactNewSagaSpec)

/-- 'laws.FnExactGoodSaga', WHERE WHAT IT READS IS OF BULK AT MOST 1048576: true; the input reads as it did. -/
def fnExactGoodSagaUptoRow : OpenClaim := { program := "ytmpedadjikmnhaa", sum := "d1497ef83fb9e1a623757baeb5b3a2590e8ebcba58b6f2c9f5cc9e82908ae065", func := "loop.example/g00269/laws.FnExactGoodSaga", spec := "fnExactGoodSaga", unfollowed := true, recurses := true, apart := false, narrowed := true }
def FnExactGoodSagaUptoSaid : Prop := fnExactGoodSagaUptoRow.holds Try.pinned (OpenSpec.upto fnExactGoodSagaSpec)

/-- 'laws.FnExactStepSaga', WHERE WHAT IT READS IS OF BULK AT MOST 1048576: true; the input reads as it did. -/
def fnExactStepSagaUptoRow : OpenClaim := { program := "ytmpedadjikmnhaa", sum := "d1497ef83fb9e1a623757baeb5b3a2590e8ebcba58b6f2c9f5cc9e82908ae065", func := "loop.example/g00269/laws.FnExactStepSaga", spec := "fnExactStepSaga", unfollowed := true, recurses := true, apart := false, narrowed := true }
def FnExactStepSagaUptoSaid : Prop := fnExactStepSagaUptoRow.holds Try.pinned (OpenSpec.upto fnExactStepSagaSpec)

/-- 'laws.FnExactFailSaga', WHERE WHAT IT READS IS OF BULK AT MOST 1048576: true; the input reads as it did. -/
def fnExactFailSagaUptoRow : OpenClaim := { program := "ytmpedadjikmnhaa", sum := "d1497ef83fb9e1a623757baeb5b3a2590e8ebcba58b6f2c9f5cc9e82908ae065", func := "loop.example/g00269/laws.FnExactFailSaga", spec := "fnExactFailSaga", unfollowed := true, recurses := true, apart := false, narrowed := true }
def FnExactFailSagaUptoSaid : Prop := fnExactFailSagaUptoRow.holds Try.pinned (OpenSpec.upto fnExactFailSagaSpec)

/-- 'laws.FnExactRunSaga', WHERE WHAT IT READS IS OF BULK AT MOST 1048576: true; the input reads as it did. -/
def fnExactRunSagaUptoRow : OpenClaim := { program := "ytmpedadjikmnhaa", sum := "d1497ef83fb9e1a623757baeb5b3a2590e8ebcba58b6f2c9f5cc9e82908ae065", func := "loop.example/g00269/laws.FnExactRunSaga", spec := "fnExactRunSaga", unfollowed := true, recurses := true, apart := false, narrowed := true }
def FnExactRunSagaUptoSaid : Prop := fnExactRunSagaUptoRow.holds Try.pinned (OpenSpec.upto fnExactRunSagaSpec)

/-- 'laws.FnExactIsOver', WHERE WHAT IT READS IS OF BULK AT MOST 1048576: true; the input reads as it did. -/
def fnExactIsOverUptoRow : OpenClaim := { program := "ytmpedadjikmnhaa", sum := "d1497ef83fb9e1a623757baeb5b3a2590e8ebcba58b6f2c9f5cc9e82908ae065", func := "loop.example/g00269/laws.FnExactIsOver", spec := "fnExactIsOver", unfollowed := true, recurses := true, apart := false, narrowed := true }
def FnExactIsOverUptoSaid : Prop := fnExactIsOverUptoRow.holds Try.pinned (OpenSpec.upto fnExactIsOverSpec)

/-- 'laws.FnExactSumIn', WHERE WHAT IT READS IS OF BULK AT MOST 1048576: true; the input reads as it did. -/
def fnExactSumInUptoRow : OpenClaim := { program := "ytmpedadjikmnhaa", sum := "d1497ef83fb9e1a623757baeb5b3a2590e8ebcba58b6f2c9f5cc9e82908ae065", func := "loop.example/g00269/laws.FnExactSumIn", spec := "fnExactSumIn", unfollowed := true, recurses := true, apart := false, narrowed := true }
def FnExactSumInUptoSaid : Prop := fnExactSumInUptoRow.holds Try.pinned (OpenSpec.upto fnExactSumInSpec)

/-- 'laws.FnExactUndoOf', WHERE WHAT IT READS IS OF BULK AT MOST 1048576: true; the input reads as it did. -/
def fnExactUndoOfUptoRow : OpenClaim := { program := "ytmpedadjikmnhaa", sum := "d1497ef83fb9e1a623757baeb5b3a2590e8ebcba58b6f2c9f5cc9e82908ae065", func := "loop.example/g00269/laws.FnExactUndoOf", spec := "fnExactUndoOf", apart := false, narrowed := true }
def FnExactUndoOfUptoSaid : Prop := fnExactUndoOfUptoRow.holds Try.pinned (OpenSpec.upto fnExactUndoOfSpec)

end Rows
end Go.Proofs.Ytmpedadjikmnhaa
