/-
  No cell of these rows narrows 'for every input' (looked for: loops, veiled, ifaces, maps, wideKeys, modest, calm, conditions, laid).
  DERIVED. THE GIVEN ROWS OF THIS SEAT. 6 by the template 'for every input the law returns true; each argument reads behind the call as it read before'; 0 by the template 'total and deterministic' (their statements: YtfjdbenbiakbbaaTotals.lean).
  GIVEN WITH THE SEED: the statements are not yours to turn. If you find one false, say at which input.
  Laid BY PROGRAM, IN A SANDBOX (cutbox-rows.mjs): the forced cells as the released guide's own fill.sh prints them over the translation 994adfb73555cd7f… (all of the seat's roots in one cut). By AI agents, Wed Nov 11 2026. No macro, syntax, notation, axiom, sorry.
-/
import Derived.Test.YtfjdbenbiakbbaaChecked
import GoSem.Claim
import GoSem.ClaimJoined
import GoSem.ClaimMapViews
import Derived.JoinedTies
import Derived.KernelRfl
namespace Go.Proofs.Ytfjdbenbiakbbaa
/- THE CELL 'sum', in the pinned program and in every row, IS THE sha256 OF THE DUMP (.gsa) THAT YtfjdbenbiakbbaaProg.lean LOADS. Nothing in Lean hashes anything: it is a label: what it is worth is what the hold of that sum in a sandbox is worth. -/
noncomputable def Try.pinned : Pinned := { name := "ytfjdbenbiakbbaa", sum := "994adfb73555cd7f70072640e11be69fdc0a16da8eb4430880883a7f907c84ab", checked := Try.checked }
namespace Rows
def none {H : Type} : Left H := { results := [], args := [] }

/-- 'laws.FnExactStepQueue': WHATEVER THE INPUT: true; the input reads as it did. -/
def fnExactStepQueueSpec : ChangeSpec := { name := "fnExactStepQueue", fn := fun _ => fun
  | [d1, d2] => { results := [.lit (.bool true)], args := [d1, d2] }
  | _ => none }
def fnExactStepQueueRow : OpenClaim := { program := "ytfjdbenbiakbbaa", sum := "994adfb73555cd7f70072640e11be69fdc0a16da8eb4430880883a7f907c84ab", func := "loop.example/g00269/laws.FnExactStepQueue", spec := "fnExactStepQueue", unfollowed := true, recurses := true, apart := false }
def FnExactStepQueueSaid : Prop := fnExactStepQueueRow.holds Try.pinned (OpenSpec.ofChange fnExactStepQueueSpec)

/-- ITS FALSE NEIGHBOUR: 'it returns false'. Refute it at one input. -/
def fnExactStepQueueWrong : ChangeSpec := { name := "fnExactStepQueue", fn := fun _ => fun
  | [d1, d2] => { results := [.lit (.bool false)], args := [d1, d2] }
  | _ => none }
def FnExactStepQueueWrongFalsely : Prop := fnExactStepQueueRow.holds Try.pinned (OpenSpec.ofChange fnExactStepQueueWrong)

/-- 'laws.FnExactPlayQueue': WHATEVER THE INPUT: true; the input reads as it did. -/
def fnExactPlayQueueSpec : ChangeSpec := { name := "fnExactPlayQueue", fn := fun _ => fun
  | [d1, d2] => { results := [.lit (.bool true)], args := [d1, d2] }
  | _ => none }
def fnExactPlayQueueRow : OpenClaim := { program := "ytfjdbenbiakbbaa", sum := "994adfb73555cd7f70072640e11be69fdc0a16da8eb4430880883a7f907c84ab", func := "loop.example/g00269/laws.FnExactPlayQueue", spec := "fnExactPlayQueue", apart := false }
def FnExactPlayQueueSaid : Prop := fnExactPlayQueueRow.holds Try.pinned (OpenSpec.ofChange fnExactPlayQueueSpec)

/-- ITS FALSE NEIGHBOUR: 'it returns false'. Refute it at one input. -/
def fnExactPlayQueueWrong : ChangeSpec := { name := "fnExactPlayQueue", fn := fun _ => fun
  | [d1, d2] => { results := [.lit (.bool false)], args := [d1, d2] }
  | _ => none }
def FnExactPlayQueueWrongFalsely : Prop := fnExactPlayQueueRow.holds Try.pinned (OpenSpec.ofChange fnExactPlayQueueWrong)

/-- 'laws.FnExactWaitingIn': WHATEVER THE INPUT: true; the input reads as it did. -/
def fnExactWaitingInSpec : ChangeSpec := { name := "fnExactWaitingIn", fn := fun _ => fun
  | [d] => { results := [.lit (.bool true)], args := [d] }
  | _ => none }
def fnExactWaitingInRow : OpenClaim := { program := "ytfjdbenbiakbbaa", sum := "994adfb73555cd7f70072640e11be69fdc0a16da8eb4430880883a7f907c84ab", func := "loop.example/g00269/laws.FnExactWaitingIn", spec := "fnExactWaitingIn", unfollowed := true, recurses := true, apart := false }
def FnExactWaitingInSaid : Prop := fnExactWaitingInRow.holds Try.pinned (OpenSpec.ofChange fnExactWaitingInSpec)

/-- ITS FALSE NEIGHBOUR: 'it returns false'. Refute it at one input. -/
def fnExactWaitingInWrong : ChangeSpec := { name := "fnExactWaitingIn", fn := fun _ => fun
  | [d] => { results := [.lit (.bool false)], args := [d] }
  | _ => none }
def FnExactWaitingInWrongFalsely : Prop := fnExactWaitingInRow.holds Try.pinned (OpenSpec.ofChange fnExactWaitingInWrong)

/-- 'laws.FnExactDrainQueue': WHATEVER THE INPUT: true; the input reads as it did. -/
def fnExactDrainQueueSpec : ChangeSpec := { name := "fnExactDrainQueue", fn := fun _ => fun
  | [d] => { results := [.lit (.bool true)], args := [d] }
  | _ => none }
def fnExactDrainQueueRow : OpenClaim := { program := "ytfjdbenbiakbbaa", sum := "994adfb73555cd7f70072640e11be69fdc0a16da8eb4430880883a7f907c84ab", func := "loop.example/g00269/laws.FnExactDrainQueue", spec := "fnExactDrainQueue", unfollowed := true, recurses := true, apart := false }
def FnExactDrainQueueSaid : Prop := fnExactDrainQueueRow.holds Try.pinned (OpenSpec.ofChange fnExactDrainQueueSpec)

/-- ITS FALSE NEIGHBOUR: 'it returns false'. Refute it at one input. -/
def fnExactDrainQueueWrong : ChangeSpec := { name := "fnExactDrainQueue", fn := fun _ => fun
  | [d] => { results := [.lit (.bool false)], args := [d] }
  | _ => none }
def FnExactDrainQueueWrongFalsely : Prop := fnExactDrainQueueRow.holds Try.pinned (OpenSpec.ofChange fnExactDrainQueueWrong)

/-- 'laws.FnQueue': WHATEVER THE INPUT: true; the input reads as it did. -/
def fnQueueSpec : ChangeSpec := { name := "fnQueue", fn := fun _ => fun
  | [d1, d2] => { results := [.lit (.bool true)], args := [d1, d2] }
  | _ => none }
def fnQueueRow : OpenClaim := { program := "ytfjdbenbiakbbaa", sum := "994adfb73555cd7f70072640e11be69fdc0a16da8eb4430880883a7f907c84ab", func := "loop.example/g00269/laws.FnQueue", spec := "fnQueue", unfollowed := true, recurses := true, apart := false }
def FnQueueSaid : Prop := fnQueueRow.holds Try.pinned (OpenSpec.ofChange fnQueueSpec)

/-- ITS FALSE NEIGHBOUR: 'it returns false'. Refute it at one input. -/
def fnQueueWrong : ChangeSpec := { name := "fnQueue", fn := fun _ => fun
  | [d1, d2] => { results := [.lit (.bool false)], args := [d1, d2] }
  | _ => none }
def FnQueueWrongFalsely : Prop := fnQueueRow.holds Try.pinned (OpenSpec.ofChange fnQueueWrong)

/-- 'laws.FnDrained': WHATEVER THE INPUT: true; the input reads as it did. -/
def fnDrainedSpec : ChangeSpec := { name := "fnDrained", fn := fun _ => fun
  | [d] => { results := [.lit (.bool true)], args := [d] }
  | _ => none }
def fnDrainedRow : OpenClaim := { program := "ytfjdbenbiakbbaa", sum := "994adfb73555cd7f70072640e11be69fdc0a16da8eb4430880883a7f907c84ab", func := "loop.example/g00269/laws.FnDrained", spec := "fnDrained", unfollowed := true, recurses := true, apart := false }
def FnDrainedSaid : Prop := fnDrainedRow.holds Try.pinned (OpenSpec.ofChange fnDrainedSpec)

/-- ITS FALSE NEIGHBOUR: 'it returns false'. Refute it at one input. -/
def fnDrainedWrong : ChangeSpec := { name := "fnDrained", fn := fun _ => fun
  | [d] => { results := [.lit (.bool false)], args := [d] }
  | _ => none }
def FnDrainedWrongFalsely : Prop := fnDrainedRow.holds Try.pinned (OpenSpec.ofChange fnDrainedWrong)

/- THE SECOND FORM. 'bulk': how many values and letters a reading holds, each counted each time it is reached (what is shared counts as often as it is met; a slice's spare places count too). A statement '..UptoSaid' is the law's where the arguments, and the package variables that the reading takes, are together of bulk at most 1048576: NARROWER than '..Said'. Prove '..Said' where nothing that the law and all that it calls make is longer than what came in: it says more and counts as full. Else prove '..UptoSaid'. A law counts once. -/
mutual
def uptoBulk {H : Type} : DataW H → Nat
  | .lit (.string bytes) => bytes.length + 1
  | .lit _ => 1
  | .nil => 1
  | .ptr d => uptoBulk d + 1
  | .slice elems spare => uptoBulkAll elems + uptoBulkAll spare + 1
  | .agg parts => uptoBulkAll parts + 1
  | .iface _ d => uptoBulk d + 1
  | .map entries => uptoBulkEntries entries + 1
  | .held _ => 1
def uptoBulkAll {H : Type} : List (DataW H) → Nat
  | [] => 0
  | d :: r => uptoBulk d + uptoBulkAll r
def uptoBulkEntries {H : Type} : List (Lit × DataW H) → Nat
  | [] => 0
  | x :: r => uptoBulkEntry x + uptoBulkEntries r
def uptoBulkEntry {H : Type} : Lit × DataW H → Nat
  | (.string bytes, d) => bytes.length + uptoBulk d + 1
  | (_, d) => uptoBulk d + 1
 end
def uptoSmall : (H : Type) → List (DataW H) → Bool := fun _ ds => decide (uptoBulkAll ds ≤ 1048576)
def OpenSpec.upto (s : _root_.Go.ChangeSpec) : _root_.Go.OpenSpec := { _root_.Go.OpenSpec.ofChange s with cond := some uptoSmall }

/-- 'laws.FnExactStepQueue', WHERE WHAT IT READS IS OF BULK AT MOST 1048576: true; the input reads as it did. -/
def fnExactStepQueueUptoRow : OpenClaim := { program := "ytfjdbenbiakbbaa", sum := "994adfb73555cd7f70072640e11be69fdc0a16da8eb4430880883a7f907c84ab", func := "loop.example/g00269/laws.FnExactStepQueue", spec := "fnExactStepQueue", unfollowed := true, recurses := true, apart := false, narrowed := true }
def FnExactStepQueueUptoSaid : Prop := fnExactStepQueueUptoRow.holds Try.pinned (OpenSpec.upto fnExactStepQueueSpec)

/-- 'laws.FnExactPlayQueue', WHERE WHAT IT READS IS OF BULK AT MOST 1048576: true; the input reads as it did. -/
def fnExactPlayQueueUptoRow : OpenClaim := { program := "ytfjdbenbiakbbaa", sum := "994adfb73555cd7f70072640e11be69fdc0a16da8eb4430880883a7f907c84ab", func := "loop.example/g00269/laws.FnExactPlayQueue", spec := "fnExactPlayQueue", apart := false, narrowed := true }
def FnExactPlayQueueUptoSaid : Prop := fnExactPlayQueueUptoRow.holds Try.pinned (OpenSpec.upto fnExactPlayQueueSpec)

/-- 'laws.FnExactWaitingIn', WHERE WHAT IT READS IS OF BULK AT MOST 1048576: true; the input reads as it did. -/
def fnExactWaitingInUptoRow : OpenClaim := { program := "ytfjdbenbiakbbaa", sum := "994adfb73555cd7f70072640e11be69fdc0a16da8eb4430880883a7f907c84ab", func := "loop.example/g00269/laws.FnExactWaitingIn", spec := "fnExactWaitingIn", unfollowed := true, recurses := true, apart := false, narrowed := true }
def FnExactWaitingInUptoSaid : Prop := fnExactWaitingInUptoRow.holds Try.pinned (OpenSpec.upto fnExactWaitingInSpec)

/-- 'laws.FnExactDrainQueue', WHERE WHAT IT READS IS OF BULK AT MOST 1048576: true; the input reads as it did. -/
def fnExactDrainQueueUptoRow : OpenClaim := { program := "ytfjdbenbiakbbaa", sum := "994adfb73555cd7f70072640e11be69fdc0a16da8eb4430880883a7f907c84ab", func := "loop.example/g00269/laws.FnExactDrainQueue", spec := "fnExactDrainQueue", unfollowed := true, recurses := true, apart := false, narrowed := true }
def FnExactDrainQueueUptoSaid : Prop := fnExactDrainQueueUptoRow.holds Try.pinned (OpenSpec.upto fnExactDrainQueueSpec)

/-- 'laws.FnQueue', WHERE WHAT IT READS IS OF BULK AT MOST 1048576: true; the input reads as it did. -/
def fnQueueUptoRow : OpenClaim := { program := "ytfjdbenbiakbbaa", sum := "994adfb73555cd7f70072640e11be69fdc0a16da8eb4430880883a7f907c84ab", func := "loop.example/g00269/laws.FnQueue", spec := "fnQueue", unfollowed := true, recurses := true, apart := false, narrowed := true }
def FnQueueUptoSaid : Prop := fnQueueUptoRow.holds Try.pinned (OpenSpec.upto fnQueueSpec)

/-- 'laws.FnDrained', WHERE WHAT IT READS IS OF BULK AT MOST 1048576: true; the input reads as it did. -/
def fnDrainedUptoRow : OpenClaim := { program := "ytfjdbenbiakbbaa", sum := "994adfb73555cd7f70072640e11be69fdc0a16da8eb4430880883a7f907c84ab", func := "loop.example/g00269/laws.FnDrained", spec := "fnDrained", unfollowed := true, recurses := true, apart := false, narrowed := true }
def FnDrainedUptoSaid : Prop := fnDrainedUptoRow.holds Try.pinned (OpenSpec.upto fnDrainedSpec)

end Rows
end Go.Proofs.Ytfjdbenbiakbbaa
