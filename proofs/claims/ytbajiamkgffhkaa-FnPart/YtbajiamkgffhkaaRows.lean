/-
  No cell of these rows narrows 'for every input' (looked for: loops, veiled, ifaces, maps, wideKeys, modest, calm, conditions, laid).
  DERIVED. THE GIVEN ROWS OF THIS SEAT. 9 by the template 'for every input the law returns true; each argument reads behind the call as it read before'; 0 by the template 'total and deterministic' (their statements: YtbajiamkgffhkaaTotals.lean).
  GIVEN WITH THE SEED: the statements are not yours to turn. If you find one false, say at which input.
  Laid BY PROGRAM, IN A SANDBOX (cutbox-rows.mjs): the forced cells as the released guide's own fill.sh prints them over the translation 546a4c0946fafc20… (all of the seat's roots in one cut). By AI agents, Wed Nov 11 2026. No macro, syntax, notation, axiom, sorry.
-/
import Derived.Test.YtbajiamkgffhkaaChecked
import GoSem.Claim
import GoSem.ClaimJoined
import GoSem.ClaimMapViews
import Derived.JoinedTies
import Derived.KernelRfl
namespace Go.Proofs.Ytbajiamkgffhkaa
/- THE CELL 'sum', in the pinned program and in every row, IS THE sha256 OF THE DUMP (.gsa) THAT YtbajiamkgffhkaaProg.lean LOADS. Nothing in Lean hashes anything: it is a label: what it is worth is what the hold of that sum in a sandbox is worth. -/
noncomputable def Try.pinned : Pinned := { name := "ytbajiamkgffhkaa", sum := "546a4c0946fafc20ba0e3b5d9670d74fdadb54ca189a55d3cb981e36efd66edb", checked := Try.checked }
namespace Rows
def none {H : Type} : Left H := { results := [], args := [] }

/-- 'laws.FnExactGoodItems': WHATEVER THE INPUT: true; the input reads as it did. -/
def fnExactGoodItemsSpec : ChangeSpec := { name := "fnExactGoodItems", fn := fun _ => fun
  | [d] => { results := [.lit (.bool true)], args := [d] }
  | _ => none }
def fnExactGoodItemsRow : OpenClaim := { program := "ytbajiamkgffhkaa", sum := "546a4c0946fafc20ba0e3b5d9670d74fdadb54ca189a55d3cb981e36efd66edb", func := "loop.example/g00269/laws.FnExactGoodItems", spec := "fnExactGoodItems", apart := false }
def FnExactGoodItemsSaid : Prop := fnExactGoodItemsRow.holds Try.pinned (OpenSpec.ofChange fnExactGoodItemsSpec)

/-- ITS FALSE NEIGHBOUR: 'it returns false'. Refute it at one input. -/
def fnExactGoodItemsWrong : ChangeSpec := { name := "fnExactGoodItems", fn := fun _ => fun
  | [d] => { results := [.lit (.bool false)], args := [d] }
  | _ => none }
def FnExactGoodItemsWrongFalsely : Prop := fnExactGoodItemsRow.holds Try.pinned (OpenSpec.ofChange fnExactGoodItemsWrong)

/-- 'laws.FnExactVersionAt': WHATEVER THE INPUT: true; the input reads as it did. -/
def fnExactVersionAtSpec : ChangeSpec := { name := "fnExactVersionAt", fn := fun _ => fun
  | [d1, d2] => { results := [.lit (.bool true)], args := [d1, d2] }
  | _ => none }
def fnExactVersionAtRow : OpenClaim := { program := "ytbajiamkgffhkaa", sum := "546a4c0946fafc20ba0e3b5d9670d74fdadb54ca189a55d3cb981e36efd66edb", func := "loop.example/g00269/laws.FnExactVersionAt", spec := "fnExactVersionAt", apart := false }
def FnExactVersionAtSaid : Prop := fnExactVersionAtRow.holds Try.pinned (OpenSpec.ofChange fnExactVersionAtSpec)

/-- ITS FALSE NEIGHBOUR: 'it returns false'. Refute it at one input. -/
def fnExactVersionAtWrong : ChangeSpec := { name := "fnExactVersionAt", fn := fun _ => fun
  | [d1, d2] => { results := [.lit (.bool false)], args := [d1, d2] }
  | _ => none }
def FnExactVersionAtWrongFalsely : Prop := fnExactVersionAtRow.holds Try.pinned (OpenSpec.ofChange fnExactVersionAtWrong)

/-- 'laws.FnExactLastOf': WHATEVER THE INPUT: true; the input reads as it did. -/
def fnExactLastOfSpec : ChangeSpec := { name := "fnExactLastOf", fn := fun _ => fun
  | [d] => { results := [.lit (.bool true)], args := [d] }
  | _ => none }
def fnExactLastOfRow : OpenClaim := { program := "ytbajiamkgffhkaa", sum := "546a4c0946fafc20ba0e3b5d9670d74fdadb54ca189a55d3cb981e36efd66edb", func := "loop.example/g00269/laws.FnExactLastOf", spec := "fnExactLastOf", apart := false }
def FnExactLastOfSaid : Prop := fnExactLastOfRow.holds Try.pinned (OpenSpec.ofChange fnExactLastOfSpec)

/-- ITS FALSE NEIGHBOUR: 'it returns false'. Refute it at one input. -/
def fnExactLastOfWrong : ChangeSpec := { name := "fnExactLastOf", fn := fun _ => fun
  | [d] => { results := [.lit (.bool false)], args := [d] }
  | _ => none }
def FnExactLastOfWrongFalsely : Prop := fnExactLastOfRow.holds Try.pinned (OpenSpec.ofChange fnExactLastOfWrong)

/-- 'laws.FnExactAppendItem': WHATEVER THE INPUT: true; the input reads as it did. -/
def fnExactAppendItemSpec : ChangeSpec := { name := "fnExactAppendItem", fn := fun _ => fun
  | [d1, d2, d3] => { results := [.lit (.bool true)], args := [d1, d2, d3] }
  | _ => none }
def fnExactAppendItemRow : OpenClaim := { program := "ytbajiamkgffhkaa", sum := "546a4c0946fafc20ba0e3b5d9670d74fdadb54ca189a55d3cb981e36efd66edb", func := "loop.example/g00269/laws.FnExactAppendItem", spec := "fnExactAppendItem", apart := false }
def FnExactAppendItemSaid : Prop := fnExactAppendItemRow.holds Try.pinned (OpenSpec.ofChange fnExactAppendItemSpec)

/-- ITS FALSE NEIGHBOUR: 'it returns false'. Refute it at one input. -/
def fnExactAppendItemWrong : ChangeSpec := { name := "fnExactAppendItem", fn := fun _ => fun
  | [d1, d2, d3] => { results := [.lit (.bool false)], args := [d1, d2, d3] }
  | _ => none }
def FnExactAppendItemWrongFalsely : Prop := fnExactAppendItemRow.holds Try.pinned (OpenSpec.ofChange fnExactAppendItemWrong)

/-- 'laws.FnExactLcaOf': WHATEVER THE INPUT: true; the input reads as it did. -/
def fnExactLcaOfSpec : ChangeSpec := { name := "fnExactLcaOf", fn := fun _ => fun
  | [d1, d2] => { results := [.lit (.bool true)], args := [d1, d2] }
  | _ => none }
def fnExactLcaOfRow : OpenClaim := { program := "ytbajiamkgffhkaa", sum := "546a4c0946fafc20ba0e3b5d9670d74fdadb54ca189a55d3cb981e36efd66edb", func := "loop.example/g00269/laws.FnExactLcaOf", spec := "fnExactLcaOf", apart := false }
def FnExactLcaOfSaid : Prop := fnExactLcaOfRow.holds Try.pinned (OpenSpec.ofChange fnExactLcaOfSpec)

/-- ITS FALSE NEIGHBOUR: 'it returns false'. Refute it at one input. -/
def fnExactLcaOfWrong : ChangeSpec := { name := "fnExactLcaOf", fn := fun _ => fun
  | [d1, d2] => { results := [.lit (.bool false)], args := [d1, d2] }
  | _ => none }
def FnExactLcaOfWrongFalsely : Prop := fnExactLcaOfRow.holds Try.pinned (OpenSpec.ofChange fnExactLcaOfWrong)

/-- 'laws.FnExactCutItems': WHATEVER THE INPUT: true; the input reads as it did. -/
def fnExactCutItemsSpec : ChangeSpec := { name := "fnExactCutItems", fn := fun _ => fun
  | [d1, d2] => { results := [.lit (.bool true)], args := [d1, d2] }
  | _ => none }
def fnExactCutItemsRow : OpenClaim := { program := "ytbajiamkgffhkaa", sum := "546a4c0946fafc20ba0e3b5d9670d74fdadb54ca189a55d3cb981e36efd66edb", func := "loop.example/g00269/laws.FnExactCutItems", spec := "fnExactCutItems", apart := false }
def FnExactCutItemsSaid : Prop := fnExactCutItemsRow.holds Try.pinned (OpenSpec.ofChange fnExactCutItemsSpec)

/-- ITS FALSE NEIGHBOUR: 'it returns false'. Refute it at one input. -/
def fnExactCutItemsWrong : ChangeSpec := { name := "fnExactCutItems", fn := fun _ => fun
  | [d1, d2] => { results := [.lit (.bool false)], args := [d1, d2] }
  | _ => none }
def FnExactCutItemsWrongFalsely : Prop := fnExactCutItemsRow.holds Try.pinned (OpenSpec.ofChange fnExactCutItemsWrong)

/-- 'laws.FnExactIsAhead': WHATEVER THE INPUT: true; the input reads as it did. -/
def fnExactIsAheadSpec : ChangeSpec := { name := "fnExactIsAhead", fn := fun _ => fun
  | [d1, d2] => { results := [.lit (.bool true)], args := [d1, d2] }
  | _ => none }
def fnExactIsAheadRow : OpenClaim := { program := "ytbajiamkgffhkaa", sum := "546a4c0946fafc20ba0e3b5d9670d74fdadb54ca189a55d3cb981e36efd66edb", func := "loop.example/g00269/laws.FnExactIsAhead", spec := "fnExactIsAhead", apart := false }
def FnExactIsAheadSaid : Prop := fnExactIsAheadRow.holds Try.pinned (OpenSpec.ofChange fnExactIsAheadSpec)

/-- ITS FALSE NEIGHBOUR: 'it returns false'. Refute it at one input. -/
def fnExactIsAheadWrong : ChangeSpec := { name := "fnExactIsAhead", fn := fun _ => fun
  | [d1, d2] => { results := [.lit (.bool false)], args := [d1, d2] }
  | _ => none }
def FnExactIsAheadWrongFalsely : Prop := fnExactIsAheadRow.holds Try.pinned (OpenSpec.ofChange fnExactIsAheadWrong)

/-- 'laws.FnExactNewerOf': WHATEVER THE INPUT: true; the input reads as it did. -/
def fnExactNewerOfSpec : ChangeSpec := { name := "fnExactNewerOf", fn := fun _ => fun
  | [d1, d2] => { results := [.lit (.bool true)], args := [d1, d2] }
  | _ => none }
def fnExactNewerOfRow : OpenClaim := { program := "ytbajiamkgffhkaa", sum := "546a4c0946fafc20ba0e3b5d9670d74fdadb54ca189a55d3cb981e36efd66edb", func := "loop.example/g00269/laws.FnExactNewerOf", spec := "fnExactNewerOf", apart := false }
def FnExactNewerOfSaid : Prop := fnExactNewerOfRow.holds Try.pinned (OpenSpec.ofChange fnExactNewerOfSpec)

/-- ITS FALSE NEIGHBOUR: 'it returns false'. Refute it at one input. -/
def fnExactNewerOfWrong : ChangeSpec := { name := "fnExactNewerOf", fn := fun _ => fun
  | [d1, d2] => { results := [.lit (.bool false)], args := [d1, d2] }
  | _ => none }
def FnExactNewerOfWrongFalsely : Prop := fnExactNewerOfRow.holds Try.pinned (OpenSpec.ofChange fnExactNewerOfWrong)

/-- 'laws.FnPart': WHATEVER THE INPUT: true; the input reads as it did. -/
def fnPartSpec : ChangeSpec := { name := "fnPart", fn := fun _ => fun
  | [d] => { results := [.lit (.bool true)], args := [d] }
  | _ => none }
def fnPartRow : OpenClaim := { program := "ytbajiamkgffhkaa", sum := "546a4c0946fafc20ba0e3b5d9670d74fdadb54ca189a55d3cb981e36efd66edb", func := "loop.example/g00269/laws.FnPart", spec := "fnPart", apart := false }
def FnPartSaid : Prop := fnPartRow.holds Try.pinned (OpenSpec.ofChange fnPartSpec)

/-- ITS FALSE NEIGHBOUR: 'it returns false'. Refute it at one input. -/
def fnPartWrong : ChangeSpec := { name := "fnPart", fn := fun _ => fun
  | [d] => { results := [.lit (.bool false)], args := [d] }
  | _ => none }
def FnPartWrongFalsely : Prop := fnPartRow.holds Try.pinned (OpenSpec.ofChange fnPartWrong)

/- THE SECOND FORM. 'bulk': how many values and letters a reading holds, each counted each time it is reached (what is shared counts as often as it is met; a slice's spare places count too). A statement '..UptoSaid' is the law's where the arguments, and the package variables that the reading takes, are together of bulk at most 1048576: NARROWER than '..Said'. Prove '..Said' where nothing that the law and all that it calls make is longer than what came in: it says more and counts as full. Else prove '..UptoSaid'. A law counts once. -/
mutual
def uptoBulk {H : Type} : DataW H → Nat
  | .lit (.string bytes) => bytes.length + 1
  | .lit _ => 1
  | .nil => 1
  | .ptr d => uptoBulk d + 1
  | .slice elems spare => uptoBulkAll elems + uptoBulkAll spare + 1
  | .agg parts => uptoBulkAll parts + 1
  | .iface _ d => uptoBulk d + 1
  | .map entries => uptoBulkEntries entries + 1
  | .held _ => 1
def uptoBulkAll {H : Type} : List (DataW H) → Nat
  | [] => 0
  | d :: r => uptoBulk d + uptoBulkAll r
def uptoBulkEntries {H : Type} : List (Lit × DataW H) → Nat
  | [] => 0
  | x :: r => uptoBulkEntry x + uptoBulkEntries r
def uptoBulkEntry {H : Type} : Lit × DataW H → Nat
  | (.string bytes, d) => bytes.length + uptoBulk d + 1
  | (_, d) => uptoBulk d + 1
 end
def uptoSmall : (H : Type) → List (DataW H) → Bool := fun _ ds => decide (uptoBulkAll ds ≤ 1048576)
def OpenSpec.upto (s : _root_.Go.ChangeSpec) : _root_.Go.OpenSpec := { _root_.Go.OpenSpec.ofChange s with cond := some uptoSmall }

/-- 'laws.FnExactGoodItems', WHERE WHAT IT READS IS OF BULK AT MOST 1048576: true; the input reads as it did. -/
def fnExactGoodItemsUptoRow : OpenClaim := { program := "ytbajiamkgffhkaa", sum := "546a4c0946fafc20ba0e3b5d9670d74fdadb54ca189a55d3cb981e36efd66edb", func := "loop.example/g00269/laws.FnExactGoodItems", spec := "fnExactGoodItems", apart := false, narrowed := true }
def FnExactGoodItemsUptoSaid : Prop := fnExactGoodItemsUptoRow.holds Try.pinned (OpenSpec.upto fnExactGoodItemsSpec)

/-- 'laws.FnExactVersionAt', WHERE WHAT IT READS IS OF BULK AT MOST 1048576: true; the input reads as it did. -/
def fnExactVersionAtUptoRow : OpenClaim := { program := "ytbajiamkgffhkaa", sum := "546a4c0946fafc20ba0e3b5d9670d74fdadb54ca189a55d3cb981e36efd66edb", func := "loop.example/g00269/laws.FnExactVersionAt", spec := "fnExactVersionAt", apart := false, narrowed := true }
def FnExactVersionAtUptoSaid : Prop := fnExactVersionAtUptoRow.holds Try.pinned (OpenSpec.upto fnExactVersionAtSpec)

/-- 'laws.FnExactLastOf', WHERE WHAT IT READS IS OF BULK AT MOST 1048576: true; the input reads as it did. -/
def fnExactLastOfUptoRow : OpenClaim := { program := "ytbajiamkgffhkaa", sum := "546a4c0946fafc20ba0e3b5d9670d74fdadb54ca189a55d3cb981e36efd66edb", func := "loop.example/g00269/laws.FnExactLastOf", spec := "fnExactLastOf", apart := false, narrowed := true }
def FnExactLastOfUptoSaid : Prop := fnExactLastOfUptoRow.holds Try.pinned (OpenSpec.upto fnExactLastOfSpec)

/-- 'laws.FnExactAppendItem', WHERE WHAT IT READS IS OF BULK AT MOST 1048576: true; the input reads as it did. -/
def fnExactAppendItemUptoRow : OpenClaim := { program := "ytbajiamkgffhkaa", sum := "546a4c0946fafc20ba0e3b5d9670d74fdadb54ca189a55d3cb981e36efd66edb", func := "loop.example/g00269/laws.FnExactAppendItem", spec := "fnExactAppendItem", apart := false, narrowed := true }
def FnExactAppendItemUptoSaid : Prop := fnExactAppendItemUptoRow.holds Try.pinned (OpenSpec.upto fnExactAppendItemSpec)

/-- 'laws.FnExactLcaOf', WHERE WHAT IT READS IS OF BULK AT MOST 1048576: true; the input reads as it did. -/
def fnExactLcaOfUptoRow : OpenClaim := { program := "ytbajiamkgffhkaa", sum := "546a4c0946fafc20ba0e3b5d9670d74fdadb54ca189a55d3cb981e36efd66edb", func := "loop.example/g00269/laws.FnExactLcaOf", spec := "fnExactLcaOf", apart := false, narrowed := true }
def FnExactLcaOfUptoSaid : Prop := fnExactLcaOfUptoRow.holds Try.pinned (OpenSpec.upto fnExactLcaOfSpec)

/-- 'laws.FnExactCutItems', WHERE WHAT IT READS IS OF BULK AT MOST 1048576: true; the input reads as it did. -/
def fnExactCutItemsUptoRow : OpenClaim := { program := "ytbajiamkgffhkaa", sum := "546a4c0946fafc20ba0e3b5d9670d74fdadb54ca189a55d3cb981e36efd66edb", func := "loop.example/g00269/laws.FnExactCutItems", spec := "fnExactCutItems", apart := false, narrowed := true }
def FnExactCutItemsUptoSaid : Prop := fnExactCutItemsUptoRow.holds Try.pinned (OpenSpec.upto fnExactCutItemsSpec)

/-- 'laws.FnExactIsAhead', WHERE WHAT IT READS IS OF BULK AT MOST 1048576: true; the input reads as it did. -/
def fnExactIsAheadUptoRow : OpenClaim := { program := "ytbajiamkgffhkaa", sum := "546a4c0946fafc20ba0e3b5d9670d74fdadb54ca189a55d3cb981e36efd66edb", func := "loop.example/g00269/laws.FnExactIsAhead", spec := "fnExactIsAhead", apart := false, narrowed := true }
def FnExactIsAheadUptoSaid : Prop := fnExactIsAheadUptoRow.holds Try.pinned (OpenSpec.upto fnExactIsAheadSpec)

/-- 'laws.FnExactNewerOf', WHERE WHAT IT READS IS OF BULK AT MOST 1048576: true; the input reads as it did. -/
def fnExactNewerOfUptoRow : OpenClaim := { program := "ytbajiamkgffhkaa", sum := "546a4c0946fafc20ba0e3b5d9670d74fdadb54ca189a55d3cb981e36efd66edb", func := "loop.example/g00269/laws.FnExactNewerOf", spec := "fnExactNewerOf", apart := false, narrowed := true }
def FnExactNewerOfUptoSaid : Prop := fnExactNewerOfUptoRow.holds Try.pinned (OpenSpec.upto fnExactNewerOfSpec)

/-- 'laws.FnPart', WHERE WHAT IT READS IS OF BULK AT MOST 1048576: true; the input reads as it did. -/
def fnPartUptoRow : OpenClaim := { program := "ytbajiamkgffhkaa", sum := "546a4c0946fafc20ba0e3b5d9670d74fdadb54ca189a55d3cb981e36efd66edb", func := "loop.example/g00269/laws.FnPart", spec := "fnPart", apart := false, narrowed := true }
def FnPartUptoSaid : Prop := fnPartUptoRow.holds Try.pinned (OpenSpec.upto fnPartSpec)

end Rows
end Go.Proofs.Ytbajiamkgffhkaa
