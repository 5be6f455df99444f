/-
  No cell of these rows narrows 'for every input' (looked for: loops, veiled, ifaces, maps, wideKeys, modest, calm, conditions, laid).
  DERIVED. THE GIVEN ROWS OF THIS SEAT. 10 by the template 'for every input the law returns true; each argument reads behind the call as it read before'; 0 by the template 'total and deterministic' (their statements: YtgccoognklolbaaTotals.lean).
  GIVEN WITH THE SEED: the statements are not yours to turn. If you find one false, say at which input.
  Laid BY PROGRAM, IN A SANDBOX (cutbox-rows.mjs): the forced cells as the released guide's own fill.sh prints them over the translation a0da309c147d7409… (all of the seat's roots in one cut). By AI agents, Wed Nov 11 2026. No macro, syntax, notation, axiom, sorry.
-/
import Derived.Test.YtgccoognklolbaaChecked
import GoSem.Claim
import GoSem.ClaimJoined
import GoSem.ClaimMapViews
import Derived.JoinedTies
import Derived.KernelRfl
namespace Go.Proofs.Ytgccoognklolbaa
/- THE CELL 'sum', in the pinned program and in every row, IS THE sha256 OF THE DUMP (.gsa) THAT YtgccoognklolbaaProg.lean LOADS. Nothing in Lean hashes anything: it is a label: what it is worth is what the hold of that sum in a sandbox is worth. -/
noncomputable def Try.pinned : Pinned := { name := "ytgccoognklolbaa", sum := "a0da309c147d740901ebe9e28ce9ca89743e47697e7c6c1d0aedcc6f53e747ef", checked := Try.checked }
namespace Rows
def none {H : Type} : Left H := { results := [], args := [] }

/-- 'laws.FnExactRegionOf': WHATEVER THE INPUT: true; the input reads as it did. -/
def fnExactRegionOfSpec : ChangeSpec := { name := "fnExactRegionOf", fn := fun _ => fun
  | [d] => { results := [.lit (.bool true)], args := [d] }
  | _ => none }
def fnExactRegionOfRow : OpenClaim := { program := "ytgccoognklolbaa", sum := "a0da309c147d740901ebe9e28ce9ca89743e47697e7c6c1d0aedcc6f53e747ef", func := "loop.example/g00269/laws.FnExactRegionOf", spec := "fnExactRegionOf", apart := false }
def FnExactRegionOfSaid : Prop := fnExactRegionOfRow.holds Try.pinned (OpenSpec.ofChange fnExactRegionOfSpec)

/-- ITS FALSE NEIGHBOUR: 'it returns false'. Refute it at one input. -/
def fnExactRegionOfWrong : ChangeSpec := { name := "fnExactRegionOf", fn := fun _ => fun
  | [d] => { results := [.lit (.bool false)], args := [d] }
  | _ => none }
def FnExactRegionOfWrongFalsely : Prop := fnExactRegionOfRow.holds Try.pinned (OpenSpec.ofChange fnExactRegionOfWrong)

/-- 'laws.FnExactNextVersion': WHATEVER THE INPUT: true; the input reads as it did. -/
def fnExactNextVersionSpec : ChangeSpec := { name := "fnExactNextVersion", fn := fun _ => fun
  | [d1, d2] => { results := [.lit (.bool true)], args := [d1, d2] }
  | _ => none }
def fnExactNextVersionRow : OpenClaim := { program := "ytgccoognklolbaa", sum := "a0da309c147d740901ebe9e28ce9ca89743e47697e7c6c1d0aedcc6f53e747ef", func := "loop.example/g00269/laws.FnExactNextVersion", spec := "fnExactNextVersion", apart := false }
def FnExactNextVersionSaid : Prop := fnExactNextVersionRow.holds Try.pinned (OpenSpec.ofChange fnExactNextVersionSpec)

/-- ITS FALSE NEIGHBOUR: 'it returns false'. Refute it at one input. -/
def fnExactNextVersionWrong : ChangeSpec := { name := "fnExactNextVersion", fn := fun _ => fun
  | [d1, d2] => { results := [.lit (.bool false)], args := [d1, d2] }
  | _ => none }
def FnExactNextVersionWrongFalsely : Prop := fnExactNextVersionRow.holds Try.pinned (OpenSpec.ofChange fnExactNextVersionWrong)

/-- 'laws.FnExactIsGraceful': WHATEVER THE INPUT: true; the input reads as it did. -/
def fnExactIsGracefulSpec : ChangeSpec := { name := "fnExactIsGraceful", fn := fun _ => fun
  | [d1, d2] => { results := [.lit (.bool true)], args := [d1, d2] }
  | _ => none }
def fnExactIsGracefulRow : OpenClaim := { program := "ytgccoognklolbaa", sum := "a0da309c147d740901ebe9e28ce9ca89743e47697e7c6c1d0aedcc6f53e747ef", func := "loop.example/g00269/laws.FnExactIsGraceful", spec := "fnExactIsGraceful", apart := false }
def FnExactIsGracefulSaid : Prop := fnExactIsGracefulRow.holds Try.pinned (OpenSpec.ofChange fnExactIsGracefulSpec)

/-- ITS FALSE NEIGHBOUR: 'it returns false'. Refute it at one input. -/
def fnExactIsGracefulWrong : ChangeSpec := { name := "fnExactIsGraceful", fn := fun _ => fun
  | [d1, d2] => { results := [.lit (.bool false)], args := [d1, d2] }
  | _ => none }
def FnExactIsGracefulWrongFalsely : Prop := fnExactIsGracefulRow.holds Try.pinned (OpenSpec.ofChange fnExactIsGracefulWrong)

/-- 'laws.FnExactGoodDomains': WHATEVER THE INPUT: true; the input reads as it did. -/
def fnExactGoodDomainsSpec : ChangeSpec := { name := "fnExactGoodDomains", fn := fun _ => fun
  | [d] => { results := [.lit (.bool true)], args := [d] }
  | _ => none }
def fnExactGoodDomainsRow : OpenClaim := { program := "ytgccoognklolbaa", sum := "a0da309c147d740901ebe9e28ce9ca89743e47697e7c6c1d0aedcc6f53e747ef", func := "loop.example/g00269/laws.FnExactGoodDomains", spec := "fnExactGoodDomains", apart := false }
def FnExactGoodDomainsSaid : Prop := fnExactGoodDomainsRow.holds Try.pinned (OpenSpec.ofChange fnExactGoodDomainsSpec)

/-- ITS FALSE NEIGHBOUR: 'it returns false'. Refute it at one input. -/
def fnExactGoodDomainsWrong : ChangeSpec := { name := "fnExactGoodDomains", fn := fun _ => fun
  | [d] => { results := [.lit (.bool false)], args := [d] }
  | _ => none }
def FnExactGoodDomainsWrongFalsely : Prop := fnExactGoodDomainsRow.holds Try.pinned (OpenSpec.ofChange fnExactGoodDomainsWrong)

/-- 'laws.FnExactFailOver': WHATEVER THE INPUT: true; the input reads as it did. -/
def fnExactFailOverSpec : ChangeSpec := { name := "fnExactFailOver", fn := fun _ => fun
  | [d1, d2, d3] => { results := [.lit (.bool true)], args := [d1, d2, d3] }
  | _ => none }
def fnExactFailOverRow : OpenClaim := { program := "ytgccoognklolbaa", sum := "a0da309c147d740901ebe9e28ce9ca89743e47697e7c6c1d0aedcc6f53e747ef", func := "loop.example/g00269/laws.FnExactFailOver", spec := "fnExactFailOver", inPlace := ["internal/bytealg.abigen_runtime_cmpstring", "slices.overlaps[loop.example/g00269/impl.Domain]"], unfollowed := true, recurses := true, apart := false }
def FnExactFailOverSaid : Prop := fnExactFailOverRow.holds Try.pinned (OpenSpec.ofChange fnExactFailOverSpec)

/-- ITS FALSE NEIGHBOUR: 'it returns false'. Refute it at one input. -/
def fnExactFailOverWrong : ChangeSpec := { name := "fnExactFailOver", fn := fun _ => fun
  | [d1, d2, d3] => { results := [.lit (.bool false)], args := [d1, d2, d3] }
  | _ => none }
def FnExactFailOverWrongFalsely : Prop := fnExactFailOverRow.holds Try.pinned (OpenSpec.ofChange fnExactFailOverWrong)

/-- 'laws.FnExactMergeDomains': WHATEVER THE INPUT: true; the input reads as it did. -/
def fnExactMergeDomainsSpec : ChangeSpec := { name := "fnExactMergeDomains", fn := fun _ => fun
  | [d1, d2] => { results := [.lit (.bool true)], args := [d1, d2] }
  | _ => none }
def fnExactMergeDomainsRow : OpenClaim := { program := "ytgccoognklolbaa", sum := "a0da309c147d740901ebe9e28ce9ca89743e47697e7c6c1d0aedcc6f53e747ef", func := "loop.example/g00269/laws.FnExactMergeDomains", spec := "fnExactMergeDomains", inPlace := ["internal/bytealg.abigen_runtime_cmpstring", "slices.overlaps[loop.example/g00269/impl.Domain]"], unfollowed := true, recurses := true, apart := false }
def FnExactMergeDomainsSaid : Prop := fnExactMergeDomainsRow.holds Try.pinned (OpenSpec.ofChange fnExactMergeDomainsSpec)

/-- ITS FALSE NEIGHBOUR: 'it returns false'. Refute it at one input. -/
def fnExactMergeDomainsWrong : ChangeSpec := { name := "fnExactMergeDomains", fn := fun _ => fun
  | [d1, d2] => { results := [.lit (.bool false)], args := [d1, d2] }
  | _ => none }
def FnExactMergeDomainsWrongFalsely : Prop := fnExactMergeDomainsRow.holds Try.pinned (OpenSpec.ofChange fnExactMergeDomainsWrong)

/-- 'laws.FnExactLeaderOf': WHATEVER THE INPUT: true; the input reads as it did. -/
def fnExactLeaderOfSpec : ChangeSpec := { name := "fnExactLeaderOf", fn := fun _ => fun
  | [d1, d2] => { results := [.lit (.bool true)], args := [d1, d2] }
  | _ => none }
def fnExactLeaderOfRow : OpenClaim := { program := "ytgccoognklolbaa", sum := "a0da309c147d740901ebe9e28ce9ca89743e47697e7c6c1d0aedcc6f53e747ef", func := "loop.example/g00269/laws.FnExactLeaderOf", spec := "fnExactLeaderOf", inPlace := ["internal/bytealg.abigen_runtime_cmpstring"], unfollowed := true, recurses := true, apart := false }
def FnExactLeaderOfSaid : Prop := fnExactLeaderOfRow.holds Try.pinned (OpenSpec.ofChange fnExactLeaderOfSpec)

/-- ITS FALSE NEIGHBOUR: 'it returns false'. Refute it at one input. -/
def fnExactLeaderOfWrong : ChangeSpec := { name := "fnExactLeaderOf", fn := fun _ => fun
  | [d1, d2] => { results := [.lit (.bool false)], args := [d1, d2] }
  | _ => none }
def FnExactLeaderOfWrongFalsely : Prop := fnExactLeaderOfRow.holds Try.pinned (OpenSpec.ofChange fnExactLeaderOfWrong)

/-- 'laws.FnExactKnowsAll': WHATEVER THE INPUT: true; the input reads as it did. -/
def fnExactKnowsAllSpec : ChangeSpec := { name := "fnExactKnowsAll", fn := fun _ => fun
  | [d1, d2] => { results := [.lit (.bool true)], args := [d1, d2] }
  | _ => none }
def fnExactKnowsAllRow : OpenClaim := { program := "ytgccoognklolbaa", sum := "a0da309c147d740901ebe9e28ce9ca89743e47697e7c6c1d0aedcc6f53e747ef", func := "loop.example/g00269/laws.FnExactKnowsAll", spec := "fnExactKnowsAll", inPlace := ["internal/bytealg.abigen_runtime_cmpstring", "slices.overlaps[loop.example/g00269/impl.Domain]"], unfollowed := true, recurses := true, apart := false }
def FnExactKnowsAllSaid : Prop := fnExactKnowsAllRow.holds Try.pinned (OpenSpec.ofChange fnExactKnowsAllSpec)

/-- ITS FALSE NEIGHBOUR: 'it returns false'. Refute it at one input. -/
def fnExactKnowsAllWrong : ChangeSpec := { name := "fnExactKnowsAll", fn := fun _ => fun
  | [d1, d2] => { results := [.lit (.bool false)], args := [d1, d2] }
  | _ => none }
def FnExactKnowsAllWrongFalsely : Prop := fnExactKnowsAllRow.holds Try.pinned (OpenSpec.ofChange fnExactKnowsAllWrong)

/-- 'laws.FnVersions': WHATEVER THE INPUT: true; the input reads as it did. -/
def fnVersionsSpec : ChangeSpec := { name := "fnVersions", fn := fun _ => fun
  | [d1, d2] => { results := [.lit (.bool true)], args := [d1, d2] }
  | _ => none }
def fnVersionsRow : OpenClaim := { program := "ytgccoognklolbaa", sum := "a0da309c147d740901ebe9e28ce9ca89743e47697e7c6c1d0aedcc6f53e747ef", func := "loop.example/g00269/laws.FnVersions", spec := "fnVersions", apart := false }
def FnVersionsSaid : Prop := fnVersionsRow.holds Try.pinned (OpenSpec.ofChange fnVersionsSpec)

/-- ITS FALSE NEIGHBOUR: 'it returns false'. Refute it at one input. -/
def fnVersionsWrong : ChangeSpec := { name := "fnVersions", fn := fun _ => fun
  | [d1, d2] => { results := [.lit (.bool false)], args := [d1, d2] }
  | _ => none }
def FnVersionsWrongFalsely : Prop := fnVersionsRow.holds Try.pinned (OpenSpec.ofChange fnVersionsWrong)

/-- 'laws.FnDomains': WHATEVER THE INPUT: true; the input reads as it did. -/
def fnDomainsSpec : ChangeSpec := { name := "fnDomains", fn := fun _ => fun
  | [d1, d2] => { results := [.lit (.bool true)], args := [d1, d2] }
  | _ => none }
def fnDomainsRow : OpenClaim := { program := "ytgccoognklolbaa", sum := "a0da309c147d740901ebe9e28ce9ca89743e47697e7c6c1d0aedcc6f53e747ef", func := "loop.example/g00269/laws.FnDomains", spec := "fnDomains", inPlace := ["internal/bytealg.abigen_runtime_cmpstring", "slices.overlaps[loop.example/g00269/impl.Domain]"], unfollowed := true, recurses := true, apart := false }
def FnDomainsSaid : Prop := fnDomainsRow.holds Try.pinned (OpenSpec.ofChange fnDomainsSpec)

/-- ITS FALSE NEIGHBOUR: 'it returns false'. Refute it at one input. -/
def fnDomainsWrong : ChangeSpec := { name := "fnDomains", fn := fun _ => fun
  | [d1, d2] => { results := [.lit (.bool false)], args := [d1, d2] }
  | _ => none }
def FnDomainsWrongFalsely : Prop := fnDomainsRow.holds Try.pinned (OpenSpec.ofChange fnDomainsWrong)

/- THE SECOND FORM. 'bulk': how many values and letters a reading holds, each counted each time it is reached (what is shared counts as often as it is met; a slice's spare places count too). A statement '..UptoSaid' is the law's where the arguments, and the package variables that the reading takes, are together of bulk at most 1048576: NARROWER than '..Said'. Prove '..Said' where nothing that the law and all that it calls make is longer than what came in: it says more and counts as full. Else prove '..UptoSaid'. A law counts once. -/
mutual
def uptoBulk {H : Type} : DataW H → Nat
  | .lit (.string bytes) => bytes.length + 1
  | .lit _ => 1
  | .nil => 1
  | .ptr d => uptoBulk d + 1
  | .slice elems spare => uptoBulkAll elems + uptoBulkAll spare + 1
  | .agg parts => uptoBulkAll parts + 1
  | .iface _ d => uptoBulk d + 1
  | .map entries => uptoBulkEntries entries + 1
  | .held _ => 1
def uptoBulkAll {H : Type} : List (DataW H) → Nat
  | [] => 0
  | d :: r => uptoBulk d + uptoBulkAll r
def uptoBulkEntries {H : Type} : List (Lit × DataW H) → Nat
  | [] => 0
  | x :: r => uptoBulkEntry x + uptoBulkEntries r
def uptoBulkEntry {H : Type} : Lit × DataW H → Nat
  | (.string bytes, d) => bytes.length + uptoBulk d + 1
  | (_, d) => uptoBulk d + 1
 end
def uptoSmall : (H : Type) → List (DataW H) → Bool := fun _ ds => decide (uptoBulkAll ds ≤ 1048576)
def OpenSpec.upto (s : _root_.Go.ChangeSpec) : _root_.Go.OpenSpec := { _root_.Go.OpenSpec.ofChange s with cond := some uptoSmall }

/-- 'laws.FnExactRegionOf', WHERE WHAT IT READS IS OF BULK AT MOST 1048576: true; the input reads as it did. -/
def fnExactRegionOfUptoRow : OpenClaim := { program := "ytgccoognklolbaa", sum := "a0da309c147d740901ebe9e28ce9ca89743e47697e7c6c1d0aedcc6f53e747ef", func := "loop.example/g00269/laws.FnExactRegionOf", spec := "fnExactRegionOf", apart := false, narrowed := true }
def FnExactRegionOfUptoSaid : Prop := fnExactRegionOfUptoRow.holds Try.pinned (OpenSpec.upto fnExactRegionOfSpec)

/-- 'laws.FnExactNextVersion', WHERE WHAT IT READS IS OF BULK AT MOST 1048576: true; the input reads as it did. -/
def fnExactNextVersionUptoRow : OpenClaim := { program := "ytgccoognklolbaa", sum := "a0da309c147d740901ebe9e28ce9ca89743e47697e7c6c1d0aedcc6f53e747ef", func := "loop.example/g00269/laws.FnExactNextVersion", spec := "fnExactNextVersion", apart := false, narrowed := true }
def FnExactNextVersionUptoSaid : Prop := fnExactNextVersionUptoRow.holds Try.pinned (OpenSpec.upto fnExactNextVersionSpec)

/-- 'laws.FnExactIsGraceful', WHERE WHAT IT READS IS OF BULK AT MOST 1048576: true; the input reads as it did. -/
def fnExactIsGracefulUptoRow : OpenClaim := { program := "ytgccoognklolbaa", sum := "a0da309c147d740901ebe9e28ce9ca89743e47697e7c6c1d0aedcc6f53e747ef", func := "loop.example/g00269/laws.FnExactIsGraceful", spec := "fnExactIsGraceful", apart := false, narrowed := true }
def FnExactIsGracefulUptoSaid : Prop := fnExactIsGracefulUptoRow.holds Try.pinned (OpenSpec.upto fnExactIsGracefulSpec)

/-- 'laws.FnExactGoodDomains', WHERE WHAT IT READS IS OF BULK AT MOST 1048576: true; the input reads as it did. -/
def fnExactGoodDomainsUptoRow : OpenClaim := { program := "ytgccoognklolbaa", sum := "a0da309c147d740901ebe9e28ce9ca89743e47697e7c6c1d0aedcc6f53e747ef", func := "loop.example/g00269/laws.FnExactGoodDomains", spec := "fnExactGoodDomains", apart := false, narrowed := true }
def FnExactGoodDomainsUptoSaid : Prop := fnExactGoodDomainsUptoRow.holds Try.pinned (OpenSpec.upto fnExactGoodDomainsSpec)

/-- 'laws.FnExactFailOver', WHERE WHAT IT READS IS OF BULK AT MOST 1048576: true; the input reads as it did. -/
def fnExactFailOverUptoRow : OpenClaim := { program := "ytgccoognklolbaa", sum := "a0da309c147d740901ebe9e28ce9ca89743e47697e7c6c1d0aedcc6f53e747ef", func := "loop.example/g00269/laws.FnExactFailOver", spec := "fnExactFailOver", inPlace := ["internal/bytealg.abigen_runtime_cmpstring", "slices.overlaps[loop.example/g00269/impl.Domain]"], unfollowed := true, recurses := true, apart := false, narrowed := true }
def FnExactFailOverUptoSaid : Prop := fnExactFailOverUptoRow.holds Try.pinned (OpenSpec.upto fnExactFailOverSpec)

/-- 'laws.FnExactMergeDomains', WHERE WHAT IT READS IS OF BULK AT MOST 1048576: true; the input reads as it did. -/
def fnExactMergeDomainsUptoRow : OpenClaim := { program := "ytgccoognklolbaa", sum := "a0da309c147d740901ebe9e28ce9ca89743e47697e7c6c1d0aedcc6f53e747ef", func := "loop.example/g00269/laws.FnExactMergeDomains", spec := "fnExactMergeDomains", inPlace := ["internal/bytealg.abigen_runtime_cmpstring", "slices.overlaps[loop.example/g00269/impl.Domain]"], unfollowed := true, recurses := true, apart := false, narrowed := true }
def FnExactMergeDomainsUptoSaid : Prop := fnExactMergeDomainsUptoRow.holds Try.pinned (OpenSpec.upto fnExactMergeDomainsSpec)

/-- 'laws.FnExactLeaderOf', WHERE WHAT IT READS IS OF BULK AT MOST 1048576: true; the input reads as it did. -/
def fnExactLeaderOfUptoRow : OpenClaim := { program := "ytgccoognklolbaa", sum := "a0da309c147d740901ebe9e28ce9ca89743e47697e7c6c1d0aedcc6f53e747ef", func := "loop.example/g00269/laws.FnExactLeaderOf", spec := "fnExactLeaderOf", inPlace := ["internal/bytealg.abigen_runtime_cmpstring"], unfollowed := true, recurses := true, apart := false, narrowed := true }
def FnExactLeaderOfUptoSaid : Prop := fnExactLeaderOfUptoRow.holds Try.pinned (OpenSpec.upto fnExactLeaderOfSpec)

/-- 'laws.FnExactKnowsAll', WHERE WHAT IT READS IS OF BULK AT MOST 1048576: true; the input reads as it did. -/
def fnExactKnowsAllUptoRow : OpenClaim := { program := "ytgccoognklolbaa", sum := "a0da309c147d740901ebe9e28ce9ca89743e47697e7c6c1d0aedcc6f53e747ef", func := "loop.example/g00269/laws.FnExactKnowsAll", spec := "fnExactKnowsAll", inPlace := ["internal/bytealg.abigen_runtime_cmpstring", "slices.overlaps[loop.example/g00269/impl.Domain]"], unfollowed := true, recurses := true, apart := false, narrowed := true }
def FnExactKnowsAllUptoSaid : Prop := fnExactKnowsAllUptoRow.holds Try.pinned (OpenSpec.upto fnExactKnowsAllSpec)

/-- 'laws.FnVersions', WHERE WHAT IT READS IS OF BULK AT MOST 1048576: true; the input reads as it did. -/
def fnVersionsUptoRow : OpenClaim := { program := "ytgccoognklolbaa", sum := "a0da309c147d740901ebe9e28ce9ca89743e47697e7c6c1d0aedcc6f53e747ef", func := "loop.example/g00269/laws.FnVersions", spec := "fnVersions", apart := false, narrowed := true }
def FnVersionsUptoSaid : Prop := fnVersionsUptoRow.holds Try.pinned (OpenSpec.upto fnVersionsSpec)

/-- 'laws.FnDomains', WHERE WHAT IT READS IS OF BULK AT MOST 1048576: true; the input reads as it did. -/
def fnDomainsUptoRow : OpenClaim := { program := "ytgccoognklolbaa", sum := "a0da309c147d740901ebe9e28ce9ca89743e47697e7c6c1d0aedcc6f53e747ef", func := "loop.example/g00269/laws.FnDomains", spec := "fnDomains", inPlace := ["internal/bytealg.abigen_runtime_cmpstring", "slices.overlaps[loop.example/g00269/impl.Domain]"], unfollowed := true, recurses := true, apart := false, narrowed := true }
def FnDomainsUptoSaid : Prop := fnDomainsUptoRow.holds Try.pinned (OpenSpec.upto fnDomainsSpec)

end Rows
end Go.Proofs.Ytgccoognklolbaa
