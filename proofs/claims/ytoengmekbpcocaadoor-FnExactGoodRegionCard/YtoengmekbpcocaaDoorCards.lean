/-
  DERIVED. GIVEN WITH THE SEED: THE CARDS: each row of YtoengmekbpcocaaDoorRows.lean that lists a variable, with what it lists TIED to the program's text (the seventh form; the later family's looks); each row that meets fmt, with fmt's text TOLD by the authors' own Lean function (tested against real Go, not proved from fmt's source: count such statements apart). THE CARD IS WHAT COUNTS. Prove the row's statement (the work); the ties are given (YtoengmekbpcocaaDoorTie.lean); close each card by the builder's one call (the guide's Derived/Test/ToyasCard.lean, 'card_holds'). Laid BY PROGRAM, IN A SANDBOX (cutbox-door.mjs). By AI agents, Wed Nov 11 2026. No macro, syntax, notation, axiom, sorry.
-/
import Derived.Test.YtoengmekbpcocaaDoorRows
import GoSem.ClaimSeven
namespace Go.Proofs.YtoengmekbpcocaaDoor
namespace Rows

/-- THE TIED CARD OF 'laws.FnExactCurrentOf'. -/
def fnExactCurrentOfCard : Claim7 := { stood := { row := fnExactCurrentOfRow, standIns := [], harness := (true, "80ad007b86d299d5deddb75fc642d21f03c5b8e228d8f1c6aa5069f5a8b52425"), looks := true }, kinds := [], alts := [], laidByText := true, laidKinds := [.data], laidTests := true, laidLooks := .later }
def FnExactCurrentOfCardSaid : Prop := Claim7.holds Tryd.pinned (.plain (OpenSpec.ofChange fnExactCurrentOfSpec)) fnExactCurrentOfCard

/-- THE TIED CARD OF 'laws.FnExactGoodRegion'. -/
def fnExactGoodRegionCard : Claim7 := { stood := { row := fnExactGoodRegionRow, standIns := [], harness := (true, "80ad007b86d299d5deddb75fc642d21f03c5b8e228d8f1c6aa5069f5a8b52425"), looks := true }, kinds := [], alts := [], laidByText := true, laidKinds := [.data], laidTests := true, laidLooks := .later }
def FnExactGoodRegionCardSaid : Prop := Claim7.holds Tryd.pinned (.plain (OpenSpec.ofChange fnExactGoodRegionSpec)) fnExactGoodRegionCard

/-- THE SECOND FORM's CARD OF 'laws.FnExactCurrentOf'. -/
def fnExactCurrentOfUptoCard : Claim7 := { stood := { row := fnExactCurrentOfUptoRow, standIns := [], harness := (true, "80ad007b86d299d5deddb75fc642d21f03c5b8e228d8f1c6aa5069f5a8b52425"), looks := true }, kinds := [], alts := [], laidByText := true, laidKinds := [.data], laidTests := true, laidLooks := .later }
def FnExactCurrentOfUptoCardSaid : Prop := Claim7.holds Tryd.pinned (.plain (OpenSpec.upto fnExactCurrentOfSpec)) fnExactCurrentOfUptoCard

/-- THE SECOND FORM's CARD OF 'laws.FnExactGoodRegion'. -/
def fnExactGoodRegionUptoCard : Claim7 := { stood := { row := fnExactGoodRegionUptoRow, standIns := [], harness := (true, "80ad007b86d299d5deddb75fc642d21f03c5b8e228d8f1c6aa5069f5a8b52425"), looks := true }, kinds := [], alts := [], laidByText := true, laidKinds := [.data], laidTests := true, laidLooks := .later }
def FnExactGoodRegionUptoCardSaid : Prop := Claim7.holds Tryd.pinned (.plain (OpenSpec.upto fnExactGoodRegionSpec)) fnExactGoodRegionUptoCard
end Rows
end Go.Proofs.YtoengmekbpcocaaDoor
