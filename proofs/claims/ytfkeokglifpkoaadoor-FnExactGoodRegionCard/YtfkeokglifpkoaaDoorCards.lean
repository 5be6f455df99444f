/-
  DERIVED. GIVEN WITH THE SEED: THE CARDS: each row of YtfkeokglifpkoaaDoorRows.lean that lists a variable, with what it lists TIED to the program's text (the seventh form; the later family's looks); each row that meets fmt, with fmt's text TOLD by the authors' own Lean function (tested against real Go, not proved from fmt's source: count such statements apart). THE CARD IS WHAT COUNTS. Prove the row's statement (the work); the ties are given (YtfkeokglifpkoaaDoorTie.lean); close each card by the builder's one call (the guide's Derived/Test/ToyasCard.lean, 'card_holds'). Laid BY PROGRAM, IN A SANDBOX (cutbox-door.mjs). By AI agents, Wed Nov 11 2026. No macro, syntax, notation, axiom, sorry.
-/
import Derived.Test.YtfkeokglifpkoaaDoorRows
import GoSem.ClaimSeven
namespace Go.Proofs.YtfkeokglifpkoaaDoor
namespace Rows

/-- THE TIED CARD OF 'laws.FnExactGoodRegion'. -/
def fnExactGoodRegionCard : Claim7 := { stood := { row := fnExactGoodRegionRow, standIns := [], harness := (true, "f7413e498722d46c91c66a7150914194ba9835cd94d8640ca2c37ced677170e3"), looks := true }, kinds := [], alts := [], laidByText := true, laidKinds := [.data], laidTests := true, laidLooks := .later }
def FnExactGoodRegionCardSaid : Prop := Claim7.holds Tryd.pinned (.plain (OpenSpec.ofChange fnExactGoodRegionSpec)) fnExactGoodRegionCard

/-- THE SECOND FORM's CARD OF 'laws.FnExactGoodRegion'. -/
def fnExactGoodRegionUptoCard : Claim7 := { stood := { row := fnExactGoodRegionUptoRow, standIns := [], harness := (true, "f7413e498722d46c91c66a7150914194ba9835cd94d8640ca2c37ced677170e3"), looks := true }, kinds := [], alts := [], laidByText := true, laidKinds := [.data], laidTests := true, laidLooks := .later }
def FnExactGoodRegionUptoCardSaid : Prop := Claim7.holds Tryd.pinned (.plain (OpenSpec.upto fnExactGoodRegionSpec)) fnExactGoodRegionUptoCard
end Rows
end Go.Proofs.YtfkeokglifpkoaaDoor
