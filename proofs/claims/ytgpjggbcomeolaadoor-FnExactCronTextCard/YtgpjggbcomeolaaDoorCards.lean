/-
  DERIVED. GIVEN WITH THE SEED: THE CARDS: each row of YtgpjggbcomeolaaDoorRows.lean that lists a variable, with what it lists TIED to the program's text (the seventh form; the later family's looks); each row that meets fmt, with fmt's text TOLD by the authors' own Lean function (tested against real Go, not proved from fmt's source: count such statements apart). THE CARD IS WHAT COUNTS. Prove the row's statement (the work); the ties are given (YtgpjggbcomeolaaDoorTie.lean); close each card by the builder's one call (the guide's Derived/Test/ToyasCard.lean, 'card_holds'). Laid BY PROGRAM, IN A SANDBOX (cutbox-door.mjs). By AI agents, Wed Nov 11 2026. No macro, syntax, notation, axiom, sorry.
-/
import Derived.Test.YtgpjggbcomeolaaDoorRows
import GoSem.ClaimSeven
namespace Go.Proofs.YtgpjggbcomeolaaDoor
namespace Rows

/-- THE TIED CARD OF 'laws.FnExactReadCron'. -/
def fnExactReadCronCard : Claim7 := { stood := { row := fnExactReadCronRow, standIns := [], harness := (true, "f2ba040ecea7b030174afdaafde29643ac144d85b1aee00910349f7480fc0a8b"), looks := true }, kinds := [], alts := [], laidByText := true, laidKinds := [.data, .data, .data, .data, .sentinel, .sentinel, .pinned], laidTests := true, laidLooks := .later }
def FnExactReadCronCardSaid : Prop := Claim7.holds Tryd.pinned (.plain (OpenSpec.ofChange fnExactReadCronSpec)) fnExactReadCronCard

/-- THE TIED CARD OF 'laws.FnExactCronText'. -/
def fnExactCronTextCard : Claim7 := { stood := { row := fnExactCronTextRow, standIns := [], harness := (true, "f2ba040ecea7b030174afdaafde29643ac144d85b1aee00910349f7480fc0a8b"), looks := true }, kinds := [], alts := [], laidByText := true, laidKinds := [.data, .data, .data], laidTests := true, laidLooks := .later }
def FnExactCronTextCardSaid : Prop := Claim7.holds Tryd.pinned (.plain (OpenSpec.ofChange fnExactCronTextSpec)) fnExactCronTextCard

/-- THE SECOND FORM's CARD OF 'laws.FnExactReadCron'. -/
def fnExactReadCronUptoCard : Claim7 := { stood := { row := fnExactReadCronUptoRow, standIns := [], harness := (true, "f2ba040ecea7b030174afdaafde29643ac144d85b1aee00910349f7480fc0a8b"), looks := true }, kinds := [], alts := [], laidByText := true, laidKinds := [.data, .data, .data, .data, .sentinel, .sentinel, .pinned], laidTests := true, laidLooks := .later }
def FnExactReadCronUptoCardSaid : Prop := Claim7.holds Tryd.pinned (.plain (OpenSpec.upto fnExactReadCronSpec)) fnExactReadCronUptoCard

/-- THE SECOND FORM's CARD OF 'laws.FnExactCronText'. -/
def fnExactCronTextUptoCard : Claim7 := { stood := { row := fnExactCronTextUptoRow, standIns := [], harness := (true, "f2ba040ecea7b030174afdaafde29643ac144d85b1aee00910349f7480fc0a8b"), looks := true }, kinds := [], alts := [], laidByText := true, laidKinds := [.data, .data, .data], laidTests := true, laidLooks := .later }
def FnExactCronTextUptoCardSaid : Prop := Claim7.holds Tryd.pinned (.plain (OpenSpec.upto fnExactCronTextSpec)) fnExactCronTextUptoCard
end Rows
end Go.Proofs.YtgpjggbcomeolaaDoor
