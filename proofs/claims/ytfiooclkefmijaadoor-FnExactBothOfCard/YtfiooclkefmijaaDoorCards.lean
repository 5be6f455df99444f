/-
  DERIVED. GIVEN WITH THE SEED: THE CARDS: each row of YtfiooclkefmijaaDoorRows.lean that lists a variable, with what it lists TIED to the program's text (the seventh form; the later family's looks); each row that meets fmt, with fmt's text TOLD by the authors' own Lean function (tested against real Go, not proved from fmt's source: count such statements apart). THE CARD IS WHAT COUNTS. Prove the row's statement (the work); the ties are given (YtfiooclkefmijaaDoorTie.lean); close each card by the builder's one call (the guide's Derived/Test/ToyasCard.lean, 'card_holds'). Laid BY PROGRAM, IN A SANDBOX (cutbox-door.mjs). By AI agents, Wed Nov 11 2026. No macro, syntax, notation, axiom, sorry.
-/
import Derived.Test.YtfiooclkefmijaaDoorRows
import GoSem.ClaimSeven
namespace Go.Proofs.YtfiooclkefmijaaDoor
namespace Rows

/-- THE TIED CARD OF 'laws.FnExactGoodForm'. -/
def fnExactGoodFormCard : Claim7 := { stood := { row := fnExactGoodFormRow, standIns := [], harness := (true, "51630652dd3897aa54dee64f7388cd805af1bc238e971039d7d20536406ac22f"), looks := false }, kinds := [], alts := [], laidByText := true, laidKinds := [.data], laidTests := true, laidLooks := .later }
def FnExactGoodFormCardSaid : Prop := Claim7.holds Tryd.pinned (.plain (OpenSpec.ofChange fnExactGoodFormSpec)) fnExactGoodFormCard

/-- THE TIED CARD OF 'laws.FnExactTableOf'. -/
def fnExactTableOfCard : Claim7 := { stood := { row := fnExactTableOfRow, standIns := [], harness := (true, "51630652dd3897aa54dee64f7388cd805af1bc238e971039d7d20536406ac22f"), looks := false }, kinds := [], alts := [], laidByText := true, laidKinds := [.data], laidTests := true, laidLooks := .later }
def FnExactTableOfCardSaid : Prop := Claim7.holds Tryd.pinned (.plain (OpenSpec.ofChange fnExactTableOfSpec)) fnExactTableOfCard

/-- THE TIED CARD OF 'laws.FnExactDiagramOf'. -/
def fnExactDiagramOfCard : Claim7 := { stood := { row := fnExactDiagramOfRow, standIns := [], harness := (true, "51630652dd3897aa54dee64f7388cd805af1bc238e971039d7d20536406ac22f"), looks := false }, kinds := [], alts := [], laidByText := true, laidKinds := [.data], laidTests := true, laidLooks := .later }
def FnExactDiagramOfCardSaid : Prop := Claim7.holds Tryd.pinned (.plain (OpenSpec.ofChange fnExactDiagramOfSpec)) fnExactDiagramOfCard

/-- THE TIED CARD OF 'laws.FnExactGoodDiagram'. -/
def fnExactGoodDiagramCard : Claim7 := { stood := { row := fnExactGoodDiagramRow, standIns := [], harness := (true, "51630652dd3897aa54dee64f7388cd805af1bc238e971039d7d20536406ac22f"), looks := false }, kinds := [], alts := [], laidByText := true, laidKinds := [.data], laidTests := true, laidLooks := .later }
def FnExactGoodDiagramCardSaid : Prop := Claim7.holds Tryd.pinned (.plain (OpenSpec.ofChange fnExactGoodDiagramSpec)) fnExactGoodDiagramCard

/-- THE TIED CARD OF 'laws.FnExactDecide'. -/
def fnExactDecideCard : Claim7 := { stood := { row := fnExactDecideRow, standIns := [], harness := (true, "51630652dd3897aa54dee64f7388cd805af1bc238e971039d7d20536406ac22f"), looks := false }, kinds := [], alts := [], laidByText := true, laidKinds := [.data], laidTests := true, laidLooks := .later }
def FnExactDecideCardSaid : Prop := Claim7.holds Tryd.pinned (.plain (OpenSpec.ofChange fnExactDecideSpec)) fnExactDecideCard

/-- THE TIED CARD OF 'laws.FnExactCountYes'. -/
def fnExactCountYesCard : Claim7 := { stood := { row := fnExactCountYesRow, standIns := [], harness := (true, "51630652dd3897aa54dee64f7388cd805af1bc238e971039d7d20536406ac22f"), looks := false }, kinds := [], alts := [], laidByText := true, laidKinds := [.data], laidTests := true, laidLooks := .later }
def FnExactCountYesCardSaid : Prop := Claim7.holds Tryd.pinned (.plain (OpenSpec.ofChange fnExactCountYesSpec)) fnExactCountYesCard

/-- THE TIED CARD OF 'laws.FnExactRestrict'. -/
def fnExactRestrictCard : Claim7 := { stood := { row := fnExactRestrictRow, standIns := [], harness := (true, "51630652dd3897aa54dee64f7388cd805af1bc238e971039d7d20536406ac22f"), looks := false }, kinds := [], alts := [], laidByText := true, laidKinds := [.data], laidTests := true, laidLooks := .later }
def FnExactRestrictCardSaid : Prop := Claim7.holds Tryd.pinned (.plain (OpenSpec.ofChange fnExactRestrictSpec)) fnExactRestrictCard

/-- THE TIED CARD OF 'laws.FnExactBothOf'. -/
def fnExactBothOfCard : Claim7 := { stood := { row := fnExactBothOfRow, standIns := [], harness := (true, "51630652dd3897aa54dee64f7388cd805af1bc238e971039d7d20536406ac22f"), looks := false }, kinds := [], alts := [], laidByText := true, laidKinds := [.data], laidTests := true, laidLooks := .later }
def FnExactBothOfCardSaid : Prop := Claim7.holds Tryd.pinned (.plain (OpenSpec.ofChange fnExactBothOfSpec)) fnExactBothOfCard

/-- THE TIED CARD OF 'laws.FnExactNotOf'. -/
def fnExactNotOfCard : Claim7 := { stood := { row := fnExactNotOfRow, standIns := [], harness := (true, "51630652dd3897aa54dee64f7388cd805af1bc238e971039d7d20536406ac22f"), looks := false }, kinds := [], alts := [], laidByText := true, laidKinds := [.data], laidTests := true, laidLooks := .later }
def FnExactNotOfCardSaid : Prop := Claim7.holds Tryd.pinned (.plain (OpenSpec.ofChange fnExactNotOfSpec)) fnExactNotOfCard

/-- THE SECOND FORM's CARD OF 'laws.FnExactGoodForm'. -/
def fnExactGoodFormUptoCard : Claim7 := { stood := { row := fnExactGoodFormUptoRow, standIns := [], harness := (true, "51630652dd3897aa54dee64f7388cd805af1bc238e971039d7d20536406ac22f"), looks := false }, kinds := [], alts := [], laidByText := true, laidKinds := [.data], laidTests := true, laidLooks := .later }
def FnExactGoodFormUptoCardSaid : Prop := Claim7.holds Tryd.pinned (.plain (OpenSpec.upto fnExactGoodFormSpec)) fnExactGoodFormUptoCard

/-- THE SECOND FORM's CARD OF 'laws.FnExactTableOf'. -/
def fnExactTableOfUptoCard : Claim7 := { stood := { row := fnExactTableOfUptoRow, standIns := [], harness := (true, "51630652dd3897aa54dee64f7388cd805af1bc238e971039d7d20536406ac22f"), looks := false }, kinds := [], alts := [], laidByText := true, laidKinds := [.data], laidTests := true, laidLooks := .later }
def FnExactTableOfUptoCardSaid : Prop := Claim7.holds Tryd.pinned (.plain (OpenSpec.upto fnExactTableOfSpec)) fnExactTableOfUptoCard

/-- THE SECOND FORM's CARD OF 'laws.FnExactDiagramOf'. -/
def fnExactDiagramOfUptoCard : Claim7 := { stood := { row := fnExactDiagramOfUptoRow, standIns := [], harness := (true, "51630652dd3897aa54dee64f7388cd805af1bc238e971039d7d20536406ac22f"), looks := false }, kinds := [], alts := [], laidByText := true, laidKinds := [.data], laidTests := true, laidLooks := .later }
def FnExactDiagramOfUptoCardSaid : Prop := Claim7.holds Tryd.pinned (.plain (OpenSpec.upto fnExactDiagramOfSpec)) fnExactDiagramOfUptoCard

/-- THE SECOND FORM's CARD OF 'laws.FnExactGoodDiagram'. -/
def fnExactGoodDiagramUptoCard : Claim7 := { stood := { row := fnExactGoodDiagramUptoRow, standIns := [], harness := (true, "51630652dd3897aa54dee64f7388cd805af1bc238e971039d7d20536406ac22f"), looks := false }, kinds := [], alts := [], laidByText := true, laidKinds := [.data], laidTests := true, laidLooks := .later }
def FnExactGoodDiagramUptoCardSaid : Prop := Claim7.holds Tryd.pinned (.plain (OpenSpec.upto fnExactGoodDiagramSpec)) fnExactGoodDiagramUptoCard

/-- THE SECOND FORM's CARD OF 'laws.FnExactDecide'. -/
def fnExactDecideUptoCard : Claim7 := { stood := { row := fnExactDecideUptoRow, standIns := [], harness := (true, "51630652dd3897aa54dee64f7388cd805af1bc238e971039d7d20536406ac22f"), looks := false }, kinds := [], alts := [], laidByText := true, laidKinds := [.data], laidTests := true, laidLooks := .later }
def FnExactDecideUptoCardSaid : Prop := Claim7.holds Tryd.pinned (.plain (OpenSpec.upto fnExactDecideSpec)) fnExactDecideUptoCard

/-- THE SECOND FORM's CARD OF 'laws.FnExactCountYes'. -/
def fnExactCountYesUptoCard : Claim7 := { stood := { row := fnExactCountYesUptoRow, standIns := [], harness := (true, "51630652dd3897aa54dee64f7388cd805af1bc238e971039d7d20536406ac22f"), looks := false }, kinds := [], alts := [], laidByText := true, laidKinds := [.data], laidTests := true, laidLooks := .later }
def FnExactCountYesUptoCardSaid : Prop := Claim7.holds Tryd.pinned (.plain (OpenSpec.upto fnExactCountYesSpec)) fnExactCountYesUptoCard

/-- THE SECOND FORM's CARD OF 'laws.FnExactRestrict'. -/
def fnExactRestrictUptoCard : Claim7 := { stood := { row := fnExactRestrictUptoRow, standIns := [], harness := (true, "51630652dd3897aa54dee64f7388cd805af1bc238e971039d7d20536406ac22f"), looks := false }, kinds := [], alts := [], laidByText := true, laidKinds := [.data], laidTests := true, laidLooks := .later }
def FnExactRestrictUptoCardSaid : Prop := Claim7.holds Tryd.pinned (.plain (OpenSpec.upto fnExactRestrictSpec)) fnExactRestrictUptoCard

/-- THE SECOND FORM's CARD OF 'laws.FnExactBothOf'. -/
def fnExactBothOfUptoCard : Claim7 := { stood := { row := fnExactBothOfUptoRow, standIns := [], harness := (true, "51630652dd3897aa54dee64f7388cd805af1bc238e971039d7d20536406ac22f"), looks := false }, kinds := [], alts := [], laidByText := true, laidKinds := [.data], laidTests := true, laidLooks := .later }
def FnExactBothOfUptoCardSaid : Prop := Claim7.holds Tryd.pinned (.plain (OpenSpec.upto fnExactBothOfSpec)) fnExactBothOfUptoCard

/-- THE SECOND FORM's CARD OF 'laws.FnExactNotOf'. -/
def fnExactNotOfUptoCard : Claim7 := { stood := { row := fnExactNotOfUptoRow, standIns := [], harness := (true, "51630652dd3897aa54dee64f7388cd805af1bc238e971039d7d20536406ac22f"), looks := false }, kinds := [], alts := [], laidByText := true, laidKinds := [.data], laidTests := true, laidLooks := .later }
def FnExactNotOfUptoCardSaid : Prop := Claim7.holds Tryd.pinned (.plain (OpenSpec.upto fnExactNotOfSpec)) fnExactNotOfUptoCard
end Rows
end Go.Proofs.YtfiooclkefmijaaDoor
