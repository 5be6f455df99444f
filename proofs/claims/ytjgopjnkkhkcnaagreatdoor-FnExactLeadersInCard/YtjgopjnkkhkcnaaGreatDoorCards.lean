/-
  DERIVED. GIVEN WITH THE SEED: THE CARDS: each row of YtjgopjnkkhkcnaaGreatDoorRows.lean that lists a variable, with what it lists TIED to the program's text (the seventh form; the later family's looks); each row that meets fmt, with fmt's text TOLD by the authors' own Lean function (tested against real Go, not proved from fmt's source: count such statements apart). THE CARD IS WHAT COUNTS. Prove the row's statement (the work); the ties are given (YtjgopjnkkhkcnaaGreatDoorTie.lean); close each card by the builder's one call (the guide's Derived/Test/ToyasCard.lean, 'card_holds'). Laid BY PROGRAM, IN A SANDBOX (cutbox-door.mjs). By AI agents, Wed Nov 11 2026. No macro, syntax, notation, axiom, sorry.
-/
import Derived.Test.YtjgopjnkkhkcnaaGreatDoorRows
import GoSem.ClaimSeven
namespace Go.Proofs.YtjgopjnkkhkcnaaGreatDoor
namespace Rows

/-- THE TIED CARD OF 'laws.FnExactTakeCall'. -/
def fnExactTakeCallCard : Claim7 := { stood := { row := fnExactTakeCallRow, standIns := [], harness := (true, "05d566cba8f60fcfd62c30a7b4893e405825c659c097eb78d7640401ffac93e6"), looks := true }, kinds := [], alts := [], laidByText := true, laidKinds := [.data], laidTests := true, laidLooks := .later }
def FnExactTakeCallCardSaid : Prop := Claim7.holds Tryz.pinned (.plain (OpenSpec.ofChange fnExactTakeCallSpec)) fnExactTakeCallCard

/-- THE TIED CARD OF 'laws.FnExactTakeLead'. -/
def fnExactTakeLeadCard : Claim7 := { stood := { row := fnExactTakeLeadRow, standIns := [], harness := (true, "05d566cba8f60fcfd62c30a7b4893e405825c659c097eb78d7640401ffac93e6"), looks := true }, kinds := [], alts := [], laidByText := true, laidKinds := [.data], laidTests := true, laidLooks := .later }
def FnExactTakeLeadCardSaid : Prop := Claim7.holds Tryz.pinned (.plain (OpenSpec.ofChange fnExactTakeLeadSpec)) fnExactTakeLeadCard

/-- THE TIED CARD OF 'laws.FnExactWordOf'. -/
def fnExactWordOfCard : Claim7 := { stood := { row := fnExactWordOfRow, standIns := [], harness := (true, "05d566cba8f60fcfd62c30a7b4893e405825c659c097eb78d7640401ffac93e6"), looks := true }, kinds := [], alts := [], laidByText := true, laidKinds := [.data], laidTests := true, laidLooks := .later }
def FnExactWordOfCardSaid : Prop := Claim7.holds Tryz.pinned (.plain (OpenSpec.ofChange fnExactWordOfSpec)) fnExactWordOfCard

/-- THE TIED CARD OF 'laws.FnExactReapply'. -/
def fnExactReapplyCard : Claim7 := { stood := { row := fnExactReapplyRow, standIns := [], harness := (true, "05d566cba8f60fcfd62c30a7b4893e405825c659c097eb78d7640401ffac93e6"), looks := true }, kinds := [], alts := [], laidByText := true, laidKinds := [.data], laidTests := true, laidLooks := .later }
def FnExactReapplyCardSaid : Prop := Claim7.holds Tryz.pinned (.plain (OpenSpec.ofChange fnExactReapplySpec)) fnExactReapplyCard

/-- THE TIED CARD OF 'laws.FnExactGoodWorld'. -/
def fnExactGoodWorldCard : Claim7 := { stood := { row := fnExactGoodWorldRow, standIns := [], harness := (true, "05d566cba8f60fcfd62c30a7b4893e405825c659c097eb78d7640401ffac93e6"), looks := true }, kinds := [], alts := [], laidByText := true, laidKinds := [.data], laidTests := true, laidLooks := .later }
def FnExactGoodWorldCardSaid : Prop := Claim7.holds Tryz.pinned (.plain (OpenSpec.ofChange fnExactGoodWorldSpec)) fnExactGoodWorldCard

/-- THE TIED CARD OF 'laws.FnExactStepWorld'. -/
def fnExactStepWorldCard : Claim7 := { stood := { row := fnExactStepWorldRow, standIns := [], harness := (true, "05d566cba8f60fcfd62c30a7b4893e405825c659c097eb78d7640401ffac93e6"), looks := true }, kinds := [], alts := [], laidByText := true, laidKinds := [.handle, .sentinel, .sentinel, .data], laidTests := true, laidLooks := .later }
def FnExactStepWorldCardSaid : Prop := Claim7.holds Tryz.pinned (.plain (OpenSpec.ofChange fnExactStepWorldSpec)) fnExactStepWorldCard

/-- THE TIED CARD OF 'laws.FnExactPlayWorld'. -/
def fnExactPlayWorldCard : Claim7 := { stood := { row := fnExactPlayWorldRow, standIns := [], harness := (true, "05d566cba8f60fcfd62c30a7b4893e405825c659c097eb78d7640401ffac93e6"), looks := true }, kinds := [], alts := [], laidByText := true, laidKinds := [.handle, .sentinel, .sentinel, .data], laidTests := true, laidLooks := .later }
def FnExactPlayWorldCardSaid : Prop := Claim7.holds Tryz.pinned (.plain (OpenSpec.ofChange fnExactPlayWorldSpec)) fnExactPlayWorldCard

/-- THE TIED CARD OF 'laws.FnExactSettleWorld'. -/
def fnExactSettleWorldCard : Claim7 := { stood := { row := fnExactSettleWorldRow, standIns := [], harness := (true, "05d566cba8f60fcfd62c30a7b4893e405825c659c097eb78d7640401ffac93e6"), looks := true }, kinds := [], alts := [], laidByText := true, laidKinds := [.sentinel, .data], laidTests := true, laidLooks := .later }
def FnExactSettleWorldCardSaid : Prop := Claim7.holds Tryz.pinned (.plain (OpenSpec.ofChange fnExactSettleWorldSpec)) fnExactSettleWorldCard

/-- THE TIED CARD OF 'laws.FnExactSameIn'. -/
def fnExactSameInCard : Claim7 := { stood := { row := fnExactSameInRow, standIns := [], harness := (true, "05d566cba8f60fcfd62c30a7b4893e405825c659c097eb78d7640401ffac93e6"), looks := true }, kinds := [], alts := [], laidByText := true, laidKinds := [.data], laidTests := true, laidLooks := .later }
def FnExactSameInCardSaid : Prop := Claim7.holds Tryz.pinned (.plain (OpenSpec.ofChange fnExactSameInSpec)) fnExactSameInCard

/-- THE TIED CARD OF 'laws.FnExactLeadersIn'. -/
def fnExactLeadersInCard : Claim7 := { stood := { row := fnExactLeadersInRow, standIns := [], harness := (true, "05d566cba8f60fcfd62c30a7b4893e405825c659c097eb78d7640401ffac93e6"), looks := true }, kinds := [], alts := [], laidByText := true, laidKinds := [.data], laidTests := true, laidLooks := .later }
def FnExactLeadersInCardSaid : Prop := Claim7.holds Tryz.pinned (.plain (OpenSpec.ofChange fnExactLeadersInSpec)) fnExactLeadersInCard

/-- THE SECOND FORM's CARD OF 'laws.FnExactTakeCall'. -/
def fnExactTakeCallUptoCard : Claim7 := { stood := { row := fnExactTakeCallUptoRow, standIns := [], harness := (true, "05d566cba8f60fcfd62c30a7b4893e405825c659c097eb78d7640401ffac93e6"), looks := true }, kinds := [], alts := [], laidByText := true, laidKinds := [.data], laidTests := true, laidLooks := .later }
def FnExactTakeCallUptoCardSaid : Prop := Claim7.holds Tryz.pinned (.plain (OpenSpec.upto fnExactTakeCallSpec)) fnExactTakeCallUptoCard

/-- THE SECOND FORM's CARD OF 'laws.FnExactTakeLead'. -/
def fnExactTakeLeadUptoCard : Claim7 := { stood := { row := fnExactTakeLeadUptoRow, standIns := [], harness := (true, "05d566cba8f60fcfd62c30a7b4893e405825c659c097eb78d7640401ffac93e6"), looks := true }, kinds := [], alts := [], laidByText := true, laidKinds := [.data], laidTests := true, laidLooks := .later }
def FnExactTakeLeadUptoCardSaid : Prop := Claim7.holds Tryz.pinned (.plain (OpenSpec.upto fnExactTakeLeadSpec)) fnExactTakeLeadUptoCard

/-- THE SECOND FORM's CARD OF 'laws.FnExactWordOf'. -/
def fnExactWordOfUptoCard : Claim7 := { stood := { row := fnExactWordOfUptoRow, standIns := [], harness := (true, "05d566cba8f60fcfd62c30a7b4893e405825c659c097eb78d7640401ffac93e6"), looks := true }, kinds := [], alts := [], laidByText := true, laidKinds := [.data], laidTests := true, laidLooks := .later }
def FnExactWordOfUptoCardSaid : Prop := Claim7.holds Tryz.pinned (.plain (OpenSpec.upto fnExactWordOfSpec)) fnExactWordOfUptoCard

/-- THE SECOND FORM's CARD OF 'laws.FnExactReapply'. -/
def fnExactReapplyUptoCard : Claim7 := { stood := { row := fnExactReapplyUptoRow, standIns := [], harness := (true, "05d566cba8f60fcfd62c30a7b4893e405825c659c097eb78d7640401ffac93e6"), looks := true }, kinds := [], alts := [], laidByText := true, laidKinds := [.data], laidTests := true, laidLooks := .later }
def FnExactReapplyUptoCardSaid : Prop := Claim7.holds Tryz.pinned (.plain (OpenSpec.upto fnExactReapplySpec)) fnExactReapplyUptoCard

/-- THE SECOND FORM's CARD OF 'laws.FnExactGoodWorld'. -/
def fnExactGoodWorldUptoCard : Claim7 := { stood := { row := fnExactGoodWorldUptoRow, standIns := [], harness := (true, "05d566cba8f60fcfd62c30a7b4893e405825c659c097eb78d7640401ffac93e6"), looks := true }, kinds := [], alts := [], laidByText := true, laidKinds := [.data], laidTests := true, laidLooks := .later }
def FnExactGoodWorldUptoCardSaid : Prop := Claim7.holds Tryz.pinned (.plain (OpenSpec.upto fnExactGoodWorldSpec)) fnExactGoodWorldUptoCard

/-- THE SECOND FORM's CARD OF 'laws.FnExactStepWorld'. -/
def fnExactStepWorldUptoCard : Claim7 := { stood := { row := fnExactStepWorldUptoRow, standIns := [], harness := (true, "05d566cba8f60fcfd62c30a7b4893e405825c659c097eb78d7640401ffac93e6"), looks := true }, kinds := [], alts := [], laidByText := true, laidKinds := [.handle, .sentinel, .sentinel, .data], laidTests := true, laidLooks := .later }
def FnExactStepWorldUptoCardSaid : Prop := Claim7.holds Tryz.pinned (.plain (OpenSpec.upto fnExactStepWorldSpec)) fnExactStepWorldUptoCard

/-- THE SECOND FORM's CARD OF 'laws.FnExactPlayWorld'. -/
def fnExactPlayWorldUptoCard : Claim7 := { stood := { row := fnExactPlayWorldUptoRow, standIns := [], harness := (true, "05d566cba8f60fcfd62c30a7b4893e405825c659c097eb78d7640401ffac93e6"), looks := true }, kinds := [], alts := [], laidByText := true, laidKinds := [.handle, .sentinel, .sentinel, .data], laidTests := true, laidLooks := .later }
def FnExactPlayWorldUptoCardSaid : Prop := Claim7.holds Tryz.pinned (.plain (OpenSpec.upto fnExactPlayWorldSpec)) fnExactPlayWorldUptoCard

/-- THE SECOND FORM's CARD OF 'laws.FnExactSettleWorld'. -/
def fnExactSettleWorldUptoCard : Claim7 := { stood := { row := fnExactSettleWorldUptoRow, standIns := [], harness := (true, "05d566cba8f60fcfd62c30a7b4893e405825c659c097eb78d7640401ffac93e6"), looks := true }, kinds := [], alts := [], laidByText := true, laidKinds := [.sentinel, .data], laidTests := true, laidLooks := .later }
def FnExactSettleWorldUptoCardSaid : Prop := Claim7.holds Tryz.pinned (.plain (OpenSpec.upto fnExactSettleWorldSpec)) fnExactSettleWorldUptoCard

/-- THE SECOND FORM's CARD OF 'laws.FnExactSameIn'. -/
def fnExactSameInUptoCard : Claim7 := { stood := { row := fnExactSameInUptoRow, standIns := [], harness := (true, "05d566cba8f60fcfd62c30a7b4893e405825c659c097eb78d7640401ffac93e6"), looks := true }, kinds := [], alts := [], laidByText := true, laidKinds := [.data], laidTests := true, laidLooks := .later }
def FnExactSameInUptoCardSaid : Prop := Claim7.holds Tryz.pinned (.plain (OpenSpec.upto fnExactSameInSpec)) fnExactSameInUptoCard

/-- THE SECOND FORM's CARD OF 'laws.FnExactLeadersIn'. -/
def fnExactLeadersInUptoCard : Claim7 := { stood := { row := fnExactLeadersInUptoRow, standIns := [], harness := (true, "05d566cba8f60fcfd62c30a7b4893e405825c659c097eb78d7640401ffac93e6"), looks := true }, kinds := [], alts := [], laidByText := true, laidKinds := [.data], laidTests := true, laidLooks := .later }
def FnExactLeadersInUptoCardSaid : Prop := Claim7.holds Tryz.pinned (.plain (OpenSpec.upto fnExactLeadersInSpec)) fnExactLeadersInUptoCard
end Rows
end Go.Proofs.YtjgopjnkkhkcnaaGreatDoor
