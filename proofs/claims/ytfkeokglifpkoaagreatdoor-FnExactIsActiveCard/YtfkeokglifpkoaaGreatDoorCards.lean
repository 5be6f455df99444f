/-
  DERIVED. GIVEN WITH THE SEED: THE CARDS: each row of YtfkeokglifpkoaaGreatDoorRows.lean that lists a variable, with what it lists TIED to the program's text (the seventh form; the later family's looks); each row that meets fmt, with fmt's text TOLD by the authors' own Lean function (tested against real Go, not proved from fmt's source: count such statements apart). THE CARD IS WHAT COUNTS. Prove the row's statement (the work); the ties are given (YtfkeokglifpkoaaGreatDoorTie.lean); close each card by the builder's one call (the guide's Derived/Test/ToyasCard.lean, 'card_holds'). Laid BY PROGRAM, IN A SANDBOX (cutbox-door.mjs). By AI agents, Wed Nov 11 2026. No macro, syntax, notation, axiom, sorry.
-/
import Derived.Test.YtfkeokglifpkoaaGreatDoorRows
import GoSem.ClaimSeven
namespace Go.Proofs.YtfkeokglifpkoaaGreatDoor
namespace Rows

/-- THE TIED CARD OF 'laws.FnExactIsActive'. -/
def fnExactIsActiveCard : Claim7 := { stood := { row := fnExactIsActiveRow, standIns := [], harness := (true, "db5ac4f442c642bbd69f047c27ba966c46b9a8395dc8ffdb557c44382a3f430f"), looks := true }, kinds := [], alts := [], laidByText := true, laidKinds := [.data], laidTests := true, laidLooks := .later }
def FnExactIsActiveCardSaid : Prop := Claim7.holds Tryz.pinned (.plain (OpenSpec.ofChange fnExactIsActiveSpec)) fnExactIsActiveCard

/-- THE TIED CARD OF 'laws.FnExactTakeCall'. -/
def fnExactTakeCallCard : Claim7 := { stood := { row := fnExactTakeCallRow, standIns := [], harness := (true, "db5ac4f442c642bbd69f047c27ba966c46b9a8395dc8ffdb557c44382a3f430f"), looks := true }, kinds := [], alts := [], laidByText := true, laidKinds := [.data], laidTests := true, laidLooks := .later }
def FnExactTakeCallCardSaid : Prop := Claim7.holds Tryz.pinned (.plain (OpenSpec.ofChange fnExactTakeCallSpec)) fnExactTakeCallCard

/-- THE TIED CARD OF 'laws.FnExactTakeLead'. -/
def fnExactTakeLeadCard : Claim7 := { stood := { row := fnExactTakeLeadRow, standIns := [], harness := (true, "db5ac4f442c642bbd69f047c27ba966c46b9a8395dc8ffdb557c44382a3f430f"), looks := true }, kinds := [], alts := [], laidByText := true, laidKinds := [.data], laidTests := true, laidLooks := .later }
def FnExactTakeLeadCardSaid : Prop := Claim7.holds Tryz.pinned (.plain (OpenSpec.ofChange fnExactTakeLeadSpec)) fnExactTakeLeadCard

/-- THE TIED CARD OF 'laws.FnExactWordOf'. -/
def fnExactWordOfCard : Claim7 := { stood := { row := fnExactWordOfRow, standIns := [], harness := (true, "db5ac4f442c642bbd69f047c27ba966c46b9a8395dc8ffdb557c44382a3f430f"), looks := true }, kinds := [], alts := [], laidByText := true, laidKinds := [.data], laidTests := true, laidLooks := .later }
def FnExactWordOfCardSaid : Prop := Claim7.holds Tryz.pinned (.plain (OpenSpec.ofChange fnExactWordOfSpec)) fnExactWordOfCard

/-- THE TIED CARD OF 'laws.FnExactHearWord'. -/
def fnExactHearWordCard : Claim7 := { stood := { row := fnExactHearWordRow, standIns := [], harness := (true, "db5ac4f442c642bbd69f047c27ba966c46b9a8395dc8ffdb557c44382a3f430f"), looks := true }, kinds := [], alts := [], laidByText := true, laidKinds := [.data], laidTests := true, laidLooks := .later }
def FnExactHearWordCardSaid : Prop := Claim7.holds Tryz.pinned (.plain (OpenSpec.ofChange fnExactHearWordSpec)) fnExactHearWordCard

/-- THE TIED CARD OF 'laws.FnExactReapply'. -/
def fnExactReapplyCard : Claim7 := { stood := { row := fnExactReapplyRow, standIns := [], harness := (true, "db5ac4f442c642bbd69f047c27ba966c46b9a8395dc8ffdb557c44382a3f430f"), looks := true }, kinds := [], alts := [], laidByText := true, laidKinds := [.data], laidTests := true, laidLooks := .later }
def FnExactReapplyCardSaid : Prop := Claim7.holds Tryz.pinned (.plain (OpenSpec.ofChange fnExactReapplySpec)) fnExactReapplyCard

/-- THE TIED CARD OF 'laws.FnExactStateOf'. -/
def fnExactStateOfCard : Claim7 := { stood := { row := fnExactStateOfRow, standIns := [], harness := (true, "db5ac4f442c642bbd69f047c27ba966c46b9a8395dc8ffdb557c44382a3f430f"), looks := true }, kinds := [], alts := [], laidByText := true, laidKinds := [.data], laidTests := true, laidLooks := .later }
def FnExactStateOfCardSaid : Prop := Claim7.holds Tryz.pinned (.plain (OpenSpec.ofChange fnExactStateOfSpec)) fnExactStateOfCard

/-- THE TIED CARD OF 'laws.FnCalls'. -/
def fnCallsCard : Claim7 := { stood := { row := fnCallsRow, standIns := [], harness := (true, "db5ac4f442c642bbd69f047c27ba966c46b9a8395dc8ffdb557c44382a3f430f"), looks := true }, kinds := [], alts := [], laidByText := true, laidKinds := [.data], laidTests := true, laidLooks := .later }
def FnCallsCardSaid : Prop := Claim7.holds Tryz.pinned (.plain (OpenSpec.ofChange fnCallsSpec)) fnCallsCard

/-- THE TIED CARD OF 'laws.FnHeard'. -/
def fnHeardCard : Claim7 := { stood := { row := fnHeardRow, standIns := [], harness := (true, "db5ac4f442c642bbd69f047c27ba966c46b9a8395dc8ffdb557c44382a3f430f"), looks := true }, kinds := [], alts := [], laidByText := true, laidKinds := [.data], laidTests := true, laidLooks := .later }
def FnHeardCardSaid : Prop := Claim7.holds Tryz.pinned (.plain (OpenSpec.ofChange fnHeardSpec)) fnHeardCard

/-- THE SECOND FORM's CARD OF 'laws.FnExactIsActive'. -/
def fnExactIsActiveUptoCard : Claim7 := { stood := { row := fnExactIsActiveUptoRow, standIns := [], harness := (true, "db5ac4f442c642bbd69f047c27ba966c46b9a8395dc8ffdb557c44382a3f430f"), looks := true }, kinds := [], alts := [], laidByText := true, laidKinds := [.data], laidTests := true, laidLooks := .later }
def FnExactIsActiveUptoCardSaid : Prop := Claim7.holds Tryz.pinned (.plain (OpenSpec.upto fnExactIsActiveSpec)) fnExactIsActiveUptoCard

/-- THE SECOND FORM's CARD OF 'laws.FnExactTakeCall'. -/
def fnExactTakeCallUptoCard : Claim7 := { stood := { row := fnExactTakeCallUptoRow, standIns := [], harness := (true, "db5ac4f442c642bbd69f047c27ba966c46b9a8395dc8ffdb557c44382a3f430f"), looks := true }, kinds := [], alts := [], laidByText := true, laidKinds := [.data], laidTests := true, laidLooks := .later }
def FnExactTakeCallUptoCardSaid : Prop := Claim7.holds Tryz.pinned (.plain (OpenSpec.upto fnExactTakeCallSpec)) fnExactTakeCallUptoCard

/-- THE SECOND FORM's CARD OF 'laws.FnExactTakeLead'. -/
def fnExactTakeLeadUptoCard : Claim7 := { stood := { row := fnExactTakeLeadUptoRow, standIns := [], harness := (true, "db5ac4f442c642bbd69f047c27ba966c46b9a8395dc8ffdb557c44382a3f430f"), looks := true }, kinds := [], alts := [], laidByText := true, laidKinds := [.data], laidTests := true, laidLooks := .later }
def FnExactTakeLeadUptoCardSaid : Prop := Claim7.holds Tryz.pinned (.plain (OpenSpec.upto fnExactTakeLeadSpec)) fnExactTakeLeadUptoCard

/-- THE SECOND FORM's CARD OF 'laws.FnExactWordOf'. -/
def fnExactWordOfUptoCard : Claim7 := { stood := { row := fnExactWordOfUptoRow, standIns := [], harness := (true, "db5ac4f442c642bbd69f047c27ba966c46b9a8395dc8ffdb557c44382a3f430f"), looks := true }, kinds := [], alts := [], laidByText := true, laidKinds := [.data], laidTests := true, laidLooks := .later }
def FnExactWordOfUptoCardSaid : Prop := Claim7.holds Tryz.pinned (.plain (OpenSpec.upto fnExactWordOfSpec)) fnExactWordOfUptoCard

/-- THE SECOND FORM's CARD OF 'laws.FnExactHearWord'. -/
def fnExactHearWordUptoCard : Claim7 := { stood := { row := fnExactHearWordUptoRow, standIns := [], harness := (true, "db5ac4f442c642bbd69f047c27ba966c46b9a8395dc8ffdb557c44382a3f430f"), looks := true }, kinds := [], alts := [], laidByText := true, laidKinds := [.data], laidTests := true, laidLooks := .later }
def FnExactHearWordUptoCardSaid : Prop := Claim7.holds Tryz.pinned (.plain (OpenSpec.upto fnExactHearWordSpec)) fnExactHearWordUptoCard

/-- THE SECOND FORM's CARD OF 'laws.FnExactReapply'. -/
def fnExactReapplyUptoCard : Claim7 := { stood := { row := fnExactReapplyUptoRow, standIns := [], harness := (true, "db5ac4f442c642bbd69f047c27ba966c46b9a8395dc8ffdb557c44382a3f430f"), looks := true }, kinds := [], alts := [], laidByText := true, laidKinds := [.data], laidTests := true, laidLooks := .later }
def FnExactReapplyUptoCardSaid : Prop := Claim7.holds Tryz.pinned (.plain (OpenSpec.upto fnExactReapplySpec)) fnExactReapplyUptoCard

/-- THE SECOND FORM's CARD OF 'laws.FnExactStateOf'. -/
def fnExactStateOfUptoCard : Claim7 := { stood := { row := fnExactStateOfUptoRow, standIns := [], harness := (true, "db5ac4f442c642bbd69f047c27ba966c46b9a8395dc8ffdb557c44382a3f430f"), looks := true }, kinds := [], alts := [], laidByText := true, laidKinds := [.data], laidTests := true, laidLooks := .later }
def FnExactStateOfUptoCardSaid : Prop := Claim7.holds Tryz.pinned (.plain (OpenSpec.upto fnExactStateOfSpec)) fnExactStateOfUptoCard

/-- THE SECOND FORM's CARD OF 'laws.FnCalls'. -/
def fnCallsUptoCard : Claim7 := { stood := { row := fnCallsUptoRow, standIns := [], harness := (true, "db5ac4f442c642bbd69f047c27ba966c46b9a8395dc8ffdb557c44382a3f430f"), looks := true }, kinds := [], alts := [], laidByText := true, laidKinds := [.data], laidTests := true, laidLooks := .later }
def FnCallsUptoCardSaid : Prop := Claim7.holds Tryz.pinned (.plain (OpenSpec.upto fnCallsSpec)) fnCallsUptoCard

/-- THE SECOND FORM's CARD OF 'laws.FnHeard'. -/
def fnHeardUptoCard : Claim7 := { stood := { row := fnHeardUptoRow, standIns := [], harness := (true, "db5ac4f442c642bbd69f047c27ba966c46b9a8395dc8ffdb557c44382a3f430f"), looks := true }, kinds := [], alts := [], laidByText := true, laidKinds := [.data], laidTests := true, laidLooks := .later }
def FnHeardUptoCardSaid : Prop := Claim7.holds Tryz.pinned (.plain (OpenSpec.upto fnHeardSpec)) fnHeardUptoCard
end Rows
end Go.Proofs.YtfkeokglifpkoaaGreatDoor
