/-
  DERIVED. GIVEN WITH THE SEED: THE CARDS: each row of YtcbkeabfnldmhaaDoorRows.lean that lists a variable, with what it lists TIED to the program's text (the seventh form; the later family's looks); each row that meets fmt, with fmt's text TOLD by the authors' own Lean function (tested against real Go, not proved from fmt's source: count such statements apart). THE CARD IS WHAT COUNTS. Prove the row's statement (the work); the ties are given (YtcbkeabfnldmhaaDoorTie.lean); close each card by the builder's one call (the guide's Derived/Test/ToyasCard.lean, 'card_holds'). Laid BY PROGRAM, IN A SANDBOX (cutbox-door.mjs). By AI agents, Wed Nov 11 2026. No macro, syntax, notation, axiom, sorry.
-/
import Derived.Test.YtcbkeabfnldmhaaDoorRows
import GoSem.ClaimSeven
namespace Go.Proofs.YtcbkeabfnldmhaaDoor
namespace Rows

/-- THE TIED CARD OF 'laws.FnExactGoodTellings'. -/
def fnExactGoodTellingsCard : Claim7 := { stood := { row := fnExactGoodTellingsRow, standIns := [], harness := (true, "9b72d116d644cfdd2a49ddc97a827c49b869ce836ab7d12c9bfddb0c398cfcd6"), looks := true }, kinds := [], alts := [], laidByText := true, laidKinds := [.data], laidTests := true, laidLooks := .later }
def FnExactGoodTellingsCardSaid : Prop := Claim7.holds Tryd.pinned (.plain (OpenSpec.ofChange fnExactGoodTellingsSpec)) fnExactGoodTellingsCard

/-- THE TIED CARD OF 'laws.FnExactCurrentOf'. -/
def fnExactCurrentOfCard : Claim7 := { stood := { row := fnExactCurrentOfRow, standIns := [], harness := (true, "9b72d116d644cfdd2a49ddc97a827c49b869ce836ab7d12c9bfddb0c398cfcd6"), looks := true }, kinds := [], alts := [], laidByText := true, laidKinds := [.data], laidTests := true, laidLooks := .later }
def FnExactCurrentOfCardSaid : Prop := Claim7.holds Tryd.pinned (.plain (OpenSpec.ofChange fnExactCurrentOfSpec)) fnExactCurrentOfCard

/-- THE TIED CARD OF 'laws.FnExactHasHistory'. -/
def fnExactHasHistoryCard : Claim7 := { stood := { row := fnExactHasHistoryRow, standIns := [], harness := (true, "9b72d116d644cfdd2a49ddc97a827c49b869ce836ab7d12c9bfddb0c398cfcd6"), looks := true }, kinds := [], alts := [], laidByText := true, laidKinds := [.data], laidTests := true, laidLooks := .later }
def FnExactHasHistoryCardSaid : Prop := Claim7.holds Tryd.pinned (.plain (OpenSpec.ofChange fnExactHasHistorySpec)) fnExactHasHistoryCard

/-- THE TIED CARD OF 'laws.FnExactBranchLess'. -/
def fnExactBranchLessCard : Claim7 := { stood := { row := fnExactBranchLessRow, standIns := [], harness := (true, "9b72d116d644cfdd2a49ddc97a827c49b869ce836ab7d12c9bfddb0c398cfcd6"), looks := true }, kinds := [], alts := [], laidByText := true, laidKinds := [.data], laidTests := true, laidLooks := .later }
def FnExactBranchLessCardSaid : Prop := Claim7.holds Tryd.pinned (.plain (OpenSpec.ofChange fnExactBranchLessSpec)) fnExactBranchLessCard

/-- THE TIED CARD OF 'laws.FnExactEventsIn'. -/
def fnExactEventsInCard : Claim7 := { stood := { row := fnExactEventsInRow, standIns := [], harness := (true, "9b72d116d644cfdd2a49ddc97a827c49b869ce836ab7d12c9bfddb0c398cfcd6"), looks := true }, kinds := [], alts := [], laidByText := true, laidKinds := [.data], laidTests := true, laidLooks := .later }
def FnExactEventsInCardSaid : Prop := Claim7.holds Tryd.pinned (.plain (OpenSpec.ofChange fnExactEventsInSpec)) fnExactEventsInCard

/-- THE SECOND FORM's CARD OF 'laws.FnExactGoodTellings'. -/
def fnExactGoodTellingsUptoCard : Claim7 := { stood := { row := fnExactGoodTellingsUptoRow, standIns := [], harness := (true, "9b72d116d644cfdd2a49ddc97a827c49b869ce836ab7d12c9bfddb0c398cfcd6"), looks := true }, kinds := [], alts := [], laidByText := true, laidKinds := [.data], laidTests := true, laidLooks := .later }
def FnExactGoodTellingsUptoCardSaid : Prop := Claim7.holds Tryd.pinned (.plain (OpenSpec.upto fnExactGoodTellingsSpec)) fnExactGoodTellingsUptoCard

/-- THE SECOND FORM's CARD OF 'laws.FnExactCurrentOf'. -/
def fnExactCurrentOfUptoCard : Claim7 := { stood := { row := fnExactCurrentOfUptoRow, standIns := [], harness := (true, "9b72d116d644cfdd2a49ddc97a827c49b869ce836ab7d12c9bfddb0c398cfcd6"), looks := true }, kinds := [], alts := [], laidByText := true, laidKinds := [.data], laidTests := true, laidLooks := .later }
def FnExactCurrentOfUptoCardSaid : Prop := Claim7.holds Tryd.pinned (.plain (OpenSpec.upto fnExactCurrentOfSpec)) fnExactCurrentOfUptoCard

/-- THE SECOND FORM's CARD OF 'laws.FnExactHasHistory'. -/
def fnExactHasHistoryUptoCard : Claim7 := { stood := { row := fnExactHasHistoryUptoRow, standIns := [], harness := (true, "9b72d116d644cfdd2a49ddc97a827c49b869ce836ab7d12c9bfddb0c398cfcd6"), looks := true }, kinds := [], alts := [], laidByText := true, laidKinds := [.data], laidTests := true, laidLooks := .later }
def FnExactHasHistoryUptoCardSaid : Prop := Claim7.holds Tryd.pinned (.plain (OpenSpec.upto fnExactHasHistorySpec)) fnExactHasHistoryUptoCard

/-- THE SECOND FORM's CARD OF 'laws.FnExactBranchLess'. -/
def fnExactBranchLessUptoCard : Claim7 := { stood := { row := fnExactBranchLessUptoRow, standIns := [], harness := (true, "9b72d116d644cfdd2a49ddc97a827c49b869ce836ab7d12c9bfddb0c398cfcd6"), looks := true }, kinds := [], alts := [], laidByText := true, laidKinds := [.data], laidTests := true, laidLooks := .later }
def FnExactBranchLessUptoCardSaid : Prop := Claim7.holds Tryd.pinned (.plain (OpenSpec.upto fnExactBranchLessSpec)) fnExactBranchLessUptoCard

/-- THE SECOND FORM's CARD OF 'laws.FnExactEventsIn'. -/
def fnExactEventsInUptoCard : Claim7 := { stood := { row := fnExactEventsInUptoRow, standIns := [], harness := (true, "9b72d116d644cfdd2a49ddc97a827c49b869ce836ab7d12c9bfddb0c398cfcd6"), looks := true }, kinds := [], alts := [], laidByText := true, laidKinds := [.data], laidTests := true, laidLooks := .later }
def FnExactEventsInUptoCardSaid : Prop := Claim7.holds Tryd.pinned (.plain (OpenSpec.upto fnExactEventsInSpec)) fnExactEventsInUptoCard
end Rows
end Go.Proofs.YtcbkeabfnldmhaaDoor
