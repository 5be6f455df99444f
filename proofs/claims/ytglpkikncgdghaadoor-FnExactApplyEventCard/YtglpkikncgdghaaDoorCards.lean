/-
  DERIVED. GIVEN WITH THE SEED: THE CARDS: each row of YtglpkikncgdghaaDoorRows.lean that lists a variable, with what it lists TIED to the program's text (the seventh form; the later family's looks); each row that meets fmt, with fmt's text TOLD by the authors' own Lean function (tested against real Go, not proved from fmt's source: count such statements apart). THE CARD IS WHAT COUNTS. Prove the row's statement (the work); the ties are given (YtglpkikncgdghaaDoorTie.lean); close each card by the builder's one call (the guide's Derived/Test/ToyasCard.lean, 'card_holds'). Laid BY PROGRAM, IN A SANDBOX (cutbox-door.mjs). By AI agents, Wed Nov 11 2026. No macro, syntax, notation, axiom, sorry.
-/
import Derived.Test.YtglpkikncgdghaaDoorRows
import GoSem.ClaimSeven
namespace Go.Proofs.YtglpkikncgdghaaDoor
namespace Rows

/-- THE TIED CARD OF 'laws.FnExactApplyEvent'. -/
def fnExactApplyEventCard : Claim7 := { stood := { row := fnExactApplyEventRow, standIns := [], harness := (true, "7aa52b1e7a298b1b3e09dcee86dd98d24cd3cd410a6ed5b30e1dc1c9c1f040de"), looks := true }, kinds := [], alts := [], laidByText := true, laidKinds := [.data], laidTests := true, laidLooks := .later }
def FnExactApplyEventCardSaid : Prop := Claim7.holds Tryd.pinned (.plain (OpenSpec.ofChange fnExactApplyEventSpec)) fnExactApplyEventCard

/-- THE TIED CARD OF 'laws.FnExactFoldEvents'. -/
def fnExactFoldEventsCard : Claim7 := { stood := { row := fnExactFoldEventsRow, standIns := [], harness := (true, "7aa52b1e7a298b1b3e09dcee86dd98d24cd3cd410a6ed5b30e1dc1c9c1f040de"), looks := true }, kinds := [], alts := [], laidByText := true, laidKinds := [.data], laidTests := true, laidLooks := .later }
def FnExactFoldEventsCardSaid : Prop := Claim7.holds Tryd.pinned (.plain (OpenSpec.ofChange fnExactFoldEventsSpec)) fnExactFoldEventsCard

/-- THE TIED CARD OF 'laws.FnExactMayCome'. -/
def fnExactMayComeCard : Claim7 := { stood := { row := fnExactMayComeRow, standIns := [], harness := (true, "7aa52b1e7a298b1b3e09dcee86dd98d24cd3cd410a6ed5b30e1dc1c9c1f040de"), looks := true }, kinds := [], alts := [], laidByText := true, laidKinds := [.data], laidTests := true, laidLooks := .later }
def FnExactMayComeCardSaid : Prop := Claim7.holds Tryd.pinned (.plain (OpenSpec.ofChange fnExactMayComeSpec)) fnExactMayComeCard

/-- THE TIED CARD OF 'laws.FnExactIsHistory'. -/
def fnExactIsHistoryCard : Claim7 := { stood := { row := fnExactIsHistoryRow, standIns := [], harness := (true, "7aa52b1e7a298b1b3e09dcee86dd98d24cd3cd410a6ed5b30e1dc1c9c1f040de"), looks := true }, kinds := [], alts := [], laidByText := true, laidKinds := [.data], laidTests := true, laidLooks := .later }
def FnExactIsHistoryCardSaid : Prop := Claim7.holds Tryd.pinned (.plain (OpenSpec.ofChange fnExactIsHistorySpec)) fnExactIsHistoryCard

/-- THE TIED CARD OF 'laws.FnExactSignalsIn'. -/
def fnExactSignalsInCard : Claim7 := { stood := { row := fnExactSignalsInRow, standIns := [], harness := (true, "7aa52b1e7a298b1b3e09dcee86dd98d24cd3cd410a6ed5b30e1dc1c9c1f040de"), looks := true }, kinds := [], alts := [], laidByText := true, laidKinds := [.data], laidTests := true, laidLooks := .later }
def FnExactSignalsInCardSaid : Prop := Claim7.holds Tryd.pinned (.plain (OpenSpec.ofChange fnExactSignalsInSpec)) fnExactSignalsInCard

/-- THE TIED CARD OF 'laws.FnStates'. -/
def fnStatesCard : Claim7 := { stood := { row := fnStatesRow, standIns := [], harness := (true, "7aa52b1e7a298b1b3e09dcee86dd98d24cd3cd410a6ed5b30e1dc1c9c1f040de"), looks := true }, kinds := [], alts := [], laidByText := true, laidKinds := [.data], laidTests := true, laidLooks := .later }
def FnStatesCardSaid : Prop := Claim7.holds Tryd.pinned (.plain (OpenSpec.ofChange fnStatesSpec)) fnStatesCard

/-- THE SECOND FORM's CARD OF 'laws.FnExactApplyEvent'. -/
def fnExactApplyEventUptoCard : Claim7 := { stood := { row := fnExactApplyEventUptoRow, standIns := [], harness := (true, "7aa52b1e7a298b1b3e09dcee86dd98d24cd3cd410a6ed5b30e1dc1c9c1f040de"), looks := true }, kinds := [], alts := [], laidByText := true, laidKinds := [.data], laidTests := true, laidLooks := .later }
def FnExactApplyEventUptoCardSaid : Prop := Claim7.holds Tryd.pinned (.plain (OpenSpec.upto fnExactApplyEventSpec)) fnExactApplyEventUptoCard

/-- THE SECOND FORM's CARD OF 'laws.FnExactFoldEvents'. -/
def fnExactFoldEventsUptoCard : Claim7 := { stood := { row := fnExactFoldEventsUptoRow, standIns := [], harness := (true, "7aa52b1e7a298b1b3e09dcee86dd98d24cd3cd410a6ed5b30e1dc1c9c1f040de"), looks := true }, kinds := [], alts := [], laidByText := true, laidKinds := [.data], laidTests := true, laidLooks := .later }
def FnExactFoldEventsUptoCardSaid : Prop := Claim7.holds Tryd.pinned (.plain (OpenSpec.upto fnExactFoldEventsSpec)) fnExactFoldEventsUptoCard

/-- THE SECOND FORM's CARD OF 'laws.FnExactMayCome'. -/
def fnExactMayComeUptoCard : Claim7 := { stood := { row := fnExactMayComeUptoRow, standIns := [], harness := (true, "7aa52b1e7a298b1b3e09dcee86dd98d24cd3cd410a6ed5b30e1dc1c9c1f040de"), looks := true }, kinds := [], alts := [], laidByText := true, laidKinds := [.data], laidTests := true, laidLooks := .later }
def FnExactMayComeUptoCardSaid : Prop := Claim7.holds Tryd.pinned (.plain (OpenSpec.upto fnExactMayComeSpec)) fnExactMayComeUptoCard

/-- THE SECOND FORM's CARD OF 'laws.FnExactIsHistory'. -/
def fnExactIsHistoryUptoCard : Claim7 := { stood := { row := fnExactIsHistoryUptoRow, standIns := [], harness := (true, "7aa52b1e7a298b1b3e09dcee86dd98d24cd3cd410a6ed5b30e1dc1c9c1f040de"), looks := true }, kinds := [], alts := [], laidByText := true, laidKinds := [.data], laidTests := true, laidLooks := .later }
def FnExactIsHistoryUptoCardSaid : Prop := Claim7.holds Tryd.pinned (.plain (OpenSpec.upto fnExactIsHistorySpec)) fnExactIsHistoryUptoCard

/-- THE SECOND FORM's CARD OF 'laws.FnExactSignalsIn'. -/
def fnExactSignalsInUptoCard : Claim7 := { stood := { row := fnExactSignalsInUptoRow, standIns := [], harness := (true, "7aa52b1e7a298b1b3e09dcee86dd98d24cd3cd410a6ed5b30e1dc1c9c1f040de"), looks := true }, kinds := [], alts := [], laidByText := true, laidKinds := [.data], laidTests := true, laidLooks := .later }
def FnExactSignalsInUptoCardSaid : Prop := Claim7.holds Tryd.pinned (.plain (OpenSpec.upto fnExactSignalsInSpec)) fnExactSignalsInUptoCard

/-- THE SECOND FORM's CARD OF 'laws.FnStates'. -/
def fnStatesUptoCard : Claim7 := { stood := { row := fnStatesUptoRow, standIns := [], harness := (true, "7aa52b1e7a298b1b3e09dcee86dd98d24cd3cd410a6ed5b30e1dc1c9c1f040de"), looks := true }, kinds := [], alts := [], laidByText := true, laidKinds := [.data], laidTests := true, laidLooks := .later }
def FnStatesUptoCardSaid : Prop := Claim7.holds Tryd.pinned (.plain (OpenSpec.upto fnStatesSpec)) fnStatesUptoCard
end Rows
end Go.Proofs.YtglpkikncgdghaaDoor
