/-
  DERIVED. GIVEN WITH THE SEED: THE CARDS: each row of YtcbkeabfnldmhaaGreatDoorRows.lean that lists a variable, with what it lists TIED to the program's text (the seventh form; the later family's looks); each row that meets fmt, with fmt's text TOLD by the authors' own Lean function (tested against real Go, not proved from fmt's source: count such statements apart). THE CARD IS WHAT COUNTS. Prove the row's statement (the work); the ties are given (YtcbkeabfnldmhaaGreatDoorTie.lean); close each card by the builder's one call (the guide's Derived/Test/ToyasCard.lean, 'card_holds'). Laid BY PROGRAM, IN A SANDBOX (cutbox-door.mjs). By AI agents, Wed Nov 11 2026. No macro, syntax, notation, axiom, sorry.
-/
import Derived.Test.YtcbkeabfnldmhaaGreatDoorRows
import GoSem.ClaimSeven
namespace Go.Proofs.YtcbkeabfnldmhaaGreatDoor
namespace Rows

/-- THE TIED CARD OF 'laws.FnExactAddBranch'. -/
def fnExactAddBranchCard : Claim7 := { stood := { row := fnExactAddBranchRow, standIns := [], harness := (true, "614a8a681dab95794b99abe5af46c9a466eb13436dcbc121df8293819555178b"), looks := true }, kinds := [], alts := [], laidByText := true, laidKinds := [.data], laidTests := true, laidLooks := .later }
def FnExactAddBranchCardSaid : Prop := Claim7.holds Tryz.pinned (.plain (OpenSpec.ofChange fnExactAddBranchSpec)) fnExactAddBranchCard

/-- THE TIED CARD OF 'laws.FnExactMergeTellings'. -/
def fnExactMergeTellingsCard : Claim7 := { stood := { row := fnExactMergeTellingsRow, standIns := [], harness := (true, "614a8a681dab95794b99abe5af46c9a466eb13436dcbc121df8293819555178b"), looks := true }, kinds := [], alts := [], laidByText := true, laidKinds := [.data], laidTests := true, laidLooks := .later }
def FnExactMergeTellingsCardSaid : Prop := Claim7.holds Tryz.pinned (.plain (OpenSpec.ofChange fnExactMergeTellingsSpec)) fnExactMergeTellingsCard

/-- THE TIED CARD OF 'laws.FnExactLostSignals'. -/
def fnExactLostSignalsCard : Claim7 := { stood := { row := fnExactLostSignalsRow, standIns := [], harness := (true, "614a8a681dab95794b99abe5af46c9a466eb13436dcbc121df8293819555178b"), looks := true }, kinds := [], alts := [], laidByText := true, laidKinds := [.data], laidTests := true, laidLooks := .later }
def FnExactLostSignalsCardSaid : Prop := Claim7.holds Tryz.pinned (.plain (OpenSpec.ofChange fnExactLostSignalsSpec)) fnExactLostSignalsCard

/-- THE TIED CARD OF 'laws.FnBranches'. -/
def fnBranchesCard : Claim7 := { stood := { row := fnBranchesRow, standIns := [], harness := (true, "614a8a681dab95794b99abe5af46c9a466eb13436dcbc121df8293819555178b"), looks := true }, kinds := [], alts := [], laidByText := true, laidKinds := [.data], laidTests := true, laidLooks := .later }
def FnBranchesCardSaid : Prop := Claim7.holds Tryz.pinned (.plain (OpenSpec.ofChange fnBranchesSpec)) fnBranchesCard

/-- THE TIED CARD OF 'laws.FnCurrent'. -/
def fnCurrentCard : Claim7 := { stood := { row := fnCurrentRow, standIns := [], harness := (true, "614a8a681dab95794b99abe5af46c9a466eb13436dcbc121df8293819555178b"), looks := true }, kinds := [], alts := [], laidByText := true, laidKinds := [.data], laidTests := true, laidLooks := .later }
def FnCurrentCardSaid : Prop := Claim7.holds Tryz.pinned (.plain (OpenSpec.ofChange fnCurrentSpec)) fnCurrentCard

/-- THE SECOND FORM's CARD OF 'laws.FnExactAddBranch'. -/
def fnExactAddBranchUptoCard : Claim7 := { stood := { row := fnExactAddBranchUptoRow, standIns := [], harness := (true, "614a8a681dab95794b99abe5af46c9a466eb13436dcbc121df8293819555178b"), looks := true }, kinds := [], alts := [], laidByText := true, laidKinds := [.data], laidTests := true, laidLooks := .later }
def FnExactAddBranchUptoCardSaid : Prop := Claim7.holds Tryz.pinned (.plain (OpenSpec.upto fnExactAddBranchSpec)) fnExactAddBranchUptoCard

/-- THE SECOND FORM's CARD OF 'laws.FnExactMergeTellings'. -/
def fnExactMergeTellingsUptoCard : Claim7 := { stood := { row := fnExactMergeTellingsUptoRow, standIns := [], harness := (true, "614a8a681dab95794b99abe5af46c9a466eb13436dcbc121df8293819555178b"), looks := true }, kinds := [], alts := [], laidByText := true, laidKinds := [.data], laidTests := true, laidLooks := .later }
def FnExactMergeTellingsUptoCardSaid : Prop := Claim7.holds Tryz.pinned (.plain (OpenSpec.upto fnExactMergeTellingsSpec)) fnExactMergeTellingsUptoCard

/-- THE SECOND FORM's CARD OF 'laws.FnExactLostSignals'. -/
def fnExactLostSignalsUptoCard : Claim7 := { stood := { row := fnExactLostSignalsUptoRow, standIns := [], harness := (true, "614a8a681dab95794b99abe5af46c9a466eb13436dcbc121df8293819555178b"), looks := true }, kinds := [], alts := [], laidByText := true, laidKinds := [.data], laidTests := true, laidLooks := .later }
def FnExactLostSignalsUptoCardSaid : Prop := Claim7.holds Tryz.pinned (.plain (OpenSpec.upto fnExactLostSignalsSpec)) fnExactLostSignalsUptoCard

/-- THE SECOND FORM's CARD OF 'laws.FnBranches'. -/
def fnBranchesUptoCard : Claim7 := { stood := { row := fnBranchesUptoRow, standIns := [], harness := (true, "614a8a681dab95794b99abe5af46c9a466eb13436dcbc121df8293819555178b"), looks := true }, kinds := [], alts := [], laidByText := true, laidKinds := [.data], laidTests := true, laidLooks := .later }
def FnBranchesUptoCardSaid : Prop := Claim7.holds Tryz.pinned (.plain (OpenSpec.upto fnBranchesSpec)) fnBranchesUptoCard

/-- THE SECOND FORM's CARD OF 'laws.FnCurrent'. -/
def fnCurrentUptoCard : Claim7 := { stood := { row := fnCurrentUptoRow, standIns := [], harness := (true, "614a8a681dab95794b99abe5af46c9a466eb13436dcbc121df8293819555178b"), looks := true }, kinds := [], alts := [], laidByText := true, laidKinds := [.data], laidTests := true, laidLooks := .later }
def FnCurrentUptoCardSaid : Prop := Claim7.holds Tryz.pinned (.plain (OpenSpec.upto fnCurrentSpec)) fnCurrentUptoCard
end Rows
end Go.Proofs.YtcbkeabfnldmhaaGreatDoor
