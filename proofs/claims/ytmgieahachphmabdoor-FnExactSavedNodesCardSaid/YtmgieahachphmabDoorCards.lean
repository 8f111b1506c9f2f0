/-
  DERIVED. GIVEN WITH THE SEED: THE CARDS: each row of YtmgieahachphmabDoorRows.lean that lists a variable, with what it lists TIED to the program's text (the seventh form; the later family's looks); each row that meets fmt, with fmt's text TOLD by the authors' own Lean function (tested against real Go, not proved from fmt's source: count such statements apart). THE CARD IS WHAT COUNTS. Prove the row's statement (the work); the ties are given (YtmgieahachphmabDoorTie.lean); close each card by the builder's one call (the guide's Derived/Test/ToyasCard.lean, 'card_holds'). Laid BY PROGRAM, IN A SANDBOX (cutbox-door.mjs). By AI agents, Wed Nov 11 2026. No macro, syntax, notation, axiom, sorry.
-/
import Derived.Test.YtmgieahachphmabDoorRows
import GoSem.ClaimSeven
namespace Go.Proofs.YtmgieahachphmabDoor
namespace Rows

/-- THE TIED CARD OF 'laws.FnExactMachineOf'. -/
def fnExactMachineOfCard : Claim7 := { stood := { row := fnExactMachineOfRow, standIns := [], harness := (true, "320e7f2d744dd6e3f793efec3374c995fc80413e936c6263b9f86f35c901b33a"), looks := false }, kinds := [], alts := [], laidByText := true, laidKinds := [.data, .data, .data], laidTests := true, laidLooks := .later }
def FnExactMachineOfCardSaid : Prop := Claim7.holds Tryd.pinned (.plain (OpenSpec.ofChange fnExactMachineOfSpec)) fnExactMachineOfCard

/-- THE TIED CARD OF 'laws.FnExactSavedNodes'. -/
def fnExactSavedNodesCard : Claim7 := { stood := { row := fnExactSavedNodesRow, standIns := [], harness := (true, "320e7f2d744dd6e3f793efec3374c995fc80413e936c6263b9f86f35c901b33a"), looks := false }, kinds := [], alts := [], laidByText := true, laidKinds := [.data, .data, .data], laidTests := true, laidLooks := .later }
def FnExactSavedNodesCardSaid : Prop := Claim7.holds Tryd.pinned (.plain (OpenSpec.ofChange fnExactSavedNodesSpec)) fnExactSavedNodesCard

/-- THE TIED CARD OF 'laws.FnExactHaveEqualEnds'. -/
def fnExactHaveEqualEndsCard : Claim7 := { stood := { row := fnExactHaveEqualEndsRow, standIns := [], harness := (true, "320e7f2d744dd6e3f793efec3374c995fc80413e936c6263b9f86f35c901b33a"), looks := false }, kinds := [], alts := [], laidByText := true, laidKinds := [.data, .data, .data], laidTests := true, laidLooks := .later }
def FnExactHaveEqualEndsCardSaid : Prop := Claim7.holds Tryd.pinned (.plain (OpenSpec.ofChange fnExactHaveEqualEndsSpec)) fnExactHaveEqualEndsCard

/-- THE TIED CARD OF 'laws.FnExactIsMachine'. -/
def fnExactIsMachineCard : Claim7 := { stood := { row := fnExactIsMachineRow, standIns := [], harness := (true, "320e7f2d744dd6e3f793efec3374c995fc80413e936c6263b9f86f35c901b33a"), looks := false }, kinds := [], alts := [], laidByText := true, laidKinds := [.data, .data, .data], laidTests := true, laidLooks := .later }
def FnExactIsMachineCardSaid : Prop := Claim7.holds Tryd.pinned (.plain (OpenSpec.ofChange fnExactIsMachineSpec)) fnExactIsMachineCard

/-- THE TIED CARD OF 'laws.FnExactTrieOfMachine'. -/
def fnExactTrieOfMachineCard : Claim7 := { stood := { row := fnExactTrieOfMachineRow, standIns := [], harness := (true, "320e7f2d744dd6e3f793efec3374c995fc80413e936c6263b9f86f35c901b33a"), looks := false }, kinds := [], alts := [], laidByText := true, laidKinds := [.data, .data, .data], laidTests := true, laidLooks := .later }
def FnExactTrieOfMachineCardSaid : Prop := Claim7.holds Tryd.pinned (.plain (OpenSpec.ofChange fnExactTrieOfMachineSpec)) fnExactTrieOfMachineCard

/-- THE TIED CARD OF 'laws.FnExactCountEdges'. -/
def fnExactCountEdgesCard : Claim7 := { stood := { row := fnExactCountEdgesRow, standIns := [], harness := (true, "320e7f2d744dd6e3f793efec3374c995fc80413e936c6263b9f86f35c901b33a"), looks := false }, kinds := [], alts := [], laidByText := true, laidKinds := [.data, .data, .data], laidTests := true, laidLooks := .later }
def FnExactCountEdgesCardSaid : Prop := Claim7.holds Tryd.pinned (.plain (OpenSpec.ofChange fnExactCountEdgesSpec)) fnExactCountEdgesCard

/-- THE TIED CARD OF 'laws.FnExactJoiningStates'. -/
def fnExactJoiningStatesCard : Claim7 := { stood := { row := fnExactJoiningStatesRow, standIns := [], harness := (true, "320e7f2d744dd6e3f793efec3374c995fc80413e936c6263b9f86f35c901b33a"), looks := false }, kinds := [], alts := [], laidByText := true, laidKinds := [.data, .data, .data], laidTests := true, laidLooks := .later }
def FnExactJoiningStatesCardSaid : Prop := Claim7.holds Tryd.pinned (.plain (OpenSpec.ofChange fnExactJoiningStatesSpec)) fnExactJoiningStatesCard

/-- THE SECOND FORM's CARD OF 'laws.FnExactMachineOf'. -/
def fnExactMachineOfUptoCard : Claim7 := { stood := { row := fnExactMachineOfUptoRow, standIns := [], harness := (true, "320e7f2d744dd6e3f793efec3374c995fc80413e936c6263b9f86f35c901b33a"), looks := false }, kinds := [], alts := [], laidByText := true, laidKinds := [.data, .data, .data], laidTests := true, laidLooks := .later }
def FnExactMachineOfUptoCardSaid : Prop := Claim7.holds Tryd.pinned (.plain (OpenSpec.upto fnExactMachineOfSpec)) fnExactMachineOfUptoCard

/-- THE SECOND FORM's CARD OF 'laws.FnExactSavedNodes'. -/
def fnExactSavedNodesUptoCard : Claim7 := { stood := { row := fnExactSavedNodesUptoRow, standIns := [], harness := (true, "320e7f2d744dd6e3f793efec3374c995fc80413e936c6263b9f86f35c901b33a"), looks := false }, kinds := [], alts := [], laidByText := true, laidKinds := [.data, .data, .data], laidTests := true, laidLooks := .later }
def FnExactSavedNodesUptoCardSaid : Prop := Claim7.holds Tryd.pinned (.plain (OpenSpec.upto fnExactSavedNodesSpec)) fnExactSavedNodesUptoCard

/-- THE SECOND FORM's CARD OF 'laws.FnExactHaveEqualEnds'. -/
def fnExactHaveEqualEndsUptoCard : Claim7 := { stood := { row := fnExactHaveEqualEndsUptoRow, standIns := [], harness := (true, "320e7f2d744dd6e3f793efec3374c995fc80413e936c6263b9f86f35c901b33a"), looks := false }, kinds := [], alts := [], laidByText := true, laidKinds := [.data, .data, .data], laidTests := true, laidLooks := .later }
def FnExactHaveEqualEndsUptoCardSaid : Prop := Claim7.holds Tryd.pinned (.plain (OpenSpec.upto fnExactHaveEqualEndsSpec)) fnExactHaveEqualEndsUptoCard

/-- THE SECOND FORM's CARD OF 'laws.FnExactIsMachine'. -/
def fnExactIsMachineUptoCard : Claim7 := { stood := { row := fnExactIsMachineUptoRow, standIns := [], harness := (true, "320e7f2d744dd6e3f793efec3374c995fc80413e936c6263b9f86f35c901b33a"), looks := false }, kinds := [], alts := [], laidByText := true, laidKinds := [.data, .data, .data], laidTests := true, laidLooks := .later }
def FnExactIsMachineUptoCardSaid : Prop := Claim7.holds Tryd.pinned (.plain (OpenSpec.upto fnExactIsMachineSpec)) fnExactIsMachineUptoCard

/-- THE SECOND FORM's CARD OF 'laws.FnExactTrieOfMachine'. -/
def fnExactTrieOfMachineUptoCard : Claim7 := { stood := { row := fnExactTrieOfMachineUptoRow, standIns := [], harness := (true, "320e7f2d744dd6e3f793efec3374c995fc80413e936c6263b9f86f35c901b33a"), looks := false }, kinds := [], alts := [], laidByText := true, laidKinds := [.data, .data, .data], laidTests := true, laidLooks := .later }
def FnExactTrieOfMachineUptoCardSaid : Prop := Claim7.holds Tryd.pinned (.plain (OpenSpec.upto fnExactTrieOfMachineSpec)) fnExactTrieOfMachineUptoCard

/-- THE SECOND FORM's CARD OF 'laws.FnExactCountEdges'. -/
def fnExactCountEdgesUptoCard : Claim7 := { stood := { row := fnExactCountEdgesUptoRow, standIns := [], harness := (true, "320e7f2d744dd6e3f793efec3374c995fc80413e936c6263b9f86f35c901b33a"), looks := false }, kinds := [], alts := [], laidByText := true, laidKinds := [.data, .data, .data], laidTests := true, laidLooks := .later }
def FnExactCountEdgesUptoCardSaid : Prop := Claim7.holds Tryd.pinned (.plain (OpenSpec.upto fnExactCountEdgesSpec)) fnExactCountEdgesUptoCard

/-- THE SECOND FORM's CARD OF 'laws.FnExactJoiningStates'. -/
def fnExactJoiningStatesUptoCard : Claim7 := { stood := { row := fnExactJoiningStatesUptoRow, standIns := [], harness := (true, "320e7f2d744dd6e3f793efec3374c995fc80413e936c6263b9f86f35c901b33a"), looks := false }, kinds := [], alts := [], laidByText := true, laidKinds := [.data, .data, .data], laidTests := true, laidLooks := .later }
def FnExactJoiningStatesUptoCardSaid : Prop := Claim7.holds Tryd.pinned (.plain (OpenSpec.upto fnExactJoiningStatesSpec)) fnExactJoiningStatesUptoCard
end Rows
end Go.Proofs.YtmgieahachphmabDoor
