/-
  DERIVED. GIVEN WITH THE SEED: THE CARDS: each row of YtiidhcpflplpiaaGreatDoorRows.lean that lists a variable, with what it lists TIED to the program's text (the seventh form; the later family's looks); each row that meets fmt, with fmt's text TOLD by the authors' own Lean function (tested against real Go, not proved from fmt's source: count such statements apart). THE CARD IS WHAT COUNTS. Prove the row's statement (the work); the ties are given (YtiidhcpflplpiaaGreatDoorTie.lean); close each card by the builder's one call (the guide's Derived/Test/ToyasCard.lean, 'card_holds'). Laid BY PROGRAM, IN A SANDBOX (cutbox-door.mjs). By AI agents, Wed Nov 11 2026. No macro, syntax, notation, axiom, sorry.
-/
import Derived.Test.YtiidhcpflplpiaaGreatDoorRows
import GoSem.ClaimSeven
namespace Go.Proofs.YtiidhcpflplpiaaGreatDoor
namespace Rows

/-- THE TIED CARD OF 'tompionlaw08.StatePlays'. -/
def statePlaysCard : Claim7 := { stood := { row := statePlaysRow, standIns := [], harness := (true, "8f906502133f04bd502d2a73bf3920652fbd2d3d5bbbcc06fb8fc50fd5cfce6f"), looks := true }, kinds := [], alts := [], laidByText := true, laidKinds := [.data, .data, .data, .wider, .pinned], laidTests := true, laidLooks := .later }
def StatePlaysCardSaid : Prop := Claim7.holds Tryz.pinned (.plain (OpenSpec.ofChange statePlaysSpec)) statePlaysCard

/-- THE TIED CARD OF 'tompionlaw08.StateAgain'. -/
def stateAgainCard : Claim7 := { stood := { row := stateAgainRow, standIns := [], harness := (true, "8f906502133f04bd502d2a73bf3920652fbd2d3d5bbbcc06fb8fc50fd5cfce6f"), looks := true }, kinds := [], alts := [], laidByText := true, laidKinds := [.data, .data, .data, .wider, .pinned], laidTests := true, laidLooks := .later }
def StateAgainCardSaid : Prop := Claim7.holds Tryz.pinned (.plain (OpenSpec.ofChange stateAgainSpec)) stateAgainCard

/-- THE TIED CARD OF 'tompionlaw08.StateFires'. -/
def stateFiresCard : Claim7 := { stood := { row := stateFiresRow, standIns := [], harness := (true, "8f906502133f04bd502d2a73bf3920652fbd2d3d5bbbcc06fb8fc50fd5cfce6f"), looks := true }, kinds := [], alts := [], laidByText := true, laidKinds := [.data, .data, .data, .wider, .pinned], laidTests := true, laidLooks := .later }
def StateFiresCardSaid : Prop := Claim7.holds Tryz.pinned (.plain (OpenSpec.ofChange stateFiresSpec)) stateFiresCard

/-- THE TIED CARD OF 'tompionlaw08.StateNil'. -/
def stateNilCard : Claim7 := { stood := { row := stateNilRow, standIns := [], harness := (true, "8f906502133f04bd502d2a73bf3920652fbd2d3d5bbbcc06fb8fc50fd5cfce6f"), looks := true }, kinds := [], alts := [], laidByText := true, laidKinds := [.data, .data, .data, .wider, .pinned], laidTests := true, laidLooks := .later }
def StateNilCardSaid : Prop := Claim7.holds Tryz.pinned (.plain (OpenSpec.ofChange stateNilSpec)) stateNilCard

/-- THE TIED CARD OF 'tompionlaw08.StateRoom'. -/
def stateRoomCard : Claim7 := { stood := { row := stateRoomRow, standIns := [], harness := (true, "8f906502133f04bd502d2a73bf3920652fbd2d3d5bbbcc06fb8fc50fd5cfce6f"), looks := true }, kinds := [], alts := [], laidByText := true, laidKinds := [.data, .data, .data, .wider, .pinned], laidTests := true, laidLooks := .later }
def StateRoomCardSaid : Prop := Claim7.holds Tryz.pinned (.plain (OpenSpec.ofChange stateRoomSpec)) stateRoomCard

/-- THE TIED CARD OF 'tompionlaw08.StateCancels'. -/
def stateCancelsCard : Claim7 := { stood := { row := stateCancelsRow, standIns := [], harness := (true, "8f906502133f04bd502d2a73bf3920652fbd2d3d5bbbcc06fb8fc50fd5cfce6f"), looks := true }, kinds := [], alts := [], laidByText := true, laidKinds := [.data, .data, .data, .wider, .pinned], laidTests := true, laidLooks := .later }
def StateCancelsCardSaid : Prop := Claim7.holds Tryz.pinned (.plain (OpenSpec.ofChange stateCancelsSpec)) stateCancelsCard

/-- THE SECOND FORM's CARD OF 'tompionlaw08.StatePlays'. -/
def statePlaysUptoCard : Claim7 := { stood := { row := statePlaysUptoRow, standIns := [], harness := (true, "8f906502133f04bd502d2a73bf3920652fbd2d3d5bbbcc06fb8fc50fd5cfce6f"), looks := true }, kinds := [], alts := [], laidByText := true, laidKinds := [.data, .data, .data, .wider, .pinned], laidTests := true, laidLooks := .later }
def StatePlaysUptoCardSaid : Prop := Claim7.holds Tryz.pinned (.plain (OpenSpec.upto statePlaysSpec)) statePlaysUptoCard

/-- THE SECOND FORM's CARD OF 'tompionlaw08.StateAgain'. -/
def stateAgainUptoCard : Claim7 := { stood := { row := stateAgainUptoRow, standIns := [], harness := (true, "8f906502133f04bd502d2a73bf3920652fbd2d3d5bbbcc06fb8fc50fd5cfce6f"), looks := true }, kinds := [], alts := [], laidByText := true, laidKinds := [.data, .data, .data, .wider, .pinned], laidTests := true, laidLooks := .later }
def StateAgainUptoCardSaid : Prop := Claim7.holds Tryz.pinned (.plain (OpenSpec.upto stateAgainSpec)) stateAgainUptoCard

/-- THE SECOND FORM's CARD OF 'tompionlaw08.StateFires'. -/
def stateFiresUptoCard : Claim7 := { stood := { row := stateFiresUptoRow, standIns := [], harness := (true, "8f906502133f04bd502d2a73bf3920652fbd2d3d5bbbcc06fb8fc50fd5cfce6f"), looks := true }, kinds := [], alts := [], laidByText := true, laidKinds := [.data, .data, .data, .wider, .pinned], laidTests := true, laidLooks := .later }
def StateFiresUptoCardSaid : Prop := Claim7.holds Tryz.pinned (.plain (OpenSpec.upto stateFiresSpec)) stateFiresUptoCard

/-- THE SECOND FORM's CARD OF 'tompionlaw08.StateNil'. -/
def stateNilUptoCard : Claim7 := { stood := { row := stateNilUptoRow, standIns := [], harness := (true, "8f906502133f04bd502d2a73bf3920652fbd2d3d5bbbcc06fb8fc50fd5cfce6f"), looks := true }, kinds := [], alts := [], laidByText := true, laidKinds := [.data, .data, .data, .wider, .pinned], laidTests := true, laidLooks := .later }
def StateNilUptoCardSaid : Prop := Claim7.holds Tryz.pinned (.plain (OpenSpec.upto stateNilSpec)) stateNilUptoCard

/-- THE SECOND FORM's CARD OF 'tompionlaw08.StateRoom'. -/
def stateRoomUptoCard : Claim7 := { stood := { row := stateRoomUptoRow, standIns := [], harness := (true, "8f906502133f04bd502d2a73bf3920652fbd2d3d5bbbcc06fb8fc50fd5cfce6f"), looks := true }, kinds := [], alts := [], laidByText := true, laidKinds := [.data, .data, .data, .wider, .pinned], laidTests := true, laidLooks := .later }
def StateRoomUptoCardSaid : Prop := Claim7.holds Tryz.pinned (.plain (OpenSpec.upto stateRoomSpec)) stateRoomUptoCard

/-- THE SECOND FORM's CARD OF 'tompionlaw08.StateCancels'. -/
def stateCancelsUptoCard : Claim7 := { stood := { row := stateCancelsUptoRow, standIns := [], harness := (true, "8f906502133f04bd502d2a73bf3920652fbd2d3d5bbbcc06fb8fc50fd5cfce6f"), looks := true }, kinds := [], alts := [], laidByText := true, laidKinds := [.data, .data, .data, .wider, .pinned], laidTests := true, laidLooks := .later }
def StateCancelsUptoCardSaid : Prop := Claim7.holds Tryz.pinned (.plain (OpenSpec.upto stateCancelsSpec)) stateCancelsUptoCard
end Rows
end Go.Proofs.YtiidhcpflplpiaaGreatDoor
