/-
  DERIVED. GIVEN WITH THE SEED: THE CARDS: each row of YtohogchnjeddeaaGreatDoorRows.lean that lists a variable, with what it lists TIED to the program's text (the seventh form; the later family's looks); each row that meets fmt, with fmt's text TOLD by the authors' own Lean function (tested against real Go, not proved from fmt's source: count such statements apart). THE CARD IS WHAT COUNTS. Prove the row's statement (the work); the ties are given (YtohogchnjeddeaaGreatDoorTie.lean); close each card by the builder's one call (the guide's Derived/Test/ToyasCard.lean, 'card_holds'). Laid BY PROGRAM, IN A SANDBOX (cutbox-door.mjs). By AI agents, Wed Nov 11 2026. No macro, syntax, notation, axiom, sorry.
-/
import Derived.Test.YtohogchnjeddeaaGreatDoorRows
import GoSem.ClaimSeven
namespace Go.Proofs.YtohogchnjeddeaaGreatDoor
namespace Rows

/-- THE TIED CARD OF 'tompionlaw05.NextFinds'. -/
def nextFindsCard : Claim7 := { stood := { row := nextFindsRow, standIns := [], harness := (true, "dd9b374c79fdf14fa37420515833a8bb073416430c90a4ac0d0536e9ce329fff"), looks := false }, kinds := [], alts := [], laidByText := true, laidKinds := [.data, .data, .data, .wider, .pinned], laidTests := true, laidLooks := .later }
def NextFindsCardSaid : Prop := Claim7.holds Tryz.pinned (.plain (OpenSpec.ofChange nextFindsSpec)) nextFindsCard

/-- THE TIED CARD OF 'tompionlaw05.NextIs'. -/
def nextIsCard : Claim7 := { stood := { row := nextIsRow, standIns := [], harness := (true, "dd9b374c79fdf14fa37420515833a8bb073416430c90a4ac0d0536e9ce329fff"), looks := false }, kinds := [], alts := [], laidByText := true, laidKinds := [.data, .data, .data, .wider, .pinned], laidTests := true, laidLooks := .later }
def NextIsCardSaid : Prop := Claim7.holds Tryz.pinned (.plain (OpenSpec.ofChange nextIsSpec)) nextIsCard

/-- THE TIED CARD OF 'tompionlaw05.NextAll'. -/
def nextAllCard : Claim7 := { stood := { row := nextAllRow, standIns := [], harness := (true, "dd9b374c79fdf14fa37420515833a8bb073416430c90a4ac0d0536e9ce329fff"), looks := false }, kinds := [], alts := [], laidByText := true, laidKinds := [.data, .data, .data, .wider, .pinned], laidTests := true, laidLooks := .later }
def NextAllCardSaid : Prop := Claim7.holds Tryz.pinned (.plain (OpenSpec.ofChange nextAllSpec)) nextAllCard

/-- THE TIED CARD OF 'tompionlaw05.NextCaches'. -/
def nextCachesCard : Claim7 := { stood := { row := nextCachesRow, standIns := [], harness := (true, "dd9b374c79fdf14fa37420515833a8bb073416430c90a4ac0d0536e9ce329fff"), looks := false }, kinds := [], alts := [], laidByText := true, laidKinds := [.data, .data, .data, .wider, .pinned], laidTests := true, laidLooks := .later }
def NextCachesCardSaid : Prop := Claim7.holds Tryz.pinned (.plain (OpenSpec.ofChange nextCachesSpec)) nextCachesCard

/-- THE TIED CARD OF 'tompionlaw05.NextSteps'. -/
def nextStepsCard : Claim7 := { stood := { row := nextStepsRow, standIns := [], harness := (true, "dd9b374c79fdf14fa37420515833a8bb073416430c90a4ac0d0536e9ce329fff"), looks := false }, kinds := [], alts := [], laidByText := true, laidKinds := [.data, .data, .data, .wider, .pinned], laidTests := true, laidLooks := .later }
def NextStepsCardSaid : Prop := Claim7.holds Tryz.pinned (.plain (OpenSpec.ofChange nextStepsSpec)) nextStepsCard

/-- THE TIED CARD OF 'tompionlaw05.NextAhead'. -/
def nextAheadCard : Claim7 := { stood := { row := nextAheadRow, standIns := [], harness := (true, "dd9b374c79fdf14fa37420515833a8bb073416430c90a4ac0d0536e9ce329fff"), looks := false }, kinds := [], alts := [], laidByText := true, laidKinds := [.data, .data, .data, .wider, .pinned], laidTests := true, laidLooks := .later }
def NextAheadCardSaid : Prop := Claim7.holds Tryz.pinned (.plain (OpenSpec.ofChange nextAheadSpec)) nextAheadCard

/-- THE TIED CARD OF 'tompionlaw05.NextJoins'. -/
def nextJoinsCard : Claim7 := { stood := { row := nextJoinsRow, standIns := [], harness := (true, "dd9b374c79fdf14fa37420515833a8bb073416430c90a4ac0d0536e9ce329fff"), looks := false }, kinds := [], alts := [], laidByText := true, laidKinds := [.data, .data, .data, .wider, .pinned], laidTests := true, laidLooks := .later }
def NextJoinsCardSaid : Prop := Claim7.holds Tryz.pinned (.plain (OpenSpec.ofChange nextJoinsSpec)) nextJoinsCard

/-- THE SECOND FORM's CARD OF 'tompionlaw05.NextFinds'. -/
def nextFindsUptoCard : Claim7 := { stood := { row := nextFindsUptoRow, standIns := [], harness := (true, "dd9b374c79fdf14fa37420515833a8bb073416430c90a4ac0d0536e9ce329fff"), looks := false }, kinds := [], alts := [], laidByText := true, laidKinds := [.data, .data, .data, .wider, .pinned], laidTests := true, laidLooks := .later }
def NextFindsUptoCardSaid : Prop := Claim7.holds Tryz.pinned (.plain (OpenSpec.upto nextFindsSpec)) nextFindsUptoCard

/-- THE SECOND FORM's CARD OF 'tompionlaw05.NextIs'. -/
def nextIsUptoCard : Claim7 := { stood := { row := nextIsUptoRow, standIns := [], harness := (true, "dd9b374c79fdf14fa37420515833a8bb073416430c90a4ac0d0536e9ce329fff"), looks := false }, kinds := [], alts := [], laidByText := true, laidKinds := [.data, .data, .data, .wider, .pinned], laidTests := true, laidLooks := .later }
def NextIsUptoCardSaid : Prop := Claim7.holds Tryz.pinned (.plain (OpenSpec.upto nextIsSpec)) nextIsUptoCard

/-- THE SECOND FORM's CARD OF 'tompionlaw05.NextAll'. -/
def nextAllUptoCard : Claim7 := { stood := { row := nextAllUptoRow, standIns := [], harness := (true, "dd9b374c79fdf14fa37420515833a8bb073416430c90a4ac0d0536e9ce329fff"), looks := false }, kinds := [], alts := [], laidByText := true, laidKinds := [.data, .data, .data, .wider, .pinned], laidTests := true, laidLooks := .later }
def NextAllUptoCardSaid : Prop := Claim7.holds Tryz.pinned (.plain (OpenSpec.upto nextAllSpec)) nextAllUptoCard

/-- THE SECOND FORM's CARD OF 'tompionlaw05.NextCaches'. -/
def nextCachesUptoCard : Claim7 := { stood := { row := nextCachesUptoRow, standIns := [], harness := (true, "dd9b374c79fdf14fa37420515833a8bb073416430c90a4ac0d0536e9ce329fff"), looks := false }, kinds := [], alts := [], laidByText := true, laidKinds := [.data, .data, .data, .wider, .pinned], laidTests := true, laidLooks := .later }
def NextCachesUptoCardSaid : Prop := Claim7.holds Tryz.pinned (.plain (OpenSpec.upto nextCachesSpec)) nextCachesUptoCard

/-- THE SECOND FORM's CARD OF 'tompionlaw05.NextSteps'. -/
def nextStepsUptoCard : Claim7 := { stood := { row := nextStepsUptoRow, standIns := [], harness := (true, "dd9b374c79fdf14fa37420515833a8bb073416430c90a4ac0d0536e9ce329fff"), looks := false }, kinds := [], alts := [], laidByText := true, laidKinds := [.data, .data, .data, .wider, .pinned], laidTests := true, laidLooks := .later }
def NextStepsUptoCardSaid : Prop := Claim7.holds Tryz.pinned (.plain (OpenSpec.upto nextStepsSpec)) nextStepsUptoCard

/-- THE SECOND FORM's CARD OF 'tompionlaw05.NextAhead'. -/
def nextAheadUptoCard : Claim7 := { stood := { row := nextAheadUptoRow, standIns := [], harness := (true, "dd9b374c79fdf14fa37420515833a8bb073416430c90a4ac0d0536e9ce329fff"), looks := false }, kinds := [], alts := [], laidByText := true, laidKinds := [.data, .data, .data, .wider, .pinned], laidTests := true, laidLooks := .later }
def NextAheadUptoCardSaid : Prop := Claim7.holds Tryz.pinned (.plain (OpenSpec.upto nextAheadSpec)) nextAheadUptoCard

/-- THE SECOND FORM's CARD OF 'tompionlaw05.NextJoins'. -/
def nextJoinsUptoCard : Claim7 := { stood := { row := nextJoinsUptoRow, standIns := [], harness := (true, "dd9b374c79fdf14fa37420515833a8bb073416430c90a4ac0d0536e9ce329fff"), looks := false }, kinds := [], alts := [], laidByText := true, laidKinds := [.data, .data, .data, .wider, .pinned], laidTests := true, laidLooks := .later }
def NextJoinsUptoCardSaid : Prop := Claim7.holds Tryz.pinned (.plain (OpenSpec.upto nextJoinsSpec)) nextJoinsUptoCard
end Rows
end Go.Proofs.YtohogchnjeddeaaGreatDoor
