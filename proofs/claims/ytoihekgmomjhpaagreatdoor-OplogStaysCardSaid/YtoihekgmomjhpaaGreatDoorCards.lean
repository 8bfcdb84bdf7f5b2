/-
  DERIVED. GIVEN WITH THE SEED: THE CARDS: each row of YtoihekgmomjhpaaGreatDoorRows.lean that lists a variable, with what it lists TIED to the program's text (the seventh form; the later family's looks); each row that meets fmt, with fmt's text TOLD by the authors' own Lean function (tested against real Go, not proved from fmt's source: count such statements apart). THE CARD IS WHAT COUNTS. Prove the row's statement (the work); the ties are given (YtoihekgmomjhpaaGreatDoorTie.lean); close each card by the builder's one call (the guide's Derived/Test/ToyasCard.lean, 'card_holds'). Laid BY PROGRAM, IN A SANDBOX (cutbox-door.mjs). By AI agents, Wed Nov 11 2026. No macro, syntax, notation, axiom, sorry.
-/
import Derived.Test.YtoihekgmomjhpaaGreatDoorRows
import GoSem.ClaimSeven
namespace Go.Proofs.YtoihekgmomjhpaaGreatDoor
namespace Rows

/-- THE TIED CARD OF 'tompionlaw09.OplogPlays'. -/
def oplogPlaysCard : Claim7 := { stood := { row := oplogPlaysRow, standIns := [], harness := (true, "a496cf49ee9a2410db0ee20600b13a9fccbc3326cc2f1251b1cc7c4d385c74af"), looks := false }, kinds := [], alts := [], laidByText := true, laidKinds := [.data, .data, .data, .wider, .pinned], laidTests := true, laidLooks := .later }
def OplogPlaysCardSaid : Prop := Claim7.holds Tryz.pinned (.plain (OpenSpec.ofChange oplogPlaysSpec)) oplogPlaysCard

/-- THE TIED CARD OF 'tompionlaw09.OplogStays'. -/
def oplogStaysCard : Claim7 := { stood := { row := oplogStaysRow, standIns := [], harness := (true, "a496cf49ee9a2410db0ee20600b13a9fccbc3326cc2f1251b1cc7c4d385c74af"), looks := false }, kinds := [], alts := [], laidByText := true, laidKinds := [.data, .data, .data, .wider, .pinned], laidTests := true, laidLooks := .later }
def OplogStaysCardSaid : Prop := Claim7.holds Tryz.pinned (.plain (OpenSpec.ofChange oplogStaysSpec)) oplogStaysCard

/-- THE TIED CARD OF 'tompionlaw09.OplogNil'. -/
def oplogNilCard : Claim7 := { stood := { row := oplogNilRow, standIns := [], harness := (true, "a496cf49ee9a2410db0ee20600b13a9fccbc3326cc2f1251b1cc7c4d385c74af"), looks := false }, kinds := [], alts := [], laidByText := true, laidKinds := [.data, .data, .data, .wider, .pinned], laidTests := true, laidLooks := .later }
def OplogNilCardSaid : Prop := Claim7.holds Tryz.pinned (.plain (OpenSpec.ofChange oplogNilSpec)) oplogNilCard

/-- THE TIED CARD OF 'tompionlaw09.OplogDue'. -/
def oplogDueCard : Claim7 := { stood := { row := oplogDueRow, standIns := [], harness := (true, "a496cf49ee9a2410db0ee20600b13a9fccbc3326cc2f1251b1cc7c4d385c74af"), looks := false }, kinds := [], alts := [], laidByText := true, laidKinds := [.data, .data, .data, .wider, .pinned], laidTests := true, laidLooks := .later }
def OplogDueCardSaid : Prop := Claim7.holds Tryz.pinned (.plain (OpenSpec.ofChange oplogDueSpec)) oplogDueCard

/-- THE SECOND FORM's CARD OF 'tompionlaw09.OplogPlays'. -/
def oplogPlaysUptoCard : Claim7 := { stood := { row := oplogPlaysUptoRow, standIns := [], harness := (true, "a496cf49ee9a2410db0ee20600b13a9fccbc3326cc2f1251b1cc7c4d385c74af"), looks := false }, kinds := [], alts := [], laidByText := true, laidKinds := [.data, .data, .data, .wider, .pinned], laidTests := true, laidLooks := .later }
def OplogPlaysUptoCardSaid : Prop := Claim7.holds Tryz.pinned (.plain (OpenSpec.upto oplogPlaysSpec)) oplogPlaysUptoCard

/-- THE SECOND FORM's CARD OF 'tompionlaw09.OplogStays'. -/
def oplogStaysUptoCard : Claim7 := { stood := { row := oplogStaysUptoRow, standIns := [], harness := (true, "a496cf49ee9a2410db0ee20600b13a9fccbc3326cc2f1251b1cc7c4d385c74af"), looks := false }, kinds := [], alts := [], laidByText := true, laidKinds := [.data, .data, .data, .wider, .pinned], laidTests := true, laidLooks := .later }
def OplogStaysUptoCardSaid : Prop := Claim7.holds Tryz.pinned (.plain (OpenSpec.upto oplogStaysSpec)) oplogStaysUptoCard

/-- THE SECOND FORM's CARD OF 'tompionlaw09.OplogNil'. -/
def oplogNilUptoCard : Claim7 := { stood := { row := oplogNilUptoRow, standIns := [], harness := (true, "a496cf49ee9a2410db0ee20600b13a9fccbc3326cc2f1251b1cc7c4d385c74af"), looks := false }, kinds := [], alts := [], laidByText := true, laidKinds := [.data, .data, .data, .wider, .pinned], laidTests := true, laidLooks := .later }
def OplogNilUptoCardSaid : Prop := Claim7.holds Tryz.pinned (.plain (OpenSpec.upto oplogNilSpec)) oplogNilUptoCard

/-- THE SECOND FORM's CARD OF 'tompionlaw09.OplogDue'. -/
def oplogDueUptoCard : Claim7 := { stood := { row := oplogDueUptoRow, standIns := [], harness := (true, "a496cf49ee9a2410db0ee20600b13a9fccbc3326cc2f1251b1cc7c4d385c74af"), looks := false }, kinds := [], alts := [], laidByText := true, laidKinds := [.data, .data, .data, .wider, .pinned], laidTests := true, laidLooks := .later }
def OplogDueUptoCardSaid : Prop := Claim7.holds Tryz.pinned (.plain (OpenSpec.upto oplogDueSpec)) oplogDueUptoCard
end Rows
end Go.Proofs.YtoihekgmomjhpaaGreatDoor
