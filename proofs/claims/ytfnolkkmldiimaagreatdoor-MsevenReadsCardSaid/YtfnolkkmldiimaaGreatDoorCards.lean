/-
  DERIVED. GIVEN WITH THE SEED: THE CARDS: each row of YtfnolkkmldiimaaGreatDoorRows.lean that lists a variable, with what it lists TIED to the program's text (the seventh form; the later family's looks); each row that meets fmt, with fmt's text TOLD by the authors' own Lean function (tested against real Go, not proved from fmt's source: count such statements apart). THE CARD IS WHAT COUNTS. Prove the row's statement (the work); the ties are given (YtfnolkkmldiimaaGreatDoorTie.lean); close each card by the builder's one call (the guide's Derived/Test/ToyasCard.lean, 'card_holds'). Laid BY PROGRAM, IN A SANDBOX (cutbox-door.mjs). By AI agents, Wed Nov 11 2026. No macro, syntax, notation, axiom, sorry.
-/
import Derived.Test.YtfnolkkmldiimaaGreatDoorRows
import GoSem.ClaimSeven
namespace Go.Proofs.YtfnolkkmldiimaaGreatDoor
namespace Rows

/-- THE TIED CARD OF 'sheavelaw24.MsevenLays'. -/
def msevenLaysCard : Claim7 := { stood := { row := msevenLaysRow, standIns := [], harness := (true, "2c3202e266fa04ff8574b0a940abee86cf1dc7927ff7345f5b660d5335c14bf4"), looks := false }, kinds := [], alts := [], laidByText := true, laidKinds := [.data, .pinned], laidTests := true, laidLooks := .later }
def MsevenLaysCardSaid : Prop := Claim7.holds Tryz.pinned (.plain (OpenSpec.ofChange msevenLaysSpec)) msevenLaysCard

/-- THE TIED CARD OF 'sheavelaw24.MsevenReads'. -/
def msevenReadsCard : Claim7 := { stood := { row := msevenReadsRow, standIns := [], harness := (true, "2c3202e266fa04ff8574b0a940abee86cf1dc7927ff7345f5b660d5335c14bf4"), looks := false }, kinds := [], alts := [], laidByText := true, laidKinds := [.data, .pinned], laidTests := true, laidLooks := .later }
def MsevenReadsCardSaid : Prop := Claim7.holds Tryz.pinned (.plain (OpenSpec.ofChange msevenReadsSpec)) msevenReadsCard

/-- THE SECOND FORM's CARD OF 'sheavelaw24.MsevenLays'. -/
def msevenLaysUptoCard : Claim7 := { stood := { row := msevenLaysUptoRow, standIns := [], harness := (true, "2c3202e266fa04ff8574b0a940abee86cf1dc7927ff7345f5b660d5335c14bf4"), looks := false }, kinds := [], alts := [], laidByText := true, laidKinds := [.data, .pinned], laidTests := true, laidLooks := .later }
def MsevenLaysUptoCardSaid : Prop := Claim7.holds Tryz.pinned (.plain (OpenSpec.upto msevenLaysSpec)) msevenLaysUptoCard

/-- THE SECOND FORM's CARD OF 'sheavelaw24.MsevenReads'. -/
def msevenReadsUptoCard : Claim7 := { stood := { row := msevenReadsUptoRow, standIns := [], harness := (true, "2c3202e266fa04ff8574b0a940abee86cf1dc7927ff7345f5b660d5335c14bf4"), looks := false }, kinds := [], alts := [], laidByText := true, laidKinds := [.data, .pinned], laidTests := true, laidLooks := .later }
def MsevenReadsUptoCardSaid : Prop := Claim7.holds Tryz.pinned (.plain (OpenSpec.upto msevenReadsSpec)) msevenReadsUptoCard
end Rows
end Go.Proofs.YtfnolkkmldiimaaGreatDoor
