/-
  DERIVED. GIVEN WITH THE SEED: THE CARDS: each row of YtiacijodoojgoaaGreatDoorRows.lean that lists a variable, with what it lists TIED to the program's text (the seventh form; the later family's looks); each row that meets fmt, with fmt's text TOLD by the authors' own Lean function (tested against real Go, not proved from fmt's source: count such statements apart). THE CARD IS WHAT COUNTS. Prove the row's statement (the work); the ties are given (YtiacijodoojgoaaGreatDoorTie.lean); close each card by the builder's one call (the guide's Derived/Test/ToyasCard.lean, 'card_holds'). Laid BY PROGRAM, IN A SANDBOX (cutbox-door.mjs). By AI agents, Wed Nov 11 2026. No macro, syntax, notation, axiom, sorry.
-/
import Derived.Test.YtiacijodoojgoaaGreatDoorRows
import GoSem.ClaimSeven
namespace Go.Proofs.YtiacijodoojgoaaGreatDoor
namespace Rows

/-- THE TIED CARD OF 'sheavelaw25.McheckJust'. -/
def mcheckJustCard : Claim7 := { stood := { row := mcheckJustRow, standIns := [], harness := (true, "cba84498b546d047c022b0207633d55c1b1d71acbeac89c26d7fc2c022fa6697"), looks := false }, kinds := [], alts := [], laidByText := true, laidKinds := [.data, .pinned], laidTests := true, laidLooks := .later }
def McheckJustCardSaid : Prop := Claim7.holds Tryz.pinned (.plain (OpenSpec.ofChange mcheckJustSpec)) mcheckJustCard

/-- THE SECOND FORM's CARD OF 'sheavelaw25.McheckJust'. -/
def mcheckJustUptoCard : Claim7 := { stood := { row := mcheckJustUptoRow, standIns := [], harness := (true, "cba84498b546d047c022b0207633d55c1b1d71acbeac89c26d7fc2c022fa6697"), looks := false }, kinds := [], alts := [], laidByText := true, laidKinds := [.data, .pinned], laidTests := true, laidLooks := .later }
def McheckJustUptoCardSaid : Prop := Claim7.holds Tryz.pinned (.plain (OpenSpec.upto mcheckJustSpec)) mcheckJustUptoCard
end Rows
end Go.Proofs.YtiacijodoojgoaaGreatDoor
