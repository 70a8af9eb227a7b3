/-
  DERIVED. GIVEN WITH THE SEED: THE CARDS: each row of YtnbhheahfmknfaaDoorRows.lean that lists a variable, with what it lists TIED to the program's text (the seventh form; the later family's looks); each row that meets fmt, with fmt's text TOLD by the authors' own Lean function (tested against real Go, not proved from fmt's source: count such statements apart). THE CARD IS WHAT COUNTS. Prove the row's statement (the work); the ties are given (YtnbhheahfmknfaaDoorTie.lean); close each card by the builder's one call (the guide's Derived/Test/ToyasCard.lean, 'card_holds'). Laid BY PROGRAM, IN A SANDBOX (cutbox-door.mjs). By AI agents, Wed Nov 11 2026. No macro, syntax, notation, axiom, sorry.
-/
import Derived.Test.YtnbhheahfmknfaaDoorRows
import GoSem.ClaimSeven
namespace Go.Proofs.YtnbhheahfmknfaaDoor
namespace Rows

/-- THE TIED CARD OF 'sheavelaw17.BmodLays'. -/
def bmodLaysCard : Claim7 := { stood := { row := bmodLaysRow, standIns := [], harness := (true, "e6f4a716e8c82a135ead485c7d6be53da38e3679b8c9fc8f7743b71b65e973c7"), looks := false }, kinds := [], alts := [], laidByText := true, laidKinds := [.data, .pinned], laidTests := true, laidLooks := .later }
def BmodLaysCardSaid : Prop := Claim7.holds Tryd.pinned (.plain (OpenSpec.ofChange bmodLaysSpec)) bmodLaysCard

/-- THE TIED CARD OF 'sheavelaw17.BmodReads'. -/
def bmodReadsCard : Claim7 := { stood := { row := bmodReadsRow, standIns := [], harness := (true, "e6f4a716e8c82a135ead485c7d6be53da38e3679b8c9fc8f7743b71b65e973c7"), looks := false }, kinds := [], alts := [], laidByText := true, laidKinds := [.data, .pinned], laidTests := true, laidLooks := .later }
def BmodReadsCardSaid : Prop := Claim7.holds Tryd.pinned (.plain (OpenSpec.ofChange bmodReadsSpec)) bmodReadsCard

/-- THE TIED CARD OF 'sheavelaw17.BmodBack'. -/
def bmodBackCard : Claim7 := { stood := { row := bmodBackRow, standIns := [], harness := (true, "e6f4a716e8c82a135ead485c7d6be53da38e3679b8c9fc8f7743b71b65e973c7"), looks := false }, kinds := [], alts := [], laidByText := true, laidKinds := [.data, .pinned], laidTests := true, laidLooks := .later }
def BmodBackCardSaid : Prop := Claim7.holds Tryd.pinned (.plain (OpenSpec.ofChange bmodBackSpec)) bmodBackCard

/-- THE SECOND FORM's CARD OF 'sheavelaw17.BmodLays'. -/
def bmodLaysUptoCard : Claim7 := { stood := { row := bmodLaysUptoRow, standIns := [], harness := (true, "e6f4a716e8c82a135ead485c7d6be53da38e3679b8c9fc8f7743b71b65e973c7"), looks := false }, kinds := [], alts := [], laidByText := true, laidKinds := [.data, .pinned], laidTests := true, laidLooks := .later }
def BmodLaysUptoCardSaid : Prop := Claim7.holds Tryd.pinned (.plain (OpenSpec.upto bmodLaysSpec)) bmodLaysUptoCard

/-- THE SECOND FORM's CARD OF 'sheavelaw17.BmodReads'. -/
def bmodReadsUptoCard : Claim7 := { stood := { row := bmodReadsUptoRow, standIns := [], harness := (true, "e6f4a716e8c82a135ead485c7d6be53da38e3679b8c9fc8f7743b71b65e973c7"), looks := false }, kinds := [], alts := [], laidByText := true, laidKinds := [.data, .pinned], laidTests := true, laidLooks := .later }
def BmodReadsUptoCardSaid : Prop := Claim7.holds Tryd.pinned (.plain (OpenSpec.upto bmodReadsSpec)) bmodReadsUptoCard

/-- THE SECOND FORM's CARD OF 'sheavelaw17.BmodBack'. -/
def bmodBackUptoCard : Claim7 := { stood := { row := bmodBackUptoRow, standIns := [], harness := (true, "e6f4a716e8c82a135ead485c7d6be53da38e3679b8c9fc8f7743b71b65e973c7"), looks := false }, kinds := [], alts := [], laidByText := true, laidKinds := [.data, .pinned], laidTests := true, laidLooks := .later }
def BmodBackUptoCardSaid : Prop := Claim7.holds Tryd.pinned (.plain (OpenSpec.upto bmodBackSpec)) bmodBackUptoCard
end Rows
end Go.Proofs.YtnbhheahfmknfaaDoor
