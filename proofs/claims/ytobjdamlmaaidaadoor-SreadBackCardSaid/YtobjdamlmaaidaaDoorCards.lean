/-
  DERIVED. GIVEN WITH THE SEED: THE CARDS: each row of YtobjdamlmaaidaaDoorRows.lean that lists a variable, with what it lists TIED to the program's text (the seventh form; the later family's looks); each row that meets fmt, with fmt's text TOLD by the authors' own Lean function (tested against real Go, not proved from fmt's source: count such statements apart). THE CARD IS WHAT COUNTS. Prove the row's statement (the work); the ties are given (YtobjdamlmaaidaaDoorTie.lean); close each card by the builder's one call (the guide's Derived/Test/ToyasCard.lean, 'card_holds'). Laid BY PROGRAM, IN A SANDBOX (cutbox-door.mjs). By AI agents, Wed Nov 11 2026. No macro, syntax, notation, axiom, sorry.
-/
import Derived.Test.YtobjdamlmaaidaaDoorRows
import GoSem.ClaimSeven
namespace Go.Proofs.YtobjdamlmaaidaaDoor
namespace Rows

/-- THE TIED CARD OF 'sheavelaw23.SreadBack'. -/
def sreadBackCard : Claim7 := { stood := { row := sreadBackRow, standIns := [], harness := (true, "e8bc7383067b70725eb1d4cfc51159d1320f7945b812dabe9516bf52af20cd2e"), looks := false }, kinds := [], alts := [], laidByText := true, laidKinds := [.data, .pinned], laidTests := true, laidLooks := .later }
def SreadBackCardSaid : Prop := Claim7.holds Tryd.pinned (.plain (OpenSpec.ofChange sreadBackSpec)) sreadBackCard

/-- THE TIED CARD OF 'sheavelaw23.SreadShort'. -/
def sreadShortCard : Claim7 := { stood := { row := sreadShortRow, standIns := [], harness := (true, "e8bc7383067b70725eb1d4cfc51159d1320f7945b812dabe9516bf52af20cd2e"), looks := false }, kinds := [], alts := [], laidByText := true, laidKinds := [.data, .pinned], laidTests := true, laidLooks := .later }
def SreadShortCardSaid : Prop := Claim7.holds Tryd.pinned (.plain (OpenSpec.ofChange sreadShortSpec)) sreadShortCard

/-- THE SECOND FORM's CARD OF 'sheavelaw23.SreadBack'. -/
def sreadBackUptoCard : Claim7 := { stood := { row := sreadBackUptoRow, standIns := [], harness := (true, "e8bc7383067b70725eb1d4cfc51159d1320f7945b812dabe9516bf52af20cd2e"), looks := false }, kinds := [], alts := [], laidByText := true, laidKinds := [.data, .pinned], laidTests := true, laidLooks := .later }
def SreadBackUptoCardSaid : Prop := Claim7.holds Tryd.pinned (.plain (OpenSpec.upto sreadBackSpec)) sreadBackUptoCard

/-- THE SECOND FORM's CARD OF 'sheavelaw23.SreadShort'. -/
def sreadShortUptoCard : Claim7 := { stood := { row := sreadShortUptoRow, standIns := [], harness := (true, "e8bc7383067b70725eb1d4cfc51159d1320f7945b812dabe9516bf52af20cd2e"), looks := false }, kinds := [], alts := [], laidByText := true, laidKinds := [.data, .pinned], laidTests := true, laidLooks := .later }
def SreadShortUptoCardSaid : Prop := Claim7.holds Tryd.pinned (.plain (OpenSpec.upto sreadShortSpec)) sreadShortUptoCard
end Rows
end Go.Proofs.YtobjdamlmaaidaaDoor
