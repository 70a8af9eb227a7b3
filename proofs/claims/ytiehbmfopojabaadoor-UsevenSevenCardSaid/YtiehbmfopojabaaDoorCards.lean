/-
  DERIVED. GIVEN WITH THE SEED: THE CARDS: each row of YtiehbmfopojabaaDoorRows.lean that lists a variable, with what it lists TIED to the program's text (the seventh form; the later family's looks); each row that meets fmt, with fmt's text TOLD by the authors' own Lean function (tested against real Go, not proved from fmt's source: count such statements apart). THE CARD IS WHAT COUNTS. Prove the row's statement (the work); the ties are given (YtiehbmfopojabaaDoorTie.lean); close each card by the builder's one call (the guide's Derived/Test/ToyasCard.lean, 'card_holds'). Laid BY PROGRAM, IN A SANDBOX (cutbox-door.mjs). By AI agents, Wed Nov 11 2026. No macro, syntax, notation, axiom, sorry.
-/
import Derived.Test.YtiehbmfopojabaaDoorRows
import GoSem.ClaimSeven
namespace Go.Proofs.YtiehbmfopojabaaDoor
namespace Rows

/-- THE TIED CARD OF 'sheavelaw22.UsevenLays'. -/
def usevenLaysCard : Claim7 := { stood := { row := usevenLaysRow, standIns := [], harness := (true, "ab886175a3bafb89f28444a3b9ab3e559c7a55962537967060480334f18b6c04"), looks := false }, kinds := [], alts := [], laidByText := true, laidKinds := [.data, .pinned], laidTests := true, laidLooks := .later }
def UsevenLaysCardSaid : Prop := Claim7.holds Tryd.pinned (.plain (OpenSpec.ofChange usevenLaysSpec)) usevenLaysCard

/-- THE TIED CARD OF 'sheavelaw22.UsevenSigns'. -/
def usevenSignsCard : Claim7 := { stood := { row := usevenSignsRow, standIns := [], harness := (true, "ab886175a3bafb89f28444a3b9ab3e559c7a55962537967060480334f18b6c04"), looks := false }, kinds := [], alts := [], laidByText := true, laidKinds := [.data, .pinned], laidTests := true, laidLooks := .later }
def UsevenSignsCardSaid : Prop := Claim7.holds Tryd.pinned (.plain (OpenSpec.ofChange usevenSignsSpec)) usevenSignsCard

/-- THE TIED CARD OF 'sheavelaw22.UsevenSeven'. -/
def usevenSevenCard : Claim7 := { stood := { row := usevenSevenRow, standIns := [], harness := (true, "ab886175a3bafb89f28444a3b9ab3e559c7a55962537967060480334f18b6c04"), looks := false }, kinds := [], alts := [], laidByText := true, laidKinds := [.data, .pinned], laidTests := true, laidLooks := .later }
def UsevenSevenCardSaid : Prop := Claim7.holds Tryd.pinned (.plain (OpenSpec.ofChange usevenSevenSpec)) usevenSevenCard

/-- THE SECOND FORM's CARD OF 'sheavelaw22.UsevenLays'. -/
def usevenLaysUptoCard : Claim7 := { stood := { row := usevenLaysUptoRow, standIns := [], harness := (true, "ab886175a3bafb89f28444a3b9ab3e559c7a55962537967060480334f18b6c04"), looks := false }, kinds := [], alts := [], laidByText := true, laidKinds := [.data, .pinned], laidTests := true, laidLooks := .later }
def UsevenLaysUptoCardSaid : Prop := Claim7.holds Tryd.pinned (.plain (OpenSpec.upto usevenLaysSpec)) usevenLaysUptoCard

/-- THE SECOND FORM's CARD OF 'sheavelaw22.UsevenSigns'. -/
def usevenSignsUptoCard : Claim7 := { stood := { row := usevenSignsUptoRow, standIns := [], harness := (true, "ab886175a3bafb89f28444a3b9ab3e559c7a55962537967060480334f18b6c04"), looks := false }, kinds := [], alts := [], laidByText := true, laidKinds := [.data, .pinned], laidTests := true, laidLooks := .later }
def UsevenSignsUptoCardSaid : Prop := Claim7.holds Tryd.pinned (.plain (OpenSpec.upto usevenSignsSpec)) usevenSignsUptoCard

/-- THE SECOND FORM's CARD OF 'sheavelaw22.UsevenSeven'. -/
def usevenSevenUptoCard : Claim7 := { stood := { row := usevenSevenUptoRow, standIns := [], harness := (true, "ab886175a3bafb89f28444a3b9ab3e559c7a55962537967060480334f18b6c04"), looks := false }, kinds := [], alts := [], laidByText := true, laidKinds := [.data, .pinned], laidTests := true, laidLooks := .later }
def UsevenSevenUptoCardSaid : Prop := Claim7.holds Tryd.pinned (.plain (OpenSpec.upto usevenSevenSpec)) usevenSevenUptoCard
end Rows
end Go.Proofs.YtiehbmfopojabaaDoor
