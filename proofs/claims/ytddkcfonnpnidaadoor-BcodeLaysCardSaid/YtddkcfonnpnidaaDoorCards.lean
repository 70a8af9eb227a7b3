/-
  DERIVED. GIVEN WITH THE SEED: THE CARDS: each row of YtddkcfonnpnidaaDoorRows.lean that lists a variable, with what it lists TIED to the program's text (the seventh form; the later family's looks); each row that meets fmt, with fmt's text TOLD by the authors' own Lean function (tested against real Go, not proved from fmt's source: count such statements apart). THE CARD IS WHAT COUNTS. Prove the row's statement (the work); the ties are given (YtddkcfonnpnidaaDoorTie.lean); close each card by the builder's one call (the guide's Derived/Test/ToyasCard.lean, 'card_holds'). Laid BY PROGRAM, IN A SANDBOX (cutbox-door.mjs). By AI agents, Wed Nov 11 2026. No macro, syntax, notation, axiom, sorry.
-/
import Derived.Test.YtddkcfonnpnidaaDoorRows
import GoSem.ClaimSeven
namespace Go.Proofs.YtddkcfonnpnidaaDoor
namespace Rows

/-- THE TIED CARD OF 'sheavelaw14.BcodeLays'. -/
def bcodeLaysCard : Claim7 := { stood := { row := bcodeLaysRow, standIns := [], harness := (true, "92ab75d3cc98dedaaeddb084e132bb01cec3b9478b5e2fe5dfaa23e187bffdc3"), looks := false }, kinds := [], alts := [], laidByText := true, laidKinds := [.data, .pinned], laidTests := true, laidLooks := .later }
def BcodeLaysCardSaid : Prop := Claim7.holds Tryd.pinned (.plain (OpenSpec.ofChange bcodeLaysSpec)) bcodeLaysCard

/-- THE SECOND FORM's CARD OF 'sheavelaw14.BcodeLays'. -/
def bcodeLaysUptoCard : Claim7 := { stood := { row := bcodeLaysUptoRow, standIns := [], harness := (true, "92ab75d3cc98dedaaeddb084e132bb01cec3b9478b5e2fe5dfaa23e187bffdc3"), looks := false }, kinds := [], alts := [], laidByText := true, laidKinds := [.data, .pinned], laidTests := true, laidLooks := .later }
def BcodeLaysUptoCardSaid : Prop := Claim7.holds Tryd.pinned (.plain (OpenSpec.upto bcodeLaysSpec)) bcodeLaysUptoCard
end Rows
end Go.Proofs.YtddkcfonnpnidaaDoor
