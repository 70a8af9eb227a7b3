/-
  DERIVED. GIVEN WITH THE SEED: THE CARDS: each row of YtiacijodoojgoaaDoorRows.lean that lists a variable, with what it lists TIED to the program's text (the seventh form; the later family's looks); each row that meets fmt, with fmt's text TOLD by the authors' own Lean function (tested against real Go, not proved from fmt's source: count such statements apart). THE CARD IS WHAT COUNTS. Prove the row's statement (the work); the ties are given (YtiacijodoojgoaaDoorTie.lean); close each card by the builder's one call (the guide's Derived/Test/ToyasCard.lean, 'card_holds'). Laid BY PROGRAM, IN A SANDBOX (cutbox-door.mjs). By AI agents, Wed Nov 11 2026. No macro, syntax, notation, axiom, sorry.
-/
import Derived.Test.YtiacijodoojgoaaDoorRows
import GoSem.ClaimSeven
namespace Go.Proofs.YtiacijodoojgoaaDoor
namespace Rows

/-- THE TIED CARD OF 'sheavelaw25.McheckWhy'. -/
def mcheckWhyCard : Claim7 := { stood := { row := mcheckWhyRow, standIns := [], harness := (true, "2e976628c1405d6e40e57feba21bf750c89937654c482433eb0cdfd08f411b30"), looks := false }, kinds := [], alts := [], laidByText := true, laidKinds := [.data, .pinned], laidTests := true, laidLooks := .later }
def McheckWhyCardSaid : Prop := Claim7.holds Tryd.pinned (.plain (OpenSpec.ofChange mcheckWhySpec)) mcheckWhyCard

/-- THE TIED CARD OF 'sheavelaw25.McheckReads'. -/
def mcheckReadsCard : Claim7 := { stood := { row := mcheckReadsRow, standIns := [], harness := (true, "2e976628c1405d6e40e57feba21bf750c89937654c482433eb0cdfd08f411b30"), looks := false }, kinds := [], alts := [], laidByText := true, laidKinds := [.data, .pinned], laidTests := true, laidLooks := .later }
def McheckReadsCardSaid : Prop := Claim7.holds Tryd.pinned (.plain (OpenSpec.ofChange mcheckReadsSpec)) mcheckReadsCard

/-- THE TIED CARD OF 'sheavelaw25.McheckSame'. -/
def mcheckSameCard : Claim7 := { stood := { row := mcheckSameRow, standIns := [], harness := (true, "2e976628c1405d6e40e57feba21bf750c89937654c482433eb0cdfd08f411b30"), looks := false }, kinds := [], alts := [], laidByText := true, laidKinds := [.data, .pinned], laidTests := true, laidLooks := .later }
def McheckSameCardSaid : Prop := Claim7.holds Tryd.pinned (.plain (OpenSpec.ofChange mcheckSameSpec)) mcheckSameCard

/-- THE SECOND FORM's CARD OF 'sheavelaw25.McheckWhy'. -/
def mcheckWhyUptoCard : Claim7 := { stood := { row := mcheckWhyUptoRow, standIns := [], harness := (true, "2e976628c1405d6e40e57feba21bf750c89937654c482433eb0cdfd08f411b30"), looks := false }, kinds := [], alts := [], laidByText := true, laidKinds := [.data, .pinned], laidTests := true, laidLooks := .later }
def McheckWhyUptoCardSaid : Prop := Claim7.holds Tryd.pinned (.plain (OpenSpec.upto mcheckWhySpec)) mcheckWhyUptoCard

/-- THE SECOND FORM's CARD OF 'sheavelaw25.McheckReads'. -/
def mcheckReadsUptoCard : Claim7 := { stood := { row := mcheckReadsUptoRow, standIns := [], harness := (true, "2e976628c1405d6e40e57feba21bf750c89937654c482433eb0cdfd08f411b30"), looks := false }, kinds := [], alts := [], laidByText := true, laidKinds := [.data, .pinned], laidTests := true, laidLooks := .later }
def McheckReadsUptoCardSaid : Prop := Claim7.holds Tryd.pinned (.plain (OpenSpec.upto mcheckReadsSpec)) mcheckReadsUptoCard

/-- THE SECOND FORM's CARD OF 'sheavelaw25.McheckSame'. -/
def mcheckSameUptoCard : Claim7 := { stood := { row := mcheckSameUptoRow, standIns := [], harness := (true, "2e976628c1405d6e40e57feba21bf750c89937654c482433eb0cdfd08f411b30"), looks := false }, kinds := [], alts := [], laidByText := true, laidKinds := [.data, .pinned], laidTests := true, laidLooks := .later }
def McheckSameUptoCardSaid : Prop := Claim7.holds Tryd.pinned (.plain (OpenSpec.upto mcheckSameSpec)) mcheckSameUptoCard
end Rows
end Go.Proofs.YtiacijodoojgoaaDoor
