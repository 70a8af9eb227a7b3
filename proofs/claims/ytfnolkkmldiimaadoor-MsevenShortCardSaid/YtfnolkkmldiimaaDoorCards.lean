/-
  DERIVED. GIVEN WITH THE SEED: THE CARDS: each row of YtfnolkkmldiimaaDoorRows.lean that lists a variable, with what it lists TIED to the program's text (the seventh form; the later family's looks); each row that meets fmt, with fmt's text TOLD by the authors' own Lean function (tested against real Go, not proved from fmt's source: count such statements apart). THE CARD IS WHAT COUNTS. Prove the row's statement (the work); the ties are given (YtfnolkkmldiimaaDoorTie.lean); close each card by the builder's one call (the guide's Derived/Test/ToyasCard.lean, 'card_holds'). Laid BY PROGRAM, IN A SANDBOX (cutbox-door.mjs). By AI agents, Wed Nov 11 2026. No macro, syntax, notation, axiom, sorry.
-/
import Derived.Test.YtfnolkkmldiimaaDoorRows
import GoSem.ClaimSeven
namespace Go.Proofs.YtfnolkkmldiimaaDoor
namespace Rows

/-- THE TIED CARD OF 'sheavelaw24.MsevenBack'. -/
def msevenBackCard : Claim7 := { stood := { row := msevenBackRow, standIns := [], harness := (true, "13459cebc62ef6e38f089bb6b47ff46c37a9a5ff07c48318b51ec62bd2affa3a"), looks := false }, kinds := [], alts := [], laidByText := true, laidKinds := [.data, .pinned], laidTests := true, laidLooks := .later }
def MsevenBackCardSaid : Prop := Claim7.holds Tryd.pinned (.plain (OpenSpec.ofChange msevenBackSpec)) msevenBackCard

/-- THE TIED CARD OF 'sheavelaw24.MsevenShort'. -/
def msevenShortCard : Claim7 := { stood := { row := msevenShortRow, standIns := [], harness := (true, "13459cebc62ef6e38f089bb6b47ff46c37a9a5ff07c48318b51ec62bd2affa3a"), looks := false }, kinds := [], alts := [], laidByText := true, laidKinds := [.data, .pinned], laidTests := true, laidLooks := .later }
def MsevenShortCardSaid : Prop := Claim7.holds Tryd.pinned (.plain (OpenSpec.ofChange msevenShortSpec)) msevenShortCard

/-- THE SECOND FORM's CARD OF 'sheavelaw24.MsevenBack'. -/
def msevenBackUptoCard : Claim7 := { stood := { row := msevenBackUptoRow, standIns := [], harness := (true, "13459cebc62ef6e38f089bb6b47ff46c37a9a5ff07c48318b51ec62bd2affa3a"), looks := false }, kinds := [], alts := [], laidByText := true, laidKinds := [.data, .pinned], laidTests := true, laidLooks := .later }
def MsevenBackUptoCardSaid : Prop := Claim7.holds Tryd.pinned (.plain (OpenSpec.upto msevenBackSpec)) msevenBackUptoCard

/-- THE SECOND FORM's CARD OF 'sheavelaw24.MsevenShort'. -/
def msevenShortUptoCard : Claim7 := { stood := { row := msevenShortUptoRow, standIns := [], harness := (true, "13459cebc62ef6e38f089bb6b47ff46c37a9a5ff07c48318b51ec62bd2affa3a"), looks := false }, kinds := [], alts := [], laidByText := true, laidKinds := [.data, .pinned], laidTests := true, laidLooks := .later }
def MsevenShortUptoCardSaid : Prop := Claim7.holds Tryd.pinned (.plain (OpenSpec.upto msevenShortSpec)) msevenShortUptoCard
end Rows
end Go.Proofs.YtfnolkkmldiimaaDoor
