/-
  DERIVED. GIVEN WITH THE SEED: THE CARDS: each row of YtpdoehdmeojmkaaDoorRows.lean that lists a variable, with what it lists TIED to the program's text (the seventh form; the later family's looks); each row that meets fmt, with fmt's text TOLD by the authors' own Lean function (tested against real Go, not proved from fmt's source: count such statements apart). THE CARD IS WHAT COUNTS. Prove the row's statement (the work); the ties are given (YtpdoehdmeojmkaaDoorTie.lean); close each card by the builder's one call (the guide's Derived/Test/ToyasCard.lean, 'card_holds'). Laid BY PROGRAM, IN A SANDBOX (cutbox-door.mjs). By AI agents, Wed Nov 11 2026. No macro, syntax, notation, axiom, sorry.
-/
import Derived.Test.YtpdoehdmeojmkaaDoorRows
import GoSem.ClaimSeven
namespace Go.Proofs.YtpdoehdmeojmkaaDoor
namespace Rows

/-- THE TIED CARD OF 'sheavelaw19.QreadReads'. -/
def qreadReadsCard : Claim7 := { stood := { row := qreadReadsRow, standIns := [], harness := (true, "fa53e5c62354752ee9d2bc4441a3f2aef1174715aff2b417d906bb5ce815eedd"), looks := false }, kinds := [], alts := [], laidByText := true, laidKinds := [.data, .pinned], laidTests := true, laidLooks := .later }
def QreadReadsCardSaid : Prop := Claim7.holds Tryd.pinned (.plain (OpenSpec.ofChange qreadReadsSpec)) qreadReadsCard

/-- THE TIED CARD OF 'sheavelaw19.QreadLines'. -/
def qreadLinesCard : Claim7 := { stood := { row := qreadLinesRow, standIns := [], harness := (true, "fa53e5c62354752ee9d2bc4441a3f2aef1174715aff2b417d906bb5ce815eedd"), looks := false }, kinds := [], alts := [], laidByText := true, laidKinds := [.data, .pinned], laidTests := true, laidLooks := .later }
def QreadLinesCardSaid : Prop := Claim7.holds Tryd.pinned (.plain (OpenSpec.ofChange qreadLinesSpec)) qreadLinesCard

/-- THE TIED CARD OF 'sheavelaw19.QreadBack'. -/
def qreadBackCard : Claim7 := { stood := { row := qreadBackRow, standIns := [], harness := (true, "fa53e5c62354752ee9d2bc4441a3f2aef1174715aff2b417d906bb5ce815eedd"), looks := false }, kinds := [], alts := [], laidByText := true, laidKinds := [.data, .pinned], laidTests := true, laidLooks := .later }
def QreadBackCardSaid : Prop := Claim7.holds Tryd.pinned (.plain (OpenSpec.ofChange qreadBackSpec)) qreadBackCard

/-- THE TIED CARD OF 'sheavelaw19.QreadShort'. -/
def qreadShortCard : Claim7 := { stood := { row := qreadShortRow, standIns := [], harness := (true, "fa53e5c62354752ee9d2bc4441a3f2aef1174715aff2b417d906bb5ce815eedd"), looks := false }, kinds := [], alts := [], laidByText := true, laidKinds := [.data, .pinned], laidTests := true, laidLooks := .later }
def QreadShortCardSaid : Prop := Claim7.holds Tryd.pinned (.plain (OpenSpec.ofChange qreadShortSpec)) qreadShortCard

/-- THE SECOND FORM's CARD OF 'sheavelaw19.QreadReads'. -/
def qreadReadsUptoCard : Claim7 := { stood := { row := qreadReadsUptoRow, standIns := [], harness := (true, "fa53e5c62354752ee9d2bc4441a3f2aef1174715aff2b417d906bb5ce815eedd"), looks := false }, kinds := [], alts := [], laidByText := true, laidKinds := [.data, .pinned], laidTests := true, laidLooks := .later }
def QreadReadsUptoCardSaid : Prop := Claim7.holds Tryd.pinned (.plain (OpenSpec.upto qreadReadsSpec)) qreadReadsUptoCard

/-- THE SECOND FORM's CARD OF 'sheavelaw19.QreadLines'. -/
def qreadLinesUptoCard : Claim7 := { stood := { row := qreadLinesUptoRow, standIns := [], harness := (true, "fa53e5c62354752ee9d2bc4441a3f2aef1174715aff2b417d906bb5ce815eedd"), looks := false }, kinds := [], alts := [], laidByText := true, laidKinds := [.data, .pinned], laidTests := true, laidLooks := .later }
def QreadLinesUptoCardSaid : Prop := Claim7.holds Tryd.pinned (.plain (OpenSpec.upto qreadLinesSpec)) qreadLinesUptoCard

/-- THE SECOND FORM's CARD OF 'sheavelaw19.QreadBack'. -/
def qreadBackUptoCard : Claim7 := { stood := { row := qreadBackUptoRow, standIns := [], harness := (true, "fa53e5c62354752ee9d2bc4441a3f2aef1174715aff2b417d906bb5ce815eedd"), looks := false }, kinds := [], alts := [], laidByText := true, laidKinds := [.data, .pinned], laidTests := true, laidLooks := .later }
def QreadBackUptoCardSaid : Prop := Claim7.holds Tryd.pinned (.plain (OpenSpec.upto qreadBackSpec)) qreadBackUptoCard

/-- THE SECOND FORM's CARD OF 'sheavelaw19.QreadShort'. -/
def qreadShortUptoCard : Claim7 := { stood := { row := qreadShortUptoRow, standIns := [], harness := (true, "fa53e5c62354752ee9d2bc4441a3f2aef1174715aff2b417d906bb5ce815eedd"), looks := false }, kinds := [], alts := [], laidByText := true, laidKinds := [.data, .pinned], laidTests := true, laidLooks := .later }
def QreadShortUptoCardSaid : Prop := Claim7.holds Tryd.pinned (.plain (OpenSpec.upto qreadShortSpec)) qreadShortUptoCard
end Rows
end Go.Proofs.YtpdoehdmeojmkaaDoor
