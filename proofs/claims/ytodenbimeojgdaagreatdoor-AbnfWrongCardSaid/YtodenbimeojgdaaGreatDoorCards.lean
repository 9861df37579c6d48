/-
  DERIVED. GIVEN WITH THE SEED: THE CARDS: each row of YtodenbimeojgdaaGreatDoorRows.lean that lists a variable, with what it lists TIED to the program's text (the seventh form; the later family's looks); each row that meets fmt, with fmt's text TOLD by the authors' own Lean function (tested against real Go, not proved from fmt's source: count such statements apart). THE CARD IS WHAT COUNTS. Prove the row's statement (the work); the ties are given (YtodenbimeojgdaaGreatDoorTie.lean); close each card by the builder's one call (the guide's Derived/Test/ToyasCard.lean, 'card_holds'). Laid BY PROGRAM, IN A SANDBOX (cutbox-door.mjs). By AI agents, Wed Nov 11 2026. No macro, syntax, notation, axiom, sorry.
-/
import Derived.Test.YtodenbimeojgdaaGreatDoorRows
import GoSem.ClaimSeven
namespace Go.Proofs.YtodenbimeojgdaaGreatDoor
namespace Rows

/-- THE TIED CARD OF 'frankinglaw02.AbnfTells'. -/
def abnfTellsCard : Claim7 := { stood := { row := abnfTellsRow, standIns := [], harness := (true, "68d6e7346731eb20187be054d10663dda1f6351f055442fc0035c1c3377033c3"), looks := false }, kinds := [], alts := [], laidByText := true, laidKinds := [.data, .data, .data, .data], laidTests := true, laidLooks := .later }
def AbnfTellsCardSaid : Prop := Claim7.holds Tryz.pinned (.plain (OpenSpec.ofChange abnfTellsSpec)) abnfTellsCard

/-- THE TIED CARD OF 'frankinglaw02.AbnfBack'. -/
def abnfBackCard : Claim7 := { stood := { row := abnfBackRow, standIns := [], harness := (true, "68d6e7346731eb20187be054d10663dda1f6351f055442fc0035c1c3377033c3"), looks := false }, kinds := [], alts := [], laidByText := true, laidKinds := [.data, .data, .data, .data], laidTests := true, laidLooks := .later }
def AbnfBackCardSaid : Prop := Claim7.holds Tryz.pinned (.plain (OpenSpec.ofChange abnfBackSpec)) abnfBackCard

/-- THE TIED CARD OF 'frankinglaw02.AbnfWrong'. -/
def abnfWrongCard : Claim7 := { stood := { row := abnfWrongRow, standIns := [], harness := (true, "68d6e7346731eb20187be054d10663dda1f6351f055442fc0035c1c3377033c3"), looks := false }, kinds := [], alts := [], laidByText := true, laidKinds := [.data, .data, .data, .data, .data, .pinned], laidTests := true, laidLooks := .later }
def AbnfWrongCardSaid : Prop := Claim7.holds Tryz.pinned (.plain (OpenSpec.ofChange abnfWrongSpec)) abnfWrongCard

/-- THE SECOND FORM's CARD OF 'frankinglaw02.AbnfTells'. -/
def abnfTellsUptoCard : Claim7 := { stood := { row := abnfTellsUptoRow, standIns := [], harness := (true, "68d6e7346731eb20187be054d10663dda1f6351f055442fc0035c1c3377033c3"), looks := false }, kinds := [], alts := [], laidByText := true, laidKinds := [.data, .data, .data, .data], laidTests := true, laidLooks := .later }
def AbnfTellsUptoCardSaid : Prop := Claim7.holds Tryz.pinned (.plain (OpenSpec.upto abnfTellsSpec)) abnfTellsUptoCard

/-- THE SECOND FORM's CARD OF 'frankinglaw02.AbnfBack'. -/
def abnfBackUptoCard : Claim7 := { stood := { row := abnfBackUptoRow, standIns := [], harness := (true, "68d6e7346731eb20187be054d10663dda1f6351f055442fc0035c1c3377033c3"), looks := false }, kinds := [], alts := [], laidByText := true, laidKinds := [.data, .data, .data, .data], laidTests := true, laidLooks := .later }
def AbnfBackUptoCardSaid : Prop := Claim7.holds Tryz.pinned (.plain (OpenSpec.upto abnfBackSpec)) abnfBackUptoCard

/-- THE SECOND FORM's CARD OF 'frankinglaw02.AbnfWrong'. -/
def abnfWrongUptoCard : Claim7 := { stood := { row := abnfWrongUptoRow, standIns := [], harness := (true, "68d6e7346731eb20187be054d10663dda1f6351f055442fc0035c1c3377033c3"), looks := false }, kinds := [], alts := [], laidByText := true, laidKinds := [.data, .data, .data, .data, .data, .pinned], laidTests := true, laidLooks := .later }
def AbnfWrongUptoCardSaid : Prop := Claim7.holds Tryz.pinned (.plain (OpenSpec.upto abnfWrongSpec)) abnfWrongUptoCard
end Rows
end Go.Proofs.YtodenbimeojgdaaGreatDoor
