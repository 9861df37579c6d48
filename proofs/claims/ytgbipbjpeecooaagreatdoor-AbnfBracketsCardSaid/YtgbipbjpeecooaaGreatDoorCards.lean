/-
  DERIVED. GIVEN WITH THE SEED: THE CARDS: each row of YtgbipbjpeecooaaGreatDoorRows.lean that lists a variable, with what it lists TIED to the program's text (the seventh form; the later family's looks); each row that meets fmt, with fmt's text TOLD by the authors' own Lean function (tested against real Go, not proved from fmt's source: count such statements apart). THE CARD IS WHAT COUNTS. Prove the row's statement (the work); the ties are given (YtgbipbjpeecooaaGreatDoorTie.lean); close each card by the builder's one call (the guide's Derived/Test/ToyasCard.lean, 'card_holds'). Laid BY PROGRAM, IN A SANDBOX (cutbox-door.mjs). By AI agents, Wed Nov 11 2026. No macro, syntax, notation, axiom, sorry.
-/
import Derived.Test.YtgbipbjpeecooaaGreatDoorRows
import GoSem.ClaimSeven
namespace Go.Proofs.YtgbipbjpeecooaaGreatDoor
namespace Rows

/-- THE TIED CARD OF 'frankinglaw02.AbnfTells'. -/
def abnfTellsCard : Claim7 := { stood := { row := abnfTellsRow, standIns := [], harness := (true, "542d16f13bb0496de14d32b49fa061fa5c2af31a2a663b317ae2b563e752e0b3"), looks := false }, kinds := [], alts := [], laidByText := true, laidKinds := [.data, .data, .data, .data], laidTests := true, laidLooks := .later }
def AbnfTellsCardSaid : Prop := Claim7.holds Tryz.pinned (.plain (OpenSpec.ofChange abnfTellsSpec)) abnfTellsCard

/-- THE TIED CARD OF 'frankinglaw02.AbnfBack'. -/
def abnfBackCard : Claim7 := { stood := { row := abnfBackRow, standIns := [], harness := (true, "542d16f13bb0496de14d32b49fa061fa5c2af31a2a663b317ae2b563e752e0b3"), looks := false }, kinds := [], alts := [], laidByText := true, laidKinds := [.data, .data, .data, .data], laidTests := true, laidLooks := .later }
def AbnfBackCardSaid : Prop := Claim7.holds Tryz.pinned (.plain (OpenSpec.ofChange abnfBackSpec)) abnfBackCard

/-- THE TIED CARD OF 'frankinglaw02.AbnfBrackets'. -/
def abnfBracketsCard : Claim7 := { stood := { row := abnfBracketsRow, standIns := [], harness := (true, "542d16f13bb0496de14d32b49fa061fa5c2af31a2a663b317ae2b563e752e0b3"), looks := false }, kinds := [], alts := [], laidByText := true, laidKinds := [.data, .data, .data, .data], laidTests := true, laidLooks := .later }
def AbnfBracketsCardSaid : Prop := Claim7.holds Tryz.pinned (.plain (OpenSpec.ofChange abnfBracketsSpec)) abnfBracketsCard

/-- THE TIED CARD OF 'frankinglaw02.AbnfLeaves'. -/
def abnfLeavesCard : Claim7 := { stood := { row := abnfLeavesRow, standIns := [], harness := (true, "542d16f13bb0496de14d32b49fa061fa5c2af31a2a663b317ae2b563e752e0b3"), looks := false }, kinds := [], alts := [], laidByText := true, laidKinds := [.data, .data, .data, .data, .data, .pinned, .pinned], laidTests := true, laidLooks := .later }
def AbnfLeavesCardSaid : Prop := Claim7.holds Tryz.pinned (.plain (OpenSpec.ofChange abnfLeavesSpec)) abnfLeavesCard

/-- THE TIED CARD OF 'frankinglaw02.AbnfWrong'. -/
def abnfWrongCard : Claim7 := { stood := { row := abnfWrongRow, standIns := [], harness := (true, "542d16f13bb0496de14d32b49fa061fa5c2af31a2a663b317ae2b563e752e0b3"), looks := false }, kinds := [], alts := [], laidByText := true, laidKinds := [.data, .data, .data, .data, .data, .pinned], laidTests := true, laidLooks := .later }
def AbnfWrongCardSaid : Prop := Claim7.holds Tryz.pinned (.plain (OpenSpec.ofChange abnfWrongSpec)) abnfWrongCard

/-- THE SECOND FORM's CARD OF 'frankinglaw02.AbnfTells'. -/
def abnfTellsUptoCard : Claim7 := { stood := { row := abnfTellsUptoRow, standIns := [], harness := (true, "542d16f13bb0496de14d32b49fa061fa5c2af31a2a663b317ae2b563e752e0b3"), looks := false }, kinds := [], alts := [], laidByText := true, laidKinds := [.data, .data, .data, .data], laidTests := true, laidLooks := .later }
def AbnfTellsUptoCardSaid : Prop := Claim7.holds Tryz.pinned (.plain (OpenSpec.upto abnfTellsSpec)) abnfTellsUptoCard

/-- THE SECOND FORM's CARD OF 'frankinglaw02.AbnfBack'. -/
def abnfBackUptoCard : Claim7 := { stood := { row := abnfBackUptoRow, standIns := [], harness := (true, "542d16f13bb0496de14d32b49fa061fa5c2af31a2a663b317ae2b563e752e0b3"), looks := false }, kinds := [], alts := [], laidByText := true, laidKinds := [.data, .data, .data, .data], laidTests := true, laidLooks := .later }
def AbnfBackUptoCardSaid : Prop := Claim7.holds Tryz.pinned (.plain (OpenSpec.upto abnfBackSpec)) abnfBackUptoCard

/-- THE SECOND FORM's CARD OF 'frankinglaw02.AbnfBrackets'. -/
def abnfBracketsUptoCard : Claim7 := { stood := { row := abnfBracketsUptoRow, standIns := [], harness := (true, "542d16f13bb0496de14d32b49fa061fa5c2af31a2a663b317ae2b563e752e0b3"), looks := false }, kinds := [], alts := [], laidByText := true, laidKinds := [.data, .data, .data, .data], laidTests := true, laidLooks := .later }
def AbnfBracketsUptoCardSaid : Prop := Claim7.holds Tryz.pinned (.plain (OpenSpec.upto abnfBracketsSpec)) abnfBracketsUptoCard

/-- THE SECOND FORM's CARD OF 'frankinglaw02.AbnfLeaves'. -/
def abnfLeavesUptoCard : Claim7 := { stood := { row := abnfLeavesUptoRow, standIns := [], harness := (true, "542d16f13bb0496de14d32b49fa061fa5c2af31a2a663b317ae2b563e752e0b3"), looks := false }, kinds := [], alts := [], laidByText := true, laidKinds := [.data, .data, .data, .data, .data, .pinned, .pinned], laidTests := true, laidLooks := .later }
def AbnfLeavesUptoCardSaid : Prop := Claim7.holds Tryz.pinned (.plain (OpenSpec.upto abnfLeavesSpec)) abnfLeavesUptoCard

/-- THE SECOND FORM's CARD OF 'frankinglaw02.AbnfWrong'. -/
def abnfWrongUptoCard : Claim7 := { stood := { row := abnfWrongUptoRow, standIns := [], harness := (true, "542d16f13bb0496de14d32b49fa061fa5c2af31a2a663b317ae2b563e752e0b3"), looks := false }, kinds := [], alts := [], laidByText := true, laidKinds := [.data, .data, .data, .data, .data, .pinned], laidTests := true, laidLooks := .later }
def AbnfWrongUptoCardSaid : Prop := Claim7.holds Tryz.pinned (.plain (OpenSpec.upto abnfWrongSpec)) abnfWrongUptoCard
end Rows
end Go.Proofs.YtgbipbjpeecooaaGreatDoor
