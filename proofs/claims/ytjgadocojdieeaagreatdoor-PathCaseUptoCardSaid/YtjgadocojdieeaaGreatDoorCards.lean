/-
  DERIVED. GIVEN WITH THE SEED: THE CARDS: each row of YtjgadocojdieeaaGreatDoorRows.lean that lists a variable, with what it lists TIED to the program's text (the seventh form; the later family's looks); each row that meets fmt, with fmt's text TOLD by the authors' own Lean function (tested against real Go, not proved from fmt's source: count such statements apart). THE CARD IS WHAT COUNTS. Prove the row's statement (the work); the ties are given (YtjgadocojdieeaaGreatDoorTie.lean); close each card by the builder's one call (the guide's Derived/Test/ToyasCard.lean, 'card_holds'). Laid BY PROGRAM, IN A SANDBOX (cutbox-door.mjs). By AI agents, Wed Nov 11 2026. No macro, syntax, notation, axiom, sorry.
-/
import Derived.Test.YtjgadocojdieeaaGreatDoorRows
import GoSem.ClaimSeven
namespace Go.Proofs.YtjgadocojdieeaaGreatDoor
namespace Rows

/-- THE TIED CARD OF 'frankinglaw15.PathTells'. -/
def pathTellsCard : Claim7 := { stood := { row := pathTellsRow, standIns := [], harness := (true, "681c77dbba54e674d736e7f71224c6146b9c515a0e2e898c3bd88a315726bd67"), looks := true }, kinds := [], alts := [], laidByText := true, laidKinds := [.data, .data, .data, .data, .sentinel, .sentinel, .pinned], laidTests := true, laidLooks := .later }
def PathTellsCardSaid : Prop := Claim7.holds Tryz.pinned (.plain (OpenSpec.ofChange pathTellsSpec)) pathTellsCard

/-- THE TIED CARD OF 'frankinglaw15.PathCase'. -/
def pathCaseCard : Claim7 := { stood := { row := pathCaseRow, standIns := [], harness := (true, "681c77dbba54e674d736e7f71224c6146b9c515a0e2e898c3bd88a315726bd67"), looks := true }, kinds := [], alts := [], laidByText := true, laidKinds := [.data, .data, .data, .data, .sentinel, .sentinel, .pinned, .pinned], laidTests := true, laidLooks := .later }
def PathCaseCardSaid : Prop := Claim7.holds Tryz.pinned (.plain (OpenSpec.ofChange pathCaseSpec)) pathCaseCard

/-- THE SECOND FORM's CARD OF 'frankinglaw15.PathTells'. -/
def pathTellsUptoCard : Claim7 := { stood := { row := pathTellsUptoRow, standIns := [], harness := (true, "681c77dbba54e674d736e7f71224c6146b9c515a0e2e898c3bd88a315726bd67"), looks := true }, kinds := [], alts := [], laidByText := true, laidKinds := [.data, .data, .data, .data, .sentinel, .sentinel, .pinned], laidTests := true, laidLooks := .later }
def PathTellsUptoCardSaid : Prop := Claim7.holds Tryz.pinned (.plain (OpenSpec.upto pathTellsSpec)) pathTellsUptoCard

/-- THE SECOND FORM's CARD OF 'frankinglaw15.PathCase'. -/
def pathCaseUptoCard : Claim7 := { stood := { row := pathCaseUptoRow, standIns := [], harness := (true, "681c77dbba54e674d736e7f71224c6146b9c515a0e2e898c3bd88a315726bd67"), looks := true }, kinds := [], alts := [], laidByText := true, laidKinds := [.data, .data, .data, .data, .sentinel, .sentinel, .pinned, .pinned], laidTests := true, laidLooks := .later }
def PathCaseUptoCardSaid : Prop := Claim7.holds Tryz.pinned (.plain (OpenSpec.upto pathCaseSpec)) pathCaseUptoCard
end Rows
end Go.Proofs.YtjgadocojdieeaaGreatDoor
