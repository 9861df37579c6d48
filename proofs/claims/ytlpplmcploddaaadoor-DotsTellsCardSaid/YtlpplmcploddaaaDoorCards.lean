/-
  DERIVED. GIVEN WITH THE SEED: THE CARDS: each row of YtlpplmcploddaaaDoorRows.lean that lists a variable, with what it lists TIED to the program's text (the seventh form; the later family's looks); each row that meets fmt, with fmt's text TOLD by the authors' own Lean function (tested against real Go, not proved from fmt's source: count such statements apart). THE CARD IS WHAT COUNTS. Prove the row's statement (the work); the ties are given (YtlpplmcploddaaaDoorTie.lean); close each card by the builder's one call (the guide's Derived/Test/ToyasCard.lean, 'card_holds'). Laid BY PROGRAM, IN A SANDBOX (cutbox-door.mjs). By AI agents, Wed Nov 11 2026. No macro, syntax, notation, axiom, sorry.
-/
import Derived.Test.YtlpplmcploddaaaDoorRows
import GoSem.ClaimSeven
namespace Go.Proofs.YtlpplmcploddaaaDoor
namespace Rows

/-- THE TIED CARD OF 'frankinglaw13.DotsTells'. -/
def dotsTellsCard : Claim7 := { stood := { row := dotsTellsRow, standIns := [], harness := (true, "853c9d5f87b4d7dae5ed0b5eca1ca9b720f1ae5445ca76d93ec24db3df3d4476"), looks := false }, kinds := [], alts := [], laidByText := true, laidKinds := [.data, .pinned], laidTests := true, laidLooks := .later }
def DotsTellsCardSaid : Prop := Claim7.holds Tryd.pinned (.plain (OpenSpec.ofChange dotsTellsSpec)) dotsTellsCard

/-- THE SECOND FORM's CARD OF 'frankinglaw13.DotsTells'. -/
def dotsTellsUptoCard : Claim7 := { stood := { row := dotsTellsUptoRow, standIns := [], harness := (true, "853c9d5f87b4d7dae5ed0b5eca1ca9b720f1ae5445ca76d93ec24db3df3d4476"), looks := false }, kinds := [], alts := [], laidByText := true, laidKinds := [.data, .pinned], laidTests := true, laidLooks := .later }
def DotsTellsUptoCardSaid : Prop := Claim7.holds Tryd.pinned (.plain (OpenSpec.upto dotsTellsSpec)) dotsTellsUptoCard
end Rows
end Go.Proofs.YtlpplmcploddaaaDoor
