/-
  DERIVED. GIVEN WITH THE SEED: THE CARDS: each row of YtlhcckihnkkeaaaDoorRows.lean that lists a variable, with what it lists TIED to the program's text (the seventh form; the later family's looks); each row that meets fmt, with fmt's text TOLD by the authors' own Lean function (tested against real Go, not proved from fmt's source: count such statements apart). THE CARD IS WHAT COUNTS. Prove the row's statement (the work); the ties are given (YtlhcckihnkkeaaaDoorTie.lean); close each card by the builder's one call (the guide's Derived/Test/ToyasCard.lean, 'card_holds'). Laid BY PROGRAM, IN A SANDBOX (cutbox-door.mjs). By AI agents, Wed Nov 11 2026. No macro, syntax, notation, axiom, sorry.
-/
import Derived.Test.YtlhcckihnkkeaaaDoorRows
import GoSem.ClaimSeven
namespace Go.Proofs.YtlhcckihnkkeaaaDoor
namespace Rows

/-- THE TIED CARD OF 'frankinglaw07.NfaTells'. -/
def nfaTellsCard : Claim7 := { stood := { row := nfaTellsRow, standIns := [], harness := (true, "44523c3673125b870b0ecde98b725b6a83fdfff5a7fe13222b52ea6b8f5b20a0"), looks := false }, kinds := [], alts := [], laidByText := true, laidKinds := [.data], laidTests := true, laidLooks := .later }
def NfaTellsCardSaid : Prop := Claim7.holds Tryd.pinned (.plain (OpenSpec.ofChange nfaTellsSpec)) nfaTellsCard

/-- THE TIED CARD OF 'frankinglaw07.NfaFronts'. -/
def nfaFrontsCard : Claim7 := { stood := { row := nfaFrontsRow, standIns := [], harness := (true, "44523c3673125b870b0ecde98b725b6a83fdfff5a7fe13222b52ea6b8f5b20a0"), looks := false }, kinds := [], alts := [], laidByText := true, laidKinds := [.data], laidTests := true, laidLooks := .later }
def NfaFrontsCardSaid : Prop := Claim7.holds Tryd.pinned (.plain (OpenSpec.ofChange nfaFrontsSpec)) nfaFrontsCard

/-- THE TIED CARD OF 'frankinglaw07.NfaOrder'. -/
def nfaOrderCard : Claim7 := { stood := { row := nfaOrderRow, standIns := [], harness := (true, "44523c3673125b870b0ecde98b725b6a83fdfff5a7fe13222b52ea6b8f5b20a0"), looks := false }, kinds := [], alts := [], laidByText := true, laidKinds := [.data], laidTests := true, laidLooks := .later }
def NfaOrderCardSaid : Prop := Claim7.holds Tryd.pinned (.plain (OpenSpec.ofChange nfaOrderSpec)) nfaOrderCard

/-- THE SECOND FORM's CARD OF 'frankinglaw07.NfaTells'. -/
def nfaTellsUptoCard : Claim7 := { stood := { row := nfaTellsUptoRow, standIns := [], harness := (true, "44523c3673125b870b0ecde98b725b6a83fdfff5a7fe13222b52ea6b8f5b20a0"), looks := false }, kinds := [], alts := [], laidByText := true, laidKinds := [.data], laidTests := true, laidLooks := .later }
def NfaTellsUptoCardSaid : Prop := Claim7.holds Tryd.pinned (.plain (OpenSpec.upto nfaTellsSpec)) nfaTellsUptoCard

/-- THE SECOND FORM's CARD OF 'frankinglaw07.NfaFronts'. -/
def nfaFrontsUptoCard : Claim7 := { stood := { row := nfaFrontsUptoRow, standIns := [], harness := (true, "44523c3673125b870b0ecde98b725b6a83fdfff5a7fe13222b52ea6b8f5b20a0"), looks := false }, kinds := [], alts := [], laidByText := true, laidKinds := [.data], laidTests := true, laidLooks := .later }
def NfaFrontsUptoCardSaid : Prop := Claim7.holds Tryd.pinned (.plain (OpenSpec.upto nfaFrontsSpec)) nfaFrontsUptoCard

/-- THE SECOND FORM's CARD OF 'frankinglaw07.NfaOrder'. -/
def nfaOrderUptoCard : Claim7 := { stood := { row := nfaOrderUptoRow, standIns := [], harness := (true, "44523c3673125b870b0ecde98b725b6a83fdfff5a7fe13222b52ea6b8f5b20a0"), looks := false }, kinds := [], alts := [], laidByText := true, laidKinds := [.data], laidTests := true, laidLooks := .later }
def NfaOrderUptoCardSaid : Prop := Claim7.holds Tryd.pinned (.plain (OpenSpec.upto nfaOrderSpec)) nfaOrderUptoCard
end Rows
end Go.Proofs.YtlhcckihnkkeaaaDoor
