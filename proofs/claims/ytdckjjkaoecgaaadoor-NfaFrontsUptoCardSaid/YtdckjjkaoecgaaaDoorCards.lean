/-
  DERIVED. GIVEN WITH THE SEED: THE CARDS: each row of YtdckjjkaoecgaaaDoorRows.lean that lists a variable, with what it lists TIED to the program's text (the seventh form; the later family's looks); each row that meets fmt, with fmt's text TOLD by the authors' own Lean function (tested against real Go, not proved from fmt's source: count such statements apart). THE CARD IS WHAT COUNTS. Prove the row's statement (the work); the ties are given (YtdckjjkaoecgaaaDoorTie.lean); close each card by the builder's one call (the guide's Derived/Test/ToyasCard.lean, 'card_holds'). Laid BY PROGRAM, IN A SANDBOX (cutbox-door.mjs). By AI agents, Wed Nov 11 2026. No macro, syntax, notation, axiom, sorry.
-/
import Derived.Test.YtdckjjkaoecgaaaDoorRows
import GoSem.ClaimSeven
namespace Go.Proofs.YtdckjjkaoecgaaaDoor
namespace Rows

/-- THE TIED CARD OF 'frankinglaw07.NfaTells'. -/
def nfaTellsCard : Claim7 := { stood := { row := nfaTellsRow, standIns := [], harness := (true, "843875e443317ab9d72779c200319ec969a114007af225fb442c0c2ec622878e"), looks := false }, kinds := [], alts := [], laidByText := true, laidKinds := [.data], laidTests := true, laidLooks := .later }
def NfaTellsCardSaid : Prop := Claim7.holds Tryd.pinned (.plain (OpenSpec.ofChange nfaTellsSpec)) nfaTellsCard

/-- THE TIED CARD OF 'frankinglaw07.NfaTags'. -/
def nfaTagsCard : Claim7 := { stood := { row := nfaTagsRow, standIns := [], harness := (true, "843875e443317ab9d72779c200319ec969a114007af225fb442c0c2ec622878e"), looks := false }, kinds := [], alts := [], laidByText := true, laidKinds := [.data], laidTests := true, laidLooks := .later }
def NfaTagsCardSaid : Prop := Claim7.holds Tryd.pinned (.plain (OpenSpec.ofChange nfaTagsSpec)) nfaTagsCard

/-- THE TIED CARD OF 'frankinglaw07.NfaCap'. -/
def nfaCapCard : Claim7 := { stood := { row := nfaCapRow, standIns := [], harness := (true, "843875e443317ab9d72779c200319ec969a114007af225fb442c0c2ec622878e"), looks := false }, kinds := [], alts := [], laidByText := true, laidKinds := [.data], laidTests := true, laidLooks := .later }
def NfaCapCardSaid : Prop := Claim7.holds Tryd.pinned (.plain (OpenSpec.ofChange nfaCapSpec)) nfaCapCard

/-- THE TIED CARD OF 'frankinglaw07.NfaFronts'. -/
def nfaFrontsCard : Claim7 := { stood := { row := nfaFrontsRow, standIns := [], harness := (true, "843875e443317ab9d72779c200319ec969a114007af225fb442c0c2ec622878e"), looks := false }, kinds := [], alts := [], laidByText := true, laidKinds := [.data], laidTests := true, laidLooks := .later }
def NfaFrontsCardSaid : Prop := Claim7.holds Tryd.pinned (.plain (OpenSpec.ofChange nfaFrontsSpec)) nfaFrontsCard

/-- THE TIED CARD OF 'frankinglaw07.NfaOrder'. -/
def nfaOrderCard : Claim7 := { stood := { row := nfaOrderRow, standIns := [], harness := (true, "843875e443317ab9d72779c200319ec969a114007af225fb442c0c2ec622878e"), looks := false }, kinds := [], alts := [], laidByText := true, laidKinds := [.data], laidTests := true, laidLooks := .later }
def NfaOrderCardSaid : Prop := Claim7.holds Tryd.pinned (.plain (OpenSpec.ofChange nfaOrderSpec)) nfaOrderCard

/-- THE SECOND FORM's CARD OF 'frankinglaw07.NfaTells'. -/
def nfaTellsUptoCard : Claim7 := { stood := { row := nfaTellsUptoRow, standIns := [], harness := (true, "843875e443317ab9d72779c200319ec969a114007af225fb442c0c2ec622878e"), looks := false }, kinds := [], alts := [], laidByText := true, laidKinds := [.data], laidTests := true, laidLooks := .later }
def NfaTellsUptoCardSaid : Prop := Claim7.holds Tryd.pinned (.plain (OpenSpec.upto nfaTellsSpec)) nfaTellsUptoCard

/-- THE SECOND FORM's CARD OF 'frankinglaw07.NfaTags'. -/
def nfaTagsUptoCard : Claim7 := { stood := { row := nfaTagsUptoRow, standIns := [], harness := (true, "843875e443317ab9d72779c200319ec969a114007af225fb442c0c2ec622878e"), looks := false }, kinds := [], alts := [], laidByText := true, laidKinds := [.data], laidTests := true, laidLooks := .later }
def NfaTagsUptoCardSaid : Prop := Claim7.holds Tryd.pinned (.plain (OpenSpec.upto nfaTagsSpec)) nfaTagsUptoCard

/-- THE SECOND FORM's CARD OF 'frankinglaw07.NfaCap'. -/
def nfaCapUptoCard : Claim7 := { stood := { row := nfaCapUptoRow, standIns := [], harness := (true, "843875e443317ab9d72779c200319ec969a114007af225fb442c0c2ec622878e"), looks := false }, kinds := [], alts := [], laidByText := true, laidKinds := [.data], laidTests := true, laidLooks := .later }
def NfaCapUptoCardSaid : Prop := Claim7.holds Tryd.pinned (.plain (OpenSpec.upto nfaCapSpec)) nfaCapUptoCard

/-- THE SECOND FORM's CARD OF 'frankinglaw07.NfaFronts'. -/
def nfaFrontsUptoCard : Claim7 := { stood := { row := nfaFrontsUptoRow, standIns := [], harness := (true, "843875e443317ab9d72779c200319ec969a114007af225fb442c0c2ec622878e"), looks := false }, kinds := [], alts := [], laidByText := true, laidKinds := [.data], laidTests := true, laidLooks := .later }
def NfaFrontsUptoCardSaid : Prop := Claim7.holds Tryd.pinned (.plain (OpenSpec.upto nfaFrontsSpec)) nfaFrontsUptoCard

/-- THE SECOND FORM's CARD OF 'frankinglaw07.NfaOrder'. -/
def nfaOrderUptoCard : Claim7 := { stood := { row := nfaOrderUptoRow, standIns := [], harness := (true, "843875e443317ab9d72779c200319ec969a114007af225fb442c0c2ec622878e"), looks := false }, kinds := [], alts := [], laidByText := true, laidKinds := [.data], laidTests := true, laidLooks := .later }
def NfaOrderUptoCardSaid : Prop := Claim7.holds Tryd.pinned (.plain (OpenSpec.upto nfaOrderSpec)) nfaOrderUptoCard
end Rows
end Go.Proofs.YtdckjjkaoecgaaaDoor
