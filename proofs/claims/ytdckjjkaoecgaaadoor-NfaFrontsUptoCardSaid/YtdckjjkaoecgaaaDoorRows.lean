/-
  NARROWER THAN 'FOR EVERY INPUT', by the rows' own cells (each row's printed sentence says how): NfaTells: loops, laid · NfaTags: loops, laid · NfaCap: loops, laid · NfaFronts: loops, laid · NfaOrder: loops, laid.
  DERIVED. THE GIVEN ROWS OF THIS SEAT. 5 by the template 'for every input the law returns true; each argument reads behind the call as it read before'; 0 by the template 'total and deterministic' (their statements: YtdckjjkaoecgaaaDoorTotals.lean).
  GIVEN WITH THE SEED: the statements are not yours to turn. If you find one false, say at which input.
  Laid BY PROGRAM, IN A SANDBOX (cutbox-rows.mjs): the forced cells as the released guide's own fill.sh prints them over the translation e94adf917346ad3a… (all of the seat's roots in one cut). By AI agents, Wed Nov 11 2026. No macro, syntax, notation, axiom, sorry.
-/
import Derived.Test.YtdckjjkaoecgaaaDoorChecked
import GoSem.Claim
import GoSem.ClaimJoined
import GoSem.ClaimMapViews
import Derived.JoinedTies
import Derived.KernelRfl
namespace Go.Proofs.YtdckjjkaoecgaaaDoor
/- THE CELL 'sum', in the pinned program and in every row, IS THE sha256 OF THE DUMP (.gsa) THAT YtdckjjkaoecgaaaDoorProg.lean LOADS. Nothing in Lean hashes anything: it is a label: what it is worth is what the hold of that sum in a sandbox is worth. -/
noncomputable def Tryd.pinned : Pinned := { name := "ytdckjjkaoecgaaadoor", sum := "e94adf917346ad3a33796a6526cc0ac43dd913a1add02d6bc620868f0a75e727", checked := Tryd.checked }
namespace Rows
def none {H : Type} : Left H := { results := [], args := [] }

/- WHAT THE LISTED PACKAGE-LEVEL VARIABLES READ AS WHEN THE CALL BEGINS. Each datum BY PROGRAM (the guide's laid-datum.mjs) off the statement by which the dump's own 'gosem.cut.vars' lays the variable. In a bare row this is a premise. The card (YtdckjjkaoecgaaaDoorCards.lean) ties it to the program's text. -/
def laid_math_bits_deBruijn64tab {H : Type} : DataW H := .agg [.lit (.int .u8 0), .lit (.int .u8 1), .lit (.int .u8 56), .lit (.int .u8 2), .lit (.int .u8 57), .lit (.int .u8 49), .lit (.int .u8 28), .lit (.int .u8 3), .lit (.int .u8 61), .lit (.int .u8 58), .lit (.int .u8 42), .lit (.int .u8 50), .lit (.int .u8 38), .lit (.int .u8 29), .lit (.int .u8 17), .lit (.int .u8 4), .lit (.int .u8 62), .lit (.int .u8 47), .lit (.int .u8 59), .lit (.int .u8 36), .lit (.int .u8 45), .lit (.int .u8 43), .lit (.int .u8 51), .lit (.int .u8 22), .lit (.int .u8 53), .lit (.int .u8 39), .lit (.int .u8 33), .lit (.int .u8 30), .lit (.int .u8 24), .lit (.int .u8 18), .lit (.int .u8 12), .lit (.int .u8 5), .lit (.int .u8 63), .lit (.int .u8 55), .lit (.int .u8 48), .lit (.int .u8 27), .lit (.int .u8 60), .lit (.int .u8 41), .lit (.int .u8 37), .lit (.int .u8 16), .lit (.int .u8 46), .lit (.int .u8 35), .lit (.int .u8 44), .lit (.int .u8 21), .lit (.int .u8 52), .lit (.int .u8 32), .lit (.int .u8 23), .lit (.int .u8 11), .lit (.int .u8 54), .lit (.int .u8 26), .lit (.int .u8 40), .lit (.int .u8 15), .lit (.int .u8 34), .lit (.int .u8 20), .lit (.int .u8 31), .lit (.int .u8 10), .lit (.int .u8 25), .lit (.int .u8 14), .lit (.int .u8 19), .lit (.int .u8 9), .lit (.int .u8 13), .lit (.int .u8 8), .lit (.int .u8 7), .lit (.int .u8 6)]

/-- 'frankinglaw07.NfaTells': WHATEVER THE INPUT: true; the input reads as it did. -/
def nfaTellsSpec : ChangeSpec := { name := "nfaTells", fn := fun _ => fun
  | [d1, d2, d3, d4] => { results := [.lit (.bool true)], args := [d1, d2, d3, d4] }
  | _ => none }
def nfaTellsRow : OpenClaim := { program := "ytdckjjkaoecgaaadoor", sum := "e94adf917346ad3a33796a6526cc0ac43dd913a1add02d6bc620868f0a75e727", func := "franking/frankinglaw07.NfaTells", spec := "nfaTells", unfollowed := true, recurses := true, named := ["math/bits.deBruijn64tab"], loops := true, apart := false, laid := [("math/bits.deBruijn64tab", laid_math_bits_deBruijn64tab)] }
def NfaTellsSaid : Prop := nfaTellsRow.holds Tryd.pinned (OpenSpec.ofChange nfaTellsSpec)

/-- ITS FALSE NEIGHBOUR: 'it returns false'. Refute it at one input. -/
def nfaTellsWrong : ChangeSpec := { name := "nfaTells", fn := fun _ => fun
  | [d1, d2, d3, d4] => { results := [.lit (.bool false)], args := [d1, d2, d3, d4] }
  | _ => none }
def NfaTellsWrongFalsely : Prop := nfaTellsRow.holds Tryd.pinned (OpenSpec.ofChange nfaTellsWrong)

/-- 'frankinglaw07.NfaTags': WHATEVER THE INPUT: true; the input reads as it did. -/
def nfaTagsSpec : ChangeSpec := { name := "nfaTags", fn := fun _ => fun
  | [d1, d2] => { results := [.lit (.bool true)], args := [d1, d2] }
  | _ => none }
def nfaTagsRow : OpenClaim := { program := "ytdckjjkaoecgaaadoor", sum := "e94adf917346ad3a33796a6526cc0ac43dd913a1add02d6bc620868f0a75e727", func := "franking/frankinglaw07.NfaTags", spec := "nfaTags", unfollowed := true, recurses := true, named := ["math/bits.deBruijn64tab"], loops := true, apart := false, laid := [("math/bits.deBruijn64tab", laid_math_bits_deBruijn64tab)] }
def NfaTagsSaid : Prop := nfaTagsRow.holds Tryd.pinned (OpenSpec.ofChange nfaTagsSpec)

/-- ITS FALSE NEIGHBOUR: 'it returns false'. Refute it at one input. -/
def nfaTagsWrong : ChangeSpec := { name := "nfaTags", fn := fun _ => fun
  | [d1, d2] => { results := [.lit (.bool false)], args := [d1, d2] }
  | _ => none }
def NfaTagsWrongFalsely : Prop := nfaTagsRow.holds Tryd.pinned (OpenSpec.ofChange nfaTagsWrong)

/-- 'frankinglaw07.NfaCap': WHATEVER THE INPUT: true; the input reads as it did. -/
def nfaCapSpec : ChangeSpec := { name := "nfaCap", fn := fun _ => fun
  | [d1, d2] => { results := [.lit (.bool true)], args := [d1, d2] }
  | _ => none }
def nfaCapRow : OpenClaim := { program := "ytdckjjkaoecgaaadoor", sum := "e94adf917346ad3a33796a6526cc0ac43dd913a1add02d6bc620868f0a75e727", func := "franking/frankinglaw07.NfaCap", spec := "nfaCap", unfollowed := true, recurses := true, named := ["math/bits.deBruijn64tab"], loops := true, apart := false, laid := [("math/bits.deBruijn64tab", laid_math_bits_deBruijn64tab)] }
def NfaCapSaid : Prop := nfaCapRow.holds Tryd.pinned (OpenSpec.ofChange nfaCapSpec)

/-- ITS FALSE NEIGHBOUR: 'it returns false'. Refute it at one input. -/
def nfaCapWrong : ChangeSpec := { name := "nfaCap", fn := fun _ => fun
  | [d1, d2] => { results := [.lit (.bool false)], args := [d1, d2] }
  | _ => none }
def NfaCapWrongFalsely : Prop := nfaCapRow.holds Tryd.pinned (OpenSpec.ofChange nfaCapWrong)

/-- 'frankinglaw07.NfaFronts': WHATEVER THE INPUT: true; the input reads as it did. -/
def nfaFrontsSpec : ChangeSpec := { name := "nfaFronts", fn := fun _ => fun
  | [d1, d2, d3, d4] => { results := [.lit (.bool true)], args := [d1, d2, d3, d4] }
  | _ => none }
def nfaFrontsRow : OpenClaim := { program := "ytdckjjkaoecgaaadoor", sum := "e94adf917346ad3a33796a6526cc0ac43dd913a1add02d6bc620868f0a75e727", func := "franking/frankinglaw07.NfaFronts", spec := "nfaFronts", unfollowed := true, recurses := true, named := ["math/bits.deBruijn64tab"], loops := true, apart := false, laid := [("math/bits.deBruijn64tab", laid_math_bits_deBruijn64tab)] }
def NfaFrontsSaid : Prop := nfaFrontsRow.holds Tryd.pinned (OpenSpec.ofChange nfaFrontsSpec)

/-- ITS FALSE NEIGHBOUR: 'it returns false'. Refute it at one input. -/
def nfaFrontsWrong : ChangeSpec := { name := "nfaFronts", fn := fun _ => fun
  | [d1, d2, d3, d4] => { results := [.lit (.bool false)], args := [d1, d2, d3, d4] }
  | _ => none }
def NfaFrontsWrongFalsely : Prop := nfaFrontsRow.holds Tryd.pinned (OpenSpec.ofChange nfaFrontsWrong)

/-- 'frankinglaw07.NfaOrder': WHATEVER THE INPUT: true; the input reads as it did. -/
def nfaOrderSpec : ChangeSpec := { name := "nfaOrder", fn := fun _ => fun
  | [d1, d2] => { results := [.lit (.bool true)], args := [d1, d2] }
  | _ => none }
def nfaOrderRow : OpenClaim := { program := "ytdckjjkaoecgaaadoor", sum := "e94adf917346ad3a33796a6526cc0ac43dd913a1add02d6bc620868f0a75e727", func := "franking/frankinglaw07.NfaOrder", spec := "nfaOrder", unfollowed := true, recurses := true, named := ["math/bits.deBruijn64tab"], loops := true, apart := false, laid := [("math/bits.deBruijn64tab", laid_math_bits_deBruijn64tab)] }
def NfaOrderSaid : Prop := nfaOrderRow.holds Tryd.pinned (OpenSpec.ofChange nfaOrderSpec)

/-- ITS FALSE NEIGHBOUR: 'it returns false'. Refute it at one input. -/
def nfaOrderWrong : ChangeSpec := { name := "nfaOrder", fn := fun _ => fun
  | [d1, d2] => { results := [.lit (.bool false)], args := [d1, d2] }
  | _ => none }
def NfaOrderWrongFalsely : Prop := nfaOrderRow.holds Tryd.pinned (OpenSpec.ofChange nfaOrderWrong)

/- THE SECOND FORM. 'bulk': how many values and letters a reading holds, each counted each time it is reached (what is shared counts as often as it is met; a slice's spare places count too). A statement '..UptoSaid' is the law's where the arguments, and the package variables that the reading takes, are together of bulk at most 1048576: NARROWER than '..Said'. Prove '..Said' where nothing that the law and all that it calls make is longer than what came in: it says more and counts as full. Else prove '..UptoSaid'. A law counts once. -/
mutual
def uptoBulk {H : Type} : DataW H → Nat
  | .lit (.string bytes) => bytes.length + 1
  | .lit _ => 1
  | .nil => 1
  | .ptr d => uptoBulk d + 1
  | .slice elems spare => uptoBulkAll elems + uptoBulkAll spare + 1
  | .agg parts => uptoBulkAll parts + 1
  | .iface _ d => uptoBulk d + 1
  | .map entries => uptoBulkEntries entries + 1
  | .held _ => 1
def uptoBulkAll {H : Type} : List (DataW H) → Nat
  | [] => 0
  | d :: r => uptoBulk d + uptoBulkAll r
def uptoBulkEntries {H : Type} : List (Lit × DataW H) → Nat
  | [] => 0
  | x :: r => uptoBulkEntry x + uptoBulkEntries r
def uptoBulkEntry {H : Type} : Lit × DataW H → Nat
  | (.string bytes, d) => bytes.length + uptoBulk d + 1
  | (_, d) => uptoBulk d + 1
 end
def uptoSmall : (H : Type) → List (DataW H) → Bool := fun _ ds => decide (uptoBulkAll ds ≤ 1048576)
def OpenSpec.upto (s : _root_.Go.ChangeSpec) : _root_.Go.OpenSpec := { _root_.Go.OpenSpec.ofChange s with cond := some uptoSmall }

/-- 'frankinglaw07.NfaTells', WHERE WHAT IT READS IS OF BULK AT MOST 1048576: true; the input reads as it did. -/
def nfaTellsUptoRow : OpenClaim := { program := "ytdckjjkaoecgaaadoor", sum := "e94adf917346ad3a33796a6526cc0ac43dd913a1add02d6bc620868f0a75e727", func := "franking/frankinglaw07.NfaTells", spec := "nfaTells", unfollowed := true, recurses := true, named := ["math/bits.deBruijn64tab"], loops := true, apart := false, laid := [("math/bits.deBruijn64tab", laid_math_bits_deBruijn64tab)], narrowed := true }
def NfaTellsUptoSaid : Prop := nfaTellsUptoRow.holds Tryd.pinned (OpenSpec.upto nfaTellsSpec)

/-- 'frankinglaw07.NfaTags', WHERE WHAT IT READS IS OF BULK AT MOST 1048576: true; the input reads as it did. -/
def nfaTagsUptoRow : OpenClaim := { program := "ytdckjjkaoecgaaadoor", sum := "e94adf917346ad3a33796a6526cc0ac43dd913a1add02d6bc620868f0a75e727", func := "franking/frankinglaw07.NfaTags", spec := "nfaTags", unfollowed := true, recurses := true, named := ["math/bits.deBruijn64tab"], loops := true, apart := false, laid := [("math/bits.deBruijn64tab", laid_math_bits_deBruijn64tab)], narrowed := true }
def NfaTagsUptoSaid : Prop := nfaTagsUptoRow.holds Tryd.pinned (OpenSpec.upto nfaTagsSpec)

/-- 'frankinglaw07.NfaCap', WHERE WHAT IT READS IS OF BULK AT MOST 1048576: true; the input reads as it did. -/
def nfaCapUptoRow : OpenClaim := { program := "ytdckjjkaoecgaaadoor", sum := "e94adf917346ad3a33796a6526cc0ac43dd913a1add02d6bc620868f0a75e727", func := "franking/frankinglaw07.NfaCap", spec := "nfaCap", unfollowed := true, recurses := true, named := ["math/bits.deBruijn64tab"], loops := true, apart := false, laid := [("math/bits.deBruijn64tab", laid_math_bits_deBruijn64tab)], narrowed := true }
def NfaCapUptoSaid : Prop := nfaCapUptoRow.holds Tryd.pinned (OpenSpec.upto nfaCapSpec)

/-- 'frankinglaw07.NfaFronts', WHERE WHAT IT READS IS OF BULK AT MOST 1048576: true; the input reads as it did. -/
def nfaFrontsUptoRow : OpenClaim := { program := "ytdckjjkaoecgaaadoor", sum := "e94adf917346ad3a33796a6526cc0ac43dd913a1add02d6bc620868f0a75e727", func := "franking/frankinglaw07.NfaFronts", spec := "nfaFronts", unfollowed := true, recurses := true, named := ["math/bits.deBruijn64tab"], loops := true, apart := false, laid := [("math/bits.deBruijn64tab", laid_math_bits_deBruijn64tab)], narrowed := true }
def NfaFrontsUptoSaid : Prop := nfaFrontsUptoRow.holds Tryd.pinned (OpenSpec.upto nfaFrontsSpec)

/-- 'frankinglaw07.NfaOrder', WHERE WHAT IT READS IS OF BULK AT MOST 1048576: true; the input reads as it did. -/
def nfaOrderUptoRow : OpenClaim := { program := "ytdckjjkaoecgaaadoor", sum := "e94adf917346ad3a33796a6526cc0ac43dd913a1add02d6bc620868f0a75e727", func := "franking/frankinglaw07.NfaOrder", spec := "nfaOrder", unfollowed := true, recurses := true, named := ["math/bits.deBruijn64tab"], loops := true, apart := false, laid := [("math/bits.deBruijn64tab", laid_math_bits_deBruijn64tab)], narrowed := true }
def NfaOrderUptoSaid : Prop := nfaOrderUptoRow.holds Tryd.pinned (OpenSpec.upto nfaOrderSpec)

end Rows
end Go.Proofs.YtdckjjkaoecgaaaDoor
