/-
  No cell of these rows narrows 'for every input' (looked for: loops, veiled, ifaces, maps, wideKeys, modest, calm, conditions, laid).
  DERIVED. THE GIVEN ROWS OF THIS SEAT. 4 by the template 'for every input the law returns true; each argument reads behind the call as it read before'; 0 by the template 'total and deterministic' (their statements: YtlpplmcploddaaaTotals.lean).
  GIVEN WITH THE SEED: the statements are not yours to turn. If you find one false, say at which input.
  Laid BY PROGRAM, IN A SANDBOX (cutbox-rows.mjs): the forced cells as the released guide's own fill.sh prints them over the translation 24684a62922732a3… (all of the seat's roots in one cut). By AI agents, Wed Nov 11 2026. No macro, syntax, notation, axiom, sorry.
-/
import Derived.Test.YtlpplmcploddaaaChecked
import GoSem.Claim
import GoSem.ClaimJoined
import GoSem.ClaimMapViews
import Derived.JoinedTies
import Derived.KernelRfl
namespace Go.Proofs.Ytlpplmcploddaaa
/- THE CELL 'sum', in the pinned program and in every row, IS THE sha256 OF THE DUMP (.gsa) THAT YtlpplmcploddaaaProg.lean LOADS. Nothing in Lean hashes anything: it is a label: what it is worth is what the hold of that sum in a sandbox is worth. -/
noncomputable def Try.pinned : Pinned := { name := "ytlpplmcploddaaa", sum := "24684a62922732a38509d9be6f0903b604aafff2d5023521f439606ea838ca3d", checked := Try.checked }
namespace Rows
def none {H : Type} : Left H := { results := [], args := [] }

/-- 'frankinglaw13.DotsBack': WHATEVER THE INPUT: true; the input reads as it did. -/
def dotsBackSpec : ChangeSpec := { name := "dotsBack", fn := fun _ => fun
  | [d1, d2] => { results := [.lit (.bool true)], args := [d1, d2] }
  | _ => none }
def dotsBackRow : OpenClaim := { program := "ytlpplmcploddaaa", sum := "24684a62922732a38509d9be6f0903b604aafff2d5023521f439606ea838ca3d", func := "franking/frankinglaw13.DotsBack", spec := "dotsBack", inPlace := ["internal/bytealg.IndexByte", "internal/bytealg.Index"], unfollowed := true, recurses := true, named := ["internal/bytealg.MaxLen"], apart := false }
def DotsBackSaid : Prop := dotsBackRow.holds Try.pinned (OpenSpec.ofChange dotsBackSpec)

/-- ITS FALSE NEIGHBOUR: 'it returns false'. Refute it at one input. -/
def dotsBackWrong : ChangeSpec := { name := "dotsBack", fn := fun _ => fun
  | [d1, d2] => { results := [.lit (.bool false)], args := [d1, d2] }
  | _ => none }
def DotsBackWrongFalsely : Prop := dotsBackRow.holds Try.pinned (OpenSpec.ofChange dotsBackWrong)

/-- 'frankinglaw13.DotsFront': WHATEVER THE INPUT: true; the input reads as it did. -/
def dotsFrontSpec : ChangeSpec := { name := "dotsFront", fn := fun _ => fun
  | [d1, d2] => { results := [.lit (.bool true)], args := [d1, d2] }
  | _ => none }
def dotsFrontRow : OpenClaim := { program := "ytlpplmcploddaaa", sum := "24684a62922732a38509d9be6f0903b604aafff2d5023521f439606ea838ca3d", func := "franking/frankinglaw13.DotsFront", spec := "dotsFront", inPlace := ["internal/bytealg.IndexByte", "internal/bytealg.Index", "internal/bytealg.CountString", "internal/bytealg.IndexByteString", "internal/bytealg.IndexString"], unfollowed := true, recurses := true, named := ["internal/bytealg.MaxLen"], apart := false }
def DotsFrontSaid : Prop := dotsFrontRow.holds Try.pinned (OpenSpec.ofChange dotsFrontSpec)

/-- ITS FALSE NEIGHBOUR: 'it returns false'. Refute it at one input. -/
def dotsFrontWrong : ChangeSpec := { name := "dotsFront", fn := fun _ => fun
  | [d1, d2] => { results := [.lit (.bool false)], args := [d1, d2] }
  | _ => none }
def DotsFrontWrongFalsely : Prop := dotsFrontRow.holds Try.pinned (OpenSpec.ofChange dotsFrontWrong)

/-- 'frankinglaw13.DotsAgain': WHATEVER THE INPUT: true; the input reads as it did. -/
def dotsAgainSpec : ChangeSpec := { name := "dotsAgain", fn := fun _ => fun
  | [d] => { results := [.lit (.bool true)], args := [d] }
  | _ => none }
def dotsAgainRow : OpenClaim := { program := "ytlpplmcploddaaa", sum := "24684a62922732a38509d9be6f0903b604aafff2d5023521f439606ea838ca3d", func := "franking/frankinglaw13.DotsAgain", spec := "dotsAgain", inPlace := ["internal/bytealg.IndexByte", "internal/bytealg.Index", "internal/bytealg.CountString", "internal/bytealg.IndexByteString", "internal/bytealg.IndexString"], unfollowed := true, recurses := true, named := ["internal/bytealg.MaxLen"], apart := false }
def DotsAgainSaid : Prop := dotsAgainRow.holds Try.pinned (OpenSpec.ofChange dotsAgainSpec)

/-- ITS FALSE NEIGHBOUR: 'it returns false'. Refute it at one input. -/
def dotsAgainWrong : ChangeSpec := { name := "dotsAgain", fn := fun _ => fun
  | [d] => { results := [.lit (.bool false)], args := [d] }
  | _ => none }
def DotsAgainWrongFalsely : Prop := dotsAgainRow.holds Try.pinned (OpenSpec.ofChange dotsAgainWrong)

/-- 'frankinglaw13.DotsLines': WHATEVER THE INPUT: true; the input reads as it did. -/
def dotsLinesSpec : ChangeSpec := { name := "dotsLines", fn := fun _ => fun
  | [d] => { results := [.lit (.bool true)], args := [d] }
  | _ => none }
def dotsLinesRow : OpenClaim := { program := "ytlpplmcploddaaa", sum := "24684a62922732a38509d9be6f0903b604aafff2d5023521f439606ea838ca3d", func := "franking/frankinglaw13.DotsLines", spec := "dotsLines", inPlace := ["internal/bytealg.IndexByte", "internal/bytealg.Index"], unfollowed := true, recurses := true, named := ["internal/bytealg.MaxLen"], apart := false }
def DotsLinesSaid : Prop := dotsLinesRow.holds Try.pinned (OpenSpec.ofChange dotsLinesSpec)

/-- ITS FALSE NEIGHBOUR: 'it returns false'. Refute it at one input. -/
def dotsLinesWrong : ChangeSpec := { name := "dotsLines", fn := fun _ => fun
  | [d] => { results := [.lit (.bool false)], args := [d] }
  | _ => none }
def DotsLinesWrongFalsely : Prop := dotsLinesRow.holds Try.pinned (OpenSpec.ofChange dotsLinesWrong)

/- THE SECOND FORM. 'bulk': how many values and letters a reading holds, each counted each time it is reached (what is shared counts as often as it is met; a slice's spare places count too). A statement '..UptoSaid' is the law's where the arguments, and the package variables that the reading takes, are together of bulk at most 1048576: NARROWER than '..Said'. Prove '..Said' where nothing that the law and all that it calls make is longer than what came in: it says more and counts as full. Else prove '..UptoSaid'. A law counts once. -/
mutual
def uptoBulk {H : Type} : DataW H → Nat
  | .lit (.string bytes) => bytes.length + 1
  | .lit _ => 1
  | .nil => 1
  | .ptr d => uptoBulk d + 1
  | .slice elems spare => uptoBulkAll elems + uptoBulkAll spare + 1
  | .agg parts => uptoBulkAll parts + 1
  | .iface _ d => uptoBulk d + 1
  | .map entries => uptoBulkEntries entries + 1
  | .held _ => 1
def uptoBulkAll {H : Type} : List (DataW H) → Nat
  | [] => 0
  | d :: r => uptoBulk d + uptoBulkAll r
def uptoBulkEntries {H : Type} : List (Lit × DataW H) → Nat
  | [] => 0
  | x :: r => uptoBulkEntry x + uptoBulkEntries r
def uptoBulkEntry {H : Type} : Lit × DataW H → Nat
  | (.string bytes, d) => bytes.length + uptoBulk d + 1
  | (_, d) => uptoBulk d + 1
 end
def uptoSmall : (H : Type) → List (DataW H) → Bool := fun _ ds => decide (uptoBulkAll ds ≤ 1048576)
def OpenSpec.upto (s : _root_.Go.ChangeSpec) : _root_.Go.OpenSpec := { _root_.Go.OpenSpec.ofChange s with cond := some uptoSmall }

/-- 'frankinglaw13.DotsBack', WHERE WHAT IT READS IS OF BULK AT MOST 1048576: true; the input reads as it did. -/
def dotsBackUptoRow : OpenClaim := { program := "ytlpplmcploddaaa", sum := "24684a62922732a38509d9be6f0903b604aafff2d5023521f439606ea838ca3d", func := "franking/frankinglaw13.DotsBack", spec := "dotsBack", inPlace := ["internal/bytealg.IndexByte", "internal/bytealg.Index"], unfollowed := true, recurses := true, named := ["internal/bytealg.MaxLen"], apart := false, narrowed := true }
def DotsBackUptoSaid : Prop := dotsBackUptoRow.holds Try.pinned (OpenSpec.upto dotsBackSpec)

/-- 'frankinglaw13.DotsFront', WHERE WHAT IT READS IS OF BULK AT MOST 1048576: true; the input reads as it did. -/
def dotsFrontUptoRow : OpenClaim := { program := "ytlpplmcploddaaa", sum := "24684a62922732a38509d9be6f0903b604aafff2d5023521f439606ea838ca3d", func := "franking/frankinglaw13.DotsFront", spec := "dotsFront", inPlace := ["internal/bytealg.IndexByte", "internal/bytealg.Index", "internal/bytealg.CountString", "internal/bytealg.IndexByteString", "internal/bytealg.IndexString"], unfollowed := true, recurses := true, named := ["internal/bytealg.MaxLen"], apart := false, narrowed := true }
def DotsFrontUptoSaid : Prop := dotsFrontUptoRow.holds Try.pinned (OpenSpec.upto dotsFrontSpec)

/-- 'frankinglaw13.DotsAgain', WHERE WHAT IT READS IS OF BULK AT MOST 1048576: true; the input reads as it did. -/
def dotsAgainUptoRow : OpenClaim := { program := "ytlpplmcploddaaa", sum := "24684a62922732a38509d9be6f0903b604aafff2d5023521f439606ea838ca3d", func := "franking/frankinglaw13.DotsAgain", spec := "dotsAgain", inPlace := ["internal/bytealg.IndexByte", "internal/bytealg.Index", "internal/bytealg.CountString", "internal/bytealg.IndexByteString", "internal/bytealg.IndexString"], unfollowed := true, recurses := true, named := ["internal/bytealg.MaxLen"], apart := false, narrowed := true }
def DotsAgainUptoSaid : Prop := dotsAgainUptoRow.holds Try.pinned (OpenSpec.upto dotsAgainSpec)

/-- 'frankinglaw13.DotsLines', WHERE WHAT IT READS IS OF BULK AT MOST 1048576: true; the input reads as it did. -/
def dotsLinesUptoRow : OpenClaim := { program := "ytlpplmcploddaaa", sum := "24684a62922732a38509d9be6f0903b604aafff2d5023521f439606ea838ca3d", func := "franking/frankinglaw13.DotsLines", spec := "dotsLines", inPlace := ["internal/bytealg.IndexByte", "internal/bytealg.Index"], unfollowed := true, recurses := true, named := ["internal/bytealg.MaxLen"], apart := false, narrowed := true }
def DotsLinesUptoSaid : Prop := dotsLinesUptoRow.holds Try.pinned (OpenSpec.upto dotsLinesSpec)

end Rows
end Go.Proofs.Ytlpplmcploddaaa
