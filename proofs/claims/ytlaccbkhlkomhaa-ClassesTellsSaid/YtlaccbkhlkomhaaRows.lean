/-
  NARROWER THAN 'FOR EVERY INPUT', by the rows' own cells (each row's printed sentence says how): ClassesTells: loops · ClassesSame: loops · ClassesMore: loops · ClassesOrder: loops.
  DERIVED. THE GIVEN ROWS OF THIS SEAT. 5 by the template 'for every input the law returns true; each argument reads behind the call as it read before'; 0 by the template 'total and deterministic' (their statements: YtlaccbkhlkomhaaTotals.lean).
  GIVEN WITH THE SEED: the statements are not yours to turn. If you find one false, say at which input.
  Laid BY PROGRAM, IN A SANDBOX (cutbox-rows.mjs): the forced cells as the released guide's own fill.sh prints them over the translation 6deb065542edf2eb… (all of the seat's roots in one cut). By AI agents, Wed Nov 11 2026. No macro, syntax, notation, axiom, sorry.
-/
import Derived.Test.YtlaccbkhlkomhaaChecked
import GoSem.Claim
import GoSem.ClaimJoined
import GoSem.ClaimMapViews
import Derived.JoinedTies
import Derived.KernelRfl
namespace Go.Proofs.Ytlaccbkhlkomhaa
/- THE CELL 'sum', in the pinned program and in every row, IS THE sha256 OF THE DUMP (.gsa) THAT YtlaccbkhlkomhaaProg.lean LOADS. Nothing in Lean hashes anything: it is a label: what it is worth is what the hold of that sum in a sandbox is worth. -/
noncomputable def Try.pinned : Pinned := { name := "ytlaccbkhlkomhaa", sum := "6deb065542edf2eba8a7c8d228acf45486cbe8ece9136e74ae69296b5aa36f01", checked := Try.checked }
namespace Rows
def none {H : Type} : Left H := { results := [], args := [] }

/-- 'frankinglaw06.ClassesTells': WHATEVER THE INPUT: true; the input reads as it did. -/
def classesTellsSpec : ChangeSpec := { name := "classesTells", fn := fun _ => fun
  | [d1, d2, d3, d4] => { results := [.lit (.bool true)], args := [d1, d2, d3, d4] }
  | _ => none }
def classesTellsRow : OpenClaim := { program := "ytlaccbkhlkomhaa", sum := "6deb065542edf2eba8a7c8d228acf45486cbe8ece9136e74ae69296b5aa36f01", func := "franking/frankinglaw06.ClassesTells", spec := "classesTells", unfollowed := true, recurses := true, loops := true, plainKeys := false, apart := false }
def ClassesTellsSaid : Prop := classesTellsRow.holds Try.pinned (OpenSpec.ofChange classesTellsSpec)

/-- ITS FALSE NEIGHBOUR: 'it returns false'. Refute it at one input. -/
def classesTellsWrong : ChangeSpec := { name := "classesTells", fn := fun _ => fun
  | [d1, d2, d3, d4] => { results := [.lit (.bool false)], args := [d1, d2, d3, d4] }
  | _ => none }
def ClassesTellsWrongFalsely : Prop := classesTellsRow.holds Try.pinned (OpenSpec.ofChange classesTellsWrong)

/-- 'frankinglaw06.ClassesSame': WHATEVER THE INPUT: true; the input reads as it did. -/
def classesSameSpec : ChangeSpec := { name := "classesSame", fn := fun _ => fun
  | [d1, d2, d3] => { results := [.lit (.bool true)], args := [d1, d2, d3] }
  | _ => none }
def classesSameRow : OpenClaim := { program := "ytlaccbkhlkomhaa", sum := "6deb065542edf2eba8a7c8d228acf45486cbe8ece9136e74ae69296b5aa36f01", func := "franking/frankinglaw06.ClassesSame", spec := "classesSame", unfollowed := true, recurses := true, loops := true, plainKeys := false, apart := false }
def ClassesSameSaid : Prop := classesSameRow.holds Try.pinned (OpenSpec.ofChange classesSameSpec)

/-- ITS FALSE NEIGHBOUR: 'it returns false'. Refute it at one input. -/
def classesSameWrong : ChangeSpec := { name := "classesSame", fn := fun _ => fun
  | [d1, d2, d3] => { results := [.lit (.bool false)], args := [d1, d2, d3] }
  | _ => none }
def ClassesSameWrongFalsely : Prop := classesSameRow.holds Try.pinned (OpenSpec.ofChange classesSameWrong)

/-- 'frankinglaw06.ClassesMore': WHATEVER THE INPUT: true; the input reads as it did. -/
def classesMoreSpec : ChangeSpec := { name := "classesMore", fn := fun _ => fun
  | [d1, d2, d3, d4] => { results := [.lit (.bool true)], args := [d1, d2, d3, d4] }
  | _ => none }
def classesMoreRow : OpenClaim := { program := "ytlaccbkhlkomhaa", sum := "6deb065542edf2eba8a7c8d228acf45486cbe8ece9136e74ae69296b5aa36f01", func := "franking/frankinglaw06.ClassesMore", spec := "classesMore", unfollowed := true, recurses := true, loops := true, plainKeys := false, apart := false }
def ClassesMoreSaid : Prop := classesMoreRow.holds Try.pinned (OpenSpec.ofChange classesMoreSpec)

/-- ITS FALSE NEIGHBOUR: 'it returns false'. Refute it at one input. -/
def classesMoreWrong : ChangeSpec := { name := "classesMore", fn := fun _ => fun
  | [d1, d2, d3, d4] => { results := [.lit (.bool false)], args := [d1, d2, d3, d4] }
  | _ => none }
def ClassesMoreWrongFalsely : Prop := classesMoreRow.holds Try.pinned (OpenSpec.ofChange classesMoreWrong)

/-- 'frankinglaw06.ClassesOrder': WHATEVER THE INPUT: true; the input reads as it did. -/
def classesOrderSpec : ChangeSpec := { name := "classesOrder", fn := fun _ => fun
  | [d1, d2] => { results := [.lit (.bool true)], args := [d1, d2] }
  | _ => none }
def classesOrderRow : OpenClaim := { program := "ytlaccbkhlkomhaa", sum := "6deb065542edf2eba8a7c8d228acf45486cbe8ece9136e74ae69296b5aa36f01", func := "franking/frankinglaw06.ClassesOrder", spec := "classesOrder", unfollowed := true, recurses := true, loops := true, plainKeys := false, apart := false }
def ClassesOrderSaid : Prop := classesOrderRow.holds Try.pinned (OpenSpec.ofChange classesOrderSpec)

/-- ITS FALSE NEIGHBOUR: 'it returns false'. Refute it at one input. -/
def classesOrderWrong : ChangeSpec := { name := "classesOrder", fn := fun _ => fun
  | [d1, d2] => { results := [.lit (.bool false)], args := [d1, d2] }
  | _ => none }
def ClassesOrderWrongFalsely : Prop := classesOrderRow.holds Try.pinned (OpenSpec.ofChange classesOrderWrong)

/-- 'frankinglaw06.ClassesTwo': WHATEVER THE INPUT: true; the input reads as it did. -/
def classesTwoSpec : ChangeSpec := { name := "classesTwo", fn := fun _ => fun
  | [d1, d2] => { results := [.lit (.bool true)], args := [d1, d2] }
  | _ => none }
def classesTwoRow : OpenClaim := { program := "ytlaccbkhlkomhaa", sum := "6deb065542edf2eba8a7c8d228acf45486cbe8ece9136e74ae69296b5aa36f01", func := "franking/frankinglaw06.ClassesTwo", spec := "classesTwo", unfollowed := true, recurses := true, plainKeys := false, apart := false }
def ClassesTwoSaid : Prop := classesTwoRow.holds Try.pinned (OpenSpec.ofChange classesTwoSpec)

/-- ITS FALSE NEIGHBOUR: 'it returns false'. Refute it at one input. -/
def classesTwoWrong : ChangeSpec := { name := "classesTwo", fn := fun _ => fun
  | [d1, d2] => { results := [.lit (.bool false)], args := [d1, d2] }
  | _ => none }
def ClassesTwoWrongFalsely : Prop := classesTwoRow.holds Try.pinned (OpenSpec.ofChange classesTwoWrong)

/- THE SECOND FORM. 'bulk': how many values and letters a reading holds, each counted each time it is reached (what is shared counts as often as it is met; a slice's spare places count too). A statement '..UptoSaid' is the law's where the arguments, and the package variables that the reading takes, are together of bulk at most 1048576: NARROWER than '..Said'. Prove '..Said' where nothing that the law and all that it calls make is longer than what came in: it says more and counts as full. Else prove '..UptoSaid'. A law counts once. -/
mutual
def uptoBulk {H : Type} : DataW H → Nat
  | .lit (.string bytes) => bytes.length + 1
  | .lit _ => 1
  | .nil => 1
  | .ptr d => uptoBulk d + 1
  | .slice elems spare => uptoBulkAll elems + uptoBulkAll spare + 1
  | .agg parts => uptoBulkAll parts + 1
  | .iface _ d => uptoBulk d + 1
  | .map entries => uptoBulkEntries entries + 1
  | .held _ => 1
def uptoBulkAll {H : Type} : List (DataW H) → Nat
  | [] => 0
  | d :: r => uptoBulk d + uptoBulkAll r
def uptoBulkEntries {H : Type} : List (Lit × DataW H) → Nat
  | [] => 0
  | x :: r => uptoBulkEntry x + uptoBulkEntries r
def uptoBulkEntry {H : Type} : Lit × DataW H → Nat
  | (.string bytes, d) => bytes.length + uptoBulk d + 1
  | (_, d) => uptoBulk d + 1
 end
def uptoSmall : (H : Type) → List (DataW H) → Bool := fun _ ds => decide (uptoBulkAll ds ≤ 1048576)
def OpenSpec.upto (s : _root_.Go.ChangeSpec) : _root_.Go.OpenSpec := { _root_.Go.OpenSpec.ofChange s with cond := some uptoSmall }

/-- 'frankinglaw06.ClassesTells', WHERE WHAT IT READS IS OF BULK AT MOST 1048576: true; the input reads as it did. -/
def classesTellsUptoRow : OpenClaim := { program := "ytlaccbkhlkomhaa", sum := "6deb065542edf2eba8a7c8d228acf45486cbe8ece9136e74ae69296b5aa36f01", func := "franking/frankinglaw06.ClassesTells", spec := "classesTells", unfollowed := true, recurses := true, loops := true, plainKeys := false, apart := false, narrowed := true }
def ClassesTellsUptoSaid : Prop := classesTellsUptoRow.holds Try.pinned (OpenSpec.upto classesTellsSpec)

/-- 'frankinglaw06.ClassesSame', WHERE WHAT IT READS IS OF BULK AT MOST 1048576: true; the input reads as it did. -/
def classesSameUptoRow : OpenClaim := { program := "ytlaccbkhlkomhaa", sum := "6deb065542edf2eba8a7c8d228acf45486cbe8ece9136e74ae69296b5aa36f01", func := "franking/frankinglaw06.ClassesSame", spec := "classesSame", unfollowed := true, recurses := true, loops := true, plainKeys := false, apart := false, narrowed := true }
def ClassesSameUptoSaid : Prop := classesSameUptoRow.holds Try.pinned (OpenSpec.upto classesSameSpec)

/-- 'frankinglaw06.ClassesMore', WHERE WHAT IT READS IS OF BULK AT MOST 1048576: true; the input reads as it did. -/
def classesMoreUptoRow : OpenClaim := { program := "ytlaccbkhlkomhaa", sum := "6deb065542edf2eba8a7c8d228acf45486cbe8ece9136e74ae69296b5aa36f01", func := "franking/frankinglaw06.ClassesMore", spec := "classesMore", unfollowed := true, recurses := true, loops := true, plainKeys := false, apart := false, narrowed := true }
def ClassesMoreUptoSaid : Prop := classesMoreUptoRow.holds Try.pinned (OpenSpec.upto classesMoreSpec)

/-- 'frankinglaw06.ClassesOrder', WHERE WHAT IT READS IS OF BULK AT MOST 1048576: true; the input reads as it did. -/
def classesOrderUptoRow : OpenClaim := { program := "ytlaccbkhlkomhaa", sum := "6deb065542edf2eba8a7c8d228acf45486cbe8ece9136e74ae69296b5aa36f01", func := "franking/frankinglaw06.ClassesOrder", spec := "classesOrder", unfollowed := true, recurses := true, loops := true, plainKeys := false, apart := false, narrowed := true }
def ClassesOrderUptoSaid : Prop := classesOrderUptoRow.holds Try.pinned (OpenSpec.upto classesOrderSpec)

/-- 'frankinglaw06.ClassesTwo', WHERE WHAT IT READS IS OF BULK AT MOST 1048576: true; the input reads as it did. -/
def classesTwoUptoRow : OpenClaim := { program := "ytlaccbkhlkomhaa", sum := "6deb065542edf2eba8a7c8d228acf45486cbe8ece9136e74ae69296b5aa36f01", func := "franking/frankinglaw06.ClassesTwo", spec := "classesTwo", unfollowed := true, recurses := true, plainKeys := false, apart := false, narrowed := true }
def ClassesTwoUptoSaid : Prop := classesTwoUptoRow.holds Try.pinned (OpenSpec.upto classesTwoSpec)

end Rows
end Go.Proofs.Ytlaccbkhlkomhaa
