/-
  The contracts of lex/start.go's small functions: what each answers for every text. Conditions: a text of at most 65536 bytes.
-/
import Derived.Test.YtciabhboiomehaaDoorBytes
namespace Go.Proofs.YtciabhboiomehaaDoor
open Go.RowKit

/-- a string of bytes -/
def bs (l : List UInt8) : ByteArray := ⟨l.toArray⟩
theorem bs_toList (l : List UInt8) : (bs l).data.toList = l := by simp [bs]
theorem bs_of (s : ByteArray) : bs s.data.toList = s := by cases s; simp [bs]

/-- a token -/
structure Tk where
  kind : Int := 0
  place : Int := 0
  text : List UInt8 := []
  mn : Int := 0
  mx : Int := 0
  lo : Int := 0
  hi : Int := 0
deriving DecidableEq

def tokCells (t : Tk) : List Value := [.int .u8 t.kind, .int .i64 t.place, .string (bs t.text), .int .i64 t.mn, .int .i64 t.mx, .int .u8 t.lo, .int .u8 t.hi]

/-- what is read of a line -/
structure Pc where
  tok : Tk := {}
  size : Nat := 0
  bad : Nat := 0
  err : Nat := 0
deriving DecidableEq

def pieceV (p : Pc) : Value := .agg #[.int .u8 p.tok.kind, .int .i64 p.tok.place, .string (bs p.tok.text), .int .i64 p.tok.mn, .int .i64 p.tok.mx, .int .u8 p.tok.lo, .int .u8 p.tok.hi, .int .i64 p.size, .int .i64 p.bad, .int .i64 p.err]

set_option maxHeartbeats 400000 in
theorem fault_any (bad err : Nat) (w : World) :
    Calls Tryd.prog 69 #[.int .i64 bad, .int .i64 err] w fun e w' => e = .returned (pieceV { bad := bad, err := err }) ∧ Below w.heap.size w w' := by
  go_enter Tryd.func69, Tryd.ntmps69
  go_wp2
  exact bodyPost_ret (v := pieceV { bad := bad, err := err }) (by simp [results, Tryd.results69, go_sem]; rfl) rfl ⟨rfl, (Below.refl _ _).alloc (Nat.le_refl _) _⟩

set_option maxHeartbeats 400000 in
theorem passBlanks_any (s : ByteArray) (hs : s.size ≤ 65536) (w : World) :
    Calls Tryd.prog 36 #[.string s] w fun e w' => e = .returned (pieceV { size := spanZ blankZ s.data.toList }) ∧ Below w.heap.size w w' := by
  go_enter Tryd.func36, Tryd.ntmps36
  go_wp2_with (go_at_call 62; refine (span_same s _ blankZ hs enters_blank (fun n w _ _ => isBlank_any n w) _).mono ?_; rintro e w' ⟨rfl, rfl⟩)
  exact bodyPost_ret (v := pieceV { size := spanZ blankZ s.data.toList }) (by simp [results, Tryd.results36, go_sem]; rfl) rfl ⟨rfl, (Below.refl _ _).alloc (Nat.le_refl _) _⟩

set_option maxHeartbeats 400000 in
theorem passRemark_any (s : ByteArray) (w : World) :
    Calls Tryd.prog 38 #[.string s] w fun e w' => e = .returned (pieceV { size := s.size }) ∧ Below w.heap.size w w' := by
  go_enter Tryd.func38, Tryd.ntmps38
  go_wp2
  exact bodyPost_ret (v := pieceV { size := s.size }) (by simp [results, Tryd.results38, go_sem]; rfl) rfl ⟨rfl, (Below.refl _ _).alloc (Nat.le_refl _) _⟩
end Go.Proofs.YtciabhboiomehaaDoor
