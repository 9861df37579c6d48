/-
  A slice of bytes as a text. Conditions: the bytes lie in memory.
-/
import Derived.Test.YtjgadocojdieeaaGreatDoorGa
namespace Go.Proofs.YtjgadocojdieeaaGreatDoor
open Go.RowKit

/-- bytes as a text -/
theorem conv_any (w : World) (a : Option Addr) (l : List UInt8) (c : Nat) (h : BytesAt w a l) : (convert 40 9 (.slice a l.length c)).run Tryz.prog w = .ok (.string (bs l)) w := by
  by_cases h0 : 0 < l.length
  · obtain ⟨g, off, rfl, _, hc⟩ := RowAt.row h (by simpa using h0)
    refine run_convert_bytes_back (P := Tryz.prog) w 40 9 5 ⟨g, off, none⟩ c l Tryz.underlying40 Tryz.underlying5 Tryz.underlying9 fun j hj => ?_
    rw [Addr.add_mid, hc j (by simpa using hj), List.getElem_map]
    rfl
  · have hl : l = [] := List.eq_nil_of_length_eq_zero (by omega)
    subst hl
    show (convert 40 9 (.slice a 0 c)).run Tryz.prog w = _
    rw [run_convert_bytes_string w 40 9 5 _ 0 c Tryz.underlying40 Tryz.underlying5 Tryz.underlying9]
    cases a <;> simp [Conv.bytesToString, loadCells]
    all_goals rfl
end Go.Proofs.YtjgadocojdieeaaGreatDoor
