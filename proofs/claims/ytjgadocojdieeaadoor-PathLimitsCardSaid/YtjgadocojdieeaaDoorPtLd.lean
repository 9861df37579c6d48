/-
  The contract of frankinglaw15.PathLimits. Conditions: the library's variable holds some value.
-/
import Derived.Test.YtjgadocojdieeaaDoorPtLb
import Derived.Test.YtjgadocojdieeaaDoorPtLc
namespace Go.Proofs.YtjgadocojdieeaaDoor
open Go.RowKit Go.Shelf

theorem limits_any (m : Nat) (q : Bool) (w : World) (he : ErrAt w ∧ ErrG < w.heap.size) : Calls Tryd.prog 6 #[.int .u8 (m : Int), .bool q] w (SameOut w true) := by
  have h : ∀ k : Nat, m % 4 = k → (m : Int).tmod 4 = (k : Int) := fun k hk => by rw [Int.tmod_eq_emod_of_nonneg (by omega)]; omega
  have hlt : m % 4 < 4 := Nat.mod_lt _ (by decide)
  obtain h0 | h0 | h0 | h0 : m % 4 = 0 ∨ m % 4 = 1 ∨ m % 4 = 2 ∨ m % 4 = 3 := by omega
  · cases q
    · exact limits_0p _ (h 0 h0) w he
    · exact limits_0q _ (h 0 h0) w he
  · cases q
    · exact limits_1p _ (h 1 h0) w he
    · exact limits_1q _ (h 1 h0) w he
  · cases q
    · exact limits_2p _ (h 2 h0) w he
    · exact limits_2q _ (h 2 h0) w he
  · cases q
    · exact limits_3p _ (h 3 h0) w he
    · exact limits_3q _ (h 3 h0) w he
end Go.Proofs.YtjgadocojdieeaaDoor
