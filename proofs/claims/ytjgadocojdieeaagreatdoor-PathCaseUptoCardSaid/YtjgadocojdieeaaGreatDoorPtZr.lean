/-
  What path.Parse tells, with room for its route. Conditions: the text is of at most 2^40 bytes; the library's variable holds some value.
-/
import Derived.Test.YtjgadocojdieeaaGreatDoorPtZg
namespace Go.Proofs.YtjgadocojdieeaaGreatDoor
open Go.RowKit Go.Shelf

theorem own_cap {w : World} {B n : Nat} {e : TypeId} {a : Option Addr} {c : Nat} {xs : List Value} (h : w.ownsRow B e 1 (.slice a n c) n xs) : n ≤ c := by
  rcases h.2 with ⟨e1, h0⟩ | ⟨g, cap, cur, e1, _, _, h3, _⟩
  · omega
  · injection e1 with e1 e2 e3
    omega
/-- what Parse tells: its route, and room for it -/
theorem parse_room (s : List UInt8) (hs : s.length ≤ 1099511627776) (w : World) (he : ErrAt w ∧ ErrG < w.heap.size) : Calls Tryz.prog 6 #[.string (bs s)] w fun e w' => ∃ a c, e = .returned (.tuple #[paV (parseP s).2.1 a c, .int .i64 (((parseP s).2.2 : Nat) : Int), .int .i64 (parseP s).1]) ∧ TextsAt w' a (parseP s).2.1.route ∧ (parseP s).2.1.route.length ≤ c ∧ Below w.heap.size w w' :=
  (parse_fun s hs w he.1 he.2).mono fun e w' h => by
    obtain ⟨v, h1, h2, h3⟩ := h
    have hl : (parseP s).2.1.route.length ≤ maxLen := by have := parseP_route s; unfold maxLen; omega
    obtain ⟨a, c, rfl, h4⟩ := own_slice h2 (by rw [List.length_map]; exact hl)
    exact ⟨a, c, h1, h4, own_cap h2, h3⟩
theorem fits_right {p : Pa} (h : rightD p = true) : PaFits p 1099511627776 := by
  obtain ⟨h1, h2, _, h3⟩ := right_lens h
  exact ⟨by omega, by omega, fun d hd => by have := h3 d hd; omega⟩
end Go.Proofs.YtjgadocojdieeaaGreatDoor
