/-
  The contract of frame.New; lines that lie in memory. Conditions: lists of at most a hundred thousand lines.
-/
import Derived.Test.YtlpplmcploddaaaFrN
namespace Go.Proofs.Ytlpplmcploddaaa
open Go.RowKit

set_option maxRecDepth 100000 in
set_option maxHeartbeats 1000000 in
theorem new_yes (n : Nat) (h0 : 1 ≤ n) (h1 : n ≤ 2000) (w : World) :
    Calls Try.prog 13 #[.int .i64 (n : Int)] w fun e w' => e = .returned (.tuple #[.agg (frCells n [] false false), .int .i64 0]) ∧ Below w.heap.size w w' := by
  have hA := Lib.hid ((Below.refl w.heap.size w).alloc (Nat.le_refl _) (.cells #[.int .i64 (n : Int), .string ⟨#[]⟩, .bool false, .bool false] 35))
  have hB : Hid (Blk (w.alloc (.cells #[.int .i64 (n : Int), .string ⟨#[]⟩, .bool false, .bool false] 35)) w.heap.size 35 (frCells n [] false false)) := Blk.new _ _ _
  go_enter Try.func13, Try.ntmps13
  go_wp2
  refine bodyPost_ret (results_cell_tmp rfl _ _ w.heap.size 35 _ (0, 0) _ rfl hB.out Try.underlying35 rfl infoFr) rfl ?_
  exact ⟨rfl, hA.out⟩
set_option maxRecDepth 100000 in
set_option maxHeartbeats 1000000 in
theorem new_no (z : Int) (h : z < 1 ∨ 2000 < z) (w : World) :
    Calls Try.prog 13 #[.int .i64 z] w fun e w' => e = .returned (.tuple #[.agg (frCells 0 [] false false), .int .i64 2]) ∧ Below w.heap.size w w' := by
  have hA := Lib.hid ((Below.refl w.heap.size w).alloc (Nat.le_refl _) (.cells #[.int .i64 0, .string ⟨#[]⟩, .bool false, .bool false] 35))
  have hB : Hid (Blk (w.alloc (.cells #[.int .i64 0, .string ⟨#[]⟩, .bool false, .bool false] 35)) w.heap.size 35 (frCells 0 [] false false)) := Blk.new _ _ _
  go_enter Try.func13, Try.ntmps13
  rcases h with h | h
  · go_wp2
    refine bodyPost_ret (results_cell_tmp rfl _ _ w.heap.size 35 _ (0, 0) _ rfl hB.out Try.underlying35 rfl infoFr) rfl ?_
    exact ⟨rfl, hA.out⟩
  · have h0 : ¬ z < 1 := by omega
    go_wp2
    refine bodyPost_ret (results_cell_tmp rfl _ _ w.heap.size 35 _ (0, 0) _ rfl hB.out Try.underlying35 rfl infoFr) rfl ?_
    exact ⟨rfl, hA.out⟩
theorem line_at {W : World} {a : Option Addr} {ls : List LnP} (h : RowAt W a (linCells ls)) {k : Nat} (hk : k < ls.length) : ∃ g off, a = some ⟨g, off, none⟩ ∧ W.cell? ⟨g, off + k * 2, none⟩ = some (.string (bs ls[k].text)) ∧ W.cell? ⟨g, off + k * 2 + 1, none⟩ = some (.bool ls[k].long) := by
  obtain ⟨g, off, rfl, _, h3⟩ := h.row (by rw [linCells_len]; omega)
  have hc : ∀ (ls : List LnP) (k : Nat) (hk : k < ls.length), (linCells ls)[k * 2]? = some (.string (bs ls[k].text)) ∧ (linCells ls)[k * 2 + 1]? = some (.bool ls[k].long) := by
    intro ls
    induction ls with
    | nil => intro k hk; simp at hk
    | cons x r ih =>
      intro k hk
      cases k with
      | zero => exact ⟨rfl, rfl⟩
      | succ k =>
        have := ih k (by simpa using hk)
        rw [show (k + 1) * 2 = k * 2 + 2 by omega]
        exact this
  obtain ⟨c1, c2⟩ := hc ls k hk
  have l1 : k * 2 + 1 < (linCells ls).length := by rw [linCells_len]; omega
  refine ⟨g, off, rfl, ?_, ?_⟩
  · rw [h3 (k * 2) (by omega), ← c1]
    exact (List.getElem?_eq_getElem _).symm
  · rw [Nat.add_assoc, h3 (k * 2 + 1) l1, ← c2]
    exact (List.getElem?_eq_getElem _).symm
end Go.Proofs.Ytlpplmcploddaaa
