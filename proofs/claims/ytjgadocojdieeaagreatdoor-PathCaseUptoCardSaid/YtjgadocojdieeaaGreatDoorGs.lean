/-
  Texts that come in lie in memory. No conditions.
-/
import Derived.Test.YtjgadocojdieeaaGreatDoorGo
import Derived.OpenShut
import Derived.SliceStrings
import Derived.Deep.Strs
import Derived.WideShapes
namespace Go.Proofs.YtjgadocojdieeaaGreatDoor
open Go.ChangeShapes Go.RowKit
variable {H : Type} {enc : TypeId × Value → H} {W : World} {fuel : Nat}

theorem texts_cell {cs : List Value} {x : DataW H × List MemPlace} (h : DataW.trod enc Tryz.prog W 0 (fun _ => true) true fuel 22 cs = some x) : ∃ a c l, cs = [.slice a (List.length l) c] ∧ TextsAt W a l ∧ (∀ s ∈ l, s.length ≤ maxLen) ∧ l.length ≤ c := by
  rcases open_strings Tryz.underlying22 Tryz.underlying9 (by kernel_rfl) h with ⟨hcs, _⟩ | ⟨a, len, cap, ss, hcs, _, hl, hm, hz, _, hcell, hwz⟩
  · exact ⟨none, 0, [], hcs, ⟨by decide, fun h => absurd h (by decide)⟩, fun s hs => (by cases hs), Nat.zero_le _⟩
  · simp only [if_true] at hz
    have hlen : ((ss.take len).map fun s => s.data.toList).length = len := by rw [List.length_map, List.length_take]; omega
    refine ⟨some a, cap, (ss.take len).map fun s => s.data.toList, by rw [hlen]; exact hcs, row_of a _ (by rw [List.length_map, hlen]; omega) fun i hi => ?_, fun s hs => ?_, by rw [hlen]; exact hl⟩
    · rw [List.length_map, hlen] at hi
      rw [hcell i (by omega), List.getElem_map, List.getElem_map, List.getElem_take, List.getD_eq_getElem?_getD, List.getElem?_eq_getElem (by omega)]
      rfl
    · obtain ⟨b, hb, rfl⟩ := List.mem_map.1 hs
      exact hwz b (List.mem_of_mem_take hb)
end Go.Proofs.YtjgadocojdieeaaGreatDoor
