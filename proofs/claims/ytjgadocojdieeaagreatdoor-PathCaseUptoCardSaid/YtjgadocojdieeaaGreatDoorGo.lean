/-
  Bytes that come in lie in memory. No conditions.
-/
import Derived.Test.YtjgadocojdieeaaGreatDoorGa
import Derived.OpenShut
import Derived.SliceStrings
import Derived.Deep.Strs
import Derived.WideShapes
namespace Go.Proofs.YtjgadocojdieeaaGreatDoor
open Go.ChangeShapes Go.RowKit
variable {H : Type} {enc : TypeId × Value → H} {W : World} {fuel : Nat}

theorem row_of (a : Addr) (l : List Value) (hl : l.length ≤ maxLen) (h : ∀ i, (hi : i < l.length) → W.cell? (a.add i) = some l[i]) : RowAt W (some a) l := by
  refine ⟨hl, fun h0 => ?_⟩
  obtain ⟨g, o, s⟩ := a
  have c0 := h 0 h0
  rw [show (⟨g, o, s⟩ : Addr).add 0 = ⟨g, o, s⟩ from rfl] at c0
  have hs : s = none := by
    cases s with
    | none => rfl
    | some k =>
      unfold World.cell? at c0
      split at c0 <;> simp at c0
  subst hs
  exact ⟨g, o, rfl, World.block_lt_of_cell? _ _ c0, fun j hj => by have := h j hj; rw [Addr.add_mid] at this; exact this⟩
theorem bytes_cell {cs : List Value} {x : DataW H × List MemPlace} (h : DataW.trod enc Tryz.prog W 0 (fun _ => true) true fuel 40 cs = some x) : ∃ a c l, cs = [.slice a (List.length l) c] ∧ BytesAt W a l ∧ l.length ≤ c ∧ c ≤ maxLen := by
  rcases open_ints Tryz.underlying40 Tryz.underlying5 (by kernel_rfl) h with ⟨hcs, _⟩ | ⟨a, len, cap, zs, hcs, _, hl, hm, hz, _, hcell, hwz⟩
  · exact ⟨none, 0, [], hcs, ⟨by decide, fun h => absurd h (by decide)⟩, Nat.zero_le _, Nat.zero_le _⟩
  · simp only [if_true] at hz
    have hb : ∀ z ∈ zs, ((UInt8.ofNat z.toNat).toNat : Int) = z := fun z hzm => by
      have hk : 0 ≤ z ∧ z < 256 := by have := hwz z hzm; simp [Lit.wf, IntKind.min, IntKind.max, IntKind.signed, IntKind.bits] at this; omega
      rw [UInt8.toNat_ofNat']
      omega
    have hlen : ((zs.take len).map fun z => UInt8.ofNat z.toNat).length = len := by rw [List.length_map, List.length_take]; omega
    refine ⟨some a, cap, (zs.take len).map fun z => UInt8.ofNat z.toNat, by rw [hlen]; exact hcs, row_of a _ (by rw [List.length_map, hlen]; omega) fun i hi => ?_, by rw [hlen]; exact hl, hm⟩
    rw [List.length_map, hlen] at hi
    rw [hcell i (by omega), List.getElem_map, List.getElem_map, List.getElem_take, List.getD_eq_getElem?_getD, List.getElem?_eq_getElem (by omega)]
    unfold byteV
    rw [hb _ (List.getElem_mem _)]
    rfl
end Go.Proofs.YtjgadocojdieeaaGreatDoor
