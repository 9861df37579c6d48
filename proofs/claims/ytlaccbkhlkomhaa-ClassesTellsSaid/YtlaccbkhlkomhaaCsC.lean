/-
  frankinglaw06's examples (awake) come out true: the values. No conditions.
-/
import Derived.Test.YtlaccbkhlkomhaaCsB
namespace Go.Proofs.Ytlaccbkhlkomhaa
open Go.RowKit

def awV : List St := [setOfL [98], setOfL [97, 98]]
theorem aw_many : manyOf (clL awV) = 3 := by rw [clL_eq_clQ]; decide +kernel
theorem aw_97 : (clL awV)[97]? = some 1 := by rw [clL_eq_clQ]; decide +kernel
theorem aw_98 : (clL awV)[98]? = some 2 := by rw [clL_eq_clQ]; decide +kernel
theorem aw_99 : (clL awV)[99]? = some 0 := by rw [clL_eq_clQ]; decide +kernel
theorem aw_0 : (clL awV)[0]? = some 0 := by rw [clL_eq_clQ]; decide +kernel
theorem aw_idx : idxOf 2 (clL awV) = 98 := by rw [clL_eq_clQ]; decide +kernel
theorem CP.fits {V : List St} {of : List UInt8} (h : CP V of) {s : St} (hs : ∀ i j, i < 256 → j < 256 → (∀ s' ∈ V, inS s' i = inS s' j) → inS s i = inS s j) : partsB of s = false := by
  rw [Bool.eq_false_iff]
  intro hp
  obtain ⟨i, hi, j, hj, he, hne⟩ := (parts_iff of s).1 hp
  exact hne (hs i j hi hj ((h.same i j hi hj).1 he))
theorem CP.fits_mem {V : List St} {of : List UInt8} (h : CP V of) {s : St} (hs : s ∈ V) : partsB of s = false := h.fits (fun _ _ _ _ h => h s hs)
theorem aw_fits : partsB (clL awV) (setOfL [97, 98]) = false := (clL_cp awV).fits_mem (by simp [awV])
theorem aw_parts : partsB (clL awV) (setOfL [98, 99]) = true := by
  rw [parts_iff]
  refine ⟨99, by decide, 0, by decide, ?_, by decide⟩
  rw [List.getD_eq_getElem?_getD, List.getD_eq_getElem?_getD, aw_99, aw_0]
theorem e0_many : manyOf (clL []) = 1 := by decide +kernel
theorem e0_idx : idxOf 0 (clL []) = 0 := by decide +kernel
theorem clV_of (V : List St) (k : Nat) (c : UInt8) (h : (clL V)[k]? = some c) : (clV V)[k]? = some (.int .u8 (c.toNat : Int)) := by
  unfold clV
  obtain ⟨hk, he⟩ := List.getElem?_eq_some_iff.1 h
  rw [List.getElem?_toArray, clCells_at _ _ k hk, he]
  rfl
theorem clV_many (V : List St) : (clV V)[256]? = some (.int .i64 (manyOf (clL V) : Int)) := by
  unfold clV
  rw [List.getElem?_toArray]
  exact clCells_many _ _ (clL_cp V).len
/-- what is told of classes of some sets -/
theorem firstV_of (V : List St) (c : Nat) : firstV (clL V) (manyOf (clL V) : Int) (c : Int) = if c < manyOf (clL V) then .tuple #[.int .u8 (idxOf c (clL V)), .bool true] else .tuple #[.int .u8 0, .bool false] := by
  unfold firstV
  by_cases h : c < manyOf (clL V)
  · rw [if_pos ⟨(clL_cp V).right, by omega, by omega⟩, if_pos h, Int.toNat_natCast]
  · rw [if_neg (by omega), if_neg h]
theorem oneRs_in {W : World} {g : Nat} {ss : List St} {cs : Array Value} (hb : Blk W g 42 cs) (hc : cs = ((ss.map oneR).flatMap ryCells).toArray) (h0 : 0 < ss.length) (hm : ss.length ≤ maxLen) (hok : ∀ s ∈ ss, s.ok) : RyIn W (· < W.heap.size) (some ⟨g, 0, none⟩) ss.length (ss.map oneR) := by
  refine .row _ g 0 _ hb.lt hb.lt (by simpa using h0) (by simp) (by simpa using hm) (fun i hi => ?_) (fun i hi j u hu => ?_) (fun i hi => ?_)
  · rw [List.getElem_map]
    exact oneR_ok _ (hok _ (List.getElem_mem _))
  · have hj : j < 6 := (List.getElem?_eq_some_iff.1 hu).1
    rw [hb.cell, hc, List.getElem?_toArray, Nat.zero_add, flatCells_at _ i hi j hj]
    exact hu
  · rw [List.getElem_map]
    exact .nil _ _
theorem setsL_ones (ss : List St) : setsL (ss.map oneR) = ss := by
  induction ss with
  | nil => rfl
  | cons s r ih =>
    rw [List.map_cons, show oneR s :: r.map oneR = [oneR s] ++ r.map oneR from rfl, setsL_app, ih, setsL_one]
    rfl
theorem preL_ones (ss : List St) : (preL (ss.map oneR)).length = ss.length := by
  induction ss with
  | nil => rfl
  | cons s r ih =>
    rw [List.map_cons, preL_cons, List.length_cons, List.length_append, ih, show (oneR s).kids = [] from rfl]
    simp [preL]
theorem low0 {N : Nat} {a W w' : World} (h : Below N a W) (hb : Below W.heap.size W w') (hN : N ≤ a.heap.size) : Below N a w' := h.trans (hb.mono (Nat.le_trans hN h.size))
theorem low1 {N : Nat} {a W w' : World} {o : Obj} (h : Below N a W) (hb : Below (W.alloc o).heap.size (W.alloc o) w') (hN : N ≤ a.heap.size) : Below N a w' := (h.alloc (Nat.le_trans hN h.size) o).trans (hb.mono (by have := h.size; rw [World.size_alloc]; omega))
theorem keep1 {W w' : World} {o : Obj} {g : Nat} {t : TypeId} {cs : Array Value} (h : Blk W g t cs) (hb : Below (W.alloc o).heap.size (W.alloc o) w') : Blk w' g t cs := (h.alloc o).below hb (h.alloc o).lt
theorem keep0 {W w' : World} {g : Nat} {t : TypeId} {cs : Array Value} (h : Blk W g t cs) (hb : Below W.heap.size W w') : Blk w' g t cs := h.below hb h.lt
end Go.Proofs.Ytlaccbkhlkomhaa
