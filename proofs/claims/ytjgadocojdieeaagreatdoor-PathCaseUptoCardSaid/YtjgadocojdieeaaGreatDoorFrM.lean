/-
  A row of bytes of one's own whose mark, if it bears one, is on none of its cells ('[]byte(s)'): how it lies, what an append of one byte leaves. No conditions but the cells.
-/
import Derived.Test.YtjgadocojdieeaaGreatDoorGc
import Derived.OwnWalk
import Derived.Laws.CopyRow
namespace Go.Proofs.YtjgadocojdieeaaGreatDoor
open Go.RowKit

theorem info8 : (Tryz.prog.info? 5).map (fun i => (i.zero, i.size, i.bytes)) = some (some (.int .u8 0), 1, 1) := by kernel_rfl

/-- the bytes l lie in the row g, which is the call's own; no cell of it is frozen -/
structure OwnQ (w : World) (base g c : Nat) (l : List UInt8) : Prop where
  len : l.length ≤ c
  cap : c ≤ maxLen
  base_le : base ≤ g
  row : ∃ cur fz, w.heap[g]? = some (.cells cur 5 fz) ∧ (∀ j, j < cur.size → ¬ (fz.1 ≤ j ∧ j < fz.2)) ∧ cur.size = c ∧ cur.toList.take l.length = l.map byteV
theorem OwnQ.lt {w : World} {base g c : Nat} {l : List UInt8} (h : OwnQ w base g c l) : g < w.heap.size := by
  obtain ⟨cur, fz, h1, _⟩ := h.row
  exact (Array.getElem?_eq_some_iff.1 h1).1
theorem OwnQ.kept {w w' : World} {base g c : Nat} {l : List UInt8} (h : OwnQ w base g c l) (hb : w'.heap[g]? = w.heap[g]?) : OwnQ w' base g c l := by
  refine ⟨h.len, h.cap, h.base_le, ?_⟩
  obtain ⟨cur, fz, h1, h2⟩ := h.row
  exact ⟨cur, fz, hb.trans h1, h2⟩
theorem OwnQ.below {w w' : World} {B base g c : Nat} {l : List UInt8} (h : OwnQ w base g c l) (hb : Below B w w') (hB : g < B) : OwnQ w' base g c l := h.kept (hb.block g hB)
theorem OwnQ.alloc {w : World} {base g c : Nat} {l : List UInt8} (h : OwnQ w base g c l) (o : Obj) : OwnQ (w.alloc o) base g c l := h.kept (Below.heap_alloc w o g h.lt)
theorem OwnQ.cut {w : World} {base g c : Nat} {l : List UInt8} (h : OwnQ w base g c l) : OwnQ w base g c [] := by
  obtain ⟨cur, fz, h1, h2, h3, _⟩ := h.row
  exact ⟨Nat.zero_le _, h.cap, h.base_le, cur, fz, h1, h2, h3, by simp⟩
theorem OwnQ.cellAt {w : World} {base g c : Nat} {l : List UInt8} (h : OwnQ w base g c l) (j : Nat) (hj : j < l.length) : w.cell? ⟨g, j, none⟩ = some (byteV l[j]) := by
  obtain ⟨cur, fz, h1, h2, h3, h4⟩ := h.row
  rw [cell_of_row w g j cur 5 fz h1]
  have : (cur.toList.take l.length)[j]? = (l.map byteV)[j]? := by rw [h4]
  rw [List.getElem?_take, if_pos hj, List.getElem?_map, List.getElem?_eq_getElem hj] at this
  simpa using this
theorem OwnQ.bytes {w : World} {base g c : Nat} {l : List UInt8} (h : OwnQ w base g c l) : BytesAt w (some ⟨g, 0, none⟩) l := by
  refine ⟨by rw [List.length_map]; exact Nat.le_trans h.len h.cap, fun _ => ⟨g, 0, rfl, h.lt, fun j hj => ?_⟩⟩
  rw [Nat.zero_add, h.cellAt j (by simpa using hj), List.getElem_map]
/-- such a row and a block of another type are two -/
theorem OwnQ.ne {w : World} {base g c B : Nat} {l : List UInt8} {t : TypeId} {cs : Array Value} (h : OwnQ w base g c l) (hb : Blk w B t cs) (ht : t ≠ 5) : B ≠ g := by
  obtain ⟨cur, fz, h1, _⟩ := h.row
  intro e
  subst e
  unfold Blk at hb
  rw [hb] at h1
  injection h1 with h1
  injection h1 with _ h1 _
  exact ht h1
/-- what '[]byte(s)' leaves -/
theorem OwnQ.conv (w : World) (base : Nat) (l : List UInt8) (hl : l.length ≤ maxLen) (hb : base ≤ w.heap.size) : OwnQ (Lib.bytesWorld w 5 (bs l)) base w.heap.size (grownCap w l.length 0 5) l := by
  refine ⟨grownCap_ge w l.length 0 _, grownCap_le_maxLen w l.length 0 _ hl, hb, _, _, Lib.bytesWorld_at_new w 5 (bs l), fun j hj h => by have := h.1; simp only at this; omega, ?_, ?_⟩
  · have := grownCap_ge w l.length 0 5
    simp [Lib.bytesCells, bs_size]
    show l.length + (grownCap w l.length 0 5 - l.length) = _
    omega
  · simp [Lib.bytesCells]
    rw [show (bs l).data.toList = l from rfl, List.take_append_of_le_length (by simp)]
    rw [List.take_of_length_le (by simp)]
    rfl
/-- one byte is appended -/
theorem run_append_q (w : World) (base g c : Nat) (l : List UInt8) (ty : TypeId) (h : OwnQ w base g c l) (a : Addr) (k : Nat) (x : UInt8) (hx : w.cell? a = some (byteV x)) (hle : l.length + 1 ≤ 1000000) (hbase : base ≤ w.heap.size) :
    ∃ g' c' w', (Builtin.append_ #[40, 40] ty #[.slice (some ⟨g, 0, none⟩) l.length c, .slice (some a) 1 k]).run Tryz.prog w = .ok (.slice (some ⟨g', 0, none⟩) (l.length + 1) c') w' ∧ OwnQ w' base g' c' (l ++ [x]) ∧ w.grownBy w' (some g) := by
  obtain ⟨i, hi, hz, hs, hy⟩ := info_parts info8
  have hnews : ∀ j u, [byteV x][j]? = some u → w.cell? (a.add j) = some u := by
    intro j u hj
    match j, hj with
    | 0, hj =>
      simp at hj
      subst hj
      have e : a.add 0 = a := by unfold Addr.add; split <;> simp_all
      rw [e]
      exact hx
  by_cases hroom : l.length + 1 ≤ c
  · obtain ⟨cur, fz, h1, h2, h3, h4⟩ := h.row
    have hcell : w.cell? ⟨g, l.length, none⟩ = some (cur[l.length]'(by omega)) := by
      rw [cell_of_row w g l.length cur 5 fz h1]
      exact Array.getElem?_eq_getElem _
    have hfro : w.frozen? ⟨g, l.length, none⟩ = false := by
      have := h2 l.length (by omega)
      simp only [World.frozen?, h1, Bool.and_eq_false_iff, decide_eq_false_iff_not]
      omega
    have hf := run_firstCells_some (P := Tryz.prog) w 1 1 a 1 k [byteV x] rfl hnews
    have hadd : (⟨g, l.length, none⟩ : Addr).add 0 = ⟨g, l.length, none⟩ := by unfold Addr.add; split <;> simp_all
    have hst : (storeCells ⟨g, l.length, none⟩ [byteV x] 0).run Tryz.prog w = .ok () (w.setRow g (cur.setIfInBounds l.length (byteV x))) := by
      simp only [storeCells, Sem.run_bind, hadd]
      rw [run_store Tryz.prog w _ _ _ rfl, hcell]
      simp [hfro, setCell_eq_setRow w g l.length cur 5 fz _ h1, Result.andThen_ok]
    refine ⟨g, c, w.setRow g (cur.setIfInBounds l.length (byteV x)), ?_, ⟨by simpa using hroom, h.cap, h.base_le, _, fz, setRow_heap w g cur _ 5 fz h1, by simpa using h2, by simpa using h3, ?_⟩, ⟨rfl, rfl, rfl, by simp, fun q _ hq => setRow_other w g q _ (fun e => hq (by rw [e]))⟩⟩
    · simp [Builtin.append_, run_underlying Tryz.underlying40, sizeOf, typeInfo, hi, hs, Builtin.lenOf, hroom, hf, Addr.add_lit, hst]
    · rw [Array.toList_setIfInBounds, List.length_append, List.map_append, List.length_singleton, List.take_add_one, List.take_set_of_le (Nat.le_refl _), h4, List.getElem?_set_self (by have e : cur.toList.length = cur.size := Array.length_toList; omega)]
      rfl
  · have holds : ∀ j u, (l.map byteV)[j]? = some u → w.cell? ((⟨g, 0, none⟩ : Addr).add j) = some u := by
      intro j u hj
      obtain ⟨hj2, rfl⟩ := List.getElem?_eq_some_iff.1 hj
      rw [Addr.add_lit, Nat.zero_add, h.cellAt j (by simpa using hj2), List.getElem_map]
    have hc := h.len
    have hcc : c = l.length := by omega
    have hr := run_append_grow (P := Tryz.prog) w 40 ty 5 i (.int .u8 0) Tryz.underlying40 hi hz ⟨g, 0, none⟩ l.length c (l.map byteV) (by rw [List.length_map, hs, Nat.mul_one]) holds a 1 k [byteV x] (by rw [hs]; rfl) hnews (by omega) (by omega) (growslice_fits (by omega) (by rw [hy]; omega))
    refine ⟨w.heap.size, _, _, hr, ⟨by rw [List.length_append]; exact grownCap_ge w (l.length + 1) c _, grownCap_le_maxLen w (l.length + 1) c _ (by unfold maxLen; omega), hbase, _, (0, 0), heap_alloc_new w.drew _, fun j _ hj => by have := hj.2; simp at this, ?_, ?_⟩, ⟨rfl, rfl, rfl, by simp, fun q hq _ => heap_alloc_old w.drew _ hq⟩⟩
    · have := grownCap_ge w (l.length + 1) c 5
      have hz1 : (Value.int IntKind.u8 0).cells.size = 1 := rfl
      simp only [Array.size_append, List.size_toArray, size_zeroCells, hz1, List.length_map, List.length_singleton]
      omega
    · simp only [Array.toList_append, List.append_assoc, List.length_append, List.length_singleton, List.map_append]
      rw [← List.append_assoc]
      rw [List.take_append_of_le_length (by simp)]
      rw [List.take_of_length_le (by simp)]
      rfl
end Go.Proofs.YtjgadocojdieeaaGreatDoor
