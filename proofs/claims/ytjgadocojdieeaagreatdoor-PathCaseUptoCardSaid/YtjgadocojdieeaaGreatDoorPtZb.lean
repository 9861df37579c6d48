/-
  A row of bytes that '[]byte("..")' of a constant made, or that grew out of it: an append of a text of one byte. No conditions but the cells.
-/
import Derived.Test.YtjgadocojdieeaaGreatDoorFrM
import Derived.Lib.AppendStr
import Derived.Lib.SmallJoins
import Derived.Test.YtjgadocojdieeaaGreatDoorGd
namespace Go.Proofs.YtjgadocojdieeaaGreatDoor
open Go.RowKit

/-- a text of one byte is appended -/
theorem run_append_qs (w : World) (base g c : Nat) (l : List UInt8) (ty : TypeId) (h : OwnQ w base g c l) (x : UInt8) (hle : l.length + 1 ≤ 1000000) (hbase : base ≤ w.heap.size) :
    ∃ g' c' w', (Builtin.append_ #[40, 9] ty #[.slice (some ⟨g, 0, none⟩) l.length c, .string (bs [x])]).run Tryz.prog w = .ok (.slice (some ⟨g', 0, none⟩) (l.length + 1) c') w' ∧ OwnQ w' base g' c' (l ++ [x]) ∧ w.grownBy w' (some g) ∧ (g' = g ∨ g' = w.heap.size) := by
  obtain ⟨i, hi, hz, hs, hy⟩ := info_parts info8
  have hsx : (bs [x]).size = 1 := rfl
  have hcx : Lib.strCells (bs [x]) = [byteV x] := rfl
  by_cases hroom : l.length + 1 ≤ c
  · obtain ⟨cur, fz, h1, h2, h3, h4⟩ := h.row
    have hcell : w.cell? ⟨g, l.length, none⟩ = some (cur[l.length]'(by omega)) := by
      rw [cell_of_row w g l.length cur 5 fz h1]
      exact Array.getElem?_eq_getElem _
    have hfro : w.frozen? ⟨g, l.length, none⟩ = false := by
      have := h2 l.length (by omega)
      simp only [World.frozen?, h1, Bool.and_eq_false_iff, decide_eq_false_iff_not]
      omega
    have hf := Lib.run_firstCells_string (P := Tryz.prog) w 1 (bs [x])
    rw [hcx, hsx] at hf
    have hadd : (⟨g, l.length, none⟩ : Addr).add 0 = ⟨g, l.length, none⟩ := by unfold Addr.add; split <;> simp_all
    have hst : (storeCells ⟨g, l.length, none⟩ [byteV x] 0).run Tryz.prog w = .ok () (w.setRow g (cur.setIfInBounds l.length (byteV x))) := by
      simp only [storeCells, Sem.run_bind, hadd]
      rw [run_store Tryz.prog w _ _ _ rfl, hcell]
      simp [hfro, setCell_eq_setRow w g l.length cur 5 fz _ h1, Result.andThen_ok]
    refine ⟨g, c, w.setRow g (cur.setIfInBounds l.length (byteV x)), ?_, ⟨by simpa using hroom, h.cap, h.base_le, _, fz, setRow_heap w g cur _ 5 fz h1, by simpa using h2, by simpa using h3, ?_⟩, ⟨rfl, rfl, rfl, by simp, fun q _ hq => setRow_other w g q _ (fun e => hq (by rw [e]))⟩, .inl rfl⟩
    · simp [Builtin.append_, run_underlying Tryz.underlying40, run_underlying Tryz.underlying9, sizeOf, typeInfo, hi, hs, hsx, Builtin.lenOf, hroom, hf, Addr.add_lit, hst]
    · rw [Array.toList_setIfInBounds, List.length_append, List.map_append, List.length_singleton, List.take_add_one, List.take_set_of_le (Nat.le_refl _), h4, List.getElem?_set_self (by have e : cur.toList.length = cur.size := Array.length_toList; omega)]
      rfl
  · have holds : ∀ j u, (l.map byteV)[j]? = some u → w.cell? ((⟨g, 0, none⟩ : Addr).add j) = some u := by
      intro j u hj
      obtain ⟨hj2, rfl⟩ := List.getElem?_eq_some_iff.1 hj
      rw [Addr.add_lit, Nat.zero_add, h.cellAt j (by simpa using hj2), List.getElem_map]
    have hc := h.len
    have hcc : c = l.length := by omega
    have hr := Lib.run_append_grow_string (P := Tryz.prog) w 40 9 ty 5 i (.int .u8 0) Tryz.underlying40 Tryz.underlying9 hi hz ⟨g, 0, none⟩ l.length c (l.map byteV) (by rw [List.length_map, hs, Nat.mul_one]) holds (bs [x]) (by rw [hsx]; omega) (by rw [hsx]; omega) (growslice_fits (by rw [hsx]; omega) (by rw [hy, hsx]; omega))
    rw [hsx, hcx] at hr
    refine ⟨w.heap.size, _, _, hr, ⟨by rw [List.length_append]; exact grownCap_ge w (l.length + 1) c _, grownCap_le_maxLen w (l.length + 1) c _ (by unfold maxLen; omega), hbase, _, (0, 0), heap_alloc_new w.drew _, fun j _ hj => by have := hj.2; simp at this, ?_, ?_⟩, ⟨rfl, rfl, rfl, by simp, fun q hq _ => heap_alloc_old w.drew _ hq⟩, .inr rfl⟩
    · have := grownCap_ge w (l.length + 1) c 5
      have hz1 : (Value.int IntKind.u8 0).cells.size = 1 := rfl
      simp only [Array.size_append, List.size_toArray, size_zeroCells, hz1, List.length_map, List.length_singleton]
      omega
    · simp only [Array.toList_append, List.append_assoc, List.length_append, List.length_singleton, List.map_append]
      rw [← List.append_assoc]
      rw [List.take_append_of_le_length (by simp)]
      rw [List.take_of_length_le (by simp)]
      rfl
/-- one byte is appended -/
theorem run_append_q2 (w : World) (base g c : Nat) (l : List UInt8) (ty : TypeId) (h : OwnQ w base g c l) (a : Addr) (k : Nat) (x : UInt8) (hx : w.cell? a = some (byteV x)) (hle : l.length + 1 ≤ 1000000) (hbase : base ≤ w.heap.size) :
    ∃ g' c' w', (Builtin.append_ #[40, 40] ty #[.slice (some ⟨g, 0, none⟩) l.length c, .slice (some a) 1 k]).run Tryz.prog w = .ok (.slice (some ⟨g', 0, none⟩) (l.length + 1) c') w' ∧ OwnQ w' base g' c' (l ++ [x]) ∧ w.grownBy w' (some g) ∧ (g' = g ∨ g' = w.heap.size) := by
  obtain ⟨i, hi, hz, hs, hy⟩ := info_parts info8
  have hnews : ∀ j u, [byteV x][j]? = some u → w.cell? (a.add j) = some u := by
    intro j u hj
    match j, hj with
    | 0, hj =>
      simp at hj
      subst hj
      have e : a.add 0 = a := by unfold Addr.add; split <;> simp_all
      rw [e]
      exact hx
  by_cases hroom : l.length + 1 ≤ c
  · obtain ⟨cur, fz, h1, h2, h3, h4⟩ := h.row
    have hcell : w.cell? ⟨g, l.length, none⟩ = some (cur[l.length]'(by omega)) := by
      rw [cell_of_row w g l.length cur 5 fz h1]
      exact Array.getElem?_eq_getElem _
    have hfro : w.frozen? ⟨g, l.length, none⟩ = false := by
      have := h2 l.length (by omega)
      simp only [World.frozen?, h1, Bool.and_eq_false_iff, decide_eq_false_iff_not]
      omega
    have hf := run_firstCells_some (P := Tryz.prog) w 1 1 a 1 k [byteV x] rfl hnews
    have hadd : (⟨g, l.length, none⟩ : Addr).add 0 = ⟨g, l.length, none⟩ := by unfold Addr.add; split <;> simp_all
    have hst : (storeCells ⟨g, l.length, none⟩ [byteV x] 0).run Tryz.prog w = .ok () (w.setRow g (cur.setIfInBounds l.length (byteV x))) := by
      simp only [storeCells, Sem.run_bind, hadd]
      rw [run_store Tryz.prog w _ _ _ rfl, hcell]
      simp [hfro, setCell_eq_setRow w g l.length cur 5 fz _ h1, Result.andThen_ok]
    refine ⟨g, c, w.setRow g (cur.setIfInBounds l.length (byteV x)), ?_, ⟨by simpa using hroom, h.cap, h.base_le, _, fz, setRow_heap w g cur _ 5 fz h1, by simpa using h2, by simpa using h3, ?_⟩, ⟨rfl, rfl, rfl, by simp, fun q _ hq => setRow_other w g q _ (fun e => hq (by rw [e]))⟩, .inl rfl⟩
    · simp [Builtin.append_, run_underlying Tryz.underlying40, sizeOf, typeInfo, hi, hs, Builtin.lenOf, hroom, hf, Addr.add_lit, hst]
    · rw [Array.toList_setIfInBounds, List.length_append, List.map_append, List.length_singleton, List.take_add_one, List.take_set_of_le (Nat.le_refl _), h4, List.getElem?_set_self (by have e : cur.toList.length = cur.size := Array.length_toList; omega)]
      rfl
  · have holds : ∀ j u, (l.map byteV)[j]? = some u → w.cell? ((⟨g, 0, none⟩ : Addr).add j) = some u := by
      intro j u hj
      obtain ⟨hj2, rfl⟩ := List.getElem?_eq_some_iff.1 hj
      rw [Addr.add_lit, Nat.zero_add, h.cellAt j (by simpa using hj2), List.getElem_map]
    have hc := h.len
    have hcc : c = l.length := by omega
    have hr := run_append_grow (P := Tryz.prog) w 40 ty 5 i (.int .u8 0) Tryz.underlying40 hi hz ⟨g, 0, none⟩ l.length c (l.map byteV) (by rw [List.length_map, hs, Nat.mul_one]) holds a 1 k [byteV x] (by rw [hs]; rfl) hnews (by omega) (by omega) (growslice_fits (by omega) (by rw [hy]; omega))
    refine ⟨w.heap.size, _, _, hr, ⟨by rw [List.length_append]; exact grownCap_ge w (l.length + 1) c _, grownCap_le_maxLen w (l.length + 1) c _ (by unfold maxLen; omega), hbase, _, (0, 0), heap_alloc_new w.drew _, fun j _ hj => by have := hj.2; simp at this, ?_, ?_⟩, ⟨rfl, rfl, rfl, by simp, fun q hq _ => heap_alloc_old w.drew _ hq⟩, .inr rfl⟩
    · have := grownCap_ge w (l.length + 1) c 5
      have hz1 : (Value.int IntKind.u8 0).cells.size = 1 := rfl
      simp only [Array.size_append, List.size_toArray, size_zeroCells, hz1, List.length_map, List.length_singleton]
      omega
    · simp only [Array.toList_append, List.append_assoc, List.length_append, List.length_singleton, List.map_append]
      rw [← List.append_assoc]
      rw [List.take_append_of_le_length (by simp)]
      rw [List.take_of_length_le (by simp)]
      rfl
/-- the call of the builtin, as an operation of a list -/
theorem wpList_q {P : Program} {w : World} {ops : Array Oper} {rest : List Oper} {o : Oper} {a : Act} {Q : Exit → Act → World → Prop} (hgd : o.guard = none) (s x : Operand) (t u : TypeId)
    (ho : o.op = .call { callee := .builtin .append, args := #[s, x], argTypes := #[t, u] }) (v y r : Value) (w' : World) (hs : a.eval s = v) (hx : a.eval x = y)
    (hrun : (Builtin.append_ #[t, u] o.type #[v, y]).run P w = .ok r w') (h : wpList P ops Q rest (a.put o.dst r) w') : wpList P ops Q (o :: rest) a w := by
  refine wpList_plain hgd fun K hK => ?_
  unfold Oper.wp
  simp [execOp, ho, resolve, invoke, builtin, hs, hx, hrun, Result.andThen]
  exact hK _ _ h
end Go.Proofs.YtjgadocojdieeaaGreatDoor
