/-
  A table that comes in lies in memory. No conditions.
-/
import Derived.Test.YtkgfjapflpjdbaaTbF
import Derived.OpenShut
import Derived.SliceStrings
import Derived.Deep.Strs
import Derived.WideShapes
namespace Go.Proofs.Ytkgfjapflpjdbaa
open Go.ChangeShapes Go.RowKit
variable {H : Type} {enc : TypeId × Value → H} {W : World} {fuel : Nat}

theorem cellsF : Try.prog.cellsOf 30 = 261 ∧ Try.prog.cellsOf 24 = 257 ∧ Try.prog.cellsOf 27 = 3 ∧ Try.prog.cellsOf 22 = 256 ∧ Try.prog.cellsOf 5 = 1 ∧ Try.prog.cellsOf 3 = 1 ∧ Try.prog.cellsOf 25 = 1 ∧ Try.prog.cellsOf 28 = 1 := ⟨by kernel_rfl, by kernel_rfl, by kernel_rfl, by kernel_rfl, by kernel_rfl, by kernel_rfl, by kernel_rfl, by kernel_rfl⟩
theorem row_of (a : Addr) (l : List Value) (hl : l.length ≤ maxLen) (h : ∀ i, (hi : i < l.length) → W.cell? (a.add i) = some l[i]) : RowAt W (some a) l := by
  refine ⟨hl, fun h0 => ?_⟩
  obtain ⟨g, o, s⟩ := a
  have c0 := h 0 h0
  rw [show (⟨g, o, s⟩ : Addr).add 0 = ⟨g, o, s⟩ from rfl] at c0
  have hs : s = none := by
    cases s with
    | none => rfl
    | some k =>
      unfold World.cell? at c0
      split at c0 <;> simp at c0
  subst hs
  exact ⟨g, o, rfl, World.block_lt_of_cell? _ _ c0, fun j hj => by have := h j hj; rw [Addr.add_mid] at this; exact this⟩
theorem ints_cell {cs : List Value} {x : DataW H × List MemPlace} (h : DataW.trod enc Try.prog W 0 (fun _ => true) true fuel 25 cs = some x) : ∃ a c l, cs = [.slice a (List.length l) c] ∧ IntsAt W a l := by
  rcases open_ints Try.underlying25 Try.underlying3 (by kernel_rfl) h with ⟨hcs, _⟩ | ⟨a, len, cap, zs, hcs, _, hl, hm, hz, _, hcell, hwz⟩
  · exact ⟨none, 0, [], hcs, ⟨by decide, fun h => absurd h (by decide)⟩⟩
  · simp only [if_true] at hz
    have hlen : (zs.take len).length = len := by rw [List.length_take]; omega
    refine ⟨some a, cap, zs.take len, by rw [hlen]; exact hcs, row_of a _ (by rw [List.length_map, hlen]; omega) fun i hi => ?_⟩
    rw [List.length_map, hlen] at hi
    rw [hcell i (by omega), List.getElem_map, List.getElem_take, List.getD_eq_getElem?_getD, List.getElem?_eq_getElem (by omega)]
    rfl
theorem texts_cell {cs : List Value} {x : DataW H × List MemPlace} (h : DataW.trod enc Try.prog W 0 (fun _ => true) true fuel 28 cs = some x) : ∃ a c l, cs = [.slice a (List.length l) c] ∧ TextsAt W a l ∧ ∀ s ∈ l, s.length ≤ maxLen := by
  rcases open_strings Try.underlying28 Try.underlying9 (by kernel_rfl) h with ⟨hcs, _⟩ | ⟨a, len, cap, ss, hcs, _, hl, hm, hz, _, hcell, hwz⟩
  · exact ⟨none, 0, [], hcs, ⟨by decide, fun h => absurd h (by decide)⟩, fun s hs => (by cases hs)⟩
  · simp only [if_true] at hz
    have hlen : ((ss.take len).map fun s => s.data.toList).length = len := by rw [List.length_map, List.length_take]; omega
    refine ⟨some a, cap, (ss.take len).map fun s => s.data.toList, by rw [hlen]; exact hcs, row_of a _ (by rw [List.length_map, hlen]; omega) fun i hi => ?_, fun s hs => ?_⟩
    · rw [List.length_map, hlen] at hi
      rw [hcell i (by omega), List.getElem_map, List.getElem_map, List.getElem_take, List.getD_eq_getElem?_getD, List.getElem?_eq_getElem (by omega)]
      rfl
    · obtain ⟨b, hb, rfl⟩ := List.mem_map.1 hs
      exact hwz b (List.mem_of_mem_take hb)
theorem bytes_of : ∀ (c : List Value), (∀ v ∈ c, ∃ b : UInt8, v = byteV b) → ∃ l : List UInt8, c = l.map byteV ∧ l.length = c.length
  | [], _ => ⟨[], rfl, rfl⟩
  | v :: r, h => by
    obtain ⟨b, rfl⟩ := h _ (List.mem_cons_self ..)
    obtain ⟨l, rfl, hl⟩ := bytes_of r (fun v hv => h v (List.mem_cons_of_mem _ hv))
    exact ⟨b :: l, rfl, by simp⟩
theorem array_cells {cs : List Value} {x : DataW H × List MemPlace} (h : DataW.trod enc Try.prog W 0 (fun _ => true) true fuel 22 cs = some x) : ∃ l : List UInt8, cs = l.map byteV ∧ l.length = 256 := by
  obtain ⟨xs, n, rfl, rfl, hl, hlen, hf⟩ := DataW.trod_array Try.underlying22 h
  rw [cellsF.2.2.2.1] at hl
  obtain ⟨l, h1, h2⟩ := bytes_of cs (fun v hv => by
    obtain ⟨i, hi, rfl⟩ := List.getElem_of_mem hv
    have hi2 : i < 256 := by omega
    have := hf i hi2
    rw [cellsF.2.2.2.2.1, Nat.mul_one, List.drop_eq_getElem_cons hi, List.take_succ_cons, List.take_zero, List.getElem?_eq_getElem (by omega)] at this
    obtain ⟨k, e0, _, hw⟩ := DataW.trod_int Try.underlying5 this
    simp only [List.cons.injEq, and_true] at e0
    have hk : 0 ≤ k ∧ k < 256 := by have := hw; simp [Lit.wf, IntKind.min, IntKind.max, IntKind.signed, IntKind.bits] at this; omega
    refine ⟨UInt8.ofNat k.toNat, ?_⟩
    rw [e0]
    unfold byteV
    rw [UInt8.toNat_ofNat']
    congr 1
    omega)
  exact ⟨l, h1, by rw [h2, hl]⟩
theorem open_table {cs : List Value} {x : DataW H × List MemPlace} (h : DataW.trod enc Try.prog W 0 (fun _ => true) true fuel 30 cs = some x) : ∃ t p, cs = tabCells t p ∧ TabAt W t p := by
  obtain ⟨c1, c2, c3, c4, c5, c6, c7, c8⟩ := cellsF
  obtain ⟨y0, y1, y2, n, rfl, hl, h0, h1, h2⟩ := Go.Deep.trod_struct3 Try.underlying30 h
  have h0 : DataW.trod enc Try.prog W 0 (fun _ => true) true n 24 ((cs.drop 0).take (Try.prog.cellsOf 24)) = some y0 := h0
  have h1 : DataW.trod enc Try.prog W 0 (fun _ => true) true n 27 ((cs.drop 257).take (Try.prog.cellsOf 27)) = some y1 := h1
  have h2 : DataW.trod enc Try.prog W 0 (fun _ => true) true n 28 ((cs.drop 260).take (Try.prog.cellsOf 28)) = some y2 := h2
  rw [c2] at h0
  rw [c3] at h1
  rw [c8] at h2
  rw [c1] at hl
  obtain ⟨z0, z1, m, _, hl2, g0, g1⟩ := trod_struct2 Try.underlying24 h0
  have g0 : DataW.trod enc Try.prog W 0 (fun _ => true) true m 22 ((((cs.drop 0).take 257).drop 0).take (Try.prog.cellsOf 22)) = some z0 := g0
  have g1 : DataW.trod enc Try.prog W 0 (fun _ => true) true m 3 ((((cs.drop 0).take 257).drop 256).take (Try.prog.cellsOf 3)) = some z1 := g1
  rw [c4] at g0
  rw [c6] at g1
  obtain ⟨u0, u1, u2, k, _, hl3, q0, q1, q2⟩ := Go.Deep.trod_struct3 Try.underlying27 h1
  have q0 : DataW.trod enc Try.prog W 0 (fun _ => true) true k 3 ((((cs.drop 257).take 3).drop 0).take (Try.prog.cellsOf 3)) = some u0 := q0
  have q1 : DataW.trod enc Try.prog W 0 (fun _ => true) true k 25 ((((cs.drop 257).take 3).drop 1).take (Try.prog.cellsOf 25)) = some u1 := q1
  have q2 : DataW.trod enc Try.prog W 0 (fun _ => true) true k 25 ((((cs.drop 257).take 3).drop 2).take (Try.prog.cellsOf 25)) = some u2 := q2
  rw [c6] at q0
  rw [c7] at q1 q2
  obtain ⟨of, e0, hof⟩ := array_cells g0
  obtain ⟨many, e1, _, _⟩ := DataW.trod_int Try.underlying3 g1
  obtain ⟨dmany, e2, _, _⟩ := DataW.trod_int Try.underlying3 q0
  obtain ⟨an, cn, next, e3, hn⟩ := ints_cell q1
  obtain ⟨at_, ct, tags, e4, ht⟩ := ints_cell q2
  obtain ⟨ns, cs', names, e5, hnm, hea⟩ := texts_cell h2
  refine ⟨⟨of, many, dmany, next, tags, names⟩, ⟨an, cn, at_, ct, ns, cs'⟩, ?_, ⟨hof, hn, ht, hnm, hea⟩⟩
  unfold tabCells clCells midCells
  show cs = (of.map byteV ++ [intV many]) ++ ([intV dmany, _, _] ++ [_])
  have s1 : cs = ((((cs.drop 0).take 257).drop 0).take 256 ++ (((cs.drop 0).take 257).drop 256).take 1) ++ (((((cs.drop 257).take 3).drop 0).take 1 ++ ((((cs.drop 257).take 3).drop 1).take 1 ++ (((cs.drop 257).take 3).drop 2).take 1)) ++ (cs.drop 260).take 1) := by
    have A : ∀ a, cs.drop a = (cs.drop a).take 1 ++ cs.drop (a + 1) := fun a => by rw [← List.drop_drop]; exact (List.take_append_drop 1 _).symm
    have d0 : (((cs.drop 0).take 257).drop 0).take 256 = cs.take 256 := by rw [List.drop_zero, List.drop_zero, List.take_take]; rfl
    have d1 : (((cs.drop 0).take 257).drop 256).take 1 = (cs.drop 256).take 1 := by rw [List.drop_zero, List.drop_take, List.take_take]; rfl
    have d2 : (((cs.drop 257).take 3).drop 0).take 1 = (cs.drop 257).take 1 := by rw [List.drop_zero, List.take_take]; rfl
    have d3 : (((cs.drop 257).take 3).drop 1).take 1 = (cs.drop 258).take 1 := by rw [List.drop_take, List.take_take, List.drop_drop]; rfl
    have d4 : (((cs.drop 257).take 3).drop 2).take 1 = (cs.drop 259).take 1 := by rw [List.drop_take, List.take_take, List.drop_drop]; rfl
    have d5 : (cs.drop 260).take 1 = cs.drop 260 := List.take_of_length_le (by rw [List.length_drop, hl]; decide)
    have d6 : cs.take 256 ++ cs.drop 256 = cs := List.take_append_drop 256 cs
    rw [d0, d1, d2, d3, d4, d5]
    rw [A 256, A 257, A 258, A 259] at d6
    simp only [List.append_assoc]
    exact d6.symm
  rw [e0, e1, e2, e3, e4, e5] at s1
  exact s1
end Go.Proofs.Ytkgfjapflpjdbaa
