/-
  A path that came in lies in memory, and its texts are no longer than the reading's bulk. No conditions.
-/
import Derived.Test.YtjgadocojdieeaaGreatDoorPtZd
import Derived.Test.YtjgadocojdieeaaGreatDoorGs
import Derived.Test.YtjgadocojdieeaaGreatDoorRows
namespace Go.Proofs.YtjgadocojdieeaaGreatDoor
open Go.ChangeShapes Go.RowKit
variable {H : Type} {enc : TypeId × Value → H} {W : World} {fuel : Nat}

theorem zBool : Tryz.prog.cellsOf 4 = 1 := by kernel_rfl
theorem zString : Tryz.prog.cellsOf 9 = 1 := by kernel_rfl
theorem zStrings : Tryz.prog.cellsOf 22 = 1 := by kernel_rfl
theorem zBox : Tryz.prog.cellsOf 24 = 3 := by kernel_rfl
theorem zPath : Tryz.prog.cellsOf 26 = 5 := by kernel_rfl
theorem of3 {α : Type} (l : List α) (h : l.length = 3) : ∃ a0 a1 a2, l = [a0, a1, a2] := by
  match l, h with
  | [a0, a1, a2], _ => exact ⟨a0, a1, a2, rfl⟩
theorem of5 {α : Type} (l : List α) (h : l.length = 5) : ∃ a0 a1 a2 a3 a4, l = [a0, a1, a2, a3, a4] := by
  match l, h with
  | [a0, a1, a2, a3, a4], _ => exact ⟨a0, a1, a2, a3, a4, rfl⟩
theorem bulk_of : ∀ (ds : List (DataW H)) (i : Nat) (d : DataW H), ds[i]? = some d → Rows.uptoBulk d ≤ Rows.uptoBulkAll ds
  | [], i, d, h => by simp at h
  | e :: r, 0, d, h => by
    have : e = d := by simpa using h
    subst this
    rw [Rows.uptoBulkAll]
    omega
  | e :: r, i + 1, d, h => by
    have := bulk_of r i d (by simpa using h)
    rw [Rows.uptoBulkAll]
    omega
theorem open_textsB {cs : List Value} {x : DataW H × List MemPlace} (h : DataW.trod enc Tryz.prog W 0 (fun _ => true) true fuel 22 cs = some x) : ∃ a c l, cs = [.slice a (List.length l) c] ∧ TextsAt W a l ∧ l.length ≤ c ∧ ∀ s ∈ l, s.length ≤ Rows.uptoBulk x.1 := by
  rcases DataW.trod_slice Tryz.underlying22 h with ⟨hn, rfl⟩ | ⟨a, len, cap, elems, rest, m, rfl, hcs, rfl, hb, hl, hm, hlen, hel, _, _⟩
  · exact ⟨none, 0, [], hn, ⟨by decide, fun h => absurd h (by decide)⟩, Nat.le_refl _, fun s hs => (by cases hs)⟩
  · have each : ∀ i : Nat, ∃ s : ByteArray, i < len → W.cell? (a.add i) = some (.string s) ∧ ∃ y, elems[i]? = some y ∧ y.1 = .lit (.string s.data.toList) := fun i => by
      by_cases hi : i < len
      · have he := hel i hi
        rw [List.getElem?_eq_getElem (by omega), zString, Option.bind_eq_some_iff] at he
        obtain ⟨cs', hc', ht'⟩ := he
        obtain ⟨s, rfl, e2, _⟩ := DataW.trod_string Tryz.underlying9 ht'
        obtain ⟨_, _, hcell⟩ := World.cells?_some hc'
        have h0 := hcell 0 (by omega)
        refine ⟨s, fun _ => ⟨?_, _, List.getElem?_eq_getElem (by omega), by rw [e2]⟩⟩
        rw [Nat.mul_one] at h0
        have e : (a.add i).add 0 = a.add i := by unfold Addr.add; split <;> simp_all
        rw [e] at h0
        rw [h0]
        rfl
      · exact ⟨.empty, fun h => absurd h hi⟩
    obtain ⟨f, hf⟩ := Classical.axiomOfChoice each
    have hkl : ((List.range len).map fun i => (f i).data.toList).length = len := by simp
    refine ⟨some a, cap, (List.range len).map fun i => (f i).data.toList, by rw [hkl]; exact hcs, row_of a _ (by rw [List.length_map, hkl]; omega) fun i hi => ?_, by rw [hkl]; exact hl, fun s hs => ?_⟩
    · rw [List.length_map, hkl] at hi
      rw [(hf i hi).1, List.getElem_map, List.getElem_map, List.getElem_range]
      rfl
    · obtain ⟨i, hi, rfl⟩ := List.mem_map.1 hs
      have hi := List.mem_range.1 hi
      obtain ⟨_, y, h1, h2⟩ := hf i hi
      have := bulk_of (elems.map (·.1)) i y.1 (by rw [List.getElem?_map, h1]; rfl)
      rw [h2, Rows.uptoBulk] at this
      show _ ≤ Rows.uptoBulkAll (elems.map (·.1)) + Rows.uptoBulkAll (rest.map (·.1)) + 1
      omega
set_option maxRecDepth 100000 in
theorem open_box {cs : List Value} {x : DataW H × List MemPlace} (h : DataW.trod enc Tryz.prog W 0 (fun _ => true) true fuel 24 cs = some x) : ∃ (loc d : List UInt8) (lit : Bool), cs = [.string (bs loc), .string (bs d), .bool lit] ∧ loc.length ≤ Rows.uptoBulk x.1 ∧ d.length ≤ Rows.uptoBulk x.1 := by
  obtain ⟨xs, n, rfl, rfl, hl, hlen, hf⟩ := DataW.trod_struct Tryz.underlying24 h
  rw [zBox] at hl
  have hlen : xs.length = 3 := hlen
  obtain ⟨c0, c1, c2, rfl⟩ := of3 cs hl
  obtain ⟨y0, y1, y2, rfl⟩ := of3 xs hlen
  have h0 : DataW.trod enc Tryz.prog W 0 (fun _ => true) true n 9 (([c0, c1, c2].drop 0).take (Tryz.prog.cellsOf 9)) = some y0 := hf 0 _ rfl
  have h1 : DataW.trod enc Tryz.prog W 0 (fun _ => true) true n 9 (([c0, c1, c2].drop 1).take (Tryz.prog.cellsOf 9)) = some y1 := hf 1 _ rfl
  have h2 : DataW.trod enc Tryz.prog W 0 (fun _ => true) true n 4 (([c0, c1, c2].drop 2).take (Tryz.prog.cellsOf 4)) = some y2 := hf 2 _ rfl
  rw [zString] at h0 h1
  rw [zBool] at h2
  obtain ⟨s0, e0, rfl, _⟩ := DataW.trod_string Tryz.underlying9 h0
  obtain ⟨s1, e1, rfl, _⟩ := DataW.trod_string Tryz.underlying9 h1
  obtain ⟨b, e2, rfl⟩ := DataW.trod_bool Tryz.underlying4 h2
  have g0 : c0 = .string s0 := by injection e0
  have g1 : c1 = .string s1 := by injection e1
  have g2 : c2 = .bool b := by injection e2
  subst g0 g1 g2
  refine ⟨s0.data.toList, s1.data.toList, b, rfl, ?_, ?_⟩
  · show _ ≤ ((s0.data.toList.length + 1) + ((s1.data.toList.length + 1) + (Rows.uptoBulk _ + 0))) + 1
    omega
  · show _ ≤ ((s0.data.toList.length + 1) + ((s1.data.toList.length + 1) + (Rows.uptoBulk _ + 0))) + 1
    omega
set_option maxRecDepth 100000 in
theorem open_pathB {cs : List Value} {x : DataW H × List MemPlace} (h : DataW.trod enc Tryz.prog W 0 (fun _ => true) true fuel 26 cs = some x) : ∃ (P : Pa) (a : Option Addr) (c : Nat), cs = (paCells P (.slice a P.route.length c)).toList ∧ TextsAt W a P.route ∧ PaFits P (Rows.uptoBulk x.1) ∧ P.route.length ≤ c := by
  obtain ⟨xs, n, rfl, rfl, hl, hlen, hf⟩ := DataW.trod_struct Tryz.underlying26 h
  rw [zPath] at hl
  have hlen : xs.length = 3 := hlen
  obtain ⟨c0, c1, c2, c3, c4, rfl⟩ := of5 cs hl
  obtain ⟨y0, y1, y2, rfl⟩ := of3 xs hlen
  have h0 : DataW.trod enc Tryz.prog W 0 (fun _ => true) true n 4 (([c0, c1, c2, c3, c4].drop 0).take (Tryz.prog.cellsOf 4)) = some y0 := hf 0 _ rfl
  have h1 : DataW.trod enc Tryz.prog W 0 (fun _ => true) true n 22 (([c0, c1, c2, c3, c4].drop 1).take (Tryz.prog.cellsOf 22)) = some y1 := hf 1 _ rfl
  have h2 : DataW.trod enc Tryz.prog W 0 (fun _ => true) true n 24 (([c0, c1, c2, c3, c4].drop 2).take (Tryz.prog.cellsOf 24)) = some y2 := hf 2 _ rfl
  rw [zBool] at h0
  rw [zStrings] at h1
  rw [zBox] at h2
  obtain ⟨b, e0, rfl⟩ := DataW.trod_bool Tryz.underlying4 h0
  obtain ⟨a, c, l, e1, ht, hc, hb⟩ := open_textsB h1
  obtain ⟨loc, d, lit, e2, hb1, hb2⟩ := open_box h2
  have g0 : c0 = .bool b := by injection e0
  have e1' : [c1] = [Value.slice a l.length c] := e1
  have g1 : c1 = .slice a l.length c := by injection e1'
  have e2' : [c2, c3, c4] = [Value.string (bs loc), .string (bs d), .bool lit] := e2
  simp only [List.cons.injEq, and_true] at e2'
  obtain ⟨g2, g3, g4⟩ := e2'
  subst g0 g1 g2 g3 g4
  have hbulk : Rows.uptoBulk y1.1 + Rows.uptoBulk y2.1 ≤ Rows.uptoBulkAll [(DataW.lit (.bool b), ([] : List MemPlace)).1, y1.1, y2.1] := by
    simp only [Rows.uptoBulkAll]
    omega
  refine ⟨⟨b, l, loc, d, lit⟩, a, c, rfl, ht, ⟨?_, ?_, fun s hs => ?_⟩, hc⟩
  · show _ ≤ Rows.uptoBulkAll [(DataW.lit (.bool b), ([] : List MemPlace)).1, y1.1, y2.1] + 1
    show loc.length ≤ _
    omega
  · show _ ≤ Rows.uptoBulkAll [(DataW.lit (.bool b), ([] : List MemPlace)).1, y1.1, y2.1] + 1
    show d.length ≤ _
    omega
  · show _ ≤ Rows.uptoBulkAll [(DataW.lit (.bool b), ([] : List MemPlace)).1, y1.1, y2.1] + 1
    have := hb s hs
    omega
end Go.Proofs.YtjgadocojdieeaaGreatDoor
