/-
  Regular trees that came in: no more nodes than the reading's bulk. No conditions.
-/
import Derived.Test.YtdckjjkaoecgaaaDoorRxO
import Derived.Test.YtdckjjkaoecgaaaDoorRows
namespace Go.Proofs.YtdckjjkaoecgaaaDoor
open Go.ChangeShapes Go.RowKit
section
variable {H : Type} {enc : TypeId × Value → H} {w : World} {base : Nat} {spare : Nat → Bool} {held : Bool}
theorem re_partsB {fuel : Nat} {cs : List Value} {x : DataW H × List MemPlace} (h : DataW.trod enc Tryd.prog w base spare held fuel 46 cs = some x) :
    ∃ (n : Nat) (k s0 s1 s2 s3 : Nat) (sl : Value) (y : DataW H × List MemPlace), fuel = n + 1 ∧ cs = [.int .u8 (k : Int), .int .u64 (s0 : Int), .int .u64 (s1 : Int), .int .u64 (s2 : Int), .int .u64 (s3 : Int), sl] ∧ (k < 256 ∧ s0 < 18446744073709551616 ∧ s1 < 18446744073709551616 ∧ s2 < 18446744073709551616 ∧ s3 < 18446744073709551616) ∧
      DataW.trod enc Tryd.prog w base spare held n 22 [sl] = some y ∧ Rows.uptoBulk y.1 + 1 ≤ Rows.uptoBulk x.1 := by
  obtain ⟨n', k, s0, s1, s2, s3, sl, y', hf', hcs', b⟩ := re_parts h
  obtain ⟨xs, n, rfl, rfl, hl, hlen, hf⟩ := DataW.trod_struct Tryd.underlying46 h
  subst hcs'
  have hlen : xs.length = 3 := hlen
  obtain ⟨y0, y1, y2, rfl⟩ := l3 xs hlen
  have h2 : DataW.trod enc Tryd.prog w base spare held n 22 (([.int .u8 (k : Int), .int .u64 (s0 : Int), .int .u64 (s1 : Int), .int .u64 (s2 : Int), .int .u64 (s3 : Int), sl].drop 5).take (Tryd.prog.cellsOf 22)) = some y2 := hf 2 _ rfl
  rw [rxKids] at h2
  refine ⟨n, k, s0, s1, s2, s3, sl, y2, rfl, rfl, ⟨b.1, b.2.1, b.2.2.1, b.2.2.2.1, b.2.2.2.2.1⟩, h2, ?_⟩
  show Rows.uptoBulk y2.1 + 1 ≤ (Rows.uptoBulk y0.1 + (Rows.uptoBulk y1.1 + (Rows.uptoBulk y2.1 + 0))) + 1
  omega
theorem kids_rowB {a : Addr} {len cap : Nat} {Q : Nat → Ry → Prop} (hl : len ≤ cap) (hm : cap ≤ maxLen) (each : ∀ i : Nat, ∃ p : Ry, i < len → (ryOk p ∧ RyIn w (· < w.heap.size) p.a p.cap p.kids ∧ ∀ j u, (ryCells p)[j]? = some u → w.cell? ((a.add (i * 6)).add j) = some u) ∧ Q i p) :
    ∃ ks : List Ry, ks.length = len ∧ RyIn w (· < w.heap.size) (some a) cap ks ∧ ∀ i (h : i < ks.length), Q i ks[i] := by
  obtain ⟨f, hf⟩ := Classical.axiomOfChoice each
  have hkl : ((List.range len).map f).length = len := by simp
  have hki : ∀ i (h : i < ((List.range len).map f).length), ((List.range len).map f)[i] = f i := fun i h => by simp
  refine ⟨(List.range len).map f, hkl, ?_, fun i hi => by rw [hki i hi]; exact (hf i (by rw [← hkl]; exact hi)).2⟩
  by_cases h0 : len = 0
  · subst h0
    exact .nil _ _
  · obtain ⟨b, off, spot⟩ := a
    obtain ⟨_, _, hc0⟩ := (hf 0 (by omega)).1
    have hcell0 := hc0 0 _ rfl
    have hspot : spot = none := by simpa [Addr.add] using World.cell?_spot hcell0
    subst hspot
    rw [Go.WideShapes.add_plain, Go.WideShapes.add_plain] at hcell0
    have hblt : b < w.heap.size := World.block_lt_of_cell? _ _ hcell0
    exact RyIn.row (w := w) (S := (· < w.heap.size)) ((List.range len).map f) b off cap hblt hblt (by rw [hkl]; omega) (by rw [hkl]; exact hl) (by rw [hkl]; omega)
      (fun i hi => by
        rw [hki i hi]
        exact (hf i (by rw [← hkl]; exact hi)).1.1)
      (fun i hi j u hu => by
        rw [hki i hi] at hu
        have := (hf i (by rw [← hkl]; exact hi)).1.2.2 j u hu
        rw [Go.WideShapes.add_plain, Go.WideShapes.add_plain] at this
        exact this)
      (fun i hi => by
        rw [hki i hi]
        exact (hf i (by rw [← hkl]; exact hi)).1.2.1)
theorem bulk_all : ∀ (ks : List Ry) (es : List (DataW H)), ks.length = es.length → (∀ (i : Nat) k e, ks[i]? = some k → es[i]? = some e → (preR k).length ≤ Rows.uptoBulk e) → (preL ks).length ≤ Rows.uptoBulkAll es
  | [], es, _, _ => by simp [preL]
  | k :: r, [], hl, _ => by simp at hl
  | k :: r, e :: es, hl, he => by
    have h1 := he 0 k e rfl rfl
    have h2 := bulk_all r es (by simpa using hl) (fun i k' e' hk he' => he (i + 1) k' e' (by simpa using hk) (by simpa using he'))
    rw [preL, List.length_append]
    show _ ≤ Rows.uptoBulk e + Rows.uptoBulkAll es
    omega
mutual
theorem open_reB : ∀ (fuel : Nat) (cs : List Value) (x : DataW H × List MemPlace), DataW.trod enc Tryd.prog w base spare held fuel 46 cs = some x →
    ∃ t : Ry, cs = ryCells t ∧ ryOk t ∧ RyIn w (· < w.heap.size) t.a t.cap t.kids ∧ (preR t).length ≤ Rows.uptoBulk x.1 := by
  intro fuel cs x h
  obtain ⟨n, k, s0, s1, s2, s3, sl, y, hfu, rfl, hb, hy, hbk⟩ := re_partsB h
  obtain ⟨a, c, ks, e1, h1, h2, h3⟩ := open_resB n [sl] y hy
  have e2 : sl = .slice a ks.length c := by injection e1
  subst e2
  refine ⟨Ry.mk k s0 s1 s2 s3 a c ks, rfl, hb, h1, ?_⟩
  rw [preR, List.length_cons]
  omega
termination_by fuel => fuel
theorem open_resB : ∀ (fuel : Nat) (cs : List Value) (x : DataW H × List MemPlace), DataW.trod enc Tryd.prog w base spare held fuel 22 cs = some x →
    ∃ (a : Option Addr) (c : Nat) (ks : List Ry), cs = [.slice a ks.length c] ∧ RyIn w (· < w.heap.size) a c ks ∧ ks.length ≤ c ∧ (preL ks).length ≤ Rows.uptoBulk x.1 := by
  intro fuel cs x h
  rcases DataW.trod_slice Tryd.underlying22 h with ⟨hn, rfl⟩ | ⟨a, len, cap, elems, rest, m, hfu, hcs, rfl, hb, hl, hm, hlen, hel, _, _⟩
  · exact ⟨none, 0, [], hn, .nil _ _, Nat.le_refl _, by simp [preL]⟩
  · obtain ⟨ks, hkl, hks, hq⟩ := kids_rowB (w := w) (a := a) (len := len) (cap := cap) (Q := fun i p => ∃ y, elems[i]? = some y ∧ (preR p).length ≤ Rows.uptoBulk y.1) hl hm (fun i => by
      by_cases hi : i < len
      · have he := hel i hi
        rw [List.getElem?_eq_getElem (by omega), rxRe, Option.bind_eq_some_iff] at he
        obtain ⟨cs', hc', ht'⟩ := he
        obtain ⟨t', rfl, ho, hk', hbk⟩ := open_reB m cs' _ ht'
        refine ⟨t', fun _ => ⟨⟨ho, hk', fun j u hu => ?_⟩, _, List.getElem?_eq_getElem (by omega), hbk⟩⟩
        obtain ⟨_, _, hcell⟩ := World.cells?_some hc'
        have hj : j < 6 := (List.getElem?_eq_some_iff.1 hu).1
        rw [hcell j hj, hu]
      · exact ⟨Ry.mk 0 0 0 0 0 none 0 [], fun h => absurd h hi⟩)
    refine ⟨some a, cap, ks, by rw [hkl]; exact hcs, hks, by rw [hkl]; exact hl, ?_⟩
    have hall := bulk_all ks (elems.map (·.1)) (by simp [hlen, hkl]) (fun i t e ht he => by
      obtain ⟨hi, rfl⟩ := List.getElem?_eq_some_iff.1 ht
      obtain ⟨y, hy, ho⟩ := hq i hi
      rw [List.getElem?_map, hy] at he
      have : y.1 = e := by simpa using he
      rw [← this]
      exact ho)
    show _ ≤ Rows.uptoBulkAll (elems.map (·.1)) + Rows.uptoBulkAll (rest.map (·.1)) + 1
    omega
termination_by fuel => fuel
end
end
end Go.Proofs.YtdckjjkaoecgaaaDoor
