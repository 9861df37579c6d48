/-
  Regular trees that came in lie in memory. No conditions.
-/
import Derived.Test.YtdckjjkaoecgaaaDoorRxA
import Derived.OpenShut
import Derived.WideShapes
namespace Go.Proofs.YtdckjjkaoecgaaaDoor
open Go.ChangeShapes Go.RowKit
section
variable {H : Type} {enc : TypeId × Value → H} {w : World} {base : Nat} {spare : Nat → Bool} {held : Bool}
theorem rxU8 : Tryd.prog.cellsOf 5 = 1 := by kernel_rfl
theorem rxU64 : Tryd.prog.cellsOf 42 = 1 := by kernel_rfl
theorem rxSet : Tryd.prog.cellsOf 44 = 4 := by kernel_rfl
theorem rxKids : Tryd.prog.cellsOf 22 = 1 := by kernel_rfl
theorem rxRe : Tryd.prog.cellsOf 46 = 6 := by kernel_rfl
theorem l3 {α : Type} (l : List α) (h : l.length = 3) : ∃ a0 a1 a2, l = [a0, a1, a2] := by
  match l, h with
  | [a0, a1, a2], _ => exact ⟨a0, a1, a2, rfl⟩
theorem l4 {α : Type} (l : List α) (h : l.length = 4) : ∃ a0 a1 a2 a3, l = [a0, a1, a2, a3] := by
  match l, h with
  | [a0, a1, a2, a3], _ => exact ⟨a0, a1, a2, a3, rfl⟩
theorem l6 {α : Type} (l : List α) (h : l.length = 6) : ∃ a0 a1 a2 a3 a4 a5, l = [a0, a1, a2, a3, a4, a5] := by
  match l, h with
  | [a0, a1, a2, a3, a4, a5], _ => exact ⟨a0, a1, a2, a3, a4, a5, rfl⟩
theorem u64_cell {fuel : Nat} {c : Value} {x : DataW H × List MemPlace} (h : DataW.trod enc Tryd.prog w base spare held fuel 42 [c] = some x) : ∃ s : Nat, c = .int .u64 (s : Int) ∧ s < 18446744073709551616 := by
  obtain ⟨k, e0, _, hw⟩ := DataW.trod_int Tryd.underlying42 h
  have hk : 0 ≤ k ∧ k < 18446744073709551616 := by have := hw; simp [Lit.wf, IntKind.min, IntKind.max, IntKind.signed, IntKind.bits] at this; omega
  refine ⟨k.toNat, ?_, by omega⟩
  injection e0 with e0
  rw [e0]
  congr 1
  omega
set_option maxRecDepth 100000 in
theorem set_cells {fuel : Nat} {cs : List Value} {x : DataW H × List MemPlace} (h : DataW.trod enc Tryd.prog w base spare held fuel 44 cs = some x) :
    ∃ s0 s1 s2 s3 : Nat, cs = [.int .u64 (s0 : Int), .int .u64 (s1 : Int), .int .u64 (s2 : Int), .int .u64 (s3 : Int)] ∧ s0 < 18446744073709551616 ∧ s1 < 18446744073709551616 ∧ s2 < 18446744073709551616 ∧ s3 < 18446744073709551616 := by
  obtain ⟨xs, n, rfl, rfl, hl, hlen, hf⟩ := DataW.trod_array Tryd.underlying44 h
  rw [rxSet] at hl
  obtain ⟨c0, c1, c2, c3, rfl⟩ := l4 cs hl
  have each : ∀ i (hi : i < 4), ∃ s : Nat, ([c0, c1, c2, c3] : List Value)[i]'(by simpa using hi) = .int .u64 (s : Int) ∧ s < 18446744073709551616 := fun i hi => by
    have := hf i (by simpa using hi)
    rw [rxU64, Nat.mul_one, List.drop_eq_getElem_cons (by simpa using hi), List.take_succ_cons, List.take_zero, List.getElem?_eq_getElem (by omega)] at this
    exact u64_cell this
  obtain ⟨s0, e0, b0⟩ := each 0 (by decide)
  obtain ⟨s1, e1, b1⟩ := each 1 (by decide)
  obtain ⟨s2, e2, b2⟩ := each 2 (by decide)
  obtain ⟨s3, e3, b3⟩ := each 3 (by decide)
  have e0 : c0 = _ := e0
  have e1 : c1 = _ := e1
  have e2 : c2 = _ := e2
  have e3 : c3 = _ := e3
  subst e0 e1 e2 e3
  exact ⟨s0, s1, s2, s3, rfl, b0, b1, b2, b3⟩
set_option maxRecDepth 100000 in
theorem re_parts {fuel : Nat} {cs : List Value} {x : DataW H × List MemPlace} (h : DataW.trod enc Tryd.prog w base spare held fuel 46 cs = some x) :
    ∃ (n : Nat) (k s0 s1 s2 s3 : Nat) (sl : Value) (y : DataW H × List MemPlace), fuel = n + 1 ∧ cs = [.int .u8 (k : Int), .int .u64 (s0 : Int), .int .u64 (s1 : Int), .int .u64 (s2 : Int), .int .u64 (s3 : Int), sl] ∧ k < 256 ∧ s0 < 18446744073709551616 ∧ s1 < 18446744073709551616 ∧ s2 < 18446744073709551616 ∧ s3 < 18446744073709551616 ∧
      DataW.trod enc Tryd.prog w base spare held n 22 [sl] = some y := by
  obtain ⟨xs, n, rfl, rfl, hl, hlen, hf⟩ := DataW.trod_struct Tryd.underlying46 h
  rw [rxRe] at hl
  have hlen : xs.length = 3 := hlen
  obtain ⟨c0, c1, c2, c3, c4, c5, rfl⟩ := l6 cs hl
  obtain ⟨y0, y1, y2, rfl⟩ := l3 xs hlen
  have h0 : DataW.trod enc Tryd.prog w base spare held n 5 (([c0, c1, c2, c3, c4, c5].drop 0).take (Tryd.prog.cellsOf 5)) = some y0 := hf 0 _ rfl
  have h1 : DataW.trod enc Tryd.prog w base spare held n 44 (([c0, c1, c2, c3, c4, c5].drop 1).take (Tryd.prog.cellsOf 44)) = some y1 := hf 1 _ rfl
  have h2 : DataW.trod enc Tryd.prog w base spare held n 22 (([c0, c1, c2, c3, c4, c5].drop 5).take (Tryd.prog.cellsOf 22)) = some y2 := hf 2 _ rfl
  rw [rxU8] at h0
  rw [rxSet] at h1
  rw [rxKids] at h2
  obtain ⟨k, e0, _, hw⟩ := DataW.trod_int Tryd.underlying5 h0
  have hk : 0 ≤ k ∧ k < 256 := by have := hw; simp [Lit.wf, IntKind.min, IntKind.max, IntKind.signed, IntKind.bits] at this; omega
  obtain ⟨s0, s1, s2, s3, e1, b0, b1, b2, b3⟩ := set_cells h1
  have g0 : c0 = .int .u8 ((k.toNat : Nat) : Int) := by injection e0 with e0; rw [e0]; congr 1; omega
  have e1' : [c1, c2, c3, c4] = [Value.int .u64 (s0 : Int), .int .u64 (s1 : Int), .int .u64 (s2 : Int), .int .u64 (s3 : Int)] := e1
  simp only [List.cons.injEq, and_true] at e1'
  obtain ⟨g1, g2, g3, g4⟩ := e1'
  subst g0 g1 g2 g3 g4
  exact ⟨n, k.toNat, s0, s1, s2, s3, c5, y2, rfl, rfl, by omega, b0, b1, b2, b3, h2⟩
theorem kids_row {a : Addr} {len cap : Nat} (hl : len ≤ cap) (hm : cap ≤ maxLen) (each : ∀ i : Nat, ∃ p : Ry, i < len → ryOk p ∧ RyIn w (· < w.heap.size) p.a p.cap p.kids ∧ ∀ j u, (ryCells p)[j]? = some u → w.cell? ((a.add (i * 6)).add j) = some u) :
    ∃ ks : List Ry, ks.length = len ∧ RyIn w (· < w.heap.size) (some a) cap ks := by
  obtain ⟨f, hf⟩ := Classical.axiomOfChoice each
  have hkl : ((List.range len).map f).length = len := by simp
  have hki : ∀ i (h : i < ((List.range len).map f).length), ((List.range len).map f)[i] = f i := fun i h => by simp
  refine ⟨(List.range len).map f, hkl, ?_⟩
  by_cases h0 : len = 0
  · subst h0
    exact .nil _ _
  · obtain ⟨b, off, spot⟩ := a
    obtain ⟨_, _, hc0⟩ := hf 0 (by omega)
    have hcell0 := hc0 0 _ rfl
    have hspot : spot = none := by simpa [Addr.add] using World.cell?_spot hcell0
    subst hspot
    rw [Go.WideShapes.add_plain, Go.WideShapes.add_plain] at hcell0
    have hblt : b < w.heap.size := World.block_lt_of_cell? _ _ hcell0
    exact RyIn.row (w := w) (S := (· < w.heap.size)) ((List.range len).map f) b off cap hblt hblt (by rw [hkl]; omega) (by rw [hkl]; exact hl) (by rw [hkl]; omega)
      (fun i hi => by
        rw [hki i hi]
        exact (hf i (by rw [← hkl]; exact hi)).1)
      (fun i hi j u hu => by
        rw [hki i hi] at hu
        have := (hf i (by rw [← hkl]; exact hi)).2.2 j u hu
        rw [Go.WideShapes.add_plain, Go.WideShapes.add_plain] at this
        exact this)
      (fun i hi => by
        rw [hki i hi]
        exact (hf i (by rw [← hkl]; exact hi)).2.1)
set_option maxRecDepth 100000 in
theorem open_re : ∀ (fuel : Nat) (cs : List Value) (x : DataW H × List MemPlace), DataW.trod enc Tryd.prog w base spare held fuel 46 cs = some x →
    ∃ t : Ry, cs = ryCells t ∧ ryOk t ∧ RyIn w (· < w.heap.size) t.a t.cap t.kids := by
  intro fuel
  induction fuel using Nat.strongRecOn with
  | _ fuel IH =>
    intro cs x h
    obtain ⟨n, k, s0, s1, s2, s3, sl, y, rfl, rfl, hk, b0, b1, b2, b3, hy⟩ := re_parts h
    rcases DataW.trod_slice Tryd.underlying22 hy with ⟨hn, rfl⟩ | ⟨a, len, cap, elems, rest, m, rfl, hcs, rfl, hb, hl, hm, hlen, hel, _, _⟩
    · have hn : sl = .slice none 0 0 := by injection hn
      subst hn
      exact ⟨Ry.mk k s0 s1 s2 s3 none 0 [], rfl, ⟨hk, b0, b1, b2, b3⟩, .nil _ _⟩
    · have hcs : sl = .slice (some a) len cap := by injection hcs
      subst hcs
      obtain ⟨ks, hkl, hks⟩ := kids_row (w := w) (a := a) (len := len) (cap := cap) hl hm (fun i => by
        by_cases hi : i < len
        · have he := hel i hi
          rw [List.getElem?_eq_getElem (by omega), rxRe, Option.bind_eq_some_iff] at he
          obtain ⟨cs', hc', ht'⟩ := he
          obtain ⟨t', rfl, ho, hk'⟩ := IH m (by omega) cs' _ ht'
          refine ⟨t', fun _ => ⟨ho, hk', fun j u hu => ?_⟩⟩
          obtain ⟨_, _, hcell⟩ := World.cells?_some hc'
          have hj : j < 6 := (List.getElem?_eq_some_iff.1 hu).1
          rw [hcell j hj, hu]
        · exact ⟨Ry.mk 0 0 0 0 0 none 0 [], fun h => absurd h hi⟩)
      refine ⟨Ry.mk k s0 s1 s2 s3 (some a) cap ks, ?_, ⟨hk, b0, b1, b2, b3⟩, hks⟩
      simp only [ryCells, Ry.kind, Ry.s0, Ry.s1, Ry.s2, Ry.s3, Ry.a, Ry.cap, Ry.kids, hkl]
set_option maxRecDepth 100000 in
theorem open_res {fuel : Nat} {cs : List Value} {x : DataW H × List MemPlace} (h : DataW.trod enc Tryd.prog w base spare held fuel 22 cs = some x) :
    ∃ (a : Option Addr) (c : Nat) (ks : List Ry), cs = [.slice a ks.length c] ∧ RyIn w (· < w.heap.size) a c ks ∧ ks.length ≤ c := by
  rcases DataW.trod_slice Tryd.underlying22 h with ⟨hn, rfl⟩ | ⟨a, len, cap, elems, rest, m, rfl, hcs, rfl, hb, hl, hm, hlen, hel, _, _⟩
  · exact ⟨none, 0, [], hn, .nil _ _, Nat.le_refl _⟩
  · obtain ⟨ks, hkl, hks⟩ := kids_row (w := w) (a := a) (len := len) (cap := cap) hl hm (fun i => by
      by_cases hi : i < len
      · have he := hel i hi
        rw [List.getElem?_eq_getElem (by omega), rxRe, Option.bind_eq_some_iff] at he
        obtain ⟨cs', hc', ht'⟩ := he
        obtain ⟨t', rfl, ho, hk'⟩ := open_re m cs' _ ht'
        refine ⟨t', fun _ => ⟨ho, hk', fun j u hu => ?_⟩⟩
        obtain ⟨_, _, hcell⟩ := World.cells?_some hc'
        have hj : j < 6 := (List.getElem?_eq_some_iff.1 hu).1
        rw [hcell j hj, hu]
      · exact ⟨Ry.mk 0 0 0 0 0 none 0 [], fun h => absurd h hi⟩)
    exact ⟨some a, cap, ks, by rw [hkl]; exact hcs, hks, by rw [hkl]; exact hl⟩
end
end Go.Proofs.YtdckjjkaoecgaaaDoor
