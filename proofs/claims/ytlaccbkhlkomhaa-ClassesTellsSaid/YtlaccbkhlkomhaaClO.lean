/-
  Classes that come in are 256 bytes and a number. No conditions.
-/
import Derived.Test.YtlaccbkhlkomhaaClA
import Derived.OpenShut
import Derived.WideShapes
namespace Go.Proofs.Ytlaccbkhlkomhaa
open Go.ChangeShapes Go.RowKit
variable {H : Type} {enc : TypeId × Value → H} {W : World} {fuel : Nat}

theorem clsF : Try.prog.cellsOf 25 = 257 ∧ Try.prog.cellsOf 23 = 256 ∧ Try.prog.cellsOf 5 = 1 ∧ Try.prog.cellsOf 3 = 1 := ⟨by kernel_rfl, by kernel_rfl, by kernel_rfl, by kernel_rfl⟩
theorem bytes_of : ∀ (c : List Value), (∀ v ∈ c, ∃ b : UInt8, v = byteV b) → ∃ l : List UInt8, c = l.map byteV ∧ l.length = c.length
  | [], _ => ⟨[], rfl, rfl⟩
  | v :: r, h => by
    obtain ⟨b, rfl⟩ := h _ (List.mem_cons_self ..)
    obtain ⟨l, rfl, hl⟩ := bytes_of r (fun v hv => h v (List.mem_cons_of_mem _ hv))
    exact ⟨b :: l, rfl, by simp⟩
theorem array_cells {cs : List Value} {x : DataW H × List MemPlace} (h : DataW.trod enc Try.prog W 0 (fun _ => true) true fuel 23 cs = some x) : ∃ l : List UInt8, cs = l.map byteV ∧ l.length = 256 := by
  obtain ⟨xs, n, rfl, rfl, hl, hlen, hf⟩ := DataW.trod_array Try.underlying23 h
  rw [clsF.2.1] at hl
  obtain ⟨l, h1, h2⟩ := bytes_of cs (fun v hv => by
    obtain ⟨i, hi, rfl⟩ := List.getElem_of_mem hv
    have hi2 : i < 256 := by omega
    have := hf i hi2
    rw [clsF.2.2.1, Nat.mul_one, List.drop_eq_getElem_cons hi, List.take_succ_cons, List.take_zero, List.getElem?_eq_getElem (by omega)] at this
    obtain ⟨k, e0, _, hw⟩ := DataW.trod_int Try.underlying5 this
    simp only [List.cons.injEq, and_true] at e0
    have hk : 0 ≤ k ∧ k < 256 := by have := hw; simp [Lit.wf, IntKind.min, IntKind.max, IntKind.signed, IntKind.bits] at this; omega
    refine ⟨UInt8.ofNat k.toNat, ?_⟩
    rw [e0]
    unfold byteV
    rw [UInt8.toNat_ofNat']
    congr 1
    omega)
  exact ⟨l, h1, by rw [h2, hl]⟩
theorem cls_cells {cs : List Value} {x : DataW H × List MemPlace} (h : DataW.trod enc Try.prog W 0 (fun _ => true) true fuel 25 cs = some x) : ∃ (of : List UInt8) (many : Int), cs = clCells of many ∧ of.length = 256 := by
  obtain ⟨c2, c4, c5, c6⟩ := clsF
  obtain ⟨z0, z1, m, rfl, hl2, g0, g1⟩ := trod_struct2 Try.underlying25 h
  have g0 : DataW.trod enc Try.prog W 0 (fun _ => true) true m 23 ((cs.drop 0).take (Try.prog.cellsOf 23)) = some z0 := g0
  have g1 : DataW.trod enc Try.prog W 0 (fun _ => true) true m 3 ((cs.drop 256).take (Try.prog.cellsOf 3)) = some z1 := g1
  rw [c4] at g0
  rw [c6] at g1
  obtain ⟨of, e0, hof⟩ := array_cells g0
  obtain ⟨many, e1, _, _⟩ := DataW.trod_int Try.underlying3 g1
  refine ⟨of, many, ?_, hof⟩
  have hl : cs.length = 257 := by rw [hl2]; exact c2
  have e2 : (cs.drop 256).take 1 = cs.drop 256 := List.take_of_length_le (by rw [List.length_drop, hl]; decide)
  rw [List.drop_zero] at e0
  rw [e2] at e1
  unfold clCells
  rw [← List.take_append_drop 256 cs, e0, e1]
  rfl
end Go.Proofs.Ytlaccbkhlkomhaa
