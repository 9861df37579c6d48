/-
  The contract of frankinglaw10.TableTells. No conditions but that the table and the bytes lie in memory.
-/
import Derived.Test.YtkgfjapflpjdbaaTtB
import Derived.Test.YtkgfjapflpjdbaaTtC
import Derived.Test.YtkgfjapflpjdbaaTsO
namespace Go.Proofs.Ytkgfjapflpjdbaa
open Go.ChangeShapes Go.RowKit
variable {H : Type} {enc : TypeId × Value → H} {W : World} {fuel : Nat}

theorem bytes_in {cs : List Value} {x : DataW H × List MemPlace} (h : DataW.trod enc Try.prog W 0 (fun _ => true) true fuel 31 cs = some x) : ∃ a c l, cs = [.slice a (List.length l) c] ∧ BytesAt W a l ∧ l.length ≤ c ∧ c ≤ maxLen := by
  rcases open_ints Try.underlying31 Try.underlying5 (by kernel_rfl) h with ⟨hcs, _⟩ | ⟨a, len, cap, zs, hcs, _, hl, hm, hz, _, hcell, hwz⟩
  · exact ⟨none, 0, [], hcs, ⟨by decide, fun h => absurd h (by decide)⟩, Nat.zero_le _, Nat.zero_le _⟩
  · simp only [if_true] at hz
    have hb : ∀ z ∈ zs, ((UInt8.ofNat z.toNat).toNat : Int) = z := fun z hzm => by
      have hk : 0 ≤ z ∧ z < 256 := by have := hwz z hzm; simp [Lit.wf, IntKind.min, IntKind.max, IntKind.signed, IntKind.bits] at this; omega
      rw [UInt8.toNat_ofNat']
      omega
    have hlen : ((zs.take len).map fun z => UInt8.ofNat z.toNat).length = len := by rw [List.length_map, List.length_take]; omega
    refine ⟨some a, cap, (zs.take len).map fun z => UInt8.ofNat z.toNat, by rw [hlen]; exact hcs, row_of a _ (by rw [List.length_map, hlen]; omega) fun i hi => ?_, by rw [hlen]; exact hl, hm⟩
    rw [List.length_map, hlen] at hi
    rw [hcell i (by omega), List.getElem_map, List.getElem_map, List.getElem_take, List.getD_eq_getElem?_getD, List.getElem?_eq_getElem (by omega)]
    unfold byteV
    rw [hb _ (List.getElem_mem _)]
    rfl
theorem tableTells_any (t : Tab) (p : Lie) (X : Array Value) (hX : (tabCells t p).toArray = X) (s : Int) (x : UInt8) (ab : Option Addr) (bl : List UInt8) (cb : Nat) (hcb : bl.length ≤ cb) (hcm : cb ≤ maxLen) (w : World) (h : TabAt w t p) (hb : BytesAt w ab bl) :
    Calls Try.prog 3 #[.agg X, .int .i64 s, .int .u8 (x.toNat : Int), .slice ab bl.length cb] w fun e w' => e = .returned (.bool true) ∧ Below w.heap.size w w' := by
  cases hf : fewB t with
  | false => exact tableTells_early t p X hX s x ab bl cb _ w h hb (.inl hf)
  | true =>
    by_cases hl : bl.length ≤ 6000
    · cases hr : tabRightB t with
      | true => exact tableTells_r t p X hX s x ab bl cb _ rfl hcb hcm w h hb hf hl hr
      | false => exact tableTells_n t p X hX s x ab bl cb _ rfl hcb hcm w h hb hf hl hr
    · exact tableTells_early t p X hX s x ab bl cb _ w h hb (.inr ⟨hf, by omega⟩)
end Go.Proofs.Ytkgfjapflpjdbaa
