/-
  The contract of frankinglaw10.TableCut: the ways that answer early. Conditions: the table and the bytes lie in memory, within Go's own bounds.
-/
import Derived.Test.YtkgfjapflpjdbaaTcU
namespace Go.Proofs.Ytkgfjapflpjdbaa
open Go.RowKit

attribute [local go_sem ↓] loadOp_C loadOp_T allocOp_T storeOp_T buildOp_T
set_option maxRecDepth 100000 in
set_option maxHeartbeats 2000000 in
theorem tableCut_early (t : Tab) (p : Lie) (X : Array Value) (hX : (tabCells t p).toArray = X) (cut at_ : Nat) (x : UInt8) (ab : Option Addr) (bl : List UInt8) (cb n : Nat) (hn : bl.length = n) (w : World) (h : TabAt w t p) (hb : BytesAt w ab bl) (hf : fewB t = false ∨ fewB t = true ∧ tabRightB t = false) :
    Calls Try.prog 5 #[.agg X, .int .u16 (cut : Int), .int .u16 (at_ : Int), .int .u8 (x.toNat : Int), .slice ab n cb] w fun e w' => e = .returned (.bool true) ∧ Below w.heap.size w w' := by
  have h0 := BkW.start h hb
  rw [hX] at h0
  have hld := h0.tab.read.all
  rw [hX] at hld
  have HW0 := Lib.hid h0
  have HLD : Hid (∀ W, BkW w W t p ab bl → (LoadOp 30 (.pointer (some ⟨w.heap.size, 0, none⟩))).run Try.prog W = .ok (.agg X) W) := fun W hW => by
    have := hW.tab.read.all
    rw [hX] at this
    exact this
  have HFW : Hid (∀ W, BkW w W t p ab bl → Calls Try.prog 7 #[.agg X] W fun e w' => e = .returned (.bool (fewB t)) ∧ Below W.heap.size W w') := fun W hW => few_any t p X hX W hW.tab.at_
  have HRT : Hid (∀ W, BkW w W t p ab bl → Calls Try.prog 9 #[.agg X] W fun e w' => e = .returned (.bool (tabRightB t)) ∧ Below W.heap.size W w') := fun W hW => right_agg t p X hX W hW.tab.at_
  have HAW := Lib.hid awake_any
  clear h hb hX h0 hn
  rcases hf with hf | ⟨hf, hr⟩
  · rw [hf] at HFW
    clear hf HRT
    go_enter Try.func5, Try.ntmps5
    go_wp2_with (first
      | (go_at_call 7; refine (HFW.out _ HW0.out).mono ?_; rintro e w1 ⟨rfl, hb1⟩; have HW1 := Lib.hid (HW0.out.later hb1); have ld1 := HLD.out _ HW1.out; clear hb1)
      | (go_at_call 8; refine (HAW.out _).mono ?_; rintro e w2 ⟨rfl, hb2⟩; have HW2 := Lib.hid (HW1.out.later hb2); clear hb2))
    go_ret
    exact ⟨rfl, HW2.out.low⟩
  · rw [hf] at HFW
    rw [hr] at HRT
    clear hf hr
    go_enter Try.func5, Try.ntmps5
    go_wp2_with (first
      | (go_at_call 7; refine (HFW.out _ HW0.out).mono ?_; rintro e w1 ⟨rfl, hb1⟩; have HW1 := Lib.hid (HW0.out.later hb1); have ld1 := HLD.out _ HW1.out; clear hb1)
      | (go_at_call 9; refine (HRT.out _ HW1.out).mono ?_; rintro e w2 ⟨rfl, hb2⟩; have HW2 := Lib.hid (HW1.out.later hb2); clear hb2)
      | (go_at_call 8; refine (HAW.out _).mono ?_; rintro e w3 ⟨rfl, hb3⟩; have HW3 := Lib.hid (HW2.out.later hb3); clear hb3))
    go_ret
    exact ⟨rfl, HW3.out.low⟩
end Go.Proofs.Ytkgfjapflpjdbaa
