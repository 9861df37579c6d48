/-
  The contract of frankinglaw10.TableBack: what it leans on, and the ways that answer early. Conditions: the table and the bytes lie in memory, within Go's own bounds.
-/
import Derived.Test.YtkgfjapflpjdbaaTcT
import Derived.Test.YtkgfjapflpjdbaaTbZa
namespace Go.Proofs.Ytkgfjapflpjdbaa
open Go.RowKit

theorem wf_cap {n : Int} (h : -9223372036854775808 ≤ n ∧ n ≤ 9223372036854775807) : (Lit.int .i64 n).wf = true := by
  simp [Lit.wf, IntKind.min, IntKind.max, IntKind.signed, IntKind.bits]
  omega
theorem right_wf {t : Tab} (h : tabRightB t = true) : (Lit.int .i64 t.many).wf = true := by
  have hR := (rightT_iff t).1 h
  have h1 := hR.lo
  have h2 := hR.hi
  have h3 := hR.same
  exact wf_cap (by omega)
theorem packP_pos (t : Tab) : 0 < (packP t).length := by
  unfold packP headP
  simp
/-- what is kept of the table and the bytes that came in -/
structure BkW (w W : World) (t : Tab) (p : Lie) (ab : Option Addr) (bl : List UInt8) : Prop where
  tab : TabIn W w.heap.size t p
  b : BytesAt W ab bl
  low : Below w.heap.size w W
theorem BkW.later {w W W2 : World} {t : Tab} {p : Lie} {ab : Option Addr} {bl : List UInt8} (h : BkW w W t p ab bl) (hb : Below W.heap.size W W2) : BkW w W2 t p ab bl :=
  ⟨h.tab.below hb, RowAt.below h.b hb, low_trans h.low hb⟩
theorem BkW.start {w : World} {t : Tab} {p : Lie} {ab : Option Addr} {bl : List UInt8} (h : TabAt w t p) (hb : BytesAt w ab bl) : BkW w (w.alloc (.cells (tabCells t p).toArray 30)) t p ab bl :=
  have h0 : Below w.heap.size w (w.alloc (.cells (tabCells t p).toArray 30)) := (Below.refl _ _).alloc (Nat.le_refl _) _
  ⟨TabIn.new h, RowAt.below hb h0, h0⟩
theorem zero_at (W : World) : TabAt W zeroTab zeroLie :=
  have hn : ∀ W, RowAt W none [] := fun W => ⟨by decide, fun h => absurd h (by decide)⟩
  ⟨List.length_replicate, hn _, hn _, hn _, fun s hs => (by cases hs)⟩
attribute [local go_sem ↓] loadOp_C loadOp_T allocOp_T storeOp_T buildOp_T
set_option maxRecDepth 100000 in
set_option maxHeartbeats 2000000 in
theorem tableBack_early (t : Tab) (p : Lie) (X : Array Value) (hX : (tabCells t p).toArray = X) (ab : Option Addr) (bl : List UInt8) (cb n : Nat) (hn : bl.length = n) (w : World) (h : TabAt w t p) (hb : BytesAt w ab bl) (hf : fewB t = false ∨ fewB t = true ∧ 6000 < n) :
    Calls Try.prog 4 #[.agg X, .slice ab n cb] w fun e w' => e = .returned (.bool true) ∧ Below w.heap.size w w' := by
  have h0 := BkW.start h hb
  rw [hX] at h0
  have hld := h0.tab.read.all
  rw [hX] at hld
  have HW0 := Lib.hid h0
  have HFW : Hid (∀ W, BkW w W t p ab bl → Calls Try.prog 7 #[.agg X] W fun e w' => e = .returned (.bool (fewB t)) ∧ Below W.heap.size W w') := fun W hW => few_any t p X hX W hW.tab.at_
  have HAW := Lib.hid awake_any
  clear h hb hX h0 hn
  rcases hf with hf | ⟨hf, hl⟩
  · rw [hf] at HFW
    clear hf
    go_enter Try.func4, Try.ntmps4
    go_wp2_with (first
      | (go_at_call 7; refine (HFW.out _ HW0.out).mono ?_; rintro e w1 ⟨rfl, hb1⟩; have HW1 := Lib.hid (HW0.out.later hb1); clear hb1)
      | (go_at_call 8; refine (HAW.out _).mono ?_; rintro e w2 ⟨rfl, hb2⟩; have HW2 := Lib.hid (HW1.out.later hb2); clear hb2))
    go_ret
    exact ⟨rfl, HW2.out.low⟩
  · rw [hf] at HFW
    clear hf
    have hl2 : (6000 : Int) < (n : Int) := by omega
    go_enter Try.func4, Try.ntmps4
    go_wp2_with (first
      | (go_at_call 7; refine (HFW.out _ HW0.out).mono ?_; rintro e w1 ⟨rfl, hb1⟩; have HW1 := Lib.hid (HW0.out.later hb1); clear hb1)
      | (go_at_call 8; refine (HAW.out _).mono ?_; rintro e w2 ⟨rfl, hb2⟩; have HW2 := Lib.hid (HW1.out.later hb2); clear hb2))
    go_ret
    exact ⟨rfl, HW2.out.low⟩
end Go.Proofs.Ytkgfjapflpjdbaa
