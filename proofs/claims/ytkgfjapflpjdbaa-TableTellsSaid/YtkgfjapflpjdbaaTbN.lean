/-
  The contract of table.Pack. Conditions: the table lies in memory; names within Go's own bounds.
-/
import Derived.Test.YtkgfjapflpjdbaaTbL
namespace Go.Proofs.Ytkgfjapflpjdbaa
open Go.RowKit

theorem OutAt.lower {w W1 W : World} {v : Value} {l : List UInt8} (h : OutAt W1 W v l) (hb : Below w.heap.size w W1) : OutAt w W v l :=
  ⟨Joins.ownsRow_le h.own hb.size, hb.trans (h.low.mono hb.size)⟩
attribute [local go_sem ↓] loadOp_C loadOp_T
set_option maxRecDepth 100000 in
set_option maxHeartbeats 1000000 in
theorem pack_yes (t : Tab) (p : Lie) (X : Array Value) (hX : (tabCells t p).toArray = X) (w : World) (h : TabAt w t p) (hr : tabRightB t = true) :
    Calls Try.prog 13 #[.agg X] w fun e w' => ∃ v, e = .returned (.tuple #[v, .int .i64 0]) ∧ OutAt w w' v (packP t) := by
  have hi := TabIn.new h
  have hb : Below w.heap.size w (w.alloc (.cells (tabCells t p).toArray 30)) := (Below.refl _ _).alloc (Nat.le_refl _) _
  rw [hX] at hi hb
  have hall := hi.read.all
  rw [hX] at hall
  have HI := Lib.hid hi
  have HB := Lib.hid hb
  have HQ := Lib.hid (right_agg t p X hX _ hi.at_)
  rw [hr] at HQ
  have HX := Lib.hid hX
  have HR := Lib.hid ((rightT_iff t).1 hr)
  clear h hi hb hX hr
  generalize hW : w.alloc (.cells X 30) = W at *
  have HRUN : Hid (∀ w2, Below W.heap.size W w2 → (LoadOp 30 (.pointer (some ⟨w.heap.size, 0, none⟩))).run Try.prog w2 = .ok (.agg X) w2) := fun w2 hb2 => by
    have := (HI.out.below hb2).read.all
    rwa [HX.out] at this
  go_enter Try.func13, Try.ntmps13
  go_wp2_with (first
    | (go_at_call 9; refine HQ.out.mono ?_; rintro e w2 ⟨rfl, hb2⟩; have hrun2 := HRUN.out w2 hb2; have HB2 := Lib.hid hb2; clear hb2)
    | (go_at_call 26; refine (packed_any t p X HX.out w2 (HI.out.below HB2.out).at_ HR.out).mono ?_; rintro e w3 ⟨v, rfl, ho⟩; have HO := Lib.hid ho; clear ho))
  go_ret2
  exact ⟨v, rfl, HO.out.lower ((HB.out.trans (HB2.out.mono HB.out.size)).alloc (Nat.le_trans HB.out.size HB2.out.size) _)⟩
set_option maxRecDepth 100000 in
set_option maxHeartbeats 1000000 in
theorem pack_no (t : Tab) (p : Lie) (X : Array Value) (hX : (tabCells t p).toArray = X) (w : World) (h : TabAt w t p) (hr : tabRightB t = false) :
    Calls Try.prog 13 #[.agg X] w fun e w' => e = .returned (.tuple #[.slice none 0 0, .int .i64 100]) ∧ Below w.heap.size w w' := by
  have hi := TabIn.new h
  have hb : Below w.heap.size w (w.alloc (.cells (tabCells t p).toArray 30)) := (Below.refl _ _).alloc (Nat.le_refl _) _
  rw [hX] at hi hb
  have hall := hi.read.all
  rw [hX] at hall
  have HB := Lib.hid hb
  have HQ := Lib.hid (right_agg t p X hX _ hi.at_)
  rw [hr] at HQ
  clear h hi hb hX hr
  go_enter Try.func13, Try.ntmps13
  go_wp2_with (go_at_call 9; refine HQ.out.mono ?_; rintro e w2 ⟨rfl, hb2⟩)
  go_ret2
  exact ⟨rfl, HB.out.trans (hb2.mono HB.out.size)⟩
end Go.Proofs.Ytkgfjapflpjdbaa
