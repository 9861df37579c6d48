/-
  The contract of frame.Push. Conditions: the bytes lie in memory; fewer than a hundred thousand, and so the most.
-/
import Derived.Test.YtlpplmcploddaaaFrK
import Derived.Deep.AppendLies
namespace Go.Proofs.Ytlpplmcploddaaa
open Go.RowKit

theorem infoLn : (Try.prog.info? 43).map (fun i => (i.zero, i.size, i.bytes)) = some (some (.agg #[.string ⟨#[]⟩, .bool false]), 2, 24) := by kernel_rfl

section
variable {w W : World} {F R B base g c m : Nat} {vl : Value} {ls : List LnP} {H u : List UInt8} {over cr : Bool}
/-- a line ends -/
theorem PhW.line (h : PhW w W F R B base g c m vl ls H u over cr) {W2 : World} {vl' : Value} (hown : W2.ownsRow base 43 2 vl' (ls.length + 1) (linCells ls ++ lnCells (⟨u.take m, over⟩ : LnP))) (hg : W.grownBy W2 vl.ownBlock) :
    Blk W2 B 22 #[.slice (some ⟨g, 0, none⟩) (u.take m).length c] ∧ Blk W2 F 35 (frCells m H over cr) ∧
    PhW w (((W2.setCell ⟨B, 0, none⟩ (.slice (some ⟨g, 0, none⟩) 0 c)).setCell ⟨F, 2, none⟩ (.bool false)).setCell ⟨F, 3, none⟩ (.bool false)) F R B base g c m vl' (ls ++ [⟨u.take m, over⟩]) H [] false false := by
  have hbl : ∀ k, vl.ownBlock = some k → base ≤ k := fun k e => (h.lin.lt k e).1
  have hF : some F ≠ vl.ownBlock := fun e => by have := hbl F e.symm; have := h.fb; omega
  have hR : some R ≠ vl.ownBlock := fun e => by have := hbl R e.symm; have := h.rb; omega
  have hB : some B ≠ vl.ownBlock := Boxed.not_row (show Boxed W B 22 _ from h.hv) (by decide) h.lin
  have b1 := h.hv.kept hg hB
  have b2 := h.fr.kept hg hF
  have b3 := h.res.kept hg hR
  have b4 : OwnQ W2 base g c (u.take m) := h.own.kept (hg.block g h.own.lt (fun e => (h.apart).elim (fun h1 => by rw [h1] at e; cases e) (fun h1 => h1 e.symm)))
  refine ⟨b1, b2, ?_⟩
  have hlow : Below w.heap.size w W2 := h.low.grown hg h.low.size (fun k e => by have := hbl k e; have := h.fb; have := h.fw; omega)
  have h1 : PhW w (W2.setCell ⟨B, 0, none⟩ (.slice (some ⟨g, 0, none⟩) 0 c)) F R B base g c m vl' (ls ++ [⟨u.take m, over⟩]) H [] false cr ∨ True := .inr trivial
  have hn0 := h.ne
  have hn1 := h.ne2
  have hng : B ≠ g := h.own.ne h.hv (by decide)
  have hgF : g ≠ F := by have := h.own.base_le; have := h.fb; omega
  refine ⟨((hlow.setCell (p := ⟨B, 0, none⟩) h.bw _).setCell (p := ⟨F, 2, none⟩) h.fw _).setCell (p := ⟨F, 3, none⟩) h.fw _, ?_, ?_, ?_, ?_, ?_, h.fb, h.rb, h.fw, h.rw_, h.bw, h.fr_ne, ?_, by simp⟩
  · have := ((b2.other (p := ⟨B, 0, none⟩) (by show F ≠ B; omega) (.slice (some ⟨g, 0, none⟩) 0 c)).set_ 2 (.bool false)).set_ 3 (.bool false)
    exact this
  · exact ((b3.other (p := ⟨B, 0, none⟩) (by show R ≠ B; omega) _).other (p := ⟨F, 2, none⟩) (by have := h.fr_ne; show R ≠ F; omega) _).other (p := ⟨F, 3, none⟩) (by have := h.fr_ne; show R ≠ F; omega) _
  · have := ((b1.set_ 0 (.slice (some ⟨g, 0, none⟩) 0 c)).other (p := ⟨F, 2, none⟩) (by show B ≠ F; omega) (.bool false)).other (p := ⟨F, 3, none⟩) (by show B ≠ F; omega) (.bool false)
    rw [List.take_nil]
    exact this
  · rw [List.take_nil]
    refine (b4.cut).kept ?_
    rw [Below.heap_setCell _ _ _ _ (by show g ≠ F; omega), Below.heap_setCell _ _ _ _ (by show g ≠ F; omega), Below.heap_setCell _ _ _ _ (by show g ≠ B; omega)]
  · rw [linCells_snoc, List.length_append]
    refine ownsRow_setCell_below (ownsRow_setCell_below (hown.kept (grownBy_setCell' W2 B _) (.inr (Boxed.not_row (show Boxed W2 B 22 _ from b1) (by decide) hown).symm)) (a := ⟨F, 2, none⟩) h.fb _) (a := ⟨F, 3, none⟩) h.fb _
  · have := h.hb
    have := hg.size
    simp [World.setCell]
    omega
end
/-- behind a byte: what is held, what waits, which lines are told -/
def PhAt (w W : World) (F R B base m : Nat) (t : List UInt8) (b : List UInt8) (k : Nat) (H : List UInt8) (vl : Value) : Prop :=
  ∃ g c over, PhW w W F R B base g c m vl ((rawP t (b.take k)).2.map (lineP m)) H (bodyP (rawP t (b.take k)).1) over (lastCr (rawP t (b.take k)).1)
theorem raw_next (t b : List UInt8) (k : Nat) (hk : k < b.length) : rawP t (b.take (k + 1)) = ((rawS (rawP t (b.take k)).1 b[k]).1, (rawP t (b.take k)).2 ++ (rawS (rawP t (b.take k)).1 b[k]).2) := by
  rw [List.take_succ_eq_append_getElem hk, rawP_snoc]
end Go.Proofs.Ytlpplmcploddaaa
