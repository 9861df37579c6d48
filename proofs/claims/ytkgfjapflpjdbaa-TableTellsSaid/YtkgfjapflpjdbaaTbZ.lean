/-
  The contract of frankinglaw10.awake: what it leans on. No conditions.
-/
import Derived.Test.YtkgfjapflpjdbaaTbY
namespace Go.Proofs.Ytkgfjapflpjdbaa
open Go.RowKit

def awT : Tab := ⟨List.replicate 256 0, 1, 1, [0], [0], [[97]]⟩
def awB : List UInt8 := [70, 84, 1, 0, 0, 1, 1, 1, 97] ++ List.replicate 256 0 ++ [1, 0, 1]
theorem aw_right : tabRightB awT = true := by kernel_rfl
theorem aw_pack : packP awT = awB := by kernel_rfl
theorem aw_step0 : stepP awT 0 7 = 0 := by kernel_rfl
theorem aw_step1 : stepP awT 1 7 = -1 := by kernel_rfl
theorem aw_readB : readB awB = true := by kernel_rfl
theorem aw_readT : readT awB = awT := by kernel_rfl
theorem aw_cut : readB (awB.take 267) = false := by kernel_rfl
theorem aw_zero : (Builtin.zeroCells (Value.int .u8 0).cells 256).toList = (List.replicate 256 (0 : UInt8)).map byteV := by kernel_rfl
theorem own_bytes {W : World} {base : Nat} {v : Value} {l : List UInt8} (h : W.ownsRow base 5 1 v l.length (l.map byteV)) (h0 : 0 < l.length) :
    ∃ g cap, v = .slice (some ⟨g, 0, none⟩) l.length cap ∧ BytesAt W (some ⟨g, 0, none⟩) l ∧ l.length ≤ cap ∧ cap ≤ maxLen := by
  have hrow := h
  rcases h.2 with ⟨_, hz⟩ | ⟨g2, cap2, cur, hv2, _, _, hcap, hcapm, _⟩
  · omega
  · refine ⟨g2, cap2, hv2, ⟨by rw [List.length_map]; exact Nat.le_trans hcap hcapm, fun _ => ⟨g2, 0, rfl, (hrow.lt g2 (by rw [hv2]; rfl)).2, fun j hj => ?_⟩⟩, hcap, hcapm⟩
    rw [hv2] at hrow
    have hcl := hrow.cells (g := g2) rfl j
    rw [Addr.add_mid] at hcl
    exact hcl _ (List.getElem?_eq_getElem hj)
/-- a table is stored in a block that was just made -/
theorem tab_made (W : World) (t : Tab) (lie : Lie) (Z : Array Value) (hz : Z.size = 261) (ht : TabAt W t lie) :
    (StoreOp 30 (.pointer (some ⟨W.heap.size, 0, none⟩)) (.agg (tabCells t lie).toArray)).run Try.prog (W.alloc (.cells Z 30)) = .ok () ((W.alloc (.cells Z 30)).setRow W.heap.size (tabCells t lie).toArray) ∧
    TabIn ((W.alloc (.cells Z 30)).setRow W.heap.size (tabCells t lie).toArray) W.heap.size t lie ∧ Below W.heap.size W ((W.alloc (.cells Z 30)).setRow W.heap.size (tabCells t lie).toArray) := by
  have h0 : Below W.heap.size W ((W.alloc (.cells Z 30)).setRow W.heap.size (tabCells t lie).toArray) := below_row ((Below.refl _ _).alloc (Nat.le_refl _) _) _ _ (Nat.le_refl _)
  exact ⟨store_run _ _ Z t lie (Blk.new _ _ _) hz ht.of, ⟨setRow_heap _ _ _ _ _ _ (Blk.new W _ Z), ht.below h0⟩, h0⟩
theorem buildOp_C (ps : Array (Nat × Value)) : Instr.build 24 ps = BuildOp 24 ps := rfl
def awC : Array Value := (clCells (List.replicate 256 0) 1).toArray
def awL (B : Nat) : Lie := ⟨some ⟨B, 0, none⟩, 1, some ⟨B + 1, 0, none⟩, 1, some ⟨B + 2, 0, none⟩, 1⟩
theorem aw_buildC (W : World) : (BuildOp 24 #[(1, .int .i64 1)]).run Try.prog W = .ok (.agg awC) W := run_build W _ _ _ (by kernel_rfl)
theorem aw_buildT (W : World) (B : Nat) : (BuildOp 30 #[(0, .agg awC), (1, .agg #[.int .i64 1, .slice (some ⟨B, 0, none⟩) 1 1, .slice (some ⟨B + 1, 0, none⟩) 1 1]), (2, .slice (some ⟨B + 2, 0, none⟩) 1 1)]).run Try.prog W = .ok (.agg (tabCells awT (awL B)).toArray) W := run_build W _ _ _ (by kernel_rfl)
theorem aw_keys : (keyOf Try.prog 24 (.agg awC)).isSome = true := by kernel_rfl
theorem aw_eq (W : World) : (EqOp 24 (.agg awC) (.agg awC)).run Try.prog W = .ok (.bool true) W := by
  obtain ⟨l, hl⟩ := Option.isSome_iff_exists.1 aw_keys
  obtain ⟨r, hr, hiff⟩ := run_equal_deep (P := Try.prog) W (m := 3) (by decide) (k := 24) (by kernel_rfl) (by rw [Try.underlying24]) hl hl
  have : r = true := hiff.2 rfl
  subst this
  unfold EqOp
  simp only [binOp, Sem.run_bind, hr, Result.andThen_ok, Sem.run_pure]
end Go.Proofs.Ytkgfjapflpjdbaa
