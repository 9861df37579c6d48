/-
  The contract of what classes.Of hands to eachSet: the classes are parted by one set more. Conditions: classes of some sets, a set.
-/
import Derived.Test.YtlaccbkhlkomhaaCpB
namespace Go.Proofs.Ytlaccbkhlkomhaa
open Go.RowKit Go.Maps

def clV (V : List St) : Array Value := (clCells (clL V) (manyOf (clL V) : Int)).toArray
theorem clV_size (V : List St) : (clV V).size = 257 := by unfold clV; simp [clCells_len _ _ (clL_cp V).len]
theorem clV_one (V : List St) : (clV V).all (·.oneCell') = true := cl_one _ _
theorem Only.row {C : Nat} {a w : World} (h : Only C a w) (cs : Array Value) : Only C a (w.setRow C cs) := h.trans ⟨rfl, rfl, rfl, by rw [size_setRow]; exact Nat.le_refl _, fun k _ hne => Go.setRow_other w C k cs (fun e => hne (by rw [e]))⟩
attribute [local go_sem ↓] loadCl_eq storeCl_eq
set_option maxRecDepth 100000 in
set_option maxHeartbeats 4000000 in
theorem of1_any (V : List St) (s : St) (C : Nat) (w : World) (hs : s.ok) (hb : Blk w C 25 (clV V)) :
    Calls Try.prog 26 #[setV s, .pointer (some ⟨C, 0, none⟩)] w fun e w' => (∃ v, e = .returned v) ∧ Only C w w' ∧ Blk w' C 25 (clV (V ++ [s])) := by
  have HPA : Hid (∀ w, Calls Try.prog 27 #[.agg (clV V), setV s] w fun e w' => e = .returned (.bool (partsB (clL V) s)) ∧ Below w.heap.size w w') := fun w => partsAny_any (clL V) _ s w (clL_cp V).len hs
  have HPD : Hid (∀ w, partsB (clL V) s = true → Calls Try.prog 28 #[.agg (clV V), setV s] w fun e w' => e = .returned (.agg (clV (V ++ [s]))) ∧ Below w.heap.size w w') := fun w hp => by
    have := parted_any (clL V) (manyOf (clL V) : Int) s w (clL_cp V).len hs
    have h2 : clL (V ++ [s]) = partedL (clL V) s := by rw [clL_snoc, stepCl, if_pos hp]
    unfold clV
    rw [h2, partedL_many]
    exact this
  have HSA : Hid (partsB (clL V) s = false → clV (V ++ [s]) = clV V) := fun hp => by
    have h2 : clL (V ++ [s]) = clL V := by rw [clL_snoc, stepCl, if_neg (by rw [hp]; decide)]
    unfold clV
    rw [h2]
  have HLD : Hid (∀ W, Blk W C 25 (clV V) → (LoadCl (.pointer (some ⟨C, 0, none⟩))).run Try.prog W = .ok (.agg (clV V)) W) := fun W hb => loadCl_run (clL_cp V).len hb
  have HST : Hid (∀ W, Blk W C 25 (clV V) → (StoreCl (.pointer (some ⟨C, 0, none⟩)) (.agg (clV (V ++ [s])))).run Try.prog W = .ok () (W.setRow C (clV (V ++ [s])))) := fun W hb => storeCl_run (clV_size _) (clV_size _) (clV_one _) hb
  have HB := Lib.hid hb
  clear hb hs
  generalize clV (V ++ [s]) = c2 at *
  generalize clV V = c1 at *
  generalize partsB (clL V) s = B at *
  unfold setV at *
  unfold setC at *
  have HB1 : Hid (Blk (w.alloc (.cells #[.int .u64 (s.s0 : Int), .int .u64 (s.s1 : Int), .int .u64 (s.s2 : Int), .int .u64 (s.s3 : Int)] 28)) C 25 c1) := HB.out.alloc _
  have HS1 : Hid (Blk (w.alloc (.cells #[.int .u64 (s.s0 : Int), .int .u64 (s.s1 : Int), .int .u64 (s.s2 : Int), .int .u64 (s.s3 : Int)] 28)) w.heap.size 28 #[.int .u64 (s.s0 : Int), .int .u64 (s.s1 : Int), .int .u64 (s.s2 : Int), .int .u64 (s.s3 : Int)]) := Blk.new _ _ _
  have HL1 : Hid (Below w.heap.size w (w.alloc (.cells #[.int .u64 (s.s0 : Int), .int .u64 (s.s1 : Int), .int .u64 (s.s2 : Int), .int .u64 (s.s3 : Int)] 28))) := (Below.refl _ _).alloc (Nat.le_refl _) _
  have l1 := HLD.out _ HB1.out
  go_enter Try.func26, Try.ntmps26
  go_wp2_with (go_at_call 27; refine (HPA.out _).mono ?_)
  rintro e w5 ⟨rfl, hb5⟩
  have h5 := HS1.out.below hb5 HS1.out.lt
  have c5 := HB1.out.below hb5 HB1.out.lt
  have l5 := HLD.out _ c5
  have HL5 : Hid (Below w.heap.size w w5) := low_trans HL1.out hb5
  have t0 := h5.cell 0
  have t1 := h5.cell 1
  have t2 := h5.cell 2
  have t3 := h5.cell 3
  simp at t0 t1 t2 t3
  have HC5 := Lib.hid c5
  clear l1 hb5 h5 c5 HPA
  cases B with
  | false =>
    go_wp2
    go_end0
    exact ⟨⟨_, rfl⟩, Only.of_below HL5.out, by rw [HSA.out (by simp)]; exact HC5.out⟩
  | true =>
    go_wp2_with (first | (go_at_call 28; refine (HPD.out _ (by simp)).mono ?_; rintro e w6 ⟨rfl, hb6⟩; have HC6 := Lib.hid (HC5.out.below hb6 HC5.out.lt); have l6 := HST.out _ HC6.out; have HL6 : Hid (Below w.heap.size w w6) := low_trans HL5.out hb6; clear hb6))
    go_end0
    exact ⟨⟨_, rfl⟩, (Only.of_below HL6.out).row _, HC6.out.setRow _⟩
end Go.Proofs.Ytlaccbkhlkomhaa
