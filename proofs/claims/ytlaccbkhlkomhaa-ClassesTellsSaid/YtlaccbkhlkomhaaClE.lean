/-
  Classes compared by ==. Conditions: 256 bytes each; the numbers are Go's.
-/
import Derived.Test.YtlaccbkhlkomhaaCpC
import Derived.DeepKeys
namespace Go.Proofs.Ytlaccbkhlkomhaa
open Go.RowKit

theorem lits_bytes (of : List UInt8) (tl : List Value) (d : Nat) : ∀ (is : List Nat), (∀ i ∈ is, i < of.length) →
    (is.mapM fun i => Try.prog.keyLits (d + 1) 5 (((of.map byteV ++ tl).drop (i * 1)).take 1)) = some (is.map fun i => [Lit.int .u8 ((of[i]?.getD 0).toNat : Int)])
  | [], _ => rfl
  | i :: is, h => by
    have hi := h i (List.mem_cons_self ..)
    have hwf : (Lit.int .u8 ((of[i]?.getD 0).toNat : Int)).wf = true := by
      have := (of[i]?.getD 0).toNat_lt
      generalize (of[i]?.getD 0).toNat = m at *
      simp [Lit.wf, IntKind.min, IntKind.max, IntKind.signed, IntKind.bits]
      omega
    have e : ((of.map byteV ++ tl).drop (i * 1)).take 1 = [.int .u8 ((of[i]?.getD 0).toNat : Int)] := by
      rw [Nat.mul_one, List.drop_append_of_le_length (by simp; omega), List.drop_eq_getElem_cons (by simpa using hi)]
      simp [byteV, List.getElem?_eq_getElem hi]
    rw [List.mapM_cons, e, lits_bytes of tl d is (fun k hk => h k (List.mem_cons_of_mem _ hk))]
    simp only [Program.keyLits, Try.underlying5, hwf, and_self, if_true]
    rfl
theorem flat_one {α : Type} (l : List Nat) (f : Nat → α) : (l.map fun i => [f i]).flatten = l.map f := by
  induction l with
  | nil => rfl
  | cons x r ih => rw [List.map_cons, List.flatten_cons, ih]; rfl
def clLits (of : List UInt8) (many : Int) : List Lit := (List.range 256).map (fun i => Lit.int .u8 ((of[i]?.getD 0).toNat : Int)) ++ [.int .i64 many]
theorem cl_lits (of : List UInt8) (many : Int) (h : of.length = 256) (hw : (Lit.int .i64 many).wf = true) (d : Nat) : Try.prog.keyLits (d + 3) 25 (clCells of many) = some (clLits of many) := by
  have hc : Try.prog.cellsOf 25 = 257 := by kernel_rfl
  have ha : Try.prog.cellsOf 23 = 256 := by kernel_rfl
  have hu : Try.prog.cellsOf 5 = 1 := by kernel_rfl
  have hi : Try.prog.cellsOf 3 = 1 := by kernel_rfl
  have hl := clCells_len of many h
  have e1 : ((clCells of many).drop 0).take 256 = of.map byteV := by
    unfold clCells
    rw [List.drop_zero, List.take_append_of_le_length (by simp [h]), List.take_of_length_le (by simp [h])]
  have e2 : ((clCells of many).drop 256).take 1 = [.int .i64 many] := by
    unfold clCells
    have : (256 : Nat) = (of.map byteV).length := by simp [h]
    rw [this, List.drop_left]
    rfl
  have hb := lits_bytes of [] d (List.range 256) (fun i hi => by rw [h]; exact List.mem_range.1 hi)
  rw [List.append_nil] at hb
  have k1 : Try.prog.keyLits (d + 2) 23 (of.map byteV) = some ((List.range 256).map fun i => Lit.int .u8 ((of[i]?.getD 0).toNat : Int)) := by
    unfold Program.keyLits
    simp only [Try.underlying23, ha, hu, List.length_map, h, if_true]
    rw [hb, Option.map_some, flat_one]
  have k2 : Try.prog.keyLits (d + 2) 3 [.int .i64 many] = some [.int .i64 many] := by
    unfold Program.keyLits
    simp only [Try.underlying3, hw, and_self, if_true]
  unfold Program.keyLits
  simp only [Try.underlying25, hc, hl]
  rw [if_pos ⟨trivial, by kernel_rfl⟩, List.mapM_cons, List.mapM_cons, List.mapM_nil]
  simp only [ha, hi, e1, e2, k1, k2]
  rfl
theorem clLits_iff (of1 of2 : List UInt8) (m1 m2 : Int) (h1 : of1.length = 256) (h2 : of2.length = 256) : clLits of1 m1 = clLits of2 m2 ↔ of1 = of2 ∧ m1 = m2 := by
  constructor
  · intro h
    unfold clLits at h
    obtain ⟨e1, e2⟩ := List.append_inj h (by simp)
    refine ⟨?_, by simpa using e2⟩
    apply List.ext_getElem (by rw [h1, h2])
    intro i hi1 hi2
    have := congrArg (fun l => l[i]?) e1
    simp only [List.getElem?_map, List.getElem?_range (show i < 256 by omega), Option.map_some, Option.some.injEq, Lit.int.injEq, true_and, List.getElem?_eq_getElem hi1, List.getElem?_eq_getElem hi2, Option.getD_some] at this
    exact UInt8.toNat.inj (by omega)
  · rintro ⟨rfl, rfl⟩
    rfl
noncomputable def EqOp (t : TypeId) (x y : Value) : Sem Value := binOp .eql t x y
theorem eqOp_C (x y : Value) : binOp .eql 25 x y = EqOp 25 x y := rfl
noncomputable def NeOp (t : TypeId) (x y : Value) : Sem Value := binOp .neq t x y
theorem neOp_C (x y : Value) : binOp .neq 25 x y = NeOp 25 x y := rfl
theorem cls_equal (o1 o2 : List UInt8) (m1 m2 : Int) (h1 : o1.length = 256) (h2 : o2.length = 256) (hm1 : (Lit.int .i64 m1).wf = true) (hm2 : (Lit.int .i64 m2).wf = true) (r0 : Bool) (hr0 : r0 = true ↔ o1 = o2 ∧ m1 = m2) (W : World) :
    (Op.equal 25 (.agg (clCells o1 m1).toArray) (.agg (clCells o2 m2).toArray)).run Try.prog W = .ok r0 W := by
  have hc : Try.prog.cellsOf 25 = 257 := by kernel_rfl
  have fx : ∀ (o : List UInt8) (m : Int), o.length = 256 → Value.formed Try.prog 25 (.agg (clCells o m).toArray) = true := fun o m ht => by
    have := clCells_len o m ht
    simp [Value.formed, Try.underlying25, hc, this]
  obtain ⟨r, hr, hiff⟩ := run_equalIn_deep (P := Try.prog) 9997 3 25 (by kernel_rfl) W 3 3 (.agg (clCells o1 m1).toArray) (.agg (clCells o2 m2).toArray) _ _ (fx o1 m1 h1) (fx o2 m2 h2) (cl_lits o1 m1 h1 hm1 0) (cl_lits o2 m2 h2 hm2 0)
  rw [clLits_iff _ _ _ _ h1 h2, ← hr0] at hiff
  have : r = r0 := by rw [Bool.eq_iff_iff]; exact hiff
  subst this
  exact hr
theorem cls_eq (o1 o2 : List UInt8) (m1 m2 : Int) (h1 : o1.length = 256) (h2 : o2.length = 256) (hm1 : (Lit.int .i64 m1).wf = true) (hm2 : (Lit.int .i64 m2).wf = true) (r0 : Bool) (hr0 : r0 = true ↔ o1 = o2 ∧ m1 = m2) (W : World) :
    (EqOp 25 (.agg (clCells o1 m1).toArray) (.agg (clCells o2 m2).toArray)).run Try.prog W = .ok (.bool r0) W := by
  have hr2 := cls_equal o1 o2 m1 m2 h1 h2 hm1 hm2 r0 hr0 W
  unfold EqOp
  simp only [binOp, Sem.run_bind, hr2, Result.andThen_ok, Sem.run_pure]
theorem cls_ne (o1 o2 : List UInt8) (m1 m2 : Int) (h1 : o1.length = 256) (h2 : o2.length = 256) (hm1 : (Lit.int .i64 m1).wf = true) (hm2 : (Lit.int .i64 m2).wf = true) (r0 : Bool) (hr0 : r0 = true ↔ o1 = o2 ∧ m1 = m2) (W : World) :
    (NeOp 25 (.agg (clCells o1 m1).toArray) (.agg (clCells o2 m2).toArray)).run Try.prog W = .ok (.bool (!r0)) W := by
  have hr2 := cls_equal o1 o2 m1 m2 h1 h2 hm1 hm2 r0 hr0 W
  unfold NeOp
  simp only [binOp, Sem.run_bind, hr2, Result.andThen_ok, Sem.run_pure]
theorem many_wf (V : List St) : (Lit.int .i64 (manyOf (clL V) : Int)).wf = true := by
  have h1 := clGo_le (clL V) 0 _ (clL_cp V).go
  rw [(clL_cp V).len] at h1
  simp [Lit.wf, IntKind.min, IntKind.max, IntKind.signed, IntKind.bits]
  omega
/-- the same sets, the same classes -/
theorem clV_refl (V : List St) (W : World) : (EqOp 25 (.agg (clV V)) (.agg (clV V))).run Try.prog W = .ok (.bool true) W :=
  cls_eq _ _ _ _ (clL_cp V).len (clL_cp V).len (many_wf V) (many_wf V) true (by simp) W
end Go.Proofs.Ytlaccbkhlkomhaa
