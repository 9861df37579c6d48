/-
  Two sets compared; the contract of regex.rightAlone. Conditions: numbers within their kinds' bounds.
-/
import Derived.Test.YtdckjjkaoecgaaaDoorRxA
import Derived.DeepKeys
namespace Go.Proofs.YtdckjjkaoecgaaaDoor
open Go.RowKit

set_option maxRecDepth 100000 in
set_option maxHeartbeats 1000000 in
theorem set_eq (x0 x1 x2 x3 y0 y1 y2 y3 : Int) (w : World) :
    (Op.equalIn (9999 + 1) 44 (.agg #[.int .u64 x0, .int .u64 x1, .int .u64 x2, .int .u64 x3]) (.agg #[.int .u64 y0, .int .u64 y1, .int .u64 y2, .int .u64 y3])).run Tryd.prog w = .ok (x0 == y0 && (x1 == y1 && (x2 == y2 && x3 == y3))) w := by
  have hs : ∀ w, (sizeOf 42).run Tryd.prog w = .ok 1 w := fun w => by kernel_rfl
  have hp0 : ∀ (a b c d : Int) (w : World), (part 42 #[.int .u64 a, .int .u64 b, .int .u64 c, .int .u64 d] 0).run Tryd.prog w = .ok (.int .u64 a) w := fun a b c d w => by go_simp
  have hp1 : ∀ (a b c d : Int) (w : World), (part 42 #[.int .u64 a, .int .u64 b, .int .u64 c, .int .u64 d] 1).run Tryd.prog w = .ok (.int .u64 b) w := fun a b c d w => by go_simp
  have hp2 : ∀ (a b c d : Int) (w : World), (part 42 #[.int .u64 a, .int .u64 b, .int .u64 c, .int .u64 d] 2).run Tryd.prog w = .ok (.int .u64 c) w := fun a b c d w => by go_simp
  have hp3 : ∀ (a b c d : Int) (w : World), (part 42 #[.int .u64 a, .int .u64 b, .int .u64 c, .int .u64 d] 3).run Tryd.prog w = .ok (.int .u64 d) w := fun a b c d w => by go_simp
  have he : ∀ (a b : Int) (w : World), (Op.equalIn 9999 42 (.int .u64 a) (.int .u64 b)).run Tryd.prog w = .ok (a == b) w := fun a b w => run_equalIn_int w 9998 42 .u64 .u64 a b Tryd.underlying42
  obtain ⟨j, hj⟩ : ∃ j, Tryd.prog.info? 42 = some j := Option.isSome_iff_exists.1 (by kernel_rfl)
  rw [run_equalIn_array w 9999 _ _ Tryd.underlying44 hj, show Tryd.prog.cellsOf 42 = 1 from by kernel_rfl, show List.range 4 = [0, 1, 2, 3] from rfl]
  generalize hdd : 9999 = dd at *
  simp only [Op.eqItems, Sem.run_bind, Nat.mul_one, Nat.zero_mul, Nat.one_mul, hp0, hp1, hp2, hp3, he, Result.andThen_ok, Bool.not_true, Bool.false_eq_true, if_false, Sem.run_ite, Bool.true_and]
  cases (x0 == y0) with
  | false => simp
  | true =>
    simp only [Op.eqItems, Sem.run_bind, Nat.mul_one, Nat.zero_mul, Nat.one_mul, hp0, hp1, hp2, hp3, he, Result.andThen_ok, Bool.not_true, Bool.false_eq_true, if_false, Sem.run_ite, Bool.true_and]
    cases (x1 == y1) with
    | false => simp
    | true =>
      simp only [Op.eqItems, Sem.run_bind, Nat.mul_one, Nat.zero_mul, Nat.one_mul, hp0, hp1, hp2, hp3, he, Result.andThen_ok, Bool.not_true, Bool.false_eq_true, if_false, Sem.run_ite, Bool.true_and]
      cases (x2 == y2) with
      | false => simp
      | true =>
        simp only [Op.eqItems, Sem.run_bind, Nat.mul_one, Nat.zero_mul, Nat.one_mul, hp0, hp1, hp2, hp3, he, Result.andThen_ok, Bool.not_true, Bool.false_eq_true, if_false, Sem.run_ite, Bool.true_and]
        cases (x3 == y3) <;> simp
set_option maxRecDepth 100000 in
set_option maxHeartbeats 1000000 in
theorem alone_any (t : Ry) (hk : t.kids.length ≤ maxLen) (w : World) :
    Calls Tryd.prog 49 #[.agg (ryCells t).toArray] w fun e w' => e = .returned (.bool (aloneR t)) ∧ Below w.heap.size w w' := by
  have HB := Lib.hid ((Below.refl w.heap.size w).alloc (Nat.le_refl _) (.cells (ryCells t).toArray 46))
  have hse : ∀ W, (Op.equalIn 10000 44 (.agg #[.int .u64 (t.s0 : Int), .int .u64 (t.s1 : Int), .int .u64 (t.s2 : Int), .int .u64 (t.s3 : Int)]) (.agg #[.int .u64 0, .int .u64 0, .int .u64 0, .int .u64 0])).run Tryd.prog W = .ok (noSetB t) W := fun W => by
    have := set_eq (t.s0 : Int) t.s1 t.s2 t.s3 0 0 0 0 W
    refine this.trans ?_
    congr 1
    unfold noSetB
    rw [Bool.eq_iff_iff]
    simp
    omega
  have HR : Hid (aloneR t = aloneR t) := show _ = _ from rfl
  have HR2 : Hid (∀ k n B, k = t.kind → n = t.kids.length → B = noSetB t → aloneR t = if k = 0 then B && n == 0 else if k = 1 then !B && n == 0 else if k = 2 ∨ k = 3 then B && decide (2 ≤ n) else if k = 4 then B && n == 1 else false) := fun k n B h1 h2 h3 => by subst h1 h2 h3; rfl
  have HR3 := Lib.hid (HR2.out _ _ _ rfl rfl rfl)
  unfold ryCells at HB ⊢
  unfold maxLen at hk
  clear HR HR2
  generalize aloneR t = R at *
  generalize t.kind = k at *
  generalize t.s0 = s0 at *
  generalize t.s1 = s1 at *
  generalize t.s2 = s2 at *
  generalize t.s3 = s3 at *
  generalize t.kids.length = n at *
  generalize t.a = a at *
  generalize t.cap = c at *
  generalize noSetB t = B at *
  go_enter Tryd.func49, Tryd.ntmps49
  go_wp2
  all_goals go_ret
  all_goals refine ⟨ret_bool ?_, HB.out⟩
  all_goals rw [HR3.out]
  all_goals clear HR3 hse HB
  all_goals simp only [beq_iff_eq, beq_eq_false_iff_ne, ne_eq] at *
  all_goals (cases B <;> simp at *)
  all_goals (first | omega | (repeat' split) <;> first | omega | (simp at *; omega) | (exfalso; omega) | (rw [Bool.eq_iff_iff]; simp; done) | (rw [Bool.eq_iff_iff]; simp; omega) | (simp_all; done) | (simp_all; omega))
end Go.Proofs.YtdckjjkaoecgaaaDoor
