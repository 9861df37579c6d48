/-
  Two states compared; the contracts of nfa.below and nfa.has. No conditions.
-/
import Derived.Test.YtdckjjkaoecgaaaDoorNbM
import Derived.Test.YtdckjjkaoecgaaaDoorRxB
import Derived.Laws.StructEq
namespace Go.Proofs.YtdckjjkaoecgaaaDoor
open Go.RowKit

set_option maxRecDepth 100000 in
set_option maxHeartbeats 1000000 in
theorem set_eq_at (dd : Nat) (x0 x1 x2 x3 y0 y1 y2 y3 : Int) (w : World) :
    (Op.equalIn (dd + 1 + 1) 44 (.agg #[.int .u64 x0, .int .u64 x1, .int .u64 x2, .int .u64 x3]) (.agg #[.int .u64 y0, .int .u64 y1, .int .u64 y2, .int .u64 y3])).run Tryd.prog w = .ok (x0 == y0 && (x1 == y1 && (x2 == y2 && x3 == y3))) w := by
  have hp0 : ∀ (a b c d : Int) (w : World), (part 42 #[.int .u64 a, .int .u64 b, .int .u64 c, .int .u64 d] 0).run Tryd.prog w = .ok (.int .u64 a) w := fun a b c d w => by go_simp
  have hp1 : ∀ (a b c d : Int) (w : World), (part 42 #[.int .u64 a, .int .u64 b, .int .u64 c, .int .u64 d] 1).run Tryd.prog w = .ok (.int .u64 b) w := fun a b c d w => by go_simp
  have hp2 : ∀ (a b c d : Int) (w : World), (part 42 #[.int .u64 a, .int .u64 b, .int .u64 c, .int .u64 d] 2).run Tryd.prog w = .ok (.int .u64 c) w := fun a b c d w => by go_simp
  have hp3 : ∀ (a b c d : Int) (w : World), (part 42 #[.int .u64 a, .int .u64 b, .int .u64 c, .int .u64 d] 3).run Tryd.prog w = .ok (.int .u64 d) w := fun a b c d w => by go_simp
  have he : ∀ (a b : Int) (w : World), (Op.equalIn (dd + 1) 42 (.int .u64 a) (.int .u64 b)).run Tryd.prog w = .ok (a == b) w := fun a b w => run_equalIn_int w dd 42 .u64 .u64 a b Tryd.underlying42
  obtain ⟨j, hj⟩ : ∃ j, Tryd.prog.info? 42 = some j := Option.isSome_iff_exists.1 (by kernel_rfl)
  rw [run_equalIn_array w (dd + 1) _ _ Tryd.underlying44 hj, show Tryd.prog.cellsOf 42 = 1 from by kernel_rfl, show List.range 4 = [0, 1, 2, 3] from rfl]
  generalize dd + 1 = dd at *
  simp only [Op.eqItems, Sem.run_bind, Nat.mul_one, Nat.zero_mul, Nat.one_mul, hp0, hp1, hp2, hp3, he, Result.andThen_ok, Bool.not_true, Bool.false_eq_true, if_false, Sem.run_ite, Bool.true_and]
  cases (x0 == y0) with
  | false => simp
  | true =>
    simp only [Op.eqItems, Sem.run_bind, Nat.mul_one, Nat.zero_mul, Nat.one_mul, hp0, hp1, hp2, hp3, he, Result.andThen_ok, Bool.not_true, Bool.false_eq_true, if_false, Sem.run_ite, Bool.true_and]
    cases (x1 == y1) with
    | false => simp
    | true =>
      simp only [Op.eqItems, Sem.run_bind, Nat.mul_one, Nat.zero_mul, Nat.one_mul, hp0, hp1, hp2, hp3, he, Result.andThen_ok, Bool.not_true, Bool.false_eq_true, if_false, Sem.run_ite, Bool.true_and]
      cases (x2 == y2) with
      | false => simp
      | true =>
        simp only [Op.eqItems, Sem.run_bind, Nat.mul_one, Nat.zero_mul, Nat.one_mul, hp0, hp1, hp2, hp3, he, Result.andThen_ok, Bool.not_true, Bool.false_eq_true, if_false, Sem.run_ite, Bool.true_and]
        cases (x3 == y3) <;> simp
/-- two states, field by field -/
def nsSame (x y : NS) : Bool := x.kind == y.kind && ((x.s0 == y.s0 && (x.s1 == y.s1 && (x.s2 == y.s2 && x.s3 == y.s3))) && (x.a == y.a && (x.b == y.b && x.tag == y.tag)))
set_option maxRecDepth 100000 in
set_option maxHeartbeats 1000000 in
theorem ns_eq (x y : NS) (w : World) : (Op.equalIn 10000 56 (.agg (nsCells x).toArray) (.agg (nsCells y).toArray)).run Tryd.prog w = .ok (nsSame x y) w := by
  have hs : ∀ (a b c d e f g h : Int) (w : World), (Op.equalIn (9997 + 1 + 1) 44 (.agg #[.int .u64 a, .int .u64 b, .int .u64 c, .int .u64 d]) (.agg #[.int .u64 e, .int .u64 f, .int .u64 g, .int .u64 h])).run Tryd.prog w = .ok (a == e && (b == f && (c == g && d == h))) w := fun a b c d e f g h w => set_eq_at 9997 a b c d e f g h w
  have h8 : ∀ (a b : Int) (w : World), (Op.equalIn (9997 + 1 + 1) 5 (.int .u8 a) (.int .u8 b)).run Tryd.prog w = .ok (a == b) w := fun a b w => run_equalIn_int w 9998 5 .u8 .u8 a b Tryd.underlying5
  have hi : ∀ (a b : Int) (w : World), (Op.equalIn (9997 + 1 + 1) 3 (.int .i64 a) (.int .i64 b)).run Tryd.prog w = .ok (a == b) w := fun a b w => run_equalIn_int w 9998 3 .i64 .i64 a b Tryd.underlying3
  have hf : ∃ l, (Tryd.prog.fieldsOf 56).toList = l := ⟨_, rfl⟩
  unfold nsCells
  have h0 := run_equalIn_struct (P := Tryd.prog) w (9997 + 1 + 1) 56 #[.int .u8 (x.kind : Int), .int .u64 (x.s0 : Int), .int .u64 (x.s1 : Int), .int .u64 (x.s2 : Int), .int .u64 (x.s3 : Int), .int .i64 x.a, .int .i64 x.b, .int .i64 x.tag] #[.int .u8 (y.kind : Int), .int .u64 (y.s0 : Int), .int .u64 (y.s1 : Int), .int .u64 (y.s2 : Int), .int .u64 (y.s3 : Int), .int .i64 y.a, .int .i64 y.b, .int .i64 y.tag] (by kernel_rfl) (by kernel_rfl)
  refine h0.trans ?_
  clear h0
  generalize 9997 + 1 + 1 = dd at *
  simp only [Program.fieldsOf, Tryd.underlying56]
  have p0 : ∀ (a b c d e f g h : Value) (w : World), (part 5 #[a, b, c, d, e, f, g, h] 0).run Tryd.prog w = .ok a w := fun a b c d e f g h w => by go_simp
  have p1 : ∀ (a b c d e f g h : Value) (w : World), (part 44 #[a, b, c, d, e, f, g, h] 1).run Tryd.prog w = .ok (.agg #[b, c, d, e]) w := fun a b c d e f g h w => by go_simp
  have p5 : ∀ (a b c d e f g h : Value) (w : World), (part 3 #[a, b, c, d, e, f, g, h] 5).run Tryd.prog w = .ok f w := fun a b c d e f g h w => by go_simp
  have p6 : ∀ (a b c d e f g h : Value) (w : World), (part 3 #[a, b, c, d, e, f, g, h] 6).run Tryd.prog w = .ok g w := fun a b c d e f g h w => by go_simp
  have p7 : ∀ (a b c d e f g h : Value) (w : World), (part 3 #[a, b, c, d, e, f, g, h] 7).run Tryd.prog w = .ok h w := fun a b c d e f g h w => by go_simp
  have e0 : ((x.kind : Int) == (y.kind : Int)) = (x.kind == y.kind) := by rw [Bool.eq_iff_iff]; simp; omega
  have es : ((x.s0 : Int) == (y.s0 : Int) && ((x.s1 : Int) == (y.s1 : Int) && ((x.s2 : Int) == (y.s2 : Int) && (x.s3 : Int) == (y.s3 : Int)))) = (x.s0 == y.s0 && (x.s1 == y.s1 && (x.s2 == y.s2 && x.s3 == y.s3))) := by rw [Bool.eq_iff_iff]; simp; omega
  unfold nsSame
  simp [Op.eqFields, Sem.run_bind, p0, p1, p5, p6, p7, h8, hs, hi, Result.andThen_ok, Sem.run_ite, e0, es]
  by_cases h1 : x.kind = y.kind
  · by_cases h2 : (x.s0 = y.s0 → x.s1 = y.s1 → x.s2 = y.s2 → ¬x.s3 = y.s3)
    · rw [if_pos h1, if_pos h2]
      congr 1
      symm
      rw [Bool.eq_false_iff]
      simp
      intro _ h3 h4 h5 h6
      exact absurd h6 (h2 h3 h4 h5)
    · rw [if_pos h1, if_neg h2]
      have h3 : x.s0 = y.s0 ∧ x.s1 = y.s1 ∧ x.s2 = y.s2 ∧ x.s3 = y.s3 := by
        refine ⟨?_, ?_, ?_, ?_⟩ <;> (apply Classical.byContradiction; intro h; exact h2 (by intros; simp_all))
      obtain ⟨h3, h4, h5, h6⟩ := h3
      simp only [h1, h3, h4, h5, h6, beq_self_eq_true, Bool.true_and]
      (repeat' split) <;> simp [*]
  · rw [if_neg h1]
    congr 1
    simp [h1]
/-- is a number from 0 on and below many? -/
def belowP (i many : Int) : Bool := decide (0 ≤ i) && decide (i < many)
set_option maxRecDepth 100000 in
theorem below_any2 (i many : Int) (w : World) : Calls Tryd.prog 41 #[.int .i64 i, .int .i64 many] w fun e w' => e = .returned (.bool (belowP i many)) ∧ w' = w := by
  obtain ⟨R, hR⟩ : ∃ R, R = belowP i many := ⟨_, rfl⟩
  have HR : Hid (R = belowP i many) := hR
  rw [← hR]
  clear hR
  go_enter Tryd.func41, Tryd.ntmps41
  go_wp2
  all_goals go_ret
  all_goals refine ⟨ret_bool ?_, rfl⟩
  all_goals rw [HR.out]
  all_goals unfold belowP
  · simp [*]
  · simp
    omega
end Go.Proofs.YtdckjjkaoecgaaaDoor
