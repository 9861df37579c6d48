/-
  A byte in a set: the contracts of classes.has, frankinglow.In, frankingref06.In. Conditions: a byte.
-/
import Derived.Test.YtlaccbkhlkomhaaRxA
import Derived.BigQuiet
import Derived.Laws.Bits64b
namespace Go.Proofs.Ytlaccbkhlkomhaa
open Go.RowKit

/-- a set: four words -/
structure St where
  s0 : Nat
  s1 : Nat
  s2 : Nat
  s3 : Nat
def St.word (s : St) (k : Nat) : Nat := if k = 0 then s.s0 else if k = 1 then s.s1 else if k = 2 then s.s2 else s.s3
def inS (s : St) (b : Nat) : Bool := (s.word (b / 64)).testBit (b % 64)
def setC (s : St) : List Value := [.int .u64 (s.s0 : Int), .int .u64 (s.s1 : Int), .int .u64 (s.s2 : Int), .int .u64 (s.s3 : Int)]
def setV (s : St) : Value := .agg (setC s).toArray
def St.ok (s : St) : Prop := s.s0 < 18446744073709551616 ∧ s.s1 < 18446744073709551616 ∧ s.s2 < 18446744073709551616 ∧ s.s3 < 18446744073709551616
def Ry.set (t : Ry) : St := ⟨t.s0, t.s1, t.s2, t.s3⟩
theorem setC_at (s : St) (k : Nat) (hk : k < 4) : (setC s)[k]? = some (.int .u64 (s.word k : Int)) := by
  match k, hk with
  | 0, _ => rfl
  | 1, _ => rfl
  | 2, _ => rfl
  | 3, _ => rfl
theorem bit_shr (x k : Nat) : decide (x / 2 ^ k % 2 = 1) = x.testBit k := by
  rw [Nat.testBit_eq_decide_div_mod_eq]
theorem word_lt (s : St) (hs : s.ok) (k : Nat) : s.word k < 18446744073709551616 := by
  obtain ⟨h0, h1, h2, h3⟩ := hs
  unfold St.word
  split
  · exact h0
  · split
    · exact h1
    · split
      · exact h2
      · exact h3
theorem and_one (s : St) (b : Nat) (hs : s.ok) : bits BinOp.and IntKind.u64 ((s.word (b / 64) : Int) / 2 ^ (b % 64)) 1 = ((s.word (b / 64) / 2 ^ (b % 64) % 2 : Nat) : Int) := by
  have h1 : s.word (b / 64) / 2 ^ (b % 64) < 18446744073709551616 := Nat.lt_of_le_of_lt (Nat.div_le_self _ _) (word_lt s hs _)
  have h2 := bits_and_u64_nat (s.word (b / 64) / 2 ^ (b % 64)) 1 h1 (by decide)
  have h3 : (s.word (b / 64) / 2 ^ (b % 64)) &&& 1 = s.word (b / 64) / 2 ^ (b % 64) % 2 := by
    have := Nat.and_two_pow_sub_one_eq_mod (s.word (b / 64) / 2 ^ (b % 64)) 1
    rwa [show (2 : Nat) ^ 1 - 1 = 1 from rfl, show (2 : Nat) ^ 1 = 2 from rfl] at this
  rw [h3] at h2
  rw [← h2, Int.natCast_ediv]
  norm_cast
theorem and_pow (s : St) (b : Nat) (hs : s.ok) : (bits BinOp.and IntKind.u64 (s.word (b / 64) : Int) (IntKind.u64.wrap (2 ^ (b % 64))) != 0) = inS s b := by
  have h0 : b % 64 < 64 := Nat.mod_lt _ (by decide)
  have hp : 2 ^ (b % 64) < 18446744073709551616 := Nat.lt_of_lt_of_le (Nat.pow_lt_pow_right (by decide) h0) (by decide)
  have hw : IntKind.u64.wrap (2 ^ (b % 64)) = ((2 ^ (b % 64) : Nat) : Int) := by
    have : ((2 : Int) ^ (b % 64)) = ((2 ^ (b % 64) : Nat) : Int) := by norm_cast
    rw [this]
    generalize 2 ^ (b % 64) = p at *
    unfold IntKind.wrap
    simp [IntKind.bits, IntKind.signed]
    omega
  rw [hw, bits_and_u64_nat _ _ (word_lt s hs _) hp]
  unfold inS
  generalize s.word (b / 64) = x
  generalize b % 64 = k
  have h1 : ∀ i, (x &&& 2 ^ k).testBit i = (x.testBit i && decide (k = i)) := fun i => by rw [Nat.testBit_and, Nat.testBit_two_pow]
  cases hx : x.testBit k with
  | false =>
    have : x &&& 2 ^ k = 0 := Nat.eq_of_testBit_eq fun i => by
      rw [h1, Nat.zero_testBit]
      by_cases hk : k = i
      · subst hk; simp [hx]
      · simp [hk]
    rw [this]
    rfl
  | true =>
    have h2 := h1 k
    rw [hx] at h2
    have : x &&& 2 ^ k ≠ 0 := fun h => by rw [h] at h2; simp at h2
    rw [bne_iff_ne]
    omega
theorem below_drewNc {B : Nat} {a w : World} (h : Below B a w) : ∀ n, Below B a (w.drewN n)
  | 0 => h
  | n + 1 => (below_drewNc h n).drew
set_option maxRecDepth 100000 in
set_option maxHeartbeats 1000000 in
theorem has_any (s : St) (b : Nat) (hb : b < 256) (hs : s.ok) (w : World) :
    Calls Try.prog 37 #[setV s, .int .i64 (b : Int)] w fun e w' => e = .returned (.bool (inS s b)) ∧ Below w.heap.size w w' := by
  have HB : Hid (Below w.heap.size w (w.alloc (.cells (setC s).toArray 28))) := (Below.refl _ _).alloc (Nat.le_refl _) _
  have hc : (w.alloc (.cells (setC s).toArray 28)).cell? ⟨w.heap.size, b / 64, none⟩ = some (.int .u64 (s.word (b / 64) : Int)) := ((Blk.new w 28 (setC s).toArray).cell _).trans (by simpa using setC_at s (b / 64) (by omega))
  unfold setV
  unfold setC at *
  go_enter Try.func37, Try.ntmps37
  go_wp2
  refine bodyPost_ret (results_tmp rfl _ _ _) rfl ?_
  refine ⟨?_, HB.out⟩
  exact ret_bool (by
    show (bits BinOp.and IntKind.u64 ((s.word (b / 64) : Int) / 2 ^ (b % 64)) 1 == 1) = inS s b
    rw [and_one s b hs]
    unfold inS
    rw [← bit_shr]
    generalize s.word (b / 64) / 2 ^ (b % 64) % 2 = m
    rw [Bool.eq_iff_iff, beq_iff_eq, decide_eq_true_iff]
    omega)
set_option maxRecDepth 100000 in
set_option maxHeartbeats 1000000 in
theorem in_any (s : St) (b : Nat) (hb : b < 256) (hs : s.ok) (w : World) :
    Calls Try.prog 20 #[setV s, .int .u8 (b : Int)] w fun e w' => e = .returned (.bool (inS s b)) ∧ Below w.heap.size w w' := by
  have HB : Hid (Below w.heap.size w (w.alloc (.cells (setC s).toArray 28))) := (Below.refl _ _).alloc (Nat.le_refl _) _
  have hc : (w.alloc (.cells (setC s).toArray 28)).cell? ⟨w.heap.size, b / 64, none⟩ = some (.int .u64 (s.word (b / 64) : Int)) := ((Blk.new w 28 (setC s).toArray).cell _).trans (by simpa using setC_at s (b / 64) (by omega))
  unfold setV
  unfold setC at *
  go_enter Try.func20, Try.ntmps20
  go_wp2
  refine bodyPost_ret (results_tmp rfl _ _ _) rfl ?_
  refine ⟨?_, HB.out⟩
  exact ret_bool (by
    show (bits BinOp.and IntKind.u64 ((s.word (b / 64) : Int) / 2 ^ (b % 64)) 1 == 1) = inS s b
    rw [and_one s b hs]
    unfold inS
    rw [← bit_shr]
    generalize s.word (b / 64) / 2 ^ (b % 64) % 2 = m
    rw [Bool.eq_iff_iff, beq_iff_eq, decide_eq_true_iff]
    omega)
set_option maxRecDepth 100000 in
set_option maxHeartbeats 1000000 in
theorem rIn_any (s : St) (b : Nat) (hb : b < 256) (hs : s.ok) (w : World) :
    Calls Try.prog 34 #[setV s, .int .i64 (b : Int)] w fun e w' => e = .returned (.bool (inS s b)) ∧ Below w.heap.size w w' := by
  have HB : Hid (Below w.heap.size w (w.alloc (.cells (setC s).toArray 28))) := (Below.refl _ _).alloc (Nat.le_refl _) _
  have hc : (w.alloc (.cells (setC s).toArray 28)).cell? ⟨w.heap.size, b / 64, none⟩ = some (.int .u64 (s.word (b / 64) : Int)) := ((Blk.new w 28 (setC s).toArray).cell _).trans (by simpa using setC_at s (b / 64) (by omega))
  unfold setV
  unfold setC at *
  go_enter Try.func34, Try.ntmps34
  go_wp2
  go_quiet (fail)
  go_wp2
  refine bodyPost_ret (results_tmp rfl _ _ _) rfl ?_
  refine ⟨?_, below_drewNc HB.out _⟩
  exact ret_bool (and_pow s b hs)
end Go.Proofs.Ytlaccbkhlkomhaa
