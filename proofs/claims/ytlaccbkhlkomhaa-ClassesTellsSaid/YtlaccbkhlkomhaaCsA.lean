/-
  The sets of a text's bytes, in plain terms; the contracts of frankinglaw06.set and one. Conditions: a text of at most 1000 bytes.
-/
import Derived.Test.YtlaccbkhlkomhaaCpF
namespace Go.Proofs.Ytlaccbkhlkomhaa
open Go.RowKit

def St.put (s : St) (k v : Nat) : St := if k = 0 then { s with s0 := v } else if k = 1 then { s with s1 := v } else if k = 2 then { s with s2 := v } else { s with s3 := v }
theorem setC_put (s : St) (k v : Nat) (hk : k < 4) : (setC s).set k (.int .u64 (v : Int)) = setC (s.put k v) := by
  match k, hk with
  | 0, _ => rfl
  | 1, _ => rfl
  | 2, _ => rfl
  | 3, _ => rfl
theorem word_put (s : St) (k v j : Nat) (hk : k < 4) (hj : j < 4) : (s.put k v).word j = if j = k then v else s.word j := by
  match k, hk, j, hj with
  | 0, _, 0, _ => rfl
  | 0, _, 1, _ => rfl
  | 0, _, 2, _ => rfl
  | 0, _, 3, _ => rfl
  | 1, _, 0, _ => rfl
  | 1, _, 1, _ => rfl
  | 1, _, 2, _ => rfl
  | 1, _, 3, _ => rfl
  | 2, _, 0, _ => rfl
  | 2, _, 1, _ => rfl
  | 2, _, 2, _ => rfl
  | 2, _, 3, _ => rfl
  | 3, _, 0, _ => rfl
  | 3, _, 1, _ => rfl
  | 3, _, 2, _ => rfl
  | 3, _, 3, _ => rfl
def St.add (s : St) (b : Nat) : St := s.put (b / 64) (s.word (b / 64) ||| 2 ^ (b % 64))
def setOfL (l : List UInt8) : St := l.foldl (fun s c => s.add c.toNat) ⟨0, 0, 0, 0⟩
theorem setOfL_snoc (l : List UInt8) (c : UInt8) : setOfL (l ++ [c]) = (setOfL l).add c.toNat := by simp [setOfL]
theorem inS_add (s : St) (c b : Nat) (hc : c < 256) (hb : b < 256) : inS (s.add c) b = (inS s b || decide (b = c)) := by
  unfold inS St.add
  rw [word_put _ _ _ _ (by omega) (by omega)]
  by_cases h : b / 64 = c / 64
  · rw [if_pos h, Nat.testBit_or, Nat.testBit_two_pow, h]
    congr 1
    rw [decide_eq_decide]
    omega
  · rw [if_neg h, decide_eq_false (by intro e; exact h (by rw [e])), Bool.or_false]
theorem inS_zero (b : Nat) : inS ⟨0, 0, 0, 0⟩ b = false := by
  unfold inS
  have : (⟨0, 0, 0, 0⟩ : St).word (b / 64) = 0 := by unfold St.word; (repeat' split) <;> rfl
  rw [this, Nat.zero_testBit]
theorem or_lt (x k : Nat) (hx : x < 18446744073709551616) (hk : k < 64) : x ||| 2 ^ k < 18446744073709551616 := by
  have h1 : (18446744073709551616 : Nat) = 2 ^ 64 := rfl
  rw [h1] at hx ⊢
  exact Nat.or_lt_two_pow hx (Nat.pow_lt_pow_right (by decide) hk)
theorem word_okB (s : St) : s.ok ↔ ∀ k, k < 4 → s.word k < 18446744073709551616 := by
  constructor
  · intro h k _; exact word_lt s h k
  · intro h
    exact ⟨h 0 (by decide), h 1 (by decide), h 2 (by decide), h 3 (by decide)⟩
theorem ok_add (s : St) (c : Nat) (hc : c < 256) (hs : s.ok) : (s.add c).ok := by
  rw [word_okB] at hs ⊢
  intro k hk
  unfold St.add
  rw [word_put _ _ _ _ (by omega) hk]
  split
  · exact or_lt _ _ (hs _ (by omega)) (by omega)
  · exact hs k hk
theorem setOfL_in : ∀ (n : Nat) (l : List UInt8), l.length = n → (setOfL l).ok ∧ ∀ b, b < 256 → inS (setOfL l) b = decide (∃ c ∈ l, c.toNat = b) := by
  intro n
  induction n with
  | zero =>
    intro l hl
    have : l = [] := List.eq_nil_of_length_eq_zero hl
    subst this
    exact ⟨⟨by decide, by decide, by decide, by decide⟩, fun b _ => (inS_zero b).trans (by simp)⟩
  | succ n ih =>
    intro l hl
    obtain ⟨r, x, rfl⟩ : ∃ r x, l = r ++ [x] := ⟨l.dropLast, l.getLast (fun e => by rw [e] at hl; simp at hl), (List.dropLast_concat_getLast _).symm⟩
    obtain ⟨h1, h2⟩ := ih r (by simpa using hl)
    rw [setOfL_snoc]
    refine ⟨ok_add _ _ (UInt8.toNat_lt _) h1, fun b hb => ?_⟩
    rw [inS_add _ _ _ (UInt8.toNat_lt _) hb, h2 b hb, Bool.eq_iff_iff]
    simp only [Bool.or_eq_true, decide_eq_true_eq, List.mem_append, List.mem_singleton]
    constructor
    · rintro (⟨c, hc, he⟩ | he)
      · exact ⟨c, .inl hc, he⟩
      · exact ⟨x, .inr rfl, he.symm⟩
    · rintro ⟨c, hc | hc, he⟩
      · exact .inl ⟨c, hc, he⟩
      · subst hc; exact .inr he.symm
theorem setOfL_ok (l : List UInt8) : (setOfL l).ok := (setOfL_in _ l rfl).1
theorem or_pow (s : St) (b : Nat) (hs : s.ok) : bits BinOp.or IntKind.u64 (s.word (b / 64) : Int) (IntKind.u64.wrap (2 ^ (b % 64))) = ((s.word (b / 64) ||| 2 ^ (b % 64) : Nat) : Int) := by
  have h0 : b % 64 < 64 := Nat.mod_lt _ (by decide)
  have hp : 2 ^ (b % 64) < 18446744073709551616 := Nat.lt_of_lt_of_le (Nat.pow_lt_pow_right (by decide) h0) (by decide)
  have hw : IntKind.u64.wrap (2 ^ (b % 64)) = ((2 ^ (b % 64) : Nat) : Int) := by
    have : ((2 : Int) ^ (b % 64)) = ((2 ^ (b % 64) : Nat) : Int) := by norm_cast
    rw [this]
    generalize 2 ^ (b % 64) = p at *
    unfold IntKind.wrap
    simp [IntKind.bits, IntKind.signed]
    omega
  rw [hw, bits_or_u64_nat _ _ (word_lt s hs _) hp]
theorem bs_get (S : ByteArray) (l : List UInt8) (k : Nat) (h : k < S.size) (h' : k < l.length) (he : S = bs l) : S[k]'h = l[k]'h' := by
  subst he
  rfl
set_option maxRecDepth 100000 in
set_option maxHeartbeats 4000000 in
theorem set_any (l : List UInt8) (hl : l.length ≤ 1000) (w : World) :
    Calls Try.prog 22 #[.string (bs l)] w fun e w' => e = .returned (setV (setOfL l)) ∧ Below w.heap.size w w' := by
  obtain ⟨n, hn⟩ : ∃ n, n = l.length := ⟨_, rfl⟩
  have hsz : (bs l).size = n := by rw [bs_size, hn]
  have HN := Lib.hid hn
  obtain ⟨S, hS⟩ : ∃ S, S = bs l := ⟨_, rfl⟩
  rw [← hS] at hsz ⊢
  rw [← hn] at hl
  clear hn
  have HS := Lib.hid hS
  clear hS
  go_enter Try.func22, Try.ntmps22
  go_wp2
  go_loopw [7] (fun i wr => ∃ k : Nat, k ≤ n ∧ i = .int .i64 k ∧ Hid (Below w.heap.size w wr ∧ Blk wr w.heap.size 28 (setC ⟨0, 0, 0, 0⟩).toArray ∧ Blk wr (w.heap.size + 1) 28 (setC (setOfL (l.take k))).toArray)) (fun i _ => n - (intOf i).toNat)
  case atStart => exact ⟨0, Nat.zero_le _, rfl, ((Below.refl _ _).alloc (Nat.le_refl _) _).alloc (by simp) _, (Blk.new _ _ _).alloc _, Blk.new_at _ _ _ _ (by simp)⟩
  case round =>
    obtain ⟨k, hk, rfl, HB⟩ := hrel
    by_cases hlt : k < n
    · have hlt' : (k : Int) < n := by omega
      have h0' : (0 : Int) ≤ k := by omega
      have hko : k < l.length := by rw [← HN.out]; exact hlt
      obtain ⟨c, hc⟩ : ∃ c, c = (l[k]'hko).toNat := ⟨_, rfl⟩
      have hc256 : c < 256 := by rw [hc]; exact UInt8.toNat_lt _
      have hkS : k < S.size := by omega
      have hgk : (S[k]'hkS).toNat = c := by
        rw [hc]
        exact congrArg UInt8.toNat (bs_get S l k hkS hko HS.out)
      have HP : Hid (setC (setOfL (l.take (k + 1))) = (setC (setOfL (l.take k))).set (c / 64) (.int .u64 ((setOfL (l.take k)).word (c / 64) ||| 2 ^ (c % 64) : Nat))) := by
        show _ = _
        rw [List.take_succ_eq_append_getElem hko, setOfL_snoc, ← hc, setC_put _ _ _ (by omega)]
        rfl
      have h3 := HB.out.2.2.cell (c / 64)
      have h4 := HB.out.2.2.frozen (c / 64)
      rw [List.getElem?_toArray, setC_at _ _ (by omega)] at h3
      have hor := or_pow (setOfL (l.take k)) c (setOfL_ok _)
      have hw1 : IntKind.u8.wrap ((c : Int) / 64) = ((c / 64 : Nat) : Int) := by unfold IntKind.wrap; simp [IntKind.bits, IntKind.signed]; omega
      have hw2 : (c : Int) / 64 % 256 = ((c / 64 : Nat) : Int) := by omega
      have hw3 : (c : Int) % 64 = ((c % 64 : Nat) : Int) := by omega
      have hq4 : c / 64 < 4 := by omega
      have hr64 : c % 64 < 64 := by omega
      clear hc
      generalize (setOfL (l.take k)).word (c / 64) ||| 2 ^ (c % 64) = m at *
      generalize (setOfL (l.take k)).word (c / 64) = x at *
      generalize c / 64 = q at *
      generalize c % 64 = r at *
      go_wp2
      go_region
      have HN2 : Hid (Below w.heap.size w (wr.setCell ⟨w.heap.size + 1, q, none⟩ (.int .u64 (m : Int))).drew ∧ Blk (wr.setCell ⟨w.heap.size + 1, q, none⟩ (.int .u64 (m : Int))).drew w.heap.size 28 (setC ⟨0, 0, 0, 0⟩).toArray ∧ Blk (wr.setCell ⟨w.heap.size + 1, q, none⟩ (.int .u64 (m : Int))).drew (w.heap.size + 1) 28 (setC (setOfL (l.take (k + 1)))).toArray) := by
        refine ⟨(HB.out.1.setCell (p := ⟨w.heap.size + 1, q, none⟩) (by show w.heap.size ≤ w.heap.size + 1; omega) _).drew, (HB.out.2.1.other (by show w.heap.size ≠ w.heap.size + 1; omega) _).drew, ?_⟩
        have h9 := (HB.out.2.2.set_ q (.int .u64 (m : Int))).drew
        rw [List.setIfInBounds_toArray, ← HP.out] at h9
        exact h9
      go_wp2
      go_roundw
      case rel => exact ⟨k + 1, by omega, by go_num, HN2⟩
      case measure => simp [intOf]; omega
    · obtain rfl : k = n := by omega
      have h0 := HB.out.2.2
      have ht : l.take k = l := by rw [HN.out, List.take_length]
      rw [ht] at h0
      have t0 := h0.cell 0
      have t1 := h0.cell 1
      have t2 := h0.cell 2
      have t3 := h0.cell 3
      have q0 := HB.out.2.1.cell 0
      have q1 := HB.out.2.1.cell 1
      have q2 := HB.out.2.1.cell 2
      have q3 := HB.out.2.1.cell 3
      have z0 := HB.out.2.1.frozen 0
      have z1 := HB.out.2.1.frozen 1
      have z2 := HB.out.2.1.frozen 2
      have z3 := HB.out.2.1.frozen 3
      simp [setC] at t0 t1 t2 t3 q0 q1 q2 q3
      have HF := Lib.hid (((HB.out.2.1.set_ 0 (.int .u64 ((setOfL l).s0 : Int))).set_ 1 (.int .u64 ((setOfL l).s1 : Int))).set_ 2 (.int .u64 ((setOfL l).s2 : Int)))
      have HF2 := Lib.hid (HF.out.set_ 3 (.int .u64 ((setOfL l).s3 : Int)))
      clear h0 ht
      go_wp2
      refine bodyPost_ret (results_cell1 rfl _ _ w.heap.size _ _ _ _ rfl HF2.out Try.underlying28 rfl (by kernel_rfl)) rfl ?_
      exact ⟨rfl, (((HB.out.1.setCell (p := ⟨w.heap.size, 0, none⟩) (Nat.le_refl _) _).setCell (p := ⟨w.heap.size, 1, none⟩) (Nat.le_refl _) _).setCell (p := ⟨w.heap.size, 2, none⟩) (Nat.le_refl _) _).setCell (p := ⟨w.heap.size, 3, none⟩) (Nat.le_refl _) _⟩
/-- a tree of one set -/
def oneR (s : St) : Ry := .mk 1 s.s0 s.s1 s.s2 s.s3 none 0 []
theorem oneR_set (s : St) : (oneR s).set = s := rfl
theorem oneR_ok (s : St) (h : s.ok) : ryOk (oneR s) := ⟨show 1 < 256 by decide, h⟩
theorem oneR_right (s : St) (h : ∃ k, k < 4 ∧ s.word k ≠ 0) : rightR (oneR s) = true := by
  have hn : noSetB (oneR s) = false := by
    obtain ⟨k, hk, h⟩ := h
    unfold noSetB
    rw [Bool.eq_false_iff]
    intro hh
    simp only [Bool.and_eq_true, beq_iff_eq] at hh
    obtain ⟨⟨⟨e0, e1⟩, e2⟩, e3⟩ := hh
    refine h ?_
    show s.word k = 0
    unfold St.word
    (repeat' split) <;> assumption
  unfold rightR
  rw [preR_eq, List.all_eq_true]
  intro x hx
  have : x = oneR s := by simpa [preL, oneR, Ry.kids] using hx
  subst this
  unfold aloneR
  rw [hn]
  rfl
set_option maxRecDepth 100000 in
set_option maxHeartbeats 4000000 in
theorem one_any (s : St) (w : World) :
    Calls Try.prog 21 #[setV s] w fun e w' => e = .returned (.agg (ryCells (oneR s)).toArray) ∧ Below w.heap.size w w' := by
  rw [show (ryCells (oneR s)).toArray = #[.int .u8 1, .int .u64 (s.s0 : Int), .int .u64 (s.s1 : Int), .int .u64 (s.s2 : Int), .int .u64 (s.s3 : Int), .slice none 0 0] from rfl]
  have HB : Hid (Below w.heap.size w ((w.alloc (.cells (setC s).toArray 28)).alloc (.cells #[.int .u8 1, .int .u64 (s.s0 : Int), .int .u64 (s.s1 : Int), .int .u64 (s.s2 : Int), .int .u64 (s.s3 : Int), .slice none 0 0] 42))) := ((Below.refl _ _).alloc (Nat.le_refl _) _).alloc (by simp) _
  have HK : Hid (Blk ((w.alloc (.cells (setC s).toArray 28)).alloc (.cells #[.int .u8 1, .int .u64 (s.s0 : Int), .int .u64 (s.s1 : Int), .int .u64 (s.s2 : Int), .int .u64 (s.s3 : Int), .slice none 0 0] 42)) (w.heap.size + 1) 42 #[.int .u8 1, .int .u64 (s.s0 : Int), .int .u64 (s.s1 : Int), .int .u64 (s.s2 : Int), .int .u64 (s.s3 : Int), .slice none 0 0]) := Blk.new_at _ _ _ _ (by simp)
  unfold setV
  unfold setC at *
  go_enter Try.func21, Try.ntmps21
  go_wp2
  refine bodyPost_ret (results_cell1 rfl _ _ (w.heap.size + 1) _ _ _ _ rfl HK.out Try.underlying42 rfl (by kernel_rfl)) rfl ?_
  exact ⟨rfl, HB.out⟩
end Go.Proofs.Ytlaccbkhlkomhaa
