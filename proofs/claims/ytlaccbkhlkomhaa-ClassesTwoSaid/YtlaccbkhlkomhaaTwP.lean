/-
  Classes of one set, and of the sets of one byte each up to some, in plain terms. No conditions.
-/
import Derived.Test.YtlaccbkhlkomhaaOrP
namespace Go.Proofs.Ytlaccbkhlkomhaa
open Go.RowKit

/-- a set that has a byte is a right tree's -/
theorem one_some {s : St} {b : Nat} (hb : b < 256) (h : inS s b = true) : rightR (oneR s) = true := by
  refine oneR_right _ ⟨b / 64, by omega, fun h0 => ?_⟩
  unfold inS at h
  rw [h0, Nat.zero_testBit] at h
  cases h
theorem word_bit {x : Nat} (h : x < 18446744073709551616) (h0 : x ≠ 0) : ∃ i, i < 64 ∧ x.testBit i = true := by
  obtain ⟨i, hi⟩ := Nat.exists_testBit_of_ne_zero h0
  refine ⟨i, Classical.byContradiction (fun hn => ?_), hi⟩
  have : x < 2 ^ i := Nat.lt_of_lt_of_le (show x < 2 ^ 64 from h) (Nat.pow_le_pow_right (by decide) (by omega))
  rw [Nat.testBit_lt_two_pow this] at hi
  cases hi
theorem inS_at (s : St) (k i : Nat) (hi : i < 64) : inS s (k * 64 + i) = (s.word k).testBit i := by
  unfold inS
  rw [show (k * 64 + i) / 64 = k by omega, show (k * 64 + i) % 64 = i by omega]
theorem set_has {s : St} (hs : s.ok) (h : ¬ (s.s0 = 0 ∧ s.s1 = 0 ∧ s.s2 = 0 ∧ s.s3 = 0)) : ∃ b, b < 256 ∧ inS s b = true := by
  have g : ∀ k, k < 4 → s.word k ≠ 0 → ∃ b, b < 256 ∧ inS s b = true := fun k hk h0 => by
    obtain ⟨i, hi, hb⟩ := word_bit (word_lt s hs k) h0
    exact ⟨k * 64 + i, by omega, by rw [inS_at s k i hi]; exact hb⟩
  refine Classical.byContradiction (fun hn => h ?_)
  have z : ∀ k, k < 4 → s.word k = 0 := fun k hk => Classical.byContradiction (fun h0 => hn (g k hk h0))
  exact ⟨z 0 (by decide), z 1 (by decide), z 2 (by decide), z 3 (by decide)⟩
theorem word_lack {x : Nat} (h : x < 18446744073709551616) (h0 : x ≠ 18446744073709551615) : ∃ i, i < 64 ∧ x.testBit i = false := by
  refine Classical.byContradiction (fun hn => h0 ?_)
  have g : ∀ i, i < 64 → x.testBit i = true := fun i hi => by
    cases hb : x.testBit i with
    | true => rfl
    | false => exact absurd ⟨i, hi, hb⟩ hn
  refine Nat.eq_of_testBit_eq (fun i => ?_)
  rw [show (18446744073709551615 : Nat) = 2 ^ 64 - 1 from rfl, Nat.testBit_two_pow_sub_one]
  by_cases hi : i < 64
  · rw [g i hi, decide_eq_true hi]
  · rw [decide_eq_false hi]
    exact Nat.testBit_lt_two_pow (Nat.lt_of_lt_of_le (show x < 2 ^ 64 from h) (Nat.pow_le_pow_right (by decide) (by omega)))
def fullB (s : St) : Bool := s.s0 == 18446744073709551615 && (s.s1 == 18446744073709551615 && (s.s2 == 18446744073709551615 && s.s3 == 18446744073709551615))
theorem set_lacks {s : St} (hs : s.ok) (h : fullB s = false) : ∃ b, b < 256 ∧ inS s b = false := by
  have g : ∀ k, k < 4 → s.word k ≠ 18446744073709551615 → ∃ b, b < 256 ∧ inS s b = false := fun k hk h0 => by
    obtain ⟨i, hi, hb⟩ := word_lack (word_lt s hs k) h0
    exact ⟨k * 64 + i, by omega, by rw [inS_at s k i hi]; exact hb⟩
  refine Classical.byContradiction (fun hn => ?_)
  have z : ∀ k, k < 4 → s.word k = 18446744073709551615 := fun k hk => Classical.byContradiction (fun h0 => hn (g k hk h0))
  have z0 : s.s0 = _ := z 0 (by decide)
  have z1 : s.s1 = _ := z 1 (by decide)
  have z2 : s.s2 = _ := z 2 (by decide)
  have z3 : s.s3 = _ := z 3 (by decide)
  unfold fullB at h
  rw [z0, z1, z2, z3] at h
  cases h
theorem full_has {s : St} (h : fullB s = true) (b : Nat) : inS s b = true := by
  unfold fullB at h
  simp only [Bool.and_eq_true, beq_iff_eq] at h
  obtain ⟨h0, h1, h2, h3⟩ := h
  unfold inS
  have : s.word (b / 64) = 2 ^ 64 - 1 := by
    unfold St.word
    (repeat' split) <;> assumption
  rw [this, Nat.testBit_two_pow_sub_one]
  exact decide_eq_true (Nat.mod_lt _ (by decide))
/-- how many classes one set makes -/
theorem one_many {s : St} (hs : s.ok) (h : ∃ b, b < 256 ∧ inS s b = true) : manyOf (clL [s]) = if fullB s = true then 1 else 2 := by
  have hc := clL_cp [s]
  obtain ⟨b, hb, hin⟩ := h
  have two : ∀ (k : Nat), k < manyOf (clL [s]) → ∃ f, f < 256 ∧ ((clL [s]).getD f 0).toNat = k := fun k hk => by
    obtain ⟨f, _, h2, h3, _⟩ := hc.first hk
    exact ⟨f, h2, h3⟩
  have same : ∀ i j, i < 256 → j < 256 → inS s i = inS s j → ((clL [s]).getD i 0).toNat = ((clL [s]).getD j 0).toNat := fun i j hi hj he => by
    rw [(hc.same i j hi hj).2 (fun s' hs' => by
      obtain rfl := List.mem_singleton.1 hs'
      exact he)]
  have hpos := hc.pos
  split
  · rename_i hf
    refine Classical.byContradiction (fun hn => ?_)
    obtain ⟨f, hf1, hf2⟩ := two 0 (by omega)
    obtain ⟨g, hg1, hg2⟩ := two 1 (by omega)
    have := same f g hf1 hg1 (by rw [full_has hf, full_has hf])
    omega
  · rename_i hf
    obtain ⟨j, hj, hlj⟩ := set_lacks hs (Bool.eq_false_iff.2 hf)
    have h2 : 2 ≤ manyOf (clL [s]) := by
      refine Classical.byContradiction (fun hn => ?_)
      have h1 := hc.lt hb
      have h2 := hc.lt hj
      have h3 : (clL [s]).getD b 0 = (clL [s]).getD j 0 := UInt8.toNat_inj.1 (by omega)
      have := (hc.same b j hb hj).1 h3 s (List.mem_singleton.2 rfl)
      rw [hin, hlj] at this
      cases this
    refine Classical.byContradiction (fun hn => ?_)
    obtain ⟨f0, a1, a2⟩ := two 0 (by omega)
    obtain ⟨f1, b1, b2⟩ := two 1 (by omega)
    obtain ⟨f2, c1, c2⟩ := two 2 (by omega)
    have s01 : inS s f0 ≠ inS s f1 := fun e => by have := same f0 f1 a1 b1 e; omega
    have s02 : inS s f0 ≠ inS s f2 := fun e => by have := same f0 f2 a1 c1 e; omega
    have s12 : inS s f1 ≠ inS s f2 := fun e => by have := same f1 f2 b1 c1 e; omega
    cases e0 : inS s f0 <;> cases e1 : inS s f1 <;> cases e2 : inS s f2 <;> simp_all
/-- the sets of one byte each -/
def byteS (b : Nat) : St := setOfL [UInt8.ofNat b]
def bytesS (n : Nat) : List St := (List.range n).map byteS
theorem byteS_in (b i : Nat) (hb : b < 256) (hi : i < 256) : inS (byteS b) i = decide (b = i) := by
  unfold byteS
  rw [(setOfL_in _ _ rfl).2 i hi, decide_eq_decide]
  have : (UInt8.ofNat b).toNat = b := by rw [UInt8.toNat_ofNat']; exact Nat.mod_eq_of_lt hb
  simp [this]
theorem byteS_ok (b : Nat) : (byteS b).ok := setOfL_ok _
theorem bytesS_succ (n : Nat) : bytesS (n + 1) = bytesS n ++ [byteS n] := by simp [bytesS, List.range_succ]
theorem bytesS_len (n : Nat) : (bytesS n).length = n := by simp [bytesS]
def minsL (n : Nat) : List UInt8 := (List.range 256).map (fun b => UInt8.ofNat (min b n))
theorem mins_go : ∀ n : Fin 256, clGo (minsL n.val) 0 = some (n.val + 1) := by decide +kernel
theorem mins_at (n i : Nat) (hi : i < 256) (hn : n < 256) : ((minsL n).getD i 0).toNat = min i n := by
  unfold minsL
  rw [List.getD_eq_getElem?_getD, List.getElem?_map, List.getElem?_range hi]
  show (UInt8.ofNat _).toNat = _
  rw [UInt8.toNat_ofNat']
  exact Nat.mod_eq_of_lt (by omega)
theorem mins_cp (n : Nat) (hn : n < 256) : CP (bytesS n) (minsL n) := by
  have hg := mins_go ⟨n, hn⟩
  refine ⟨by simp [minsL], by rw [manyOf, hg]; rfl, fun i j hi hj => ?_⟩
  rw [← UInt8.toNat_inj, mins_at n i hi hn, mins_at n j hj hn]
  constructor
  · intro h s hs
    obtain ⟨b, hb, rfl⟩ := List.mem_map.1 hs
    have hbn := List.mem_range.1 hb
    rw [byteS_in b i (by omega) hi, byteS_in b j (by omega) hj, decide_eq_decide]
    omega
  · intro h
    have g : ∀ b, b < n → (b = i ↔ b = j) := fun b hb => by
      have := h (byteS b) (List.mem_map.2 ⟨b, List.mem_range.2 hb, rfl⟩)
      rw [byteS_in b i (by omega) hi, byteS_in b j (by omega) hj, decide_eq_decide] at this
      exact this
    by_cases h1 : i < n
    · have := (g i h1).1 rfl
      omega
    · by_cases h2 : j < n
      · have := (g j h2).2 rfl
        omega
      · omega
theorem bytes_cl (n : Nat) (hn : n < 256) : clL (bytesS n) = minsL n := (clL_cp _).unique (mins_cp n hn) (fun _ _ _ _ => Iff.rfl)
theorem bytes_many (n : Nat) (hn : n < 256) : manyOf (clL (bytesS n)) = n + 1 := by rw [bytes_cl n hn, manyOf, mins_go ⟨n, hn⟩]; rfl
theorem bytes_at (n i : Nat) (hn : n < 256) (hi : i < 256) : ((clL (bytesS n)).getD i 0).toNat = min i n := by rw [bytes_cl n hn, mins_at n i hi hn]
end Go.Proofs.Ytlaccbkhlkomhaa
