/-
  The contracts of table.reader.some, table.numberOf, table.reader.number. Conditions: the reader lies in memory.
-/
import Derived.Test.YtkgfjapflpjdbaaTbO
import Derived.IntWalk
namespace Go.Proofs.Ytkgfjapflpjdbaa
open Go.RowKit

theorem Only.drewN {R : Nat} {a w : World} (h : Only R a w) : ∀ n, Only R a (w.drewN n)
  | 0 => h
  | n + 1 => (Only.drewN h n).drew
theorem Blk.drewN {w : World} {g : Nat} {t : TypeId} {cs : Array Value} (h : Blk w g t cs) : ∀ n, Blk (w.drewN n) g t cs
  | 0 => h
  | n + 1 => (Blk.drewN h n).drew
/-- what a call that reads bytes leaves -/
structure Some_ (w : World) (R : Nat) (l : List UInt8) (a : Option Addr) (c : Nat) (s : Rs) (m : Nat) (a' : Option Addr) (c' : Nat) (w' : World) : Prop where
  only : Only R w w'
  rd : RdIn w' R l a c (someP l s m).2
  bytes : BytesAt w' a' (someP l s m).1
  apart : 0 < (someP l s m).1.length → ∀ x, a' = some x → x.block ≠ R
  capl : (someP l s m).1.length ≤ c'
  capm : c' ≤ maxLen
set_option maxHeartbeats 1000000 in
theorem some_any (w : World) (R : Nat) (l : List UInt8) (a : Option Addr) (c : Nat) (s : Rs) (m : Nat) (hm63 : m ≤ maxLen) (h : RdIn w R l a c s) :
    Calls Try.prog 38 #[.pointer (some ⟨R, 0, none⟩), .int .i64 (m : Int)] w fun e w' => ∃ a' c', e = .returned (.slice a' (someP l s m).1.length c') ∧ Some_ w R l a c s m a' c' w' := by
  have HH := Lib.hid h
  by_cases hm : l.length - s.at_ < m
  · have hs : someP l s m = ([], { s with short := true }) := if_pos hm
    have HG := Lib.hid (goOn_no w R l a c s m h hm)
    have HS := Lib.hid hs
    have HF : Hid (Some_ w R l a c s m none 0 (w.setCell ⟨R, 2, none⟩ (.bool true))) := by
      refine ⟨(Only.refl R w).set_ 2 _, ?_, ?_, (fun _ x hx => by cases hx), ?_, by decide⟩
      · rw [hs]
        exact h.moved ((Only.refl R w).set_ 2 _) (h.blk.set_ 2 (.bool true)) h.le
      · rw [hs]
        exact ⟨Nat.zero_le _, fun h0 => by simp at h0⟩
      · rw [hs]; exact Nat.le_refl _
    clear h hs hm
    go_enter Try.func38, Try.ntmps38
    go_wp2_with (go_at_call 45; refine HG.out.mono ?_; rintro e w2 ⟨rfl, rfl⟩)
    go_ret
    exact ⟨none, 0, by rw [HS.out]; rfl, HF.out⟩
  · have hs : someP l s m = ((l.drop s.at_).take m, { s with at_ := s.at_ + m }) := if_neg hm
    have HG := Lib.hid (goOn_yes w R l a c s m h (by omega))
    have HS := Lib.hid hs
    have hle := h.le
    obtain ⟨a', c', hb, hap, hcl, hcm, hrun⟩ := part_slice a l c s.at_ m h.cap h.capm (by omega) w h.bytes
    have hsl : ((l.drop s.at_).take m).length = m := by rw [List.length_take, List.length_drop]; omega
    have HB := Lib.hid hb
    have HAP := Lib.hid hap
    have HSL := Lib.hid hsl
    obtain ⟨W2, HW2⟩ : ∃ W2, Hid (W2 = w.setCell ⟨R, 0, none⟩ (.int .i64 ((s.at_ + m : Nat) : Int))) := ⟨_, rfl⟩
    have HB2 : Hid (Blk W2 R 58 (rdCells l a c { s with at_ := s.at_ + m })) := by rw [HW2.out]; exact h.blk.set_ 0 _
    have HO2 : Hid (Only R w W2) := by rw [HW2.out]; exact (Only.refl R w).set_ 0 _
    have HG2 : Hid (Calls Try.prog 45 #[.pointer (some ⟨R, 0, none⟩), .int .i64 (m : Int)] w fun e w' => e = .returned (.tuple #[.int .i64 (s.at_ : Int), .bool true]) ∧ w' = W2) := HG.out.mono fun e w' hq => ⟨hq.1, by rw [HW2.out]; exact hq.2⟩
    have c0 : W2.cell? ⟨R, 0, none⟩ = some (.int .i64 ((s.at_ + m : Nat) : Int)) := HB2.out.cell 0
    have c3 : W2.cell? ⟨R, 3, none⟩ = some (.slice a l.length c) := HB2.out.cell 3
    have HLE := Lib.hid (show s.at_ + m ≤ l.length by omega)
    clear h hs hb hap hsl HG hle hm
    generalize hq : s.at_ + m = q at *
    have HQ := Lib.hid hq
    clear hq
    go_enter Try.func38, Try.ntmps38
    go_wp2_with (go_at_call 45; refine HG2.out.mono ?_; rintro e w2 ⟨rfl, rfl⟩)
    go_quiet (fail)
    go_wp2
    go_ret
    refine ⟨a', c', by rw [HS.out]; show _ = Ending.returned (.slice a' ((l.drop s.at_).take m).length c'); rw [HSL.out]; rfl, ?_⟩
    have hon := HO2.out.drewN nq
    have hap2 : 0 < ((l.drop s.at_).take m).length → ∀ x, a' = some x → x.block ≠ R := fun h0 x hx => by
      obtain ⟨y, hy, hyx⟩ := HAP.out x hx
      rw [← hyx]
      exact HH.out.apart (by rw [List.length_take, List.length_drop] at h0; omega) y hy
    refine ⟨hon, ?_, ?_, ?_, ?_, hcm⟩
    · rw [HS.out]
      exact HH.out.moved hon (HB2.out.drewN nq) (by show q ≤ l.length; exact HLE.out)
    · rw [HS.out]
      exact RowAt.only HB.out hon (fun h0 => hap2 (by simpa using h0))
    · rw [HS.out]; exact hap2
    · rw [HS.out, HSL.out]; exact hcl

/-! ### numbers -/
def numZ (b : List UInt8) : Nat := b.foldl (fun n c => n * 256 + c.toNat) 0
theorem numZ_snoc (b : List UInt8) (c : UInt8) : numZ (b ++ [c]) = numZ b * 256 + c.toNat := by unfold numZ; rw [List.foldl_append]; rfl
theorem numZ_lt : ∀ (b : List UInt8), numZ b < 256 ^ b.length := by
  intro b
  rw [← List.reverse_reverse b]
  induction b.reverse with
  | nil => decide
  | cons x r ih =>
    rw [List.reverse_cons, numZ_snoc, List.length_append, List.length_singleton, Nat.pow_succ]
    have := x.toNat_lt
    omega
theorem or_byte (n b : Nat) (hn : n ≤ 255) (hb : b < 256) : bits BinOp.or IntKind.i64 ((n : Int) * 256) (b : Int) = ((n * 256 + b : Nat) : Int) := by
  have e : n * 256 ||| b = n * 256 + b := by
    have := Nat.two_pow_add_eq_or_of_lt (i := 8) (b := b) hb n
    rw [show (256 : Nat) = 2 ^ 8 from rfl, Nat.mul_comm]
    exact this.symm
  have h0 : ((n : Int) * 256) = ((n * 256 : Nat) : Int) := by omega
  rw [h0]
  have h1 : (BitVec.ofInt 64 ((n * 256 : Nat) : Int)).toNat = n * 256 := by
    rw [BitVec.ofInt_natCast, BitVec.toNat_ofNat]; exact Nat.mod_eq_of_lt (by omega)
  have h2 : (BitVec.ofInt 64 (b : Int)).toNat = b := by
    rw [BitVec.ofInt_natCast, BitVec.toNat_ofNat]; exact Nat.mod_eq_of_lt (by omega)
  show IntKind.i64.wrap ((BitVec.ofInt 64 ((n * 256 : Nat) : Int) ||| BitVec.ofInt 64 (b : Int)).toNat : Int) = _
  rw [BitVec.toNat_or, h1, h2, e, IntKind.wrap_i64]
  omega
set_option maxHeartbeats 1000000 in
theorem numberOf_any (a : Option Addr) (l : List UInt8) (c : Nat) (w : World) (h : BytesAt w a l) (h2 : l.length ≤ 2) :
    Calls Try.prog 46 #[.slice a l.length c] w fun e w' => e = .returned (.int .i64 (numZ l : Int)) ∧ w = w' := by
  have HA := Lib.hid h
  have HT := Lib.hid (fun k (h : k < l.length) => List.take_succ_eq_append_getElem h)
  have HE : Hid (numZ l = numZ (l.take l.length)) := by show _ = _; rw [List.take_length]
  clear h
  generalize numZ l = R at *
  go_enter Try.func46, Try.ntmps46
  go_wp2
  go_loop [3, 8] (fun n i => ∃ k z : Nat, k ≤ l.length ∧ i = .int .i64 k ∧ n = .int .i64 z ∧ Hid (numZ (l.take k) = z)) (fun _ i => l.length - (intOf i).toNat)
  case atStart => exact ⟨0, 0, Nat.zero_le _, rfl, rfl, show _ = _ from rfl⟩
  case round =>
    obtain ⟨k, z, hk, rfl, rfl, HK⟩ := hrel
    by_cases hlt : k < l.length
    · obtain ⟨b, off, rfl, hc⟩ := HA.out.at_ hlt
      have HSN : Hid (numZ (l.take (k + 1)) = z * 256 + l[k].toNat) := by show _ = _; rw [HT.out k hlt, numZ_snoc, HK.out]
      have hz : z ≤ 255 := by
        have := numZ_lt (l.take k)
        rw [HK.out, List.length_take] at this
        have h3 : min k l.length ≤ 1 := by omega
        have h4 : (256 : Nat) ^ min k l.length ≤ 256 ^ 1 := Nat.pow_le_pow_right (by decide) h3
        omega
      have hb := l[k].toNat_lt
      have hor := or_byte z l[k].toNat hz hb
      generalize l[k].toNat = y at *
      go_wp2
      go_round
      case rel => exact ⟨k + 1, z * 256 + y, by omega, by go_num, by go_num, HSN⟩
      case measure => simp [intOf]; omega
    · have hkk : k = l.length := by omega
      have HR : Hid (R = z) := by show _ = _; rw [HE.out, ← hkk]; exact HK.out
      clear hkk
      go_wp2
      go_ret
      exact ⟨ret_int (by rw [HR.out]), rfl⟩
/-- the next bytes as a number -/
def numP (l : List UInt8) (s : Rs) (m : Nat) : Nat × Rs := (numZ (someP l s m).1, (someP l s m).2)
theorem numP_lt (l : List UInt8) (s : Rs) (m : Nat) : (numP l s m).1 < 256 ^ m := by
  have h1 := numZ_lt (someP l s m).1
  rcases someP_len l s m with h | h
  · show numZ (someP l s m).1 < _
    rw [h]
    exact Nat.pow_pos (by decide)
  · rw [h] at h1
    exact h1
set_option maxHeartbeats 1000000 in
theorem number_any (w : World) (R : Nat) (l : List UInt8) (a : Option Addr) (c : Nat) (s : Rs) (m : Nat) (hm : m ≤ 2) (h : RdIn w R l a c s) :
    Calls Try.prog 39 #[.pointer (some ⟨R, 0, none⟩), .int .i64 (m : Int)] w fun e w' => e = .returned (.int .i64 ((numP l s m).1 : Int)) ∧ Only R w w' ∧ RdIn w' R l a c (numP l s m).2 := by
  have HC := Lib.hid (some_any w R l a c s m (by unfold maxLen; omega) h)
  have HL : Hid ((someP l s m).1.length ≤ 2) := by
    show _ ≤ _
    rcases someP_len l s m with h | h
    · rw [h]; decide
    · rw [h]; exact hm
  clear h
  go_enter Try.func39, Try.ntmps39
  go_wp2_with (first
    | (go_at_call 38; refine HC.out.mono ?_; rintro e w2 ⟨a', c', rfl, hs⟩; have HS := Lib.hid hs; clear hs)
    | (go_at_call 46; refine (numberOf_any a' _ c' _ HS.out.bytes HL.out).mono ?_; rintro e w3 ⟨rfl, rfl⟩))
  go_ret
  exact ⟨rfl, HS.out.only, HS.out.rd⟩
end Go.Proofs.Ytkgfjapflpjdbaa
