/-
  The contracts of the small functions of frankingref01: what each answers, in the words of lexP's own parts. Conditions: a text of at most 65536 bytes.
-/
import Derived.Test.YtkidhffloaonaaaWholePure
namespace Go.Proofs.Ytkidhffloaonaaa
open Go.RowKit

set_option maxHeartbeats 400000 in
theorem refBlank_any (n : Int) (w : World) :
    Calls Try.prog 26 #[.int .u8 n] w fun e w' => e = .returned (.bool (blankZ n)) ∧ w = w' := by
  go_enter Try.func26, Try.ntmps26
  go_wp2
  all_goals go_ret
  all_goals exact ⟨ret_bool (by simp [blankZ, *]), rfl⟩
set_option maxHeartbeats 400000 in
theorem refLetter_any (n : Int) (w : World) :
    Calls Try.prog 25 #[.int .u8 n] w fun e w' => e = .returned (.bool (letterZ n)) ∧ w = w' := by
  go_enter Try.func25, Try.ntmps25
  go_wp2
  all_goals go_ret
  all_goals exact ⟨ret_bool (by rw [Bool.eq_iff_iff]; simp [letterZ]; omega), rfl⟩
set_option maxHeartbeats 400000 in
theorem refDigit_any (n : Int) (w : World) :
    Calls Try.prog 52 #[.int .u8 n] w fun e w' => e = .returned (.bool (digitZ n)) ∧ w = w' := by
  go_enter Try.func52, Try.ntmps52
  go_wp2
  all_goals go_ret
  all_goals exact ⟨ret_bool (by rw [Bool.eq_iff_iff]; simp [digitZ]; omega), rfl⟩
/-- a digit of base 16, or -1 -/
def hexZ (n : Int) : Int := if digitOfZ n = 16 then -1 else digitOfZ n
theorem hexZ_eq (n : Int) : hexZ n = if digitZ n then n - 48 else if 97 ≤ n ∧ n ≤ 102 then n - 87 else if 65 ≤ n ∧ n ≤ 70 then n - 55 else -1 := by
  unfold hexZ digitOfZ
  by_cases h1 : digitZ n = true
  · have h1' := h1
    simp only [digitZ, Bool.and_eq_true, decide_eq_true_eq] at h1'
    rw [if_pos h1, if_pos h1, if_neg (by omega)]
  · rw [if_neg h1, if_neg h1]
    split
    · rw [if_neg (by omega)]
    · split
      · rw [if_neg (by omega)]
      · rfl
set_option maxHeartbeats 400000 in
theorem refHex_any (n : Int) (h0 : 0 ≤ n) (h1 : n ≤ 255) (w : World) :
    Calls Try.prog 88 #[.int .u8 n] w fun e w' => e = .returned (.int .i64 (hexZ n)) ∧ w = w' := by
  go_enter Try.func88, Try.ntmps88
  go_wp2_with (first | (go_at_call 52; refine (refDigit_any _ _).mono ?_; rintro e w' ⟨rfl, rfl⟩))
  all_goals go_ret
  all_goals refine ⟨ret_int ?_, rfl⟩
  all_goals rw [hexZ_eq]
  all_goals simp only [digitZ, Bool.and_eq_true, decide_eq_true_eq, Bool.and_eq_false_iff, decide_eq_false_iff_not] at *
  all_goals (repeat' split) <;> omega

theorem idle_cons (c : UInt8) (r : List UInt8) : idleB (c :: r) = ((c.toNat : Int) == 59 || (blankZ c.toNat && idleB r)) := by
  unfold idleB
  rw [spanZ]
  by_cases hb : blankZ c.toNat = true
  · rw [if_pos hb, hb]
    have h59 : ((c.toNat : Int) == 59) = false := by
      rw [beq_eq_false_iff_ne]
      intro e
      rw [e] at hb
      revert hb
      decide
    have hby : byteZ (c :: r) (spanZ blankZ r + 1) = byteZ r (spanZ blankZ r) := rfl
    rw [h59, hby]
    simp
  · rw [if_neg hb]
    have hby : byteZ (c :: r) 0 = c.toNat := rfl
    rw [hby]
    simp [hb]
theorem idle_step (l : List UInt8) (k : Nat) (h : k < l.length) : idleB (l.drop k) = (byteZ l k == 59 || (blankZ (byteZ l k) && idleB (l.drop (k + 1)))) := by
  obtain ⟨c, hc, hb⟩ := drop_byte l k h
  rw [hc, idle_cons, hb]

set_option maxHeartbeats 1000000 in
theorem refEmpty_any (s : ByteArray) (hs : s.size ≤ 65536) (w : World) :
    Calls Try.prog 24 #[.string s] w fun e w' => e = .returned (.bool (idleB s.data.toList)) ∧ w = w' := by
  have HLEN := Lib.hid (listLen s)
  generalize hI : idleB s.data.toList = I at *
  have HI := Lib.hid hI
  clear hI
  go_enter Try.func24, Try.ntmps24
  go_wp2
  go_loop [3] (fun i => ∃ k : Nat, k ≤ s.size ∧ i = .int .i64 k ∧ Hid (idleB (s.data.toList.drop k) = I)) (fun i => s.size - (intOf i).toNat)
  case atStart => exact ⟨0, Nat.zero_le _, rfl, HI⟩
  case round =>
    obtain ⟨k, hk, rfl, HK⟩ := hrel
    by_cases hlt : k < s.size
    · have hst := idle_step s.data.toList k (by rw [HLEN.out]; exact hlt)
      rw [HK.out] at hst
      have HB := Lib.hid (byteZ_at s k hlt)
      have hlo := byteZ_lo s.data.toList k
      have hhi := byteZ_hi s.data.toList k
      rw [← HB.out] at hlo hhi hst
      have HBL := Lib.hid (fun W => refBlank_any ((s[k]'hlt).toNat : Int) W)
      by_cases h59 : ((s[k]'hlt).toNat : Int) = 59
      · rw [h59] at hst
        have HST := Lib.hid hst
        clear hst
        go_wp2
        go_ret
        exact ⟨ret_bool (by rw [HST.out]; rfl), rfl⟩
      · have h59b : (((s[k]'hlt).toNat : Int) == 59) = false := by
          rw [beq_eq_false_iff_ne]
          exact h59
        rw [h59b, Bool.false_or] at hst
        cases hb : blankZ ((s[k]'hlt).toNat : Int) with
        | true =>
          rw [hb] at HBL hst
          have HST := Lib.hid hst
          clear hst hb h59
          go_wp2_with (go_at_call 26; refine (HBL.out _).mono ?_; rintro e w' ⟨rfl, rfl⟩)
          go_round
          case rel => exact ⟨k + 1, by omega, by go_num, by show _ = I; rw [HST.out]; rfl⟩
          case measure => simp [intOf]; omega
        | false =>
          rw [hb] at HBL hst
          have HST := Lib.hid hst
          clear hst hb h59
          go_wp2_with (go_at_call 26; refine (HBL.out _).mono ?_; rintro e w' ⟨rfl, rfl⟩)
          go_ret
          exact ⟨ret_bool (by rw [HST.out]; rfl), rfl⟩
    · have HE : Hid (I = true) := by
        show I = true
        rw [← HK.out, List.drop_eq_nil_of_le (by rw [HLEN.out]; omega)]
        rfl
      go_wp2
      go_ret
      exact ⟨ret_bool (by rw [HE.out]), rfl⟩

/-- how many digits stand at a place, and what they say; of more than eight: -1 -/
def digitsZ (l : List UInt8) (at_ : Nat) (base : Int) : Int := if 8 < spanZ (digitBelow base) (l.drop at_) then -1 else numberZ base ((l.drop at_).take (spanZ (digitBelow base) (l.drop at_)))
theorem hex_below (n base : Int) (h0 : 0 ≤ n) (h1 : n ≤ 255) (hb : base ≤ 16) : digitBelow base n = (decide (0 ≤ hexZ n) && decide (hexZ n < base)) := by
  have hd := digitOfZ_bd n h0 h1
  unfold digitBelow hexZ
  rw [Bool.eq_iff_iff]
  simp only [decide_eq_true_eq, Bool.and_eq_true]
  split
  · omega
  · omega
end Go.Proofs.Ytkidhffloaonaaa
