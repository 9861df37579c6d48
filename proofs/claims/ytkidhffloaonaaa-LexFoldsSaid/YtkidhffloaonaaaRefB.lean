/-
  The contract of frankingref01's digits. Conditions: a text of at most 65536 bytes, a base of at most 16.
-/
import Derived.Test.YtkidhffloaonaaaRefA
namespace Go.Proofs.Ytkidhffloaonaaa
open Go.RowKit

theorem byteZ_drop (l : List UInt8) (a k : Nat) : byteZ (l.drop a) k = byteZ l (a + k) := by
  unfold byteZ
  rw [List.getD_eq_getElem?_getD, List.getD_eq_getElem?_getD, List.getElem?_drop]
theorem number_step (base : Int) (r : List UInt8) (k : Nat) (h : k < r.length) : numberZ base (r.take (k + 1)) = numberZ base (r.take k) * base + digitOfZ (byteZ r k) := numberFrom_take base r 0 k h
theorem pow17_le (k : Nat) (h : k ≤ 8) : pow17 k ≤ 6975757441 := by
  match k, h with
  | 0, _ => decide
  | 1, _ => decide
  | 2, _ => decide
  | 3, _ => decide
  | 4, _ => decide
  | 5, _ => decide
  | 6, _ => decide
  | 7, _ => decide
  | 8, _ => decide

set_option maxHeartbeats 4000000 in
theorem refDigits_any (s : ByteArray) (at_ : Nat) (base : Int) (hs : s.size ≤ 65536) (hat : at_ ≤ 70000) (hb0 : 2 ≤ base) (hb1 : base ≤ 16) (w : World) :
    Calls Try.prog 77 #[.string s, .int .i64 at_, .int .i64 base] w fun e w' => e = .returned (.tuple #[.int .i64 (spanZ (digitBelow base) (s.data.toList.drop at_)), .int .i64 (digitsZ s.data.toList at_ base)]) ∧ w = w' := by
  have HLEN := Lib.hid (listLen s)
  have HD := Lib.hid (digitsZ.eq_1 s.data.toList at_ base)
  generalize digitsZ s.data.toList at_ base = D at *
  have hrl : (s.data.toList.drop at_).length = s.size - at_ := by rw [List.length_drop, listLen]
  have HBY := Lib.hid (fun k => byteZ_drop s.data.toList at_ k)
  generalize hR : s.data.toList.drop at_ = r at *
  have hle := spanZ_le (digitBelow base) r
  rw [hrl] at hle
  have HRL := Lib.hid hrl
  clear hrl hR
  go_enter Try.func77, Try.ntmps77
  go_wp2
  go_loop [8, 9] (fun n x => ∃ k : Nat, k ≤ spanZ (digitBelow base) r ∧ n = .int .i64 k ∧ x = .int .i64 (numberZ base (r.take (min k 8)))) (fun n _ => s.size - (intOf n).toNat)
  case atStart => exact ⟨0, Nat.zero_le _, rfl, rfl⟩
  case round =>
    obtain ⟨k, hk, rfl, rfl⟩ := hrel
    have hfin : Hid (spanZ (digitBelow base) r = k → D = if 8 < k then -1 else numberZ base (r.take (min k 8))) := by
      intro e
      rw [HD.out, e]
      split
      · rfl
      · rw [Nat.min_eq_left (by omega)]
    by_cases hlt : at_ + k < s.size
    · have hb := byteZ_at s (at_ + k) hlt
      have hlo := byteZ_lo s.data.toList (at_ + k)
      have hhi := byteZ_hi s.data.toList (at_ + k)
      have hkr : k < r.length := by rw [HRL.out]; omega
      have hq := hex_below (byteZ s.data.toList (at_ + k)) base hlo hhi hb1
      have hstep := spanZ_step (digitBelow base) r k hk hkr
      have hstop := spanZ_stop (digitBelow base) r k hk hkr
      have hnum := number_step base r k hkr
      rw [HBY.out k] at hstep hstop hnum
      have hbd := numberZ_bd base (by omega) hb1 r (min k 8) (by omega)
      have hpw := pow17_le (min k 8) (by omega)
      have hdb := digitOfZ_bd (byteZ s.data.toList (at_ + k)) hlo hhi
      have HHX : Hid (∀ W, Calls Try.prog 88 #[.int .u8 ((s[at_ + k]'hlt).toNat : Int)] W fun e w' => e = .returned (.int .i64 (hexZ (byteZ s.data.toList (at_ + k)))) ∧ W = w') := fun W => by rw [hb]; exact refHex_any _ hlo hhi W
      have hhxe : hexZ (byteZ s.data.toList (at_ + k)) = if digitOfZ (byteZ s.data.toList (at_ + k)) = 16 then -1 else digitOfZ (byteZ s.data.toList (at_ + k)) := rfl
      generalize hbv : byteZ s.data.toList (at_ + k) = c at *
      have HB := Lib.hid hb
      clear hb hbv
      cases hqv : digitBelow base c with
      | true =>
        have hs1 := hstep hqv
        rw [hqv] at hq
        have hq2 : 0 ≤ hexZ c ∧ hexZ c < base := by
          have := hq.symm
          simp only [Bool.and_eq_true, decide_eq_true_eq] at this
          exact this
        have hdx : hexZ c = digitOfZ c := by
          rw [hhxe]
          split
          · rename_i h16
            rw [hhxe, if_pos h16] at hq2
            omega
          · rfl
        obtain ⟨hq3, hq4⟩ := hq2
        have HDX := Lib.hid hdx
        have HNUM := Lib.hid hnum
        clear hq hstep hstop hqv hhxe hdx hnum
        generalize hexZ c = x at *
        by_cases h8 : k < 8
        · have hmk : min k 8 = k := by omega
          have hmk1 : min (k + 1) 8 = k + 1 := by omega
          rw [hmk] at hbd hpw ⊢
          have HM1 := Lib.hid hmk1
          clear hmk hmk1
          have hm : numberZ base (r.take k) * base ≤ numberZ base (r.take k) * 16 := Int.mul_le_mul_of_nonneg_left hb1 hbd.1
          have hm0 : 0 ≤ numberZ base (r.take k) * base := Int.mul_nonneg hbd.1 (by omega)
          go_wp2_with (go_at_call 88; refine (HHX.out _).mono ?_; rintro e w' ⟨rfl, rfl⟩)
          go_round
          case rel => exact ⟨k + 1, hs1, by go_num, by rw [HM1.out, HNUM.out, HDX.out]⟩
          case measure => simp [intOf]; omega
        · have hmk : min k 8 = 8 := by omega
          have hmk1 : min (k + 1) 8 = 8 := by omega
          rw [hmk] at hbd hpw ⊢
          have HM1 := Lib.hid hmk1
          clear hmk hmk1
          go_wp2_with (go_at_call 88; refine (HHX.out _).mono ?_; rintro e w' ⟨rfl, rfl⟩)
          go_round
          case rel => exact ⟨k + 1, hs1, by go_num, by rw [HM1.out]⟩
          case measure => simp [intOf]; omega
      | false =>
        have hs1 := hstop hqv
        rw [hqv] at hq
        have hq2 : hexZ c < 0 ∨ base ≤ hexZ c := by
          have := hq.symm
          simp only [Bool.and_eq_false_iff, decide_eq_false_iff_not] at this
          omega
        have HFIN := Lib.hid (hfin.out hs1)
        have HS1 := Lib.hid hs1
        clear hq hstep hstop hqv hhxe hnum hs1 hfin
        generalize hexZ c = x at *
        by_cases h8 : 8 < k
        · rcases hq2 with hq3 | hq3
          all_goals
            go_wp2_with (go_at_call 88; refine (HHX.out _).mono ?_; rintro e w' ⟨rfl, rfl⟩)
            go_ret2
            exact ⟨by rw [HFIN.out, HS1.out, if_pos h8]; rfl, rfl⟩
        · have h8' : k ≤ 8 := by omega
          have HFIN2 : Hid (D = numberZ base (r.take k)) := by
            show D = _
            rw [HFIN.out, if_neg h8, Nat.min_eq_left h8']
          clear HFIN h8
          rcases hq2 with hq3 | hq3
          all_goals
            go_wp2_with (go_at_call 88; refine (HHX.out _).mono ?_; rintro e w' ⟨rfl, rfl⟩)
            go_ret2
            exact ⟨by rw [HFIN2.out, HS1.out]; rfl, rfl⟩
    · have hs1 : spanZ (digitBelow base) r = k := by omega
      have HFIN := Lib.hid (hfin.out hs1)
      have HS1 := Lib.hid hs1
      clear hs1 hfin
      by_cases h8 : 8 < k
      · go_wp2
        go_ret2
        exact ⟨by rw [HFIN.out, HS1.out, if_pos h8]; rfl, rfl⟩
      · have h8' : k ≤ 8 := by omega
        have HFIN2 : Hid (D = numberZ base (r.take k)) := by
          show D = _
          rw [HFIN.out, if_neg h8, Nat.min_eq_left h8']
        clear HFIN h8
        go_wp2
        go_ret2
        exact ⟨by rw [HFIN2.out, HS1.out]; rfl, rfl⟩
end Go.Proofs.Ytkidhffloaonaaa
