/-
  The contracts of table.isName, slices.Max, frankinglaw05.Ints, frankinglaw03.Texts. Conditions: the lists lie in memory; texts within Go's own bounds.
-/
import Derived.Test.YtkgfjapflpjdbaaTbA
namespace Go.Proofs.Ytkgfjapflpjdbaa
open Go.RowKit

/-! ### names -/
def byteZ (l : List UInt8) (k : Nat) : Int := ((l.getD k 0).toNat : Int)
theorem byteZ_at (s : ByteArray) (k : Nat) (h : k < s.size) : ((s[k]'h).toNat : Int) = byteZ s.data.toList k := by
  unfold byteZ
  rw [List.getD_eq_getElem?_getD, List.getElem?_eq_getElem (by simpa using h)]
  rfl
theorem listLen (s : ByteArray) : s.data.toList.length = s.size := by rw [Array.length_toList]; rfl
def allFrom (p : Int → Bool) (l : List UInt8) : Bool := l.all (fun c => p c.toNat)
theorem allFrom_step (p : Int → Bool) (l : List UInt8) (k : Nat) (h : k < l.length) : allFrom p (l.take (k + 1)) = (allFrom p (l.take k) && p (byteZ l k)) := by
  unfold allFrom byteZ
  rw [List.take_succ_eq_append_getElem h, List.all_append]
  simp [h]
theorem allFrom_no (p : Int → Bool) (l : List UInt8) (k : Nat) (h : k < l.length) (hp : p (byteZ l k) = false) : allFrom p l = false := by
  rw [← Bool.not_eq_true]
  unfold allFrom
  rw [List.all_eq_true]
  intro hh
  have := hh _ (List.getElem_mem h)
  unfold byteZ at hp
  rw [List.getD_eq_getElem?_getD, List.getElem?_eq_getElem h] at hp
  simp only [Option.getD_some] at hp
  rw [hp] at this
  cases this
/-- a name of a table -/
def nameB (l : List UInt8) : Bool := decide (1 ≤ l.length) && decide (l.length ≤ 64) && smallZ (byteZ l 0) && allFrom tailZ l
set_option maxHeartbeats 1000000 in
theorem isName_any (s : ByteArray) (hs : s.size ≤ maxLen) (w : World) :
    Calls Try.prog 34 #[.string s] w fun e w' => e = .returned (.bool (nameB s.data.toList)) ∧ w = w' := by
  unfold maxLen at hs
  by_cases h0 : s.size < 1
  · have hR : nameB s.data.toList = false := by simp only [nameB]; rw [listLen, decide_eq_false (by omega)]; rfl
    have HR := Lib.hid hR
    clear hR
    go_enter Try.func34, Try.ntmps34
    go_wp2
    go_ret
    exact ⟨ret_bool HR.out.symm, rfl⟩
  · by_cases h64 : 64 < s.size
    · have hR : nameB s.data.toList = false := by
        simp only [nameB]
        rw [listLen, decide_eq_false (p := s.size ≤ 64) (by omega)]
        simp
      have HR := Lib.hid hR
      clear hR
      go_enter Try.func34, Try.ntmps34
      go_wp2
      go_ret
      exact ⟨ret_bool HR.out.symm, rfl⟩
    · have hb := byteZ_at s 0 (by omega)
      have HB := Lib.hid hb
      have hRN : nameB s.data.toList = (smallZ (byteZ s.data.toList 0) && allFrom tailZ s.data.toList) := by
        simp only [nameB]
        rw [listLen, decide_eq_true (by omega), decide_eq_true (by omega)]
        rfl
      rw [← hb] at hRN
      have HRN := Lib.hid hRN
      have h1 : 0 < s.size := by omega
      clear hRN hb
      cases hsm : smallZ ((s[0]'h1).toNat : Int) with
      | false =>
        go_enter Try.func34, Try.ntmps34
        go_wp2_with (go_at_call 43; refine (tSmall_any _ _).mono ?_; rintro e w' ⟨rfl, rfl⟩)
        go_ret
        exact ⟨ret_bool (by rw [HRN.out, hsm]; rfl), rfl⟩
      | true =>
        have HRN2 : Hid (nameB s.data.toList = allFrom tailZ s.data.toList) := by show _ = _; rw [HRN.out, hsm]; rfl
        clear HRN
        have HL := Lib.hid (listLen s)
        have HS := Lib.hid (fun k => allFrom_step tailZ s.data.toList k)
        have HN := Lib.hid (fun k => allFrom_no tailZ s.data.toList k)
        generalize nameB s.data.toList = R at *
        go_enter Try.func34, Try.ntmps34
        go_wp2_with (go_at_call 43; refine (tSmall_any _ _).mono ?_; rintro e w' ⟨rfl, rfl⟩)
        clear hsm HB
        go_loop [20] (fun i => ∃ k : Nat, k ≤ s.size ∧ i = .int .i64 k ∧ Hid (allFrom tailZ (s.data.toList.take k) = true)) (fun i => s.size - (intOf i).toNat)
        case atStart => exact ⟨0, Nat.zero_le _, rfl, show _ = _ from rfl⟩
        case round =>
          obtain ⟨k, hk, rfl, HK⟩ := hrel
          by_cases hlt : k < s.size
          · have HBk := Lib.hid (byteZ_at s k hlt)
            have HST := Lib.hid (HS.out k (by rw [HL.out]; exact hlt))
            have HNO := Lib.hid (HN.out k (by rw [HL.out]; exact hlt))
            go_wp2_with (first | (go_at_call 43; refine (tSmall_any _ _).mono ?_; rintro e w' ⟨rfl, rfl⟩) | (go_at_call 44; refine (tDigit_any _ _).mono ?_; rintro e w' ⟨rfl, rfl⟩))
            all_goals first
              | (go_ret
                 refine ⟨ret_bool ?_, rfl⟩
                 rw [HRN2.out, HNO.out]
                 rw [← HBk.out]
                 try simp only [bne_iff_ne, ne_eq] at *
                 simp [tailZ, *])
              | (go_round
                 case rel =>
                   refine ⟨k + 1, by omega, by go_num, ?_⟩
                   show _ = _
                   rw [HST.out, HK.out, ← HBk.out]
                   try simp only [bne_eq_false_iff_eq] at *
                   simp [tailZ, *]
                 case measure => simp [intOf]; omega)
          · have HR2 : Hid (R = true) := by
              show _ = _
              rw [HRN2.out, ← HK.out, List.take_of_length_le (by rw [HL.out]; omega)]
            go_wp2
            go_ret
            exact ⟨ret_bool HR2.out.symm, rfl⟩

/-! ### the greatest -/
def maxP : List Int → Int
  | [] => 0
  | z :: r => r.foldl max z
theorem maxP_snoc (l : List Int) (h : l ≠ []) (z : Int) : maxP (l ++ [z]) = max (maxP l) z := by
  cases l with
  | nil => exact absurd rfl h
  | cons x r => simp [maxP, List.foldl_append]
set_option maxHeartbeats 1000000 in
theorem max_any (a : Option Addr) (l : List Int) (c : Nat) (w : World) (h : IntsAt w a l) (h0 : 0 < l.length) :
    Calls Try.prog 22 #[.slice a l.length c] w fun e w' => e = .returned (.int .i64 (maxP l)) ∧ w = w' := by
  have hl := h.len
  unfold maxLen at hl
  have HA := Lib.hid h
  have HT := Lib.hid (fun k (h : k < l.length) => List.take_succ_eq_append_getElem h)
  have HE : Hid (maxP l = maxP (l.take l.length)) := by show _ = _; rw [List.take_length]
  obtain ⟨b, off, rfl, hc0⟩ := h.at_ h0
  have HZ : Hid (maxP (l.take 1) = l[0]) := by
    show _ = _
    cases l with
    | nil => simp at h0
    | cons x r => rfl
  clear h
  rw [Nat.add_zero] at hc0
  generalize maxP l = R at *
  generalize hz0 : l[0] = z0 at *
  have HZ0 := Lib.hid hz0
  clear hz0
  have hn1 : ¬ (l.length : Int) < 1 := by omega
  go_enter Try.func22, Try.ntmps22
  go_wp2
  go_loop [3, 4] (fun m i => ∃ (k : Nat) (z : Int), 0 < k ∧ k ≤ l.length ∧ i = .int .i64 k ∧ m = .int .i64 z ∧ Hid (maxP (l.take k) = z)) (fun _ i => l.length - (intOf i).toNat)
  case atStart => exact ⟨1, z0, Nat.one_pos, h0, rfl, rfl, HZ⟩
  case round =>
    obtain ⟨k, z, hk0, hk, rfl, rfl, HK⟩ := hrel
    by_cases hlt : k < l.length
    · obtain ⟨b', off', he, hc⟩ := HA.out.at_ hlt
      obtain ⟨rfl, rfl⟩ : b = b' ∧ off = off' := by injection he with he; injection he with h1 h2; exact ⟨h1, h2⟩
      have HX : Hid (maxP (l.take (k + 1)) = if z < l[k] then l[k] else z) := by
        show _ = _
        rw [show (if z < l[k] then l[k] else z) = max z l[k] from by split <;> omega, HT.out k hlt, maxP_snoc _ (fun e => by have := congrArg List.length e; rw [List.length_take, List.length_nil] at this; omega), HK.out]
      generalize l[k] = x at *
      clear he
      go_wp2
      go_round
      case rel => exact ⟨k + 1, _, by omega, by omega, by go_num, rfl, HX⟩
      case measure => simp [intOf]; omega
    · have hkk : k = l.length := by omega
      have HR : Hid (R = z) := by show _ = _; rw [HE.out, ← hkk]; exact HK.out
      clear hkk
      go_wp2
      go_ret
      exact ⟨ret_int HR.out.symm, rfl⟩
end Go.Proofs.Ytkgfjapflpjdbaa
