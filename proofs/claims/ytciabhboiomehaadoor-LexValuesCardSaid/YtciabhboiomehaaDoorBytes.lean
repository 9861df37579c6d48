/-
  The contracts of the small functions of lex/bytes.go: what each answers for every byte. No conditions.
-/
import Derived.Test.YtciabhboiomehaaDoorRows
import Derived.WalkKit
import Derived.WalkSpells
import Derived.Lib.Hide
import Derived.Shelf.Abstract
namespace Go.Proofs.YtciabhboiomehaaDoor
open Go.RowKit

def blankZ (n : Int) : Bool := n == 32 || n == 9
def letterZ (n : Int) : Bool := (decide (97 ≤ n) && decide (n ≤ 122)) || (decide (65 ≤ n) && decide (n ≤ 90))
def digitZ (n : Int) : Bool := decide (48 ≤ n) && decide (n ≤ 57)
def namedZ (n : Int) : Bool := letterZ n || digitZ n || n == 45
def timesZ (n : Int) : Bool := digitZ n || n == 42
def digitOfZ (n : Int) : Int := if digitZ n then n - 48 else if 97 ≤ n ∧ n ≤ 102 then n - 87 else if 65 ≤ n ∧ n ≤ 70 then n - 55 else 16

theorem ret_bool {a b : Bool} (h : a = b) : Ending.returned (.bool a) = .returned (.bool b) := by rw [h]
theorem ret_int {k : IntKind} {a b : Int} (h : a = b) : Ending.returned (.int k a) = .returned (.int k b) := by rw [h]

set_option maxHeartbeats 400000 in
theorem isBlank_any (n : Int) (w : World) :
    Calls Tryd.prog 35 #[.int .u8 n] w fun e w' => e = .returned (.bool (blankZ n)) ∧ w = w' := by
  go_enter Tryd.func35, Tryd.ntmps35
  go_wp2
  all_goals go_ret
  all_goals exact ⟨ret_bool (by simp [blankZ, *]), rfl⟩

set_option maxHeartbeats 400000 in
theorem isLetter_any (n : Int) (w : World) :
    Calls Tryd.prog 39 #[.int .u8 n] w fun e w' => e = .returned (.bool (letterZ n)) ∧ w = w' := by
  go_enter Tryd.func39, Tryd.ntmps39
  go_wp2
  all_goals go_ret
  all_goals exact ⟨ret_bool (by rw [Bool.eq_iff_iff]; simp [letterZ]; omega), rfl⟩

set_option maxHeartbeats 400000 in
theorem isDigit_any (n : Int) (w : World) :
    Calls Tryd.prog 68 #[.int .u8 n] w fun e w' => e = .returned (.bool (digitZ n)) ∧ w = w' := by
  go_enter Tryd.func68, Tryd.ntmps68
  go_wp2
  all_goals go_ret
  all_goals exact ⟨ret_bool (by rw [Bool.eq_iff_iff]; simp [digitZ]; omega), rfl⟩

set_option maxHeartbeats 400000 in
theorem isNamed_any (n : Int) (w : World) :
    Calls Tryd.prog 65 #[.int .u8 n] w fun e w' => e = .returned (.bool (namedZ n)) ∧ w = w' := by
  go_enter Tryd.func65, Tryd.ntmps65
  go_wp2_with (first | (go_at_call 39; refine (isLetter_any _ _).mono ?_; rintro e w' ⟨rfl, rfl⟩) | (go_at_call 68; refine (isDigit_any _ _).mono ?_; rintro e w' ⟨rfl, rfl⟩))
  all_goals go_ret
  all_goals exact ⟨ret_bool (by simp [namedZ, *]), rfl⟩

set_option maxHeartbeats 400000 in
theorem isTimes_any (n : Int) (w : World) :
    Calls Tryd.prog 42 #[.int .u8 n] w fun e w' => e = .returned (.bool (timesZ n)) ∧ w = w' := by
  go_enter Tryd.func42, Tryd.ntmps42
  go_wp2_with (first | (go_at_call 68; refine (isDigit_any _ _).mono ?_; rintro e w' ⟨rfl, rfl⟩))
  all_goals go_ret
  all_goals exact ⟨ret_bool (by simp [timesZ, *]), rfl⟩

set_option maxHeartbeats 400000 in
theorem digitOf_any (n : Int) (h0 : 0 ≤ n) (h1 : n ≤ 255) (w : World) :
    Calls Tryd.prog 85 #[.int .u8 n] w fun e w' => e = .returned (.int .u8 (digitOfZ n)) ∧ w = w' := by
  go_enter Tryd.func85, Tryd.ntmps85
  go_wp2_with (first | (go_at_call 68; refine (isDigit_any _ _).mono ?_; rintro e w' ⟨rfl, rfl⟩))
  all_goals go_ret
  all_goals refine ⟨ret_int ?_, rfl⟩
  all_goals simp only [digitZ, Bool.and_eq_true, decide_eq_true_eq, Bool.and_eq_false_iff, decide_eq_false_iff_not] at *
  all_goals simp only [digitOfZ, digitZ, Bool.and_eq_true, decide_eq_true_eq]
  all_goals (repeat' split) <;> omega

/-- the byte at a place, as a number; 0 beyond the end -/
def byteZ (l : List UInt8) (k : Nat) : Int := ((l.getD k 0).toNat : Int)
theorem byteZ_lo (l : List UInt8) (k : Nat) : 0 ≤ byteZ l k := by unfold byteZ; omega
theorem byteZ_hi (l : List UInt8) (k : Nat) : byteZ l k ≤ 255 := by unfold byteZ; have := (l.getD k 0).toNat_lt; omega
theorem byteZ_at (s : ByteArray) (k : Nat) (h : k < s.size) : ((s[k]'h).toNat : Int) = byteZ s.data.toList k := by
  unfold byteZ
  rw [List.getD_eq_getElem?_getD, List.getElem?_eq_getElem (by simpa using h)]
  rfl

/-- the place at which a byte stands -/
def standsB (l : List UInt8) (k : Nat) (b : Int) : Bool := decide (k < l.length) && (byteZ l k == b)

set_option maxHeartbeats 400000 in
theorem stands_any (s : ByteArray) (at_ : Nat) (b : Int) (w : World) :
    Calls Tryd.prog 71 #[.string s, .int .i64 at_, .int .u8 b] w fun e w' => e = .returned (.bool (standsB s.data.toList at_ b)) ∧ w = w' := by
  have hl : s.data.toList.length = s.size := by rw [Array.length_toList]; rfl
  have HL := Lib.hid hl
  clear hl
  by_cases hlt : at_ < s.size
  · have HB := Lib.hid (byteZ_at s at_ hlt)
    go_enter Tryd.func71, Tryd.ntmps71
    go_wp2
    go_ret
    refine ⟨ret_bool ?_, rfl⟩
    unfold standsB
    rw [HL.out, ← HB.out]
    simp [hlt]
  · have hlt' : s.size ≤ at_ := by omega
    go_enter Tryd.func71, Tryd.ntmps71
    go_wp2
    go_ret
    refine ⟨ret_bool ?_, rfl⟩
    unfold standsB
    rw [HL.out]
    simp [hlt]

/-- how many bytes at the beginning are such ones -/
def spanZ (p : Int → Bool) : List UInt8 → Nat
  | [] => 0
  | c :: r => if p c.toNat then spanZ p r + 1 else 0

theorem spanZ_le (p : Int → Bool) (l : List UInt8) : spanZ p l ≤ l.length := by
  induction l with
  | nil => simp [spanZ]
  | cons c r ih => simp only [spanZ, List.length_cons]; split <;> omega
theorem spanZ_step (p : Int → Bool) : ∀ (l : List UInt8) (k : Nat), k ≤ spanZ p l → k < l.length → p (byteZ l k) = true → k + 1 ≤ spanZ p l := by
  intro l
  induction l with
  | nil => intro k _ h; simp at h
  | cons c r ih =>
    intro k hk hl hp
    simp only [spanZ] at hk ⊢
    cases k with
    | zero =>
      have : p (c.toNat : Int) = true := hp
      rw [if_pos this]; omega
    | succ k =>
      by_cases hc : p (c.toNat : Int) = true
      · rw [if_pos hc] at hk ⊢
        have := ih k (by omega) (by simpa using hl) hp
        omega
      · rw [if_neg hc] at hk; omega
theorem spanZ_stop (p : Int → Bool) : ∀ (l : List UInt8) (k : Nat), k ≤ spanZ p l → k < l.length → p (byteZ l k) = false → spanZ p l = k := by
  intro l
  induction l with
  | nil => intro k _ h; simp at h
  | cons c r ih =>
    intro k hk hl hp
    simp only [spanZ] at hk ⊢
    cases k with
    | zero =>
      have : p (c.toNat : Int) = false := hp
      rw [if_neg (by simp [this])]
    | succ k =>
      by_cases hc : p (c.toNat : Int) = true
      · rw [if_pos hc] at hk ⊢
        rw [ih k (by omega) (by simpa using hl) hp]
      · rw [if_neg hc] at hk; omega

theorem listLen (s : ByteArray) : s.data.toList.length = s.size := by rw [Array.length_toList]; rfl

set_option maxHeartbeats 400000 in
theorem span_same (s : ByteArray) (f : FuncId) (p : Int → Bool) (hs : s.size ≤ 65536) (eg : ∀ (args : Array Value) (w : World), (callFunc f args).run Tryd.prog w = .ok (.enter f args) w)
    (hp : ∀ (n : Int) (w : World), 0 ≤ n → n ≤ 255 → Calls Tryd.prog f #[.int .u8 n] w fun e w' => e = .returned (.bool (p n)) ∧ w = w') (w : World) :
    Calls Tryd.prog 62 #[.string s, .func (.func f) #[] #[]] w fun e w' => e = .returned (.int .i64 (spanZ p s.data.toList)) ∧ w = w' := by
  have HP := Lib.hid hp
  clear hp
  go_enter Tryd.func62, Tryd.ntmps62
  go_wp2
  go_loop [5] (fun i => ∃ k : Nat, k ≤ s.size ∧ i = .int .i64 k ∧ k ≤ spanZ p s.data.toList) (fun i => s.size - (intOf i).toNat)
  case atStart => exact ⟨0, Nat.zero_le _, rfl, Nat.zero_le _⟩
  case round =>
    obtain ⟨k, hk, rfl, hsp⟩ := hrel
    by_cases hlt : k < s.size
    · have hb := byteZ_at s k hlt
      have hlo := byteZ_lo s.data.toList k
      have hhi := byteZ_hi s.data.toList k
      have HB := Lib.hid hb
      rw [← hb] at hlo hhi
      clear hb
      cases hpc : p (byteZ s.data.toList k) with
      | true =>
        have hst := spanZ_step p s.data.toList k hsp (by rw [listLen]; exact hlt) hpc
        rw [← HB.out] at hpc
        go_wp2_with (go_at_fn f; refine (HP.out _ _ (by omega) (by omega)).mono ?_; rintro e w' ⟨rfl, rfl⟩)
        go_round
        case rel => exact ⟨k + 1, by omega, by go_num, hst⟩
        case measure => simp [intOf]; omega
      | false =>
        have hst := spanZ_stop p s.data.toList k hsp (by rw [listLen]; exact hlt) hpc
        have HST := Lib.hid hst
        clear hst
        rw [← HB.out] at hpc
        go_wp2_with (go_at_fn f; refine (HP.out _ _ (by omega) (by omega)).mono ?_; rintro e w' ⟨rfl, rfl⟩)
        go_ret
        exact ⟨ret_int (by rw [HST.out]), rfl⟩
    · have hst : spanZ p s.data.toList = k := by have := spanZ_le p s.data.toList; rw [listLen] at this; omega
      have HST := Lib.hid hst
      clear hst
      go_wp2
      go_ret
      exact ⟨ret_int (by rw [HST.out]), rfl⟩
theorem enters_blank : ∀ (args : Array Value) (w : World), (callFunc 35 args).run Tryd.prog w = .ok (.enter 35 args) w := by
  intro args w; simp [go_sem]
end Go.Proofs.YtciabhboiomehaaDoor
