/-
  Numbers in memory; the contracts of the small functions that only read (dfa.within, dfa.allWithin, table.isName, slices.Max, frankinglaw05.Ints, frankinglaw03.Texts). Conditions: the lists lie in memory; texts within Go's own bounds.
-/
import Derived.Test.YtkgfjapflpjdbaaProg
import Derived.WalkKit
import Derived.WalkSpells
import Derived.Lib.Hide
import Derived.Lib.Slices
import Derived.Shelf.Abstract
import Derived.BigQuiet
import Derived.Deep.QuietTactic
namespace Go.Proofs.Ytkgfjapflpjdbaa
open Go.RowKit

theorem ret_bool {a b : Bool} (h : a = b) : Ending.returned (.bool a) = .returned (.bool b) := by rw [h]
theorem ret_int {k : IntKind} {a b : Int} (h : a = b) : Ending.returned (.int k a) = .returned (.int k b) := by rw [h]
def bs (l : List UInt8) : ByteArray := ⟨l.toArray⟩
theorem bs_size (l : List UInt8) : (bs l).size = l.length := rfl
theorem bs_list (l : List UInt8) : (bs l).data.toList = l := rfl

/-- values in a row of memory -/
structure RowAt (w : World) (a : Option Addr) (l : List Value) : Prop where
  len : l.length ≤ maxLen
  row : 0 < l.length → ∃ b off, a = some ⟨b, off, none⟩ ∧ b < w.heap.size ∧ ∀ j, (h : j < l.length) → w.cell? ⟨b, off + j, none⟩ = some l[j]
theorem RowAt.at_ {w : World} {a : Option Addr} {l : List Value} (h : RowAt w a l) {k : Nat} (hk : k < l.length) : ∃ b off, a = some ⟨b, off, none⟩ ∧ w.cell? ⟨b, off + k, none⟩ = some l[k] := by
  obtain ⟨b, off, h1, _, h3⟩ := h.row (by omega)
  exact ⟨b, off, h1, h3 k hk⟩
theorem RowAt.below {w w' : World} {a : Option Addr} {l : List Value} (h : RowAt w a l) (hb : Below w.heap.size w w') : RowAt w' a l := by
  refine ⟨h.len, fun h0 => ?_⟩
  obtain ⟨b, off, h1, h2, h3⟩ := h.row h0
  exact ⟨b, off, h1, by have := hb.size; omega, fun j hj => (hb.cell (p := ⟨b, off + j, none⟩) h2).trans (h3 j hj)⟩
theorem RowAt.under {w w' : World} {B : Nat} {a : Option Addr} {l : List Value} (h : RowAt w a l) (hb : Below B w w') (hB : w.heap.size ≤ B) : RowAt w' a l := h.below (hb.mono hB)
def intV (z : Int) : Value := .int .i64 z
def byteV (c : UInt8) : Value := .int .u8 (c.toNat : Int)
def textV (l : List UInt8) : Value := .string (bs l)
def IntsAt (w : World) (a : Option Addr) (l : List Int) : Prop := RowAt w a (l.map intV)
def TextsAt (w : World) (a : Option Addr) (l : List (List UInt8)) : Prop := RowAt w a (l.map textV)
def BytesAt (w : World) (a : Option Addr) (l : List UInt8) : Prop := RowAt w a (l.map byteV)
theorem IntsAt.at_ {w : World} {a : Option Addr} {l : List Int} (h : IntsAt w a l) {k : Nat} (hk : k < l.length) : ∃ b off, a = some ⟨b, off, none⟩ ∧ w.cell? ⟨b, off + k, none⟩ = some (.int .i64 l[k]) := by
  obtain ⟨b, off, h1, h2⟩ := RowAt.at_ h (k := k) (by simpa using hk)
  exact ⟨b, off, h1, by rw [h2, List.getElem_map]; rfl⟩
theorem TextsAt.at_ {w : World} {a : Option Addr} {l : List (List UInt8)} (h : TextsAt w a l) {k : Nat} (hk : k < l.length) : ∃ b off, a = some ⟨b, off, none⟩ ∧ w.cell? ⟨b, off + k, none⟩ = some (.string (bs l[k])) := by
  obtain ⟨b, off, h1, h2⟩ := RowAt.at_ h (k := k) (by simpa using hk)
  exact ⟨b, off, h1, by rw [h2, List.getElem_map]; rfl⟩
theorem BytesAt.at_ {w : World} {a : Option Addr} {l : List UInt8} (h : BytesAt w a l) {k : Nat} (hk : k < l.length) : ∃ b off, a = some ⟨b, off, none⟩ ∧ w.cell? ⟨b, off + k, none⟩ = some (.int .u8 (l[k].toNat : Int)) := by
  obtain ⟨b, off, h1, h2⟩ := RowAt.at_ h (k := k) (by simpa using hk)
  exact ⟨b, off, h1, by rw [h2, List.getElem_map]; rfl⟩
theorem IntsAt.len {w : World} {a : Option Addr} {l : List Int} (h : IntsAt w a l) : l.length ≤ maxLen := by have := RowAt.len h; simpa using this
theorem TextsAt.len {w : World} {a : Option Addr} {l : List (List UInt8)} (h : TextsAt w a l) : l.length ≤ maxLen := by have := RowAt.len h; simpa using this
theorem BytesAt.len {w : World} {a : Option Addr} {l : List UInt8} (h : BytesAt w a l) : l.length ≤ maxLen := by have := RowAt.len h; simpa using this

/-! ### numbers within bounds -/
def withinB (z lo hi : Int) : Bool := decide (lo ≤ z) && decide (z ≤ hi)
set_option maxHeartbeats 400000 in
theorem within_any (z lo hi : Int) (w : World) :
    Calls Try.prog 32 #[.int .i64 z, .int .i64 lo, .int .i64 hi] w fun e w' => e = .returned (.bool (withinB z lo hi)) ∧ w = w' := by
  go_enter Try.func32, Try.ntmps32
  go_wp2
  all_goals go_ret
  all_goals exact ⟨ret_bool (by rw [Bool.eq_iff_iff]; simp [withinB]; omega), rfl⟩
def allB (p : Int → Bool) (l : List Int) : Bool := l.all p
theorem allB_step (p : Int → Bool) (l : List Int) (k : Nat) (h : k < l.length) : allB p (l.take (k + 1)) = (allB p (l.take k) && p l[k]) := by
  unfold allB
  rw [List.take_succ_eq_append_getElem h, List.all_append]
  simp
theorem allB_no (p : Int → Bool) (l : List Int) (k : Nat) (h : k < l.length) (hp : p l[k] = false) : allB p l = false := by
  rw [← Bool.not_eq_true]
  unfold allB
  rw [List.all_eq_true]
  intro hh
  have := hh _ (List.getElem_mem h)
  rw [hp] at this
  cases this
set_option maxHeartbeats 400000 in
theorem allWithin_any (a : Option Addr) (l : List Int) (c : Nat) (lo hi : Int) (w : World) (h : IntsAt w a l) :
    Calls Try.prog 33 #[.slice a l.length c, .int .i64 lo, .int .i64 hi] w fun e w' => e = .returned (.bool (allB (withinB · lo hi) l)) ∧ w = w' := by
  have hl := h.len
  unfold maxLen at hl
  have HA := Lib.hid h
  have HS := Lib.hid (fun k => allB_step (withinB · lo hi) l k)
  have HN := Lib.hid (fun k => allB_no (withinB · lo hi) l k)
  have HE : Hid (allB (withinB · lo hi) l = allB (withinB · lo hi) (l.take l.length)) := by show _ = _; rw [List.take_length]
  clear h
  generalize allB (withinB · lo hi) l = R at *
  go_enter Try.func33, Try.ntmps33
  go_wp2
  go_loop [11] (fun i => ∃ k : Nat, k ≤ l.length ∧ i = .int .i64 k ∧ Hid (allB (withinB · lo hi) (l.take k) = true)) (fun i => l.length - (intOf i).toNat)
  case atStart => exact ⟨0, Nat.zero_le _, rfl, show _ = _ from rfl⟩
  case round =>
    obtain ⟨k, hk, rfl, HK⟩ := hrel
    by_cases hlt : k < l.length
    · obtain ⟨b, off, rfl, hc⟩ := HA.out.at_ hlt
      have HST := Lib.hid (HS.out k hlt)
      have HNO := Lib.hid (HN.out k hlt)
      generalize l[k] = z at *
      cases hz : withinB z lo hi with
      | true =>
        go_wp2_with (go_at_call 32; refine (within_any _ _ _ _).mono ?_; rintro e w' ⟨rfl, rfl⟩)
        go_round
        case rel => exact ⟨k + 1, by omega, by go_num, by show _ = _; rw [HST.out, HK.out, hz]; rfl⟩
        case measure => simp [intOf]; omega
      | false =>
        go_wp2_with (go_at_call 32; refine (within_any _ _ _ _).mono ?_; rintro e w' ⟨rfl, rfl⟩)
        go_ret
        exact ⟨ret_bool (HNO.out hz).symm, rfl⟩
    · have hkk : k = l.length := by omega
      have HR : Hid (R = true) := by show _ = _; rw [HE.out, ← hkk]; exact HK.out
      clear hkk
      go_wp2
      go_ret
      exact ⟨ret_bool HR.out.symm, rfl⟩
/-! ### names -/
def smallZ (n : Int) : Bool := decide (97 ≤ n) && decide (n ≤ 122)
def digitZ (n : Int) : Bool := decide (48 ≤ n) && decide (n ≤ 57)
def tailZ (n : Int) : Bool := smallZ n || digitZ n || n == 45
set_option maxHeartbeats 400000 in
theorem tSmall_any (n : Int) (w : World) :
    Calls Try.prog 43 #[.int .u8 n] w fun e w' => e = .returned (.bool (smallZ n)) ∧ w = w' := by
  go_enter Try.func43, Try.ntmps43
  go_wp2
  all_goals go_ret
  all_goals exact ⟨ret_bool (by rw [Bool.eq_iff_iff]; simp [smallZ]; omega), rfl⟩
set_option maxHeartbeats 400000 in
theorem tDigit_any (n : Int) (w : World) :
    Calls Try.prog 44 #[.int .u8 n] w fun e w' => e = .returned (.bool (digitZ n)) ∧ w = w' := by
  go_enter Try.func44, Try.ntmps44
  go_wp2
  all_goals go_ret
  all_goals exact ⟨ret_bool (by rw [Bool.eq_iff_iff]; simp [digitZ]; omega), rfl⟩
end Go.Proofs.Ytkgfjapflpjdbaa
