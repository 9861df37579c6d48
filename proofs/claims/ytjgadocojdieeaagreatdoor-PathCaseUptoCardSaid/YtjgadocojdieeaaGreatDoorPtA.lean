/-
  The contracts of path's small functions on bytes. No conditions.
-/
import Derived.Test.YtjgadocojdieeaaGreatDoorPtP
import Derived.Test.YtjgadocojdieeaaGreatDoorGa
import Derived.Test.YtjgadocojdieeaaGreatDoorShelf
namespace Go.Proofs.YtjgadocojdieeaaGreatDoor
open Go.RowKit Go.Shelf

def smlZ (n : Int) : Int := if 65 ≤ n ∧ n ≤ 90 then n + 32 else n
def digZ (n : Int) : Bool := decide (48 ≤ n) && decide (n ≤ 57)
def hexZ (n : Int) : Bool := digZ n || (decide (97 ≤ smlZ n) && decide (smlZ n ≤ 102))
def letZ (n : Int) : Bool := digZ n || (decide (97 ≤ smlZ n) && decide (smlZ n ≤ 122))
theorem sml_z (c : UInt8) : ((sml c).toNat : Int) = smlZ (c.toNat : Int) := all_u8 (P := fun c => ((sml c).toNat : Int) = smlZ (c.toNat : Int)) (by decide +kernel) c
theorem dig_z (c : UInt8) : digB c = digZ (c.toNat : Int) := all_u8 (P := fun c => digB c = digZ (c.toNat : Int)) (by decide +kernel) c
theorem hex_z (c : UInt8) : hexB c = hexZ (c.toNat : Int) := all_u8 (P := fun c => hexB c = hexZ (c.toNat : Int)) (by decide +kernel) c
theorem let_z (c : UInt8) : letB c = letZ (c.toNat : Int) := all_u8 (P := fun c => letB c = letZ (c.toNat : Int)) (by decide +kernel) c
theorem lab_z (c : UInt8) : labB c = (letZ (c.toNat : Int) || (c.toNat : Int) == 45) := all_u8 (P := fun c => labB c = (letZ (c.toNat : Int) || (c.toNat : Int) == 45)) (by decide +kernel) c
theorem not_z (c : UInt8) : notB c = (decide ((c.toNat : Int) < 32) || decide (126 < (c.toNat : Int))) := all_u8 (P := fun c => notB c = (decide ((c.toNat : Int) < 32) || decide (126 < (c.toNat : Int)))) (by decide +kernel) c
set_option maxHeartbeats 400000 in
theorem small_z (n : Int) (h0 : 0 ≤ n) (h1 : n ≤ 255) (w : World) : Calls Tryz.prog 93 #[.int .u8 n] w fun e w' => e = .returned (.int .u8 (smlZ n)) ∧ w' = w := by
  go_enter Tryz.func93, Tryz.ntmps93
  go_wp2
  all_goals go_ret
  all_goals refine ⟨ret_int ?_, rfl⟩
  all_goals unfold smlZ
  all_goals (repeat' split) <;> omega
set_option maxHeartbeats 400000 in
theorem isDigit_z (n : Int) (w : World) : Calls Tryz.prog 104 #[.int .u8 n] w fun e w' => e = .returned (.bool (digZ n)) ∧ w' = w := by
  go_enter Tryz.func104, Tryz.ntmps104
  go_wp2
  all_goals go_ret
  all_goals exact ⟨ret_bool (by rw [Bool.eq_iff_iff]; simp [digZ]; omega), rfl⟩
theorem smlZ_in (n : Int) (h0 : 0 ≤ n) (h1 : n ≤ 255) : 0 ≤ smlZ n ∧ smlZ n ≤ 255 := by unfold smlZ; split <;> omega
set_option maxHeartbeats 400000 in
theorem isHex_z (n : Int) (h0 : 0 ≤ n) (h1 : n ≤ 255) (w : World) : Calls Tryz.prog 121 #[.int .u8 n] w fun e w' => e = .returned (.bool (hexZ n)) ∧ w' = w := by
  have hs := smlZ_in n h0 h1
  go_enter Tryz.func121, Tryz.ntmps121
  go_wp2_with (first | (go_at_call 93; refine (small_z _ h0 h1 _).mono ?_; rintro e w' ⟨rfl, rfl⟩) | (go_at_call 104; refine (isDigit_z _ _).mono ?_; rintro e w' ⟨rfl, rfl⟩))
  all_goals go_ret
  all_goals exact ⟨ret_bool (by first | (simp [hexZ, *]; done) | (simp [hexZ, *]; omega)), rfl⟩
set_option maxHeartbeats 400000 in
theorem isLetDig_z (n : Int) (h0 : 0 ≤ n) (h1 : n ≤ 255) (w : World) : Calls Tryz.prog 129 #[.int .u8 n] w fun e w' => e = .returned (.bool (letZ n)) ∧ w' = w := by
  have hs := smlZ_in n h0 h1
  go_enter Tryz.func129, Tryz.ntmps129
  go_wp2_with (first | (go_at_call 93; refine (small_z _ h0 h1 _).mono ?_; rintro e w' ⟨rfl, rfl⟩) | (go_at_call 104; refine (isDigit_z _ _).mono ?_; rintro e w' ⟨rfl, rfl⟩))
  all_goals go_ret
  all_goals exact ⟨ret_bool (by first | (simp [letZ, *]; done) | (simp [letZ, *]; omega)), rfl⟩
theorem byte_in (c : UInt8) : 0 ≤ (c.toNat : Int) ∧ (c.toNat : Int) ≤ 255 := by have := c.toNat_lt; omega
theorem small_any (c : UInt8) (w : World) : Calls Tryz.prog 93 #[.int .u8 (c.toNat : Int)] w fun e w' => e = .returned (.int .u8 ((sml c).toNat : Int)) ∧ w' = w := by
  rw [sml_z]
  exact small_z _ (byte_in c).1 (byte_in c).2 w
/-- a kind of bytes, as a function -/
def IsB (k : Nat) (p : UInt8 → Bool) : Prop := ∀ (c : UInt8) (w : World), Calls Tryz.prog k #[.int .u8 (c.toNat : Int)] w fun e w' => e = .returned (.bool (p c)) ∧ w' = w
theorem isDigit_any : IsB 104 digB := fun c w => by rw [dig_z]; exact isDigit_z _ w
theorem isHex_any : IsB 121 hexB := fun c w => by rw [hex_z]; exact isHex_z _ (byte_in c).1 (byte_in c).2 w
theorem isLetDig_any : IsB 129 letB := fun c w => by rw [let_z]; exact isLetDig_z _ (byte_in c).1 (byte_in c).2 w
set_option maxHeartbeats 400000 in
theorem isOfLabel_any : IsB 120 labB := fun c w => by
  rw [lab_z]
  obtain ⟨h0, h1⟩ := byte_in c
  generalize (c.toNat : Int) = n at h0 h1
  go_enter Tryz.func120, Tryz.ntmps120
  go_wp2_with (first | (go_at_call 129; refine (isLetDig_z _ h0 h1 _).mono ?_; rintro e w' ⟨rfl, rfl⟩))
  all_goals go_ret
  all_goals exact ⟨ret_bool (by simp [*]), rfl⟩
set_option maxHeartbeats 400000 in
theorem isNotShown_any : IsB 81 notB := fun c w => by
  rw [not_z]
  obtain ⟨h0, h1⟩ := byte_in c
  generalize (c.toNat : Int) = n at h0 h1
  go_enter Tryz.func81, Tryz.ntmps81
  go_wp2
  all_goals go_ret
  all_goals exact ⟨ret_bool (by first | (simp; done) | (simp; omega) | (rw [Bool.eq_iff_iff]; simp; omega)), rfl⟩
theorem atm_z (c : UInt8) : atmB c = (letZ (c.toNat : Int) || decide (0 ≤ Lib.indexByte marksA (c.toNat : Int).toNat.toUInt8)) := all_u8 (P := fun c => atmB c = (letZ (c.toNat : Int) || decide (0 ≤ Lib.indexByte marksA (c.toNat : Int).toNat.toUInt8))) (by decide +kernel) c
set_option maxHeartbeats 400000 in
theorem isOfAtom_any : IsB 135 atmB := fun c w => by
  rw [atm_z]
  obtain ⟨h0, h1⟩ := byte_in c
  generalize (c.toNat : Int) = n at h0 h1
  go_enter Tryz.func135, Tryz.ntmps135
  go_wp2_with (first | (go_at_call 129; refine (isLetDig_z _ h0 h1 _).mono ?_; rintro e w' ⟨rfl, rfl⟩) | (go_at_call 110; refine (Tryz.strings_IndexByte _ _ _).mono ?_; rintro e w' ⟨rfl, rfl⟩))
  all_goals go_ret
  all_goals exact ⟨ret_bool (by simp [marksA, *]), rfl⟩
end Go.Proofs.YtjgadocojdieeaaGreatDoor
