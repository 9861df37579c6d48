/-
  The contracts of path's small functions on bytes. No conditions.
-/
import Derived.Test.YtjgadocojdieeaaDoorPtP
import Derived.Test.YtjgadocojdieeaaDoorGa
import Derived.Test.YtjgadocojdieeaaDoorShelf
namespace Go.Proofs.YtjgadocojdieeaaDoor
open Go.RowKit Go.Shelf

def smlZ (n : Int) : Int := if 65 ≤ n ∧ n ≤ 90 then n + 32 else n
def digZ (n : Int) : Bool := decide (48 ≤ n) && decide (n ≤ 57)
def hexZ (n : Int) : Bool := digZ n || (decide (97 ≤ smlZ n) && decide (smlZ n ≤ 102))
def letZ (n : Int) : Bool := digZ n || (decide (97 ≤ smlZ n) && decide (smlZ n ≤ 122))
theorem sml_z (c : UInt8) : ((sml c).toNat : Int) = smlZ (c.toNat : Int) := all_u8 (P := fun c => ((sml c).toNat : Int) = smlZ (c.toNat : Int)) (by decide +kernel) c
theorem dig_z (c : UInt8) : digB c = digZ (c.toNat : Int) := all_u8 (P := fun c => digB c = digZ (c.toNat : Int)) (by decide +kernel) c
theorem hex_z (c : UInt8) : hexB c = hexZ (c.toNat : Int) := all_u8 (P := fun c => hexB c = hexZ (c.toNat : Int)) (by decide +kernel) c
theorem let_z (c : UInt8) : letB c = letZ (c.toNat : Int) := all_u8 (P := fun c => letB c = letZ (c.toNat : Int)) (by decide +kernel) c
theorem lab_z (c : UInt8) : labB c = (letZ (c.toNat : Int) || (c.toNat : Int) == 45) := all_u8 (P := fun c => labB c = (letZ (c.toNat : Int) || (c.toNat : Int) == 45)) (by decide +kernel) c
theorem not_z (c : UInt8) : notB c = (decide ((c.toNat : Int) < 32) || decide (126 < (c.toNat : Int))) := all_u8 (P := fun c => notB c = (decide ((c.toNat : Int) < 32) || decide (126 < (c.toNat : Int)))) (by decide +kernel) c
set_option maxHeartbeats 400000 in
theorem small_z (n : Int) (h0 : 0 ≤ n) (h1 : n ≤ 255) (w : World) : Calls Tryd.prog 58 #[.int .u8 n] w fun e w' => e = .returned (.int .u8 (smlZ n)) ∧ w' = w := by
  go_enter Tryd.func58, Tryd.ntmps58
  go_wp2
  all_goals go_ret
  all_goals refine ⟨ret_int ?_, rfl⟩
  all_goals unfold smlZ
  all_goals (repeat' split) <;> omega
set_option maxHeartbeats 400000 in
theorem isDigit_z (n : Int) (w : World) : Calls Tryd.prog 74 #[.int .u8 n] w fun e w' => e = .returned (.bool (digZ n)) ∧ w' = w := by
  go_enter Tryd.func74, Tryd.ntmps74
  go_wp2
  all_goals go_ret
  all_goals exact ⟨ret_bool (by rw [Bool.eq_iff_iff]; simp [digZ]; omega), rfl⟩
theorem smlZ_in (n : Int) (h0 : 0 ≤ n) (h1 : n ≤ 255) : 0 ≤ smlZ n ∧ smlZ n ≤ 255 := by unfold smlZ; split <;> omega
set_option maxHeartbeats 400000 in
theorem isHex_z (n : Int) (h0 : 0 ≤ n) (h1 : n ≤ 255) (w : World) : Calls Tryd.prog 78 #[.int .u8 n] w fun e w' => e = .returned (.bool (hexZ n)) ∧ w' = w := by
  have hs := smlZ_in n h0 h1
  go_enter Tryd.func78, Tryd.ntmps78
  go_wp2_with (first | (go_at_call 58; refine (small_z _ h0 h1 _).mono ?_; rintro e w' ⟨rfl, rfl⟩) | (go_at_call 74; refine (isDigit_z _ _).mono ?_; rintro e w' ⟨rfl, rfl⟩))
  all_goals go_ret
  all_goals exact ⟨ret_bool (by first | (simp [hexZ, *]; done) | (simp [hexZ, *]; omega)), rfl⟩
set_option maxHeartbeats 400000 in
theorem isLetDig_z (n : Int) (h0 : 0 ≤ n) (h1 : n ≤ 255) (w : World) : Calls Tryd.prog 76 #[.int .u8 n] w fun e w' => e = .returned (.bool (letZ n)) ∧ w' = w := by
  have hs := smlZ_in n h0 h1
  go_enter Tryd.func76, Tryd.ntmps76
  go_wp2_with (first | (go_at_call 58; refine (small_z _ h0 h1 _).mono ?_; rintro e w' ⟨rfl, rfl⟩) | (go_at_call 74; refine (isDigit_z _ _).mono ?_; rintro e w' ⟨rfl, rfl⟩))
  all_goals go_ret
  all_goals exact ⟨ret_bool (by first | (simp [letZ, *]; done) | (simp [letZ, *]; omega)), rfl⟩
theorem byte_in (c : UInt8) : 0 ≤ (c.toNat : Int) ∧ (c.toNat : Int) ≤ 255 := by have := c.toNat_lt; omega
theorem small_any (c : UInt8) (w : World) : Calls Tryd.prog 58 #[.int .u8 (c.toNat : Int)] w fun e w' => e = .returned (.int .u8 ((sml c).toNat : Int)) ∧ w' = w := by
  rw [sml_z]
  exact small_z _ (byte_in c).1 (byte_in c).2 w
/-- a kind of bytes, as a function -/
def IsB (k : Nat) (p : UInt8 → Bool) : Prop := ∀ (c : UInt8) (w : World), Calls Tryd.prog k #[.int .u8 (c.toNat : Int)] w fun e w' => e = .returned (.bool (p c)) ∧ w' = w
theorem isDigit_any : IsB 74 digB := fun c w => by rw [dig_z]; exact isDigit_z _ w
theorem isHex_any : IsB 78 hexB := fun c w => by rw [hex_z]; exact isHex_z _ (byte_in c).1 (byte_in c).2 w
theorem isLetDig_any : IsB 76 letB := fun c w => by rw [let_z]; exact isLetDig_z _ (byte_in c).1 (byte_in c).2 w
set_option maxHeartbeats 400000 in
theorem isOfLabel_any : IsB 71 labB := fun c w => by
  rw [lab_z]
  obtain ⟨h0, h1⟩ := byte_in c
  generalize (c.toNat : Int) = n at h0 h1
  go_enter Tryd.func71, Tryd.ntmps71
  go_wp2_with (first | (go_at_call 76; refine (isLetDig_z _ h0 h1 _).mono ?_; rintro e w' ⟨rfl, rfl⟩))
  all_goals go_ret
  all_goals exact ⟨ret_bool (by simp [*]), rfl⟩
set_option maxHeartbeats 400000 in
theorem isNotShown_any : IsB 38 notB := fun c w => by
  rw [not_z]
  obtain ⟨h0, h1⟩ := byte_in c
  generalize (c.toNat : Int) = n at h0 h1
  go_enter Tryd.func38, Tryd.ntmps38
  go_wp2
  all_goals go_ret
  all_goals exact ⟨ret_bool (by first | (simp; done) | (simp; omega) | (rw [Bool.eq_iff_iff]; simp; omega)), rfl⟩
theorem atm_z (c : UInt8) : atmB c = (letZ (c.toNat : Int) || decide (0 ≤ Lib.indexByte marksA (c.toNat : Int).toNat.toUInt8)) := all_u8 (P := fun c => atmB c = (letZ (c.toNat : Int) || decide (0 ≤ Lib.indexByte marksA (c.toNat : Int).toNat.toUInt8))) (by decide +kernel) c
set_option maxHeartbeats 400000 in
theorem isOfAtom_any : IsB 72 atmB := fun c w => by
  rw [atm_z]
  obtain ⟨h0, h1⟩ := byte_in c
  generalize (c.toNat : Int) = n at h0 h1
  go_enter Tryd.func72, Tryd.ntmps72
  go_wp2_with (first | (go_at_call 76; refine (isLetDig_z _ h0 h1 _).mono ?_; rintro e w' ⟨rfl, rfl⟩) | (go_at_call 77; refine (Tryd.strings_IndexByte _ _ _).mono ?_; rintro e w' ⟨rfl, rfl⟩))
  all_goals go_ret
  all_goals exact ⟨ret_bool (by simp [marksA, *]), rfl⟩
end Go.Proofs.YtjgadocojdieeaaDoor
