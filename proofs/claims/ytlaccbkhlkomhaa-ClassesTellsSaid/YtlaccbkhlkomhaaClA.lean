/-
  The contract of classes.Right. No conditions but the value's form.
-/
import Derived.Test.YtlaccbkhlkomhaaGa
import Derived.Deep.MidRow
import Derived.Below
namespace Go.Proofs.Ytlaccbkhlkomhaa
open Go.RowKit

/-! ### classes -/
/-- how many classes have begun behind some bytes; none, if one is not in order -/
def clGo : List UInt8 → Nat → Option Nat
  | [], g => some g
  | c :: r, g => if g < c.toNat then none else clGo r (if c.toNat = g then g + 1 else g)
theorem clGo_snoc : ∀ (l : List UInt8) (g : Nat) (c : UInt8), clGo (l ++ [c]) g = match clGo l g with | none => none | some g' => if g' < c.toNat then none else some (if c.toNat = g' then g' + 1 else g')
  | [], g, c => by simp [clGo]
  | x :: r, g, c => by
    simp only [List.cons_append, clGo]
    split
    · rfl
    · exact clGo_snoc r _ c
theorem clGo_le : ∀ (l : List UInt8) (g g' : Nat), clGo l g = some g' → g' ≤ g + l.length
  | [], g, g', h => by simp only [clGo, Option.some.injEq] at h; simp; omega
  | x :: r, g, g', h => by
    simp only [clGo] at h
    split at h
    · cases h
    · have := clGo_le r _ g' h
      simp only [List.length_cons]
      split at this <;> omega
theorem clGo_none_take (l : List UInt8) (k : Nat) (g : Nat) (h : clGo (l.take k) g = none) : clGo l g = none := by
  have : ∀ (a b : List UInt8) (g : Nat), clGo a g = none → clGo (a ++ b) g = none := by
    intro a
    induction a with
    | nil => intro b g h; cases h
    | cons x r ih =>
      intro b g h
      simp only [List.cons_append, clGo] at h ⊢
      split
      · rfl
      · rename_i hx
        rw [if_neg hx] at h
        exact ih b _ h
  have h2 := this (l.take k) (l.drop k) g h
  rwa [List.take_append_drop] at h2
def clRightB (of : List UInt8) (many : Int) : Bool := match clGo of 0 with | none => false | some g => (g : Int) == many
def clCells (of : List UInt8) (many : Int) : List Value := of.map byteV ++ [intV many]
theorem clCells_len (of : List UInt8) (many : Int) (h : of.length = 256) : (clCells of many).length = 257 := by simp [clCells, h]
theorem clCells_at (of : List UInt8) (many : Int) (k : Nat) (h : k < of.length) : (clCells of many)[k]? = some (byteV of[k]) := by
  unfold clCells
  rw [List.getElem?_append_left (by simpa using h), List.getElem?_map, List.getElem?_eq_getElem h]
  rfl
theorem clCells_many (of : List UInt8) (many : Int) (h : of.length = 256) : (clCells of many)[256]? = some (intV many) := by
  unfold clCells
  rw [List.getElem?_append_right (by simp [h])]
  simp [h]
set_option maxRecDepth 100000 in
set_option maxHeartbeats 1000000 in
theorem clRight_any (of : List UInt8) (many : Int) (w : World) (ho : of.length = 256) :
    Calls Try.prog 14 #[.agg (clCells of many).toArray] w fun e w' => e = .returned (.bool (clRightB of many)) ∧ Below w.heap.size w w' := by
  obtain ⟨cs, HC⟩ : ∃ cs, Hid ((clCells of many).toArray = cs) := ⟨_, rfl⟩
  have hb1 : (w.alloc (.cells cs 25)).cell? ⟨w.heap.size, 256, none⟩ = some (.int .i64 many) := by
    rw [World.cell?_alloc_new, ← HC.out]
    simpa [intV] using clCells_many of many ho
  have HCELL : Hid (∀ k, (h : k < of.length) → (w.alloc (.cells cs 25)).cell? ⟨w.heap.size, k, none⟩ = some (.int .u8 (of[k].toNat : Int))) := by
    intro k h
    rw [World.cell?_alloc_new, ← HC.out]
    simpa [byteV] using clCells_at of many k h
  have HB : Hid (Below w.heap.size w (w.alloc (.cells cs 25))) := (Below.refl _ _).alloc (Nat.le_refl _) _
  rw [HC.out]
  clear HC
  have HO := Lib.hid ho
  have HT := Lib.hid (fun k (h : k < of.length) => List.take_succ_eq_append_getElem h)
  have HEN : Hid (clGo of 0 = clGo (of.take of.length) 0) := by show _ = _; rw [List.take_length]
  have HNT := Lib.hid (fun k => clGo_none_take of k 0)
  have HRR : Hid (clRightB of many = match clGo of 0 with | none => false | some g => (g : Int) == many) := show _ = _ from rfl
  clear ho
  generalize clRightB of many = R at *
  go_enter Try.func14, Try.ntmps14
  go_wp2
  go_loop [3, 6] (fun b i => ∃ k g : Nat, k ≤ 256 ∧ i = .int .i64 k ∧ b = .int .i64 g ∧ g ≤ 256 ∧ Hid (clGo (of.take k) 0 = some g)) (fun _ i => 256 - (intOf i).toNat)
  case atStart => exact ⟨0, 0, by omega, rfl, rfl, by omega, show _ = _ from rfl⟩
  case round =>
    obtain ⟨k, g, hk, rfl, rfl, hg, HK⟩ := hrel
    by_cases hlt : k < 256
    · have hko : k < of.length := by rw [HO.out]; exact hlt
      have hcell := HCELL.out k hko
      have hsn := HT.out k hko
      have hgo := clGo_snoc (of.take k) 0 of[k]
      rw [← hsn, HK.out] at hgo
      simp only at hgo
      have hgk := clGo_le _ _ _ HK.out
      rw [List.length_take] at hgk
      have hcb := (of[k]).toNat_lt
      have HGO := Lib.hid hgo
      clear hgo hsn
      generalize (of[k]).toNat = c at *
      rcases Nat.lt_trichotomy g c with h1 | h1 | h1
      · have HR0 : Hid (R = false) := by
          have h2 := HGO.out
          rw [if_pos h1] at h2
          show _ = _
          rw [HRR.out, HNT.out _ h2]
        go_wp2
        go_ret
        exact ⟨ret_bool HR0.out.symm, HB.out⟩
      · subst h1
        have HG2 : Hid (clGo (of.take (k + 1)) 0 = some (g + 1)) := by
          have h2 := HGO.out
          rw [if_neg (by omega), if_pos rfl] at h2
          exact h2
        go_wp2
        go_round
        case rel => exact ⟨k + 1, g + 1, by omega, by go_num, by go_num, by omega, HG2⟩
        case measure => simp [intOf]; omega
      · have HG2 : Hid (clGo (of.take (k + 1)) 0 = some g) := by
          have h2 := HGO.out
          rw [if_neg (by omega), if_neg (by omega)] at h2
          exact h2
        have hne : ¬ ((c : Int) = (g : Int)) := by omega
        have hne2 : ((c : Int) == (g : Int)) = false := by rw [beq_eq_false_iff_ne]; exact hne
        go_wp2
        go_round
        case rel => exact ⟨k + 1, g, by omega, by go_num, by go_num, by omega, HG2⟩
        case measure => simp [intOf]; omega
    · have HR0 : Hid (R = ((g : Int) == many)) := by
        have hk2 : k = of.length := by rw [HO.out]; omega
        show _ = _
        rw [HRR.out, HEN.out, ← hk2, HK.out]
      go_wp2
      go_ret
      exact ⟨ret_bool HR0.out.symm, HB.out⟩
end Go.Proofs.Ytlaccbkhlkomhaa
