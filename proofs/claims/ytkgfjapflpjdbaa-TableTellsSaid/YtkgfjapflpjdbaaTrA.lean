/-
  The contracts of frankingref01.Digit, frankingref02.Named, frankingref06.least. Conditions: texts within Go's own bounds.
-/
import Derived.Test.YtkgfjapflpjdbaaTbC
namespace Go.Proofs.Ytkgfjapflpjdbaa
open Go.RowKit

set_option maxHeartbeats 400000 in
theorem rDigit_any (n : Int) (w : World) :
    Calls Try.prog 36 #[.int .u8 n] w fun e w' => e = .returned (.bool (digitZ n)) ∧ w = w' := by
  go_enter Try.func36, Try.ntmps36
  go_wp2
  all_goals go_ret
  all_goals exact ⟨ret_bool (by rw [Bool.eq_iff_iff]; simp [digitZ]; omega), rfl⟩
/-- a name, however long -/
def namedB (l : List UInt8) : Bool := decide (1 ≤ l.length) && (smallZ (byteZ l 0) && allFrom tailZ l)
theorem nameB_iff (l : List UInt8) : nameB l = (decide (l.length ≤ 64) && namedB l) := by
  unfold nameB namedB
  rw [Bool.eq_iff_iff]
  simp only [Bool.and_eq_true, decide_eq_true_eq]
  constructor
  · rintro ⟨⟨⟨h1, h2⟩, h3⟩, h4⟩; exact ⟨h2, h1, h3, h4⟩
  · rintro ⟨h2, h1, h3, h4⟩; exact ⟨⟨⟨h1, h2⟩, h3⟩, h4⟩
theorem smallZ_iff (n : Int) : smallZ n = true ↔ 97 ≤ n ∧ n ≤ 122 := by simp [smallZ]
theorem tailZ_iff (n : Int) : tailZ n = true ↔ (97 ≤ n ∧ n ≤ 122) ∨ (48 ≤ n ∧ n ≤ 57) ∨ n = 45 := by simp [tailZ, smallZ, digitZ, or_assoc]
theorem tailZ_no (n : Int) : tailZ n = false ↔ ¬ ((97 ≤ n ∧ n ≤ 122) ∨ (48 ≤ n ∧ n ≤ 57) ∨ n = 45) := by rw [← tailZ_iff, Bool.not_eq_true]
set_option maxHeartbeats 1000000 in
theorem named_any (s : ByteArray) (hs : s.size ≤ maxLen) (w : World) :
    Calls Try.prog 25 #[.string s] w fun e w' => e = .returned (.bool (namedB s.data.toList)) ∧ w = w' := by
  unfold maxLen at hs
  by_cases h0 : s.size < 1
  · have hR : namedB s.data.toList = false := by simp only [namedB]; rw [listLen, decide_eq_false (by omega)]; rfl
    have HR := Lib.hid hR
    clear hR
    have hz : (s.size : Int) = 0 := by omega
    have hz2 : s.size = 0 := by omega
    go_enter Try.func25, Try.ntmps25
    go_wp2
    go_ret
    exact ⟨ret_bool HR.out.symm, rfl⟩
  · have hb := byteZ_at s 0 (by omega)
    have hRN : namedB s.data.toList = (smallZ (byteZ s.data.toList 0) && allFrom tailZ s.data.toList) := by
      simp only [namedB]
      rw [listLen, decide_eq_true (by omega)]
      rfl
    have h1 : 0 < s.size := by omega
    have hne : ((s.size : Int) == 0) = false := by simpa using (fun h => by omega : ¬ (s.size : Int) = 0)
    have hne2 : ¬ s.size = 0 := by omega
    have hst := allFrom_step tailZ s.data.toList 0 (by rw [listLen]; exact h1)
    rw [← hb] at hRN hst
    have HB := Lib.hid hb
    have HST0 := Lib.hid hst
    have HRN := Lib.hid hRN
    have HL := Lib.hid (listLen s)
    have HS := Lib.hid (fun k => allFrom_step tailZ s.data.toList k)
    have HN := Lib.hid (fun k => allFrom_no tailZ s.data.toList k)
    generalize namedB s.data.toList = R at *
    clear hRN hb hst
    by_cases c1 : ((s[0]'h1).toNat : Int) < 97
    · have HR0 : Hid (R = false) := by
        have : smallZ ((s[0]'h1).toNat : Int) = false := by rw [← Bool.not_eq_true, smallZ_iff]; omega
        show _ = _
        rw [HRN.out, this]
        rfl
      go_enter Try.func25, Try.ntmps25
      go_wp2
      go_ret
      exact ⟨ret_bool HR0.out.symm, rfl⟩
    · by_cases c2 : (122 : Int) < ((s[0]'h1).toNat : Int)
      · have HR0 : Hid (R = false) := by
          have : smallZ ((s[0]'h1).toNat : Int) = false := by rw [← Bool.not_eq_true, smallZ_iff]; omega
          show _ = _
          rw [HRN.out, this]
          rfl
        go_enter Try.func25, Try.ntmps25
        go_wp2
        go_ret
        exact ⟨ret_bool HR0.out.symm, rfl⟩
      · have HSM : smallZ ((s[0]'h1).toNat : Int) = true := by rw [smallZ_iff]; omega
        have HT1 : Hid (allFrom tailZ (s.data.toList.take 1) = true) := by
          have h2 : tailZ ((s[0]'h1).toNat : Int) = true := by rw [tailZ_iff]; omega
          show _ = _
          rw [HST0.out, h2]
          rfl
        have HRA : Hid (R = allFrom tailZ s.data.toList) := by show _ = _; rw [HRN.out, HSM]; rfl
        clear HSM HRN HST0
        go_enter Try.func25, Try.ntmps25
        go_wp2
        clear c1 c2 HB
        go_loop [3] (fun i => ∃ k : Nat, k ≤ s.size ∧ i = .int .i64 k ∧ Hid (allFrom tailZ (s.data.toList.take k) = true)) (fun i => s.size - (intOf i).toNat)
        case atStart => exact ⟨1, by omega, rfl, HT1⟩
        case round =>
          obtain ⟨k, hk, rfl, HK⟩ := hrel
          by_cases hlt : k < s.size
          · have HBk := Lib.hid (byteZ_at s k hlt)
            have HST := Lib.hid (HS.out k (by rw [HL.out]; exact hlt))
            have HNO := Lib.hid (HN.out k (by rw [HL.out]; exact hlt))
            cases ht : tailZ ((s[k]'hlt).toNat : Int) with
            | true =>
              have HG : Hid (allFrom tailZ (s.data.toList.take (k + 1)) = true) := by
                show _ = _
                rw [HST.out, HK.out, ← HBk.out, ht]
                rfl
              have ht2 := (tailZ_iff _).1 ht
              clear ht HST HNO
              rcases ht2 with ⟨d1, d2⟩ | ⟨d1, d2⟩ | d1
              · have e1 : ¬ ((s[k]'hlt).toNat : Int) < 97 := by omega
                have e2 : ¬ (122 : Int) < ((s[k]'hlt).toNat : Int) := by omega
                clear d1 d2
                go_wp2
                go_round
                case rel => exact ⟨k + 1, by omega, by go_num, HG⟩
                case measure => simp [intOf]; omega
              · have e1 : ((s[k]'hlt).toNat : Int) < 97 := by omega
                have e3 : digitZ ((s[k]'hlt).toNat : Int) = true := by simp [digitZ]; omega
                clear d1 d2
                go_wp2_with (go_at_call 36; refine (rDigit_any _ _).mono ?_; rintro e w' ⟨rfl, rfl⟩)
                go_round
                case rel => exact ⟨k + 1, by omega, by go_num, HG⟩
                case measure => simp [intOf]; omega
              · have e1 : ((s[k]'hlt).toNat : Int) < 97 := by omega
                have e3 : digitZ ((s[k]'hlt).toNat : Int) = false := by simp [digitZ]; omega
                have e4 : (((s[k]'hlt).toNat : Int) == 45) = true := by simpa using d1
                clear d1
                go_wp2_with (go_at_call 36; refine (rDigit_any _ _).mono ?_; rintro e w' ⟨rfl, rfl⟩)
                go_round
                case rel => exact ⟨k + 1, by omega, by go_num, HG⟩
                case measure => simp [intOf]; omega
            | false =>
              have HR0 : Hid (R = false) := by show _ = _; rw [HRA.out, HNO.out (by rw [← HBk.out]; exact ht)]
              have ht2 := (tailZ_no _).1 ht
              clear ht HST HNO
              have e3 : digitZ ((s[k]'hlt).toNat : Int) = false := by rw [← Bool.not_eq_true]; simp [digitZ]; omega
              have e4 : (((s[k]'hlt).toNat : Int) == 45) = false := by simpa using (fun h => ht2 (.inr (.inr h)))
              by_cases e1 : ((s[k]'hlt).toNat : Int) < 97
              · clear ht2
                go_wp2_with (go_at_call 36; refine (rDigit_any _ _).mono ?_; rintro e w' ⟨rfl, rfl⟩)
                go_ret
                exact ⟨ret_bool HR0.out.symm, rfl⟩
              · have e2 : (122 : Int) < ((s[k]'hlt).toNat : Int) := by omega
                clear ht2
                go_wp2_with (go_at_call 36; refine (rDigit_any _ _).mono ?_; rintro e w' ⟨rfl, rfl⟩)
                go_ret
                exact ⟨ret_bool HR0.out.symm, rfl⟩
          · have HR2 : Hid (R = true) := by
              show _ = _
              rw [HRA.out, ← HK.out, List.take_of_length_le (by rw [HL.out]; omega)]
            go_wp2
            go_ret
            exact ⟨ret_bool HR2.out.symm, rfl⟩
/-! ### the first byte of a class -/
def leastP (of : List UInt8) (c : Int) : Nat := of.findIdx fun b => (b.toNat : Int) == c
theorem leastP_at (of : List UInt8) (c : Int) (k : Nat) (hk : k < of.length) (h1 : (of[k].toNat : Int) = c) (h2 : ∀ j, (h : j < of.length) → j < k → (of[j].toNat : Int) ≠ c) : leastP of c = k := by
  unfold leastP
  rw [List.findIdx_eq hk]
  refine ⟨by simpa using h1, fun j hj => ?_⟩
  simpa using h2 j (by omega) hj
theorem leastP_none (of : List UInt8) (c : Int) (h2 : ∀ j, (h : j < of.length) → (of[j].toNat : Int) ≠ c) : leastP of c = of.length := by
  unfold leastP
  apply List.findIdx_eq_length_of_false
  intro x hx
  obtain ⟨j, hj, rfl⟩ := List.getElem_of_mem hx
  simpa using h2 j hj
set_option maxRecDepth 100000 in
set_option maxHeartbeats 1000000 in
theorem least_any (of : List UInt8) (many c : Int) (w : World) (ho : of.length = 256) :
    Calls Try.prog 35 #[.agg (clCells of many).toArray, .int .i64 c] w fun e w' => e = .returned (.int .i64 (leastP of c : Nat)) ∧ Below w.heap.size w w' := by
  obtain ⟨cs, HC⟩ : ∃ cs, Hid ((clCells of many).toArray = cs) := ⟨_, rfl⟩
  have HCELL : Hid (∀ k, (h : k < of.length) → (w.alloc (.cells cs 24)).cell? ⟨w.heap.size, k, none⟩ = some (.int .u8 (of[k].toNat : Int))) := by
    intro k h
    rw [World.cell?_alloc_new, ← HC.out]
    simpa [byteV] using clCells_at of many k h
  have HB : Hid (Below w.heap.size w (w.alloc (.cells cs 24))) := (Below.refl _ _).alloc (Nat.le_refl _) _
  rw [HC.out]
  clear HC
  have HO := Lib.hid ho
  have HA := Lib.hid (leastP_at of c)
  have HN := Lib.hid (leastP_none of c)
  clear ho
  generalize leastP of c = R at *
  go_enter Try.func35, Try.ntmps35
  go_wp2
  go_loop [5] (fun i => ∃ k : Nat, k ≤ 256 ∧ i = .int .i64 k ∧ Hid (∀ j, (h : j < of.length) → j < k → (of[j].toNat : Int) ≠ c)) (fun i => 256 - (intOf i).toNat)
  case atStart => exact ⟨0, by omega, rfl, fun j _ h => absurd h (by omega)⟩
  case round =>
    obtain ⟨k, hk, rfl, HK⟩ := hrel
    by_cases hlt : k < 256
    · have hko : k < of.length := by rw [HO.out]; exact hlt
      have hcell := HCELL.out k hko
      have HEQ : Hid (((of[k]).toNat : Int) = c → R = k) := fun e => HA.out k hko e (fun j hj hjk => HK.out j hj hjk)
      have HNE : Hid (((of[k]).toNat : Int) ≠ c → ∀ j, (h : j < of.length) → j < k + 1 → (of[j].toNat : Int) ≠ c) := fun e j hj hjk => by
        by_cases hjk2 : j = k
        · subst hjk2; exact e
        · exact HK.out j hj (by omega)
      have hcb := (of[k]).toNat_lt
      generalize (of[k]).toNat = b at *
      by_cases hz : (b : Int) = c
      · have HR := Lib.hid (HEQ.out hz)
        have hz2 : ((b : Int) == c) = true := by simpa using hz
        clear HEQ HNE
        subst hz
        go_wp2
        go_ret
        exact ⟨ret_int (by rw [HR.out]), HB.out⟩
      · have HN2 := Lib.hid (HNE.out hz)
        have hz2 : ((b : Int) == c) = false := by simpa using hz
        clear HEQ HNE
        go_wp2
        go_round
        case rel => exact ⟨k + 1, by omega, by go_num, HN2⟩
        case measure => simp [intOf]; omega
    · have hk2 : k = 256 := by omega
      have HR : Hid (R = 256) := by
        show _ = _
        rw [HN.out (fun j hj => HK.out j hj (by rw [hk2, ← HO.out]; exact hj)), HO.out]
      have HK2 := Lib.hid hk2
      have hki : ¬ (k : Int) < 256 := by omega
      clear hk2
      go_wp2
      go_ret
      exact ⟨ret_int (by rw [HR.out, HK2.out]), HB.out⟩
end Go.Proofs.Ytkgfjapflpjdbaa
