/-
  Classes are right by the document's answer just if they are by the code's own way. No conditions but that there are 256.
-/
import Derived.Test.YtlaccbkhlkomhaaClL
namespace Go.Proofs.Ytlaccbkhlkomhaa
open Go.RowKit

def clOk (of : List UInt8) (k : Nat) : Bool := !(leastP of (k : Int) == 256) && !(decide (0 < k) && decide (leastP of (k : Int) < leastP of ((k : Int) - 1)))
theorem allB_iff2 (p : Int → Bool) (l : List Int) : allB p l = true ↔ ∀ z ∈ l, p z = true := by unfold allB; rw [List.all_eq_true]
/-- the document's answer -/
def clRef (of : List UInt8) (many : Int) : Bool := (decide (1 ≤ many) && decide (many ≤ 256)) && (allB (· < many) (of.map fun b => (b.toNat : Int)) && (List.range many.toNat).all (clOk of))
theorem leastP_get {of : List UInt8} {c : Int} (h : leastP of c < of.length) : (of[leastP of c].toNat : Int) = c := by
  have := List.findIdx_getElem (xs := of) (p := fun b : UInt8 => (b.toNat : Int) == c) (w := h)
  exact eq_of_beq this
theorem leastP_le {of : List UInt8} {c : Int} {j : Nat} (hj : j < of.length) (h : (of[j].toNat : Int) = c) : leastP of c ≤ j := by
  by_cases hle : leastP of c ≤ j
  · exact hle
  · have := List.not_of_lt_findIdx (xs := of) (p := fun b : UInt8 => (b.toNat : Int) == c) (show j < of.findIdx _ by unfold leastP at hle; omega)
    simp at this
    exact absurd h this
theorem leastP_top (of : List UInt8) (c : Int) : leastP of c ≤ of.length := List.findIdx_le_length
theorem clGo_inv (of : List UInt8) : ∀ (k : Nat), k ≤ of.length → ∀ g, clGo (of.take k) 0 = some g → (∀ c : Nat, c < g → leastP of (c : Int) < k) ∧ (∀ j, (h : j < of.length) → j < k → of[j].toNat < g) ∧ (∀ c : Nat, c + 1 < g → leastP of (c : Int) < leastP of ((c + 1 : Nat) : Int))
  | 0, _, g, h => by
    simp only [List.take_zero, clGo, Option.some.injEq] at h
    subst h
    exact ⟨fun c h => absurd h (by omega), fun j _ h => absurd h (by omega), fun c h => absurd h (by omega)⟩
  | k + 1, hk, g, h => by
    have hko : k < of.length := by omega
    rw [List.take_succ_eq_append_getElem hko, clGo_snoc] at h
    cases hg : clGo (of.take k) 0 with
    | none => rw [hg] at h; cases h
    | some g' =>
      rw [hg] at h
      simp only at h
      obtain ⟨i1, i2, i3⟩ := clGo_inv of k (by omega) g' hg
      by_cases hc : g' < of[k].toNat
      · rw [if_pos hc] at h; cases h
      · rw [if_neg hc] at h
        simp only [Option.some.injEq] at h
        by_cases he : of[k].toNat = g'
        · rw [if_pos he] at h
          subst h
          have hle : leastP of (g' : Int) ≤ k := leastP_le hko (by omega)
          refine ⟨fun c hc2 => ?_, fun j hj hjk => ?_, fun c hc2 => ?_⟩
          · by_cases h3 : c < g'
            · have := i1 c h3; omega
            · have : c = g' := by omega
              subst this; omega
          · by_cases h3 : j < k
            · have := i2 j hj h3; omega
            · have : j = k := by omega
              subst this; omega
          · by_cases h3 : c + 1 < g'
            · exact i3 c h3
            · have h4 : c + 1 = g' := by omega
              have h5 := i1 c (by omega)
              rw [h4]
              by_cases h6 : leastP of (g' : Int) < k
              · have h7 := leastP_get (of := of) (c := (g' : Int)) (by omega)
                have h8 := i2 _ (by omega) h6
                omega
              · omega
        · rw [if_neg he] at h
          subst h
          refine ⟨fun c hc2 => by have := i1 c hc2; omega, fun j hj hjk => ?_, i3⟩
          by_cases h3 : j < k
          · exact i2 j hj h3
          · have : j = k := by omega
            subst this; omega
theorem clRef_iff (of : List UInt8) (many : Int) (ho : of.length = 256) : clRef of many = clRightB of many := by
  rw [Bool.eq_iff_iff]
  unfold clRef clRightB
  simp only [Bool.and_eq_true, decide_eq_true_eq, allB_iff2, List.all_eq_true, List.mem_range]
  constructor
  · rintro ⟨⟨m1, m2⟩, m3, m4⟩
    obtain ⟨m, rfl⟩ : ∃ m : Nat, many = m := ⟨many.toNat, by omega⟩
    rw [Int.toNat_natCast] at m4
    have m3' : ∀ j, (h : j < of.length) → of[j].toNat < m := fun j hj => by
      have := m3 _ (List.mem_map.2 ⟨of[j], List.getElem_mem hj, rfl⟩)
      simp at this
      exact this
    have ok : ∀ k : Nat, k < m → leastP of (k : Int) < 256 ∧ (0 < k → ¬ leastP of (k : Int) < leastP of ((k - 1 : Nat) : Int)) := fun k hk => by
      have h := m4 k hk
      unfold clOk at h
      simp at h
      have ht := leastP_top of (k : Int)
      refine ⟨by omega, fun h0 => ?_⟩
      rw [show ((k - 1 : Nat) : Int) = (k : Int) - 1 from by omega]
      rcases h.2 with h2 | h2 <;> omega
    have mono : ∀ a d : Nat, a + d < m → leastP of (a : Int) ≤ leastP of ((a + d : Nat) : Int) := fun a d => by
      induction d with
      | zero => intro _; exact Nat.le_refl _
      | succ d ih =>
        intro h
        have h1 := ih (by omega)
        have h2 := (ok (a + (d + 1)) h).2 (by omega)
        rw [show a + (d + 1) - 1 = a + d from by omega] at h2
        omega
    have some_ : ∀ k, k ≤ of.length → ∃ g, clGo (of.take k) 0 = some g := fun k => by
      induction k with
      | zero => intro _; exact ⟨0, rfl⟩
      | succ k ih =>
        intro hk
        obtain ⟨g', hg⟩ := ih (by omega)
        obtain ⟨i1, i2, i3⟩ := clGo_inv of k (by omega) g' hg
        have hko : k < of.length := by omega
        rw [List.take_succ_eq_append_getElem hko, clGo_snoc, hg]
        simp only
        by_cases hc : g' < of[k].toNat
        · exfalso
          have h1 := m3' k hko
          have h2 := mono g' (of[k].toNat - g') (by omega)
          rw [show g' + (of[k].toNat - g') = of[k].toNat from by omega] at h2
          have h3 := leastP_le (of := of) hko rfl
          have h4 := leastP_get (of := of) (c := (g' : Int)) (by omega)
          by_cases h5 : leastP of (g' : Int) < k
          · have := i2 _ (by omega) h5
            omega
          · have h6 : leastP of (g' : Int) = k := by omega
            have h7 : (of[k].toNat : Int) = g' := by rw [← h4]; simp only [h6]
            omega
        · rw [if_neg hc]
          exact ⟨_, rfl⟩
    obtain ⟨g, hg⟩ := some_ of.length (Nat.le_refl _)
    obtain ⟨i1, i2, i3⟩ := clGo_inv of _ (Nat.le_refl _) g hg
    rw [List.take_length] at hg
    rw [hg]
    have e1 : g ≤ m := by
      by_cases h : g ≤ m
      · exact h
      · exfalso
        have h1 := i1 m (by omega)
        have h2 := leastP_get h1
        have h3 := m3' _ h1
        omega
    have e2 : m ≤ g := by
      by_cases h : m ≤ g
      · exact h
      · exfalso
        have h1 := (ok g (by omega)).1
        have h2 := leastP_get (of := of) (c := (g : Int)) (by omega)
        have h3 := i2 _ (by omega) (show leastP of (g : Int) < of.length by omega)
        omega
    simp
    omega
  · intro h
    cases hg : clGo of 0 with
    | none => rw [hg] at h; cases h
    | some g =>
      rw [hg] at h
      simp only [beq_iff_eq] at h
      subst h
      have hg2 : clGo (of.take of.length) 0 = some g := by rw [List.take_length]; exact hg
      obtain ⟨i1, i2, i3⟩ := clGo_inv of _ (Nat.le_refl _) g hg2
      have hle := clGo_le _ _ _ hg
      have h0 := i2 0 (by omega) (by omega)
      refine ⟨⟨by omega, by omega⟩, fun z hz => ?_, fun k hk => ?_⟩
      · obtain ⟨b, hb, rfl⟩ := List.mem_map.1 hz
        obtain ⟨j, hj, rfl⟩ := List.getElem_of_mem hb
        have := i2 j hj hj
        simp
        exact this
      · rw [Int.toNat_natCast] at hk
        have h1 := i1 k hk
        unfold clOk
        simp only [Bool.and_eq_true, Bool.not_eq_true', Bool.and_eq_false_iff, decide_eq_false_iff_not, beq_eq_false_iff_ne]
        refine ⟨by omega, ?_⟩
        by_cases h2 : 0 < k
        · right
          have h3 := i3 (k - 1) (by omega)
          rw [show k - 1 + 1 = k from by omega, show ((k - 1 : Nat) : Int) = (k : Int) - 1 from by omega] at h3
          omega
        · left; exact h2
end Go.Proofs.Ytlaccbkhlkomhaa
