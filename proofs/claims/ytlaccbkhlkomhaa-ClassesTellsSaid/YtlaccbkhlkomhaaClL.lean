/-
  The contract of frankingref06.least. Conditions: 256 bytes.
-/
import Derived.Test.YtlaccbkhlkomhaaClF
import Derived.Test.YtlaccbkhlkomhaaGh
namespace Go.Proofs.Ytlaccbkhlkomhaa
open Go.RowKit

def allB (p : Int → Bool) (l : List Int) : Bool := l.all p
theorem allB_step (p : Int → Bool) (l : List Int) (k : Nat) (h : k < l.length) : allB p (l.take (k + 1)) = (allB p (l.take k) && p l[k]) := by
  unfold allB
  rw [List.take_succ_eq_append_getElem h, List.all_append]
  simp
theorem allB_no (p : Int → Bool) (l : List Int) (k : Nat) (h : k < l.length) (hp : p l[k] = false) : allB p l = false := by
  rw [← Bool.not_eq_true]
  unfold allB
  rw [List.all_eq_true]
  intro hh
  have := hh _ (List.getElem_mem h)
  rw [hp] at this
  cases this

/-! ### the first byte of a class -/
def leastP (of : List UInt8) (c : Int) : Nat := of.findIdx fun b => (b.toNat : Int) == c
theorem leastP_at (of : List UInt8) (c : Int) (k : Nat) (hk : k < of.length) (h1 : (of[k].toNat : Int) = c) (h2 : ∀ j, (h : j < of.length) → j < k → (of[j].toNat : Int) ≠ c) : leastP of c = k := by
  unfold leastP
  rw [List.findIdx_eq hk]
  refine ⟨by simpa using h1, fun j hj => ?_⟩
  simpa using h2 j (by omega) hj
theorem leastP_none (of : List UInt8) (c : Int) (h2 : ∀ j, (h : j < of.length) → (of[j].toNat : Int) ≠ c) : leastP of c = of.length := by
  unfold leastP
  apply List.findIdx_eq_length_of_false
  intro x hx
  obtain ⟨j, hj, rfl⟩ := List.getElem_of_mem hx
  simpa using h2 j hj
set_option maxRecDepth 100000 in
set_option maxHeartbeats 1000000 in
theorem least_any (of : List UInt8) (many c : Int) (w : World) (ho : of.length = 256) :
    Calls Try.prog 33 #[.agg (clCells of many).toArray, .int .i64 c] w fun e w' => e = .returned (.int .i64 (leastP of c : Nat)) ∧ Below w.heap.size w w' := by
  obtain ⟨cs, HC⟩ : ∃ cs, Hid ((clCells of many).toArray = cs) := ⟨_, rfl⟩
  have HCELL : Hid (∀ k, (h : k < of.length) → (w.alloc (.cells cs 25)).cell? ⟨w.heap.size, k, none⟩ = some (.int .u8 (of[k].toNat : Int))) := by
    intro k h
    rw [World.cell?_alloc_new, ← HC.out]
    simpa [byteV] using clCells_at of many k h
  have HB : Hid (Below w.heap.size w (w.alloc (.cells cs 25))) := (Below.refl _ _).alloc (Nat.le_refl _) _
  rw [HC.out]
  clear HC
  have HO := Lib.hid ho
  have HA := Lib.hid (leastP_at of c)
  have HN := Lib.hid (leastP_none of c)
  clear ho
  generalize leastP of c = R at *
  go_enter Try.func33, Try.ntmps33
  go_wp2
  go_loop [5] (fun i => ∃ k : Nat, k ≤ 256 ∧ i = .int .i64 k ∧ Hid (∀ j, (h : j < of.length) → j < k → (of[j].toNat : Int) ≠ c)) (fun i => 256 - (intOf i).toNat)
  case atStart => exact ⟨0, by omega, rfl, fun j _ h => absurd h (by omega)⟩
  case round =>
    obtain ⟨k, hk, rfl, HK⟩ := hrel
    by_cases hlt : k < 256
    · have hko : k < of.length := by rw [HO.out]; exact hlt
      have hcell := HCELL.out k hko
      have HEQ : Hid (((of[k]).toNat : Int) = c → R = k) := fun e => HA.out k hko e (fun j hj hjk => HK.out j hj hjk)
      have HNE : Hid (((of[k]).toNat : Int) ≠ c → ∀ j, (h : j < of.length) → j < k + 1 → (of[j].toNat : Int) ≠ c) := fun e j hj hjk => by
        by_cases hjk2 : j = k
        · subst hjk2; exact e
        · exact HK.out j hj (by omega)
      have hcb := (of[k]).toNat_lt
      generalize (of[k]).toNat = b at *
      by_cases hz : (b : Int) = c
      · have HR := Lib.hid (HEQ.out hz)
        have hz2 : ((b : Int) == c) = true := by simpa using hz
        clear HEQ HNE
        subst hz
        go_wp2
        go_ret
        exact ⟨ret_int (by rw [HR.out]), HB.out⟩
      · have HN2 := Lib.hid (HNE.out hz)
        have hz2 : ((b : Int) == c) = false := by simpa using hz
        clear HEQ HNE
        go_wp2
        go_round
        case rel => exact ⟨k + 1, by omega, by go_num, HN2⟩
        case measure => simp [intOf]; omega
    · have hk2 : k = 256 := by omega
      have HR : Hid (R = 256) := by
        show _ = _
        rw [HN.out (fun j hj => HK.out j hj (by rw [hk2, ← HO.out]; exact hj)), HO.out]
      have HK2 := Lib.hid hk2
      have hki : ¬ (k : Int) < 256 := by omega
      clear hk2
      go_wp2
      go_ret
      exact ⟨ret_int (by rw [HR.out, HK2.out]), HB.out⟩
end Go.Proofs.Ytlaccbkhlkomhaa
