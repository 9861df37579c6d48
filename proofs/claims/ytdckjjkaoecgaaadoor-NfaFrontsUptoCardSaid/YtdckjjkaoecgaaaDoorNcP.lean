/-
  NfaCap in plain terms: what Build answers of right trees, by any cap. No conditions but right trees, few.
-/
import Derived.Test.YtdckjjkaoecgaaaDoorNaQ
import Derived.Test.YtdckjjkaoecgaaaDoorNbX
import Derived.Test.YtdckjjkaoecgaaaDoorNaR
import Derived.Test.YtdckjjkaoecgaaaDoorRxP
namespace Go.Proofs.YtdckjjkaoecgaaaDoor
open Go.RowKit

theorem preL_mem {x : Ry} : ∀ {ls : List Ry}, x ∈ preL ls → ∃ t ∈ ls, x ∈ preR t
  | [], h => by simp [preL] at h
  | t :: r, h => by
    rw [preL] at h
    rcases List.mem_append.1 h with h | h
    · exact ⟨t, List.mem_cons_self, h⟩
    · obtain ⟨u, hu, hx⟩ := preL_mem h
      exact ⟨u, List.mem_cons_of_mem _ hu, hx⟩
theorem alone_of {ls : List Ry} (h : ∀ t ∈ ls, rightR t = true) {x : Ry} (hx : x ∈ preL ls) : aloneR x = true := by
  obtain ⟨t, ht, hxt⟩ := preL_mem hx
  have := h t ht
  unfold rightR at this
  exact List.all_eq_true.1 this x hxt
theorem good_of_right {ls : List Ry} (h : ∀ t ∈ ls, rightR t = true) : GoodR (preL ls) := by
  intro x hx
  have h1 := alone_of h hx
  unfold aloneR at h1
  refine ⟨fun k => ?_, fun k => ?_⟩
  · rw [if_neg (by omega), if_pos k] at h1
    simp only [Bool.and_eq_true, beq_iff_eq] at h1
    exact List.eq_nil_of_length_eq_zero h1.2
  · rw [if_neg (by omega), if_neg (by omega), if_pos (.inr k)] at h1
    simp only [Bool.and_eq_true, decide_eq_true_eq] at h1
    intro h2
    rw [h2] at h1
    simp at h1
/-- how many states -/
def wantP (ls : List Ry) : Nat := (machineP ls).2.length
theorem want_is {ls : List Ry} (h : ∀ t ∈ ls, rightR t = true) (h1 : 1 ≤ ls.length) : (wantP ls : Int) = statesL ls + 2 * ls.length - 1 := machine_count ls (good_of_right h) h1
theorem want_b {ls : List Ry} (h : ∀ t ∈ ls, rightR t = true) (h1 : 1 ≤ ls.length) (hf : FewR ls) : 1 ≤ wantP ls ∧ wantP ls ≤ 3000 := by
  have h2 := want_is h h1
  have h3 := stL_b ls
  have h4 := few_all hf
  have h5 := hf.1
  have h6 : wantP ls = (treesP ls 0 []).2.length + (treesP ls 0 []).1.dropLast.length := by unfold wantP machineP; rw [splits_len]
  have h7 : 1 ≤ (treesP ls 0 []).2.length := by
    have := trees_count ls 0 [] (good_of_right h)
    match ls, h1 with
    | t :: r, _ =>
      rw [treesP]
      have h8 := trees_grow r (0 + 1) (towardR t (([] : List NS).length : Int) ([] ++ [endN 0])).2
      have h9 := toward_grows t (([] : List NS).length : Int) ([] ++ [endN 0])
      simp at h8 h9 ⊢
      omega
  omega
/-- the answer by a cap -/
theorem build_cap {ls : List Ry} (h : ∀ t ∈ ls, rightR t = true) (h1 : 1 ≤ ls.length) (hf : FewR ls) (most : Int) (h0 : 0 ≤ most) (h2 : most ≤ 20000) :
    buildP ls most = if most = 0 then (0, [], 2) else if most < (wantP ls : Int) then (0, [], 40) else ((machineP ls).1, (machineP ls).2, 0) := by
  by_cases hz : most = 0
  · rw [if_pos hz, build_bad (by omega)]
  · rw [if_neg hz, build_good ⟨h1, by have := hf.1; omega, by omega, h2, List.all_eq_true.2 h⟩]
    rfl
end Go.Proofs.YtdckjjkaoecgaaaDoor
