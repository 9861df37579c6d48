/-
  Trees that are few: how many nodes; the first ones of a list. No conditions.
-/
import Derived.Test.YtdckjjkaoecgaaaDoorRxF
namespace Go.Proofs.YtdckjjkaoecgaaaDoor
open Go.RowKit

theorem RyIn.take {w : World} {S : Nat → Prop} {a : Option Addr} {c : Nat} {ks : List Ry} (h : RyIn w S a c ks) (n : Nat) : RyIn w S a c (ks.take n) := by
  cases h with
  | nil => rw [List.take_nil]; exact .nil _ _
  | row _ b off _ hS hlt hn hcap hm hok hc hk =>
    by_cases h0 : n = 0
    · subst h0; exact .nil _ _
    · have hl : (ks.take n).length ≤ ks.length := by rw [List.length_take]; omega
      refine .row _ b off c hS hlt (by rw [List.length_take]; omega) (by omega) (by omega) (fun i hi => ?_) (fun i hi j u hu => ?_) (fun i hi => ?_)
      · rw [List.getElem_take]; exact hok i (by omega)
      · rw [List.getElem_take] at hu; exact hc i (by omega) j u hu
      · rw [List.getElem_take]; exact hk i (by omega)
/-- 'l[:k]' of trees -/
theorem re_slice_to (a : Option Addr) (n c k : Nat) (hk : k ≤ c) (W : World) : (Instr.slice 22 (.slice a n c) none (some (.int .i64 (k : Int))) none).run Tryd.prog W = .ok (.slice a k c) W := by
  have : ∀ W, (sizeOf (Tryd.prog.elem 22)).run Tryd.prog W = .ok 6 W := fun W => by kernel_rfl
  rw [run_slice_h W 22 _ _ _ (by kernel_rfl) .i64 (k : Int) (by omega) (by omega), this]
  simp [sliced]
  intro _
  cases a with
  | none => rfl
  | some x => simp; unfold Addr.add; split <;> simp_all
theorem few_nodes {ls : List Ry} (h : FewR ls) : ∀ (n : Nat), (preL (ls.take n)).length ≤ 200 * n
  | 0 => by simp [preL]
  | n + 1 => by
    have ih := few_nodes h n
    by_cases hn : n < ls.length
    · rw [List.take_succ_eq_append_getElem hn, preL_app, List.length_append]
      have := h.2 _ (List.getElem_mem hn)
      have h2 : preL [ls[n]] = preR ls[n] := by simp [preL]
      rw [h2]
      omega
    · rw [List.take_of_length_le (by omega)]
      rw [List.take_of_length_le (by omega)] at ih
      omega
theorem few_all {ls : List Ry} (h : FewR ls) : (preL ls).length ≤ 1200 := by
  have := few_nodes h 6
  rwa [List.take_of_length_le h.1] at this
theorem few_filter {ls : List Ry} (h : FewR ls) (p : Ry → Bool) : FewR (ls.filter p) := ⟨Nat.le_trans (List.length_filter_le _ _) h.1, fun t ht => h.2 t (List.mem_filter.1 ht).1⟩
theorem few_take {ls : List Ry} (h : FewR ls) (n : Nat) : FewR (ls.take n) := ⟨Nat.le_trans (by rw [List.length_take]; omega) h.1, fun t ht => h.2 t (List.mem_of_mem_take ht)⟩
end Go.Proofs.YtdckjjkaoecgaaaDoor
