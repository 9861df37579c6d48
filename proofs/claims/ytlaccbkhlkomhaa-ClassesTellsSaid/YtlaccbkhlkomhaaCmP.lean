/-
  Classes of some trees in plain terms: how many there are, which byte is a class's first; trees' slices. No conditions.
-/
import Derived.Test.YtlaccbkhlkomhaaCsD
namespace Go.Proofs.Ytlaccbkhlkomhaa
open Go.RowKit

theorem pigeon : ∀ (n m : Nat) (f : Nat → Nat), (∀ i, i < n → f i < m) → (∀ i j, i < n → j < n → f i = f j → i = j) → n ≤ m := by
  intro n
  induction n with
  | zero => intro m f _ _; exact Nat.zero_le _
  | succ n ih =>
    intro m f hf hi
    have hn := hf n (Nat.lt_succ_self n)
    have := ih (m - 1) (fun i => if f i = m - 1 then f n else f i) (fun i h => by
      have h1 := hf i (by omega)
      have h2 : f i ≠ f n := fun e => by have := hi i n (by omega) (by omega) e; omega
      show (if f i = m - 1 then f n else f i) < m - 1
      split <;> omega) (fun i j h1 h2 h3 => by
      have a1 : f i ≠ f n := fun e => by have := hi i n (by omega) (by omega) e; omega
      have a2 : f j ≠ f n := fun e => by have := hi j n (by omega) (by omega) e; omega
      refine hi i j (by omega) (by omega) ?_
      have h3 : (if f i = m - 1 then f n else f i) = (if f j = m - 1 then f n else f j) := h3
      split at h3 <;> split at h3 <;> omega)
    omega
theorem cl_lt : ∀ (l : List UInt8) (g0 g : Nat), clGo l g0 = some g → g0 ≤ g ∧ ∀ x ∈ l, x.toNat < g
  | [], g0, g, h => by
    simp only [clGo, Option.some.injEq] at h
    exact ⟨by omega, fun x hx => by cases hx⟩
  | c :: r, g0, g, h => by
    simp only [clGo] at h
    split at h
    · cases h
    · rename_i hc
      obtain ⟨h1, h2⟩ := cl_lt r _ g h
      refine ⟨by split at h1 <;> omega, fun x hx => ?_⟩
      rcases List.mem_cons.1 hx with rfl | hx
      · split at h1 <;> omega
      · exact h2 x hx
section
variable {V : List St} {of : List UInt8}
theorem CP.lt (h : CP V of) {i : Nat} (hi : i < 256) : (of.getD i 0).toNat < manyOf of := by
  have hl : i < of.length := by rw [h.len]; exact hi
  rw [List.getD_eq_getElem?_getD, List.getElem?_eq_getElem hl]
  exact (cl_lt of 0 _ h.go).2 _ (List.getElem_mem hl)
theorem CP.pos (h : CP V of) : 1 ≤ manyOf of := by have := h.lt (i := 0) (by decide); omega
theorem CP.few (h : CP V of) : manyOf of ≤ 256 := by have := clGo_le of 0 _ h.go; rw [h.len] at this; omega
theorem CP.first (h : CP V of) {k : Nat} (hk : k < manyOf of) : ∃ f : Nat, idxOf k of = (f : Int) ∧ f < 256 ∧ (of.getD f 0).toNat = k ∧ ∀ x, x < f → (of.getD x 0).toNat < k := by
  obtain ⟨f, h1, hf, he, hn⟩ := idxOf_is (cl_occurs _ of _ rfl h.go k hk)
  have hf2 : f < 256 := by rw [← h.len]; exact hf
  refine ⟨f, h1, hf2, ?_, fun x hx => ?_⟩
  · rw [List.getD_eq_getElem?_getD, List.getElem?_eq_getElem hf]
    exact he
  · have hxl : x < of.length := by omega
    cases hg : clGo (of.take f) 0 with
    | none =>
      have := clGo_none_take of f 0 hg
      rw [h.go] at this
      cases this
    | some g =>
      have hxt : x < (of.take f).length := by rw [List.length_take]; omega
      have h2 := (cl_lt _ 0 g hg).2 _ (List.getElem_mem hxt)
      rw [List.getElem_take] at h2
      have h3 : ¬ k < g := fun hkg => by
        obtain ⟨y, hy, hye⟩ := cl_occurs _ (of.take f) g rfl hg k hkg
        rw [List.getElem_take] at hye
        exact hn y (by rw [List.length_take] at hy; omega) hye
      rw [List.getD_eq_getElem?_getD, List.getElem?_eq_getElem hxl]
      show of[x].toNat < k
      omega
theorem CP.finer {V' : List St} {of' : List UInt8} (h : CP V of) (h' : CP V' of') (hs : ∀ s ∈ V, s ∈ V') : (∀ i j, i < 256 → j < 256 → of'.getD i 0 = of'.getD j 0 → of.getD i 0 = of.getD j 0) ∧ manyOf of ≤ manyOf of' := by
  have fine : ∀ i j, i < 256 → j < 256 → of'.getD i 0 = of'.getD j 0 → of.getD i 0 = of.getD j 0 := fun i j hi hj he => (h.same i j hi hj).2 (fun s hm => (h'.same i j hi hj).1 he s (hs s hm))
  refine ⟨fine, pigeon _ _ (fun k => (of'.getD (idxOf k of).toNat 0).toNat) (fun k hk => ?_) (fun i j hi hj he => ?_)⟩
  · obtain ⟨f, h1, h2, _⟩ := h.first hk
    simp only [h1, Int.toNat_natCast]
    exact h'.lt h2
  · obtain ⟨f, h1, h2, h3, _⟩ := h.first hi
    obtain ⟨g, g1, g2, g3, _⟩ := h.first hj
    simp only [h1, g1, Int.toNat_natCast] at he
    have := fine f g h2 g2 (UInt8.toNat_inj.1 he)
    rw [← h3, ← g3, this]
end
theorem clV_at (V : List St) (k : Nat) (hk : k < 256) : (clV V)[k]? = some (.int .u8 (((clL V).getD k 0).toNat : Int)) := by
  have hl : k < (clL V).length := by rw [(clL_cp V).len]; exact hk
  refine clV_of V k _ ?_
  rw [List.getD_eq_getElem?_getD, List.getElem?_eq_getElem hl]
  rfl
theorem RyIn.take {w : World} {S : Nat → Prop} {a : Option Addr} {c : Nat} {ks : List Ry} (h : RyIn w S a c ks) (n : Nat) : RyIn w S a c (ks.take n) := by
  cases h with
  | nil => rw [List.take_nil]; exact .nil _ _
  | row _ b off _ hS hlt hn hcap hm hok hc hk =>
    by_cases h0 : n = 0
    · subst h0; exact .nil _ _
    · have hl : (ks.take n).length ≤ ks.length := by rw [List.length_take]; omega
      refine .row _ b off c hS hlt (by rw [List.length_take]; omega) (by omega) (by omega) (fun i hi => ?_) (fun i hi j u hu => ?_) (fun i hi => ?_)
      · rw [List.getElem_take]; exact hok i (by omega)
      · rw [List.getElem_take] at hu; exact hc i (by omega) j u hu
      · rw [List.getElem_take]; exact hk i (by omega)
/-- 'l[:k]' of trees -/
theorem re_slice_to (a : Option Addr) (n c k : Nat) (hk : k ≤ c) (W : World) : (Instr.slice 22 (.slice a n c) none (some (.int .i64 (k : Int))) none).run Try.prog W = .ok (.slice a k c) W := by
  have : ∀ W, (sizeOf (Try.prog.elem 22)).run Try.prog W = .ok 6 W := fun W => by kernel_rfl
  rw [run_slice_h W 22 _ _ _ (by kernel_rfl) .i64 (k : Int) (by omega) (by omega), this]
  simp [sliced]
  intro _
  cases a with
  | none => rfl
  | some x => simp; unfold Addr.add; split <;> simp_all
theorem rem_of (n m : Nat) (h : 0 < m) : (n : Int).tmod (m : Int) = ((n % m : Nat) : Int) := by
  rw [Int.tmod_eq_emod_of_nonneg (by omega), Int.natCast_emod]
theorem ofV_right {rs : List Ry} (h : ∀ t ∈ rs, rightR t = true) : ofV rs = .tuple #[.agg (clV (setsL rs)), .int .i64 0] := by
  unfold ofV
  rw [if_pos (List.all_eq_true.2 h)]
theorem few_nodes {ls : List Ry} (h : FewR ls) : ∀ (n : Nat), (preL (ls.take n)).length ≤ 200 * n
  | 0 => by simp [preL]
  | n + 1 => by
    have ih := few_nodes h n
    by_cases hn : n < ls.length
    · rw [List.take_succ_eq_append_getElem hn, preL_app, List.length_append]
      have := h.2 _ (List.getElem_mem hn)
      have h2 : preL [ls[n]] = preR ls[n] := by simp [preL]
      rw [h2]
      omega
    · rw [List.take_of_length_le (by omega)]
      rw [List.take_of_length_le (by omega)] at ih
      omega
theorem few_all {ls : List Ry} (h : FewR ls) : (preL ls).length ≤ 1200 := by
  have := few_nodes h 6
  rwa [List.take_of_length_le h.1] at this
theorem few_filter {ls : List Ry} (h : FewR ls) (p : Ry → Bool) : FewR (ls.filter p) := ⟨Nat.le_trans (List.length_filter_le _ _) h.1, fun t ht => h.2 t (List.mem_filter.1 ht).1⟩
theorem few_take {ls : List Ry} (h : FewR ls) (n : Nat) : FewR (ls.take n) := ⟨Nat.le_trans (by rw [List.length_take]; omega) h.1, fun t ht => h.2 t (List.mem_of_mem_take ht)⟩
end Go.Proofs.Ytlaccbkhlkomhaa
