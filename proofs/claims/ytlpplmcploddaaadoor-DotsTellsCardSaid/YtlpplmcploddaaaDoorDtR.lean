/-
  How far a body is read, as lines come one by one. No conditions.
-/
import Derived.Test.YtlpplmcploddaaaDoorDtQ
namespace Go.Proofs.YtlpplmcploddaaaDoor

theorem itemsE_ended : ∀ (ls : List (List UInt8)) (o : Nat), ∀ x ∈ itemsE o ls, x.2.2 = true
  | [], _, x, h => by simp [itemsE] at h
  | l :: ls, o, x, h => by
    rcases List.mem_cons.1 h with h | h
    · rw [h]
    · exact itemsE_ended ls _ x h
/-- what came is fine so far: each line has an end, and is not the end -/
def fineI (xs : List Itm) : Prop := ∀ x ∈ xs, x.2.2 = true ∧ x.2.1 ≠ [46]
def bodyI (xs : List Itm) : List UInt8 := xs.flatMap fun x => lineU x.2.1
def takenI : List Itm → Nat
  | [] => 0
  | x :: xs => x.2.1.length + 2 + takenI xs
theorem bodyI_snoc (xs : List Itm) (x : Itm) : bodyI (xs ++ [x]) = bodyI xs ++ lineU x.2.1 := by simp [bodyI]
theorem takenI_snoc (xs : List Itm) (x : Itm) : takenI (xs ++ [x]) = takenI xs + (x.2.1.length + 2) := by
  induction xs with
  | nil => simp [takenI]
  | cons y r ih => simp only [List.cons_append, takenI, ih]; omega
theorem fineI_snoc (xs : List Itm) (x : Itm) (h : fineI xs) (h1 : x.2.2 = true) (h2 : x.2.1 ≠ [46]) : fineI (xs ++ [x]) := by
  intro y hy
  rcases List.mem_append.1 hy with hy | hy
  · exact h y hy
  · rw [List.mem_singleton.1 hy]; exact ⟨h1, h2⟩
theorem bodyI_texts (xs : List Itm) : bodyI xs = (xs.map (·.2.1)).flatMap lineU := by unfold bodyI; rw [List.flatMap_map]
theorem takenI_texts (xs : List Itm) : takenI xs = (joinEnds (xs.map (·.2.1))).length := by
  induction xs with
  | nil => rfl
  | cons y r ih => simp only [takenI, List.map_cons, joinEnds, List.length_append, List.length_cons, ih]; omega
theorem text_mem {l : List UInt8} {ls : List (List UInt8)} {o : Nat} (h : l ∈ ls) : ∃ x ∈ itemsE o ls, x.2.1 = l := by
  rw [← itemsE_texts ls o] at h
  obtain ⟨x, hx, e⟩ := List.mem_map.1 h
  exact ⟨x, hx, e⟩
/-- all lines came, and none was the end -/
theorem read_all (b : List UInt8) (xs : List Itm) (h : xs = itemsD 0 b) (hf : fineI xs) : readD b = none := by
  refine read_no _ fun l hl => ?_
  obtain ⟨x, hx, e⟩ := text_mem (o := 0) hl
  rw [← e]
  refine (hf x ?_).2
  rw [h]
  exact List.mem_append_left _ hx
/-- a line without an end came -/
theorem read_open (b : List UInt8) (q : List Itm) (x : Itm) (h : q ++ [x] <+: itemsD 0 b) (hf : fineI q) (hx : x.2.2 = false) : readD b = none := by
  refine read_no _ fun l hl => ?_
  obtain ⟨t, ht⟩ := h
  unfold itemsD at ht
  obtain ⟨y, hy, e⟩ := text_mem (o := 0) hl
  rw [← e]
  refine (hf y ?_).2
  have h1 := itemsE_ended (linesD b) 0
  generalize itemsE 0 (linesD b) = E at *
  rw [List.append_assoc] at ht
  -- the one that has no end stands behind all that have one
  rcases List.append_eq_append_iff.1 ht with ⟨a, h2, h3⟩ | ⟨a, h2, h3⟩
  · -- E = q ++ a, [x] ++ t = a ++ T
    cases a with
    | nil => rw [List.append_nil] at h2; rw [← h2]; exact hy
    | cons z r =>
      exfalso
      injection h3 with h4 _
      have := h1 z (by rw [h2]; simp)
      rw [← h4, hx] at this
      cases this
  · rw [h2]
    exact List.mem_append_left _ hy
/-- the end came -/
theorem read_end (b : List UInt8) (q : List Itm) (x : Itm) (h : q ++ [x] <+: itemsD 0 b) (hf : fineI q) (hx : x.2.2 = true) (he : x.2.1 = [46]) : readD b = some (bodyI q, takenI q + 3) := by
  obtain ⟨t, ht⟩ := h
  have hl : ∃ X, linesD b = q.map (·.2.1) ++ [46] :: X := by
    rw [← itemsE_texts (linesD b) 0]
    unfold itemsD at ht
    have h1 := itemsE_ended (linesD b) 0
    generalize itemsE 0 (linesD b) = E at *
    rw [List.append_assoc] at ht
    rcases List.append_eq_append_iff.1 ht with ⟨a, h2, h3⟩ | ⟨a, h2, h3⟩
    · cases a with
      | nil =>
        exfalso
        simp only [List.nil_append] at h3
        split at h3
        · cases h3
        · injection h3 with h4 _
          rw [h4] at hx
          cases hx
      | cons z r =>
        injection h3 with h4 _
        refine ⟨r.map (·.2.1), ?_⟩
        rw [h2, List.map_append, List.map_cons, ← h4, he]
    · exfalso
      split at h3
      · have : a ++ ([x] ++ t) ≠ [] := by simp
        exact this h3.symm
      · cases a with
        | nil =>
          injection h3 with h4 _
          rw [← h4] at hx
          cases hx
        | cons z r =>
          injection h3 with h4 h5
          have : r ++ ([x] ++ t) ≠ [] := by simp
          exact this h5.symm
  obtain ⟨X, hX⟩ := hl
  unfold readD
  rw [hX, read_pre _ X (fun l hl => by
    obtain ⟨y, hy, rfl⟩ := List.mem_map.1 hl
    exact (hf y hy).2), bodyI_texts, takenI_texts]
theorem bodyI_len {N : Nat} (xs : List Itm) (h : ∀ x ∈ xs, x.2.1.length ≤ N) : (bodyI xs).length ≤ xs.length * (N + 2) ∧ takenI xs ≤ xs.length * (N + 2) := by
  induction xs with
  | nil => exact ⟨Nat.zero_le _, Nat.zero_le _⟩
  | cons x r ih =>
    obtain ⟨h1, h2⟩ := ih (fun y hy => h y (by simp [hy]))
    have h3 := h x (by simp)
    have h4 : (unstD x.2.1).length ≤ x.2.1.length := by unfold unstD; split <;> simp
    unfold bodyI lineU at *
    simp only [takenI, List.flatMap_cons, List.length_append, List.length_cons, List.length_nil, Nat.add_mul, Nat.one_mul] at *
    omega
end Go.Proofs.YtlpplmcploddaaaDoor
