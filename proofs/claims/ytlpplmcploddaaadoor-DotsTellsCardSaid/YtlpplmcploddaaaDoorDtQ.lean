/-
  What the statements on bodies say, in plain terms. No conditions.
-/
import Derived.Test.YtlpplmcploddaaaDoorDtP
import Derived.Lib.CountLaws
namespace Go.Proofs.YtlpplmcploddaaaDoor

/-- the lines ahead of the end are read -/
theorem read_pre (pre X : List (List UInt8)) (h : ∀ l ∈ pre, l ≠ [46]) : readL (pre ++ [46] :: X) = some (pre.flatMap lineU, (joinEnds pre).length + 3) := by
  induction pre with
  | nil => rfl
  | cons l ls ih =>
    simp only [List.cons_append, readL]
    rw [if_neg (h l (by simp)), ih (fun x hx => h x (by simp [hx]))]
    simp only [Option.map_some, List.flatMap_cons, joinEnds, List.length_append, List.length_cons, Option.some.injEq, Prod.mk.injEq, true_and]
    omega
theorem read_no (pre : List (List UInt8)) (h : ∀ l ∈ pre, l ≠ [46]) : readL pre = none := by
  induction pre with
  | nil => rfl
  | cons l ls ih =>
    simp only [readL]
    rw [if_neg (h l (by simp)), ih (fun x hx => h x (by simp [hx]))]
    rfl
theorem read_ways (L : List (List UInt8)) : (readL L = none ∧ ∀ l ∈ L, l ≠ [46]) ∨ ∃ pre X, L = pre ++ [46] :: X ∧ (∀ l ∈ pre, l ≠ [46]) ∧ readL L = some (pre.flatMap lineU, (joinEnds pre).length + 3) := by
  induction L with
  | nil => exact .inl ⟨rfl, by simp⟩
  | cons l ls ih =>
    by_cases hl : l = [46]
    · subst hl
      exact .inr ⟨[], ls, rfl, by simp, rfl⟩
    · rcases ih with ⟨h1, h2⟩ | ⟨pre, X, h1, h2, h3⟩
      · refine .inl ⟨by simp only [readL]; rw [if_neg hl, h1]; rfl, fun x hx => ?_⟩
        rcases List.mem_cons.1 hx with hx | hx
        · rw [hx]; exact hl
        · exact h2 x hx
      · have h4 : ∀ x ∈ l :: pre, x ≠ [46] := fun x hx => by
          rcases List.mem_cons.1 hx with hx | hx
          · rw [hx]; exact hl
          · exact h2 x hx
        refine .inr ⟨l :: pre, X, by rw [h1]; rfl, h4, ?_⟩
        rw [h1]
        exact read_pre (l :: pre) X h4
/-- a front of what is sent is no body's -/
theorem read_front (b p : List UInt8) (h : p <+: sentD b) (hl : p.length < (sentD b).length) : readD p = none := by
  obtain ⟨q, hq⟩ := h
  have hn : ∀ s ∈ (allD b).map stuffD ++ [[46]], NoEnd s := by
    intro s hs
    rcases List.mem_append.1 hs with hs | hs
    · obtain ⟨l, hl, rfl⟩ := List.mem_map.1 hs
      exact noEnd_stuff (all_noEnd b l hl)
    · obtain rfl := List.mem_singleton.1 hs
      intro i ⟨h1, h2⟩
      cases i with
      | zero => simp at h1
      | succ j => simp at h1
  have h1 : linesD (p ++ q) = (allD b).map stuffD ++ [[46]] := by
    rw [hq, sent_eq]
    have := (lines_join _ hn []).1
    rw [List.append_nil] at this
    rw [this]
    simp [linesD, rawP]
  have h2 : linesD (p ++ q) = linesD p ++ (rawP (restD p) q).2 := by
    unfold linesD restD
    rw [rawP_append]
  rw [h1] at h2
  have h3 := split_eq p
  unfold readD
  rcases read_ways (linesD p) with ⟨h4, _⟩ | ⟨pre, X, h4, h5, _⟩
  · exact h4
  · exfalso
    rw [h4] at h2
    -- the end stands last
    have h6 : (rawP (restD p) q).2 = [] ∧ X = [] := by
      rcases List.eq_nil_or_concat (X ++ (rawP (restD p) q).2) with h | ⟨Y, z, h⟩
      · exact ⟨(List.append_eq_nil_iff.1 h).2, (List.append_eq_nil_iff.1 h).1⟩
      · exfalso
        rw [List.concat_eq_append] at h
        have e : (allD b).map stuffD ++ [[46]] = (pre ++ [46] :: Y) ++ [z] := by
          rw [h2, List.append_assoc, List.cons_append, h]
          simp
        obtain ⟨e1, _⟩ := List.append_inj' e rfl
        have : [46] ∈ (allD b).map stuffD := by rw [e1]; simp
        obtain ⟨l, _, hl⟩ := List.mem_map.1 this
        exact stuff_ne l hl
    rw [h6.1, List.append_nil] at h2
    rw [← h4] at h2
    have h7 : (sentD b).length ≤ p.length := by
      rw [sent_eq, h2]
      conv => rhs; rw [h3]
      simp
    omega
theorem stuff_len (l : List UInt8) : l.length ≤ (stuffD l).length ∧ (stuffD l).length ≤ l.length + 1 := by
  unfold stuffD
  split <;> simp
theorem stuffs_len (L : List (List UInt8)) : (joinEnds L).length ≤ (joinEnds (L.map stuffD)).length ∧ (joinEnds (L.map stuffD)).length ≤ (joinEnds L).length + L.length := by
  induction L with
  | nil => exact ⟨Nat.le_refl _, Nat.le_refl _⟩
  | cons l ls ih =>
    have := stuff_len l
    simp only [List.map_cons, joinEnds, List.length_append, List.length_cons]
    omega
theorem sent_len (b : List UInt8) : (sentD b).length = (joinEnds ((allD b).map stuffD)).length + 3 := by
  rw [sent_eq, joinEnds_app]
  simp [joinEnds]
theorem whole_len (b : List UInt8) : b.length ≤ (wholeD b).length ∧ (wholeD b).length ≤ b.length + 2 := by
  unfold wholeD
  split <;> simp
theorem drop_line (l r : List UInt8) : (l ++ 13 :: 10 :: r).drop (l.length + 2) = r := by
  have e : l ++ 13 :: 10 :: r = (l ++ [13, 10]) ++ r := by simp
  rw [e, List.drop_append_of_le_length (by simp)]
  simp
theorem count_join (L : List (List UInt8)) (h : ∀ s ∈ L, NoEnd s) : Lib.count (joinEnds L) [13, 10] = L.length := by
  induction L with
  | nil => rfl
  | cons l ls ih =>
    rw [joinEnds, Lib.count_hit (by simp) (index_end (h l (by simp)) _)]
    show 1 + Lib.count ((l ++ 13 :: 10 :: joinEnds ls).drop (l.length + 2)) [13, 10] = _
    rw [drop_line, ih (fun s hs => h s (by simp [hs])), List.length_cons]
    omega
theorem count_whole (b : List UInt8) : Lib.count (wholeD b) [13, 10] = (allD b).length := by
  rw [whole_all, count_join _ (all_noEnd b)]
/-- of what is sent no more than a byte for each line is added, and the last five at most -/
theorem sent_bounds (b : List UInt8) : b.length + 3 ≤ (sentD b).length ∧ (sentD b).length ≤ b.length + Lib.count (wholeD b) [13, 10] + 5 := by
  have h1 := sent_len b
  have h2 := stuffs_len (allD b)
  have h3 := whole_len b
  rw [count_whole]
  rw [whole_all] at h3
  omega
theorem ends_ways (L : List (List UInt8)) : joinEnds L = [] ∨ ∃ t, joinEnds L = t ++ [13, 10] := by
  rcases List.eq_nil_or_concat L with h | ⟨L', l, h⟩
  · left; rw [h]; rfl
  · right; rw [h, List.concat_eq_append, joinEnds_app]; exact ⟨joinEnds L' ++ l, by simp [joinEnds]⟩
theorem whole_join (L : List (List UInt8)) : wholeD (joinEnds L) = joinEnds L := by
  unfold wholeD
  rw [if_pos]
  rcases ends_ways L with h | ⟨t, h⟩
  · left; exact h
  · right; rw [h]; exact ⟨t, rfl⟩
theorem flat_lineU (L : List (List UInt8)) : L.flatMap lineU = joinEnds (L.map unstD) := by
  rw [joinEnds_flat, List.flatMap_map]
  rfl
theorem noEnd_unst {l : List UInt8} (h : NoEnd l) : NoEnd (unstD l) := by
  unfold unstD
  split
  · intro i ⟨h1, h2⟩
    rw [List.getElem?_tail] at h1 h2
    exact h (i + 1) ⟨h1, h2⟩
  · exact h
theorem all_join (L : List (List UInt8)) (h : ∀ s ∈ L, NoEnd s) : allD (joinEnds L) = L := by
  have h1 := lines_join L h []
  rw [List.append_nil] at h1
  unfold allD
  rw [h1.1, h1.2]
  simp [linesD, restD, rawP]
theorem dots_of (l : List UInt8) : l.length ≤ (stuffD (unstD l)).length + l.count 46 := by
  have h1 := (stuff_len (unstD l)).1
  unfold unstD at *
  split
  · next h =>
    rw [if_pos h] at h1
    cases l with
    | nil => simp
    | cons x r =>
      have hx : x = 46 := by simpa using h
      subst hx
      rw [List.count_cons_self]
      simp only [List.length_cons, List.tail_cons] at *
      omega
  · next h =>
    rw [if_neg h] at h1
    omega
theorem dots_ofs (L : List (List UInt8)) : (joinEnds L).length ≤ (joinEnds ((L.map unstD).map stuffD)).length + (joinEnds L).count 46 := by
  induction L with
  | nil => exact Nat.zero_le _
  | cons l ls ih =>
    have := dots_of l
    simp only [List.map_cons, joinEnds, List.length_append, List.length_cons, List.count_append, List.count_cons]
    simp only [List.map_map] at ih ⊢
    omega
/-- all that DotsAgain says of what is read -/
structure AgainP (b body : List UInt8) (n : Nat) : Prop where
  lo : 3 ≤ n
  hi : n ≤ b.length
  suf : [13, 10, 46, 13, 10] <:+ 13 :: 10 :: b.take n
  whole : wholeD body = body
  dots : n ≤ (sentD body).length + b.count 46
  cut : readD (b.take n) = some (body, n)
  small : body.length ≤ b.length
theorem again_of (b body : List UInt8) (n : Nat) (h : readD b = some (body, n)) : AgainP b body n := by
  have hb := split_eq b
  have hno := lines_noEnd b
  unfold readD at h
  rcases read_ways (linesD b) with ⟨h1, _⟩ | ⟨pre, X, h1, h2, h3⟩
  · rw [h1] at h; cases h
  · rw [h3] at h
    injection h with h
    injection h with e1 e2
    rw [h1] at hb hno
    have hbt : b = (joinEnds pre ++ [46, 13, 10]) ++ (joinEnds X ++ restD b) := by
      conv => lhs; rw [hb]
      rw [joinEnds_app]
      simp [joinEnds]
    have hn : n = (joinEnds pre ++ [46, 13, 10]).length := by rw [← e2]; simp
    have htk : b.take n = joinEnds pre ++ [46, 13, 10] := by
      rw [hn]
      generalize joinEnds X ++ restD b = Y at *
      rw [hbt, List.take_append_of_le_length (Nat.le_refl _), List.take_length]
    have hl1 : ∀ s ∈ pre, NoEnd s := fun s hs => hno s (by simp [hs])
    have hbody : body = joinEnds (pre.map unstD) := by rw [← e1, flat_lineU]
    have hu : ∀ s ∈ pre.map unstD, NoEnd s := fun s hs => by
      obtain ⟨x, hx, rfl⟩ := List.mem_map.1 hs
      exact noEnd_unst (hl1 x hx)
    have hlen := congrArg List.length hbt
    rw [List.length_append] at hlen
    refine ⟨by rw [← e2]; omega, by rw [hlen, ← hn]; omega, ?_, by rw [hbody]; exact whole_join _, ?_, ?_, ?_⟩
    · rw [htk]
      rcases ends_ways pre with h | ⟨t, h⟩
      · rw [h]; exact ⟨[], rfl⟩
      · rw [h]; exact ⟨13 :: 10 :: t, by simp⟩
    · rw [sent_len, hbody, all_join _ hu, hn]
      have h4 := dots_ofs pre
      have h5 : (joinEnds pre).count 46 ≤ b.count 46 := by
        generalize joinEnds X ++ restD b = Y at *
        rw [hbt, List.count_append, List.count_append]
        omega
      simp only [List.length_append, List.length_cons, List.length_nil]
      omega
    · unfold readD
      rw [htk]
      have h4 := (lines_join (pre ++ [[46]]) (fun s hs => by
        rcases List.mem_append.1 hs with hs | hs
        · exact hl1 s hs
        · obtain rfl := List.mem_singleton.1 hs
          intro i ⟨h1, h2⟩
          cases i with
          | zero => simp at h1
          | succ j => simp at h1) []).1
      rw [List.append_nil, joinEnds_app] at h4
      have h5 : joinEnds [[(46 : UInt8)]] = [46, 13, 10] := rfl
      rw [h5] at h4
      rw [h4]
      have h6 : linesD [] = [] := rfl
      rw [h6, List.append_nil, read_pre pre [] h2, e1, e2]
    · have h4 : (joinEnds (pre.map unstD)).length ≤ (joinEnds pre).length := by
        clear h1 h2 h3 hb hno hbt hn htk hl1 hbody hu hlen e1 e2
        induction pre with
        | nil => exact Nat.le_refl _
        | cons l ls ih =>
          have : (unstD l).length ≤ l.length := by unfold unstD; split <;> simp
          simp only [List.map_cons, joinEnds, List.length_append, List.length_cons]
          omega
      rw [hbody]
      simp only [List.length_append, List.length_cons, List.length_nil] at hlen
      omega
theorem take_snoc (L : List (List UInt8)) (k : Nat) (h : k < L.length) : L.take (k + 1) = L.take k ++ [L[k]] := List.take_succ_eq_append_getElem h
end Go.Proofs.YtlpplmcploddaaaDoor
