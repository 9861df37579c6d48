/-
  Bodies in plain terms: bytes as lines and what is left of them; what is sent, what is read. No conditions.
-/
import Derived.Test.YtlpplmcploddaaaDoorFrP
import Derived.Lib.IndexMore
import Derived.Lib.IndexLaws
namespace Go.Proofs.YtlpplmcploddaaaDoor

/-- bytes are their lines, each with its end, and what is left -/
theorem rawP_split : ∀ (b t : List UInt8), NoEnd t → t ++ b = joinEnds (rawP t b).2 ++ (rawP t b).1 ∧ (∀ s ∈ (rawP t b).2, NoEnd s) ∧ NoEnd (rawP t b).1 := by
  intro b
  induction b with
  | nil => intro t h; exact ⟨by simp [rawP, joinEnds], by simp [rawP], h⟩
  | cons c r ih =>
    intro t h
    by_cases hc : t.getLast? = some 13 ∧ c = 10
    · have hs : rawS t c = ([], [t.dropLast]) := by unfold rawS; rw [if_pos hc]
      have hne : t ≠ [] := by intro e; subst e; simp at hc
      have ht : t = t.dropLast ++ [13] := by
        have h1 := hc.1
        rw [List.getLast?_eq_some_getLast hne] at h1
        injection h1 with h1
        conv => lhs; rw [← List.dropLast_concat_getLast hne, h1]
      obtain ⟨e1, e2, e3⟩ := ih [] (by intro i ⟨h, _⟩; simp at h)
      simp only [rawP, hs]
      rw [List.nil_append] at e1
      refine ⟨?_, ?_, e3⟩
      · rw [List.singleton_append, joinEnds, List.append_assoc, List.cons_append, List.cons_append, ← e1, hc.2]
        conv => lhs; rw [ht]
        simp
      · intro s hs
        rcases List.mem_append.1 hs with hs | hs
        · obtain rfl := List.mem_singleton.1 hs
          rw [ht] at h
          exact h.front
        · exact e2 s hs
    · have hs : rawS t c = (t ++ [c], []) := by unfold rawS; rw [if_neg hc]
      obtain ⟨e1, e2, e3⟩ := ih (t ++ [c]) (h.snoc c hc)
      simp only [rawP, hs, List.nil_append]
      exact ⟨by rw [← e1]; simp, e2, e3⟩
def linesD (b : List UInt8) : List (List UInt8) := (rawP [] b).2
def restD (b : List UInt8) : List UInt8 := (rawP [] b).1
theorem noEnd_nil : NoEnd [] := by intro i ⟨h, _⟩; simp at h
theorem split_eq (b : List UInt8) : b = joinEnds (linesD b) ++ restD b := (rawP_split b [] noEnd_nil).1
theorem lines_noEnd (b : List UInt8) : ∀ s ∈ linesD b, NoEnd s := (rawP_split b [] noEnd_nil).2.1
theorem rest_noEnd (b : List UInt8) : NoEnd (restD b) := (rawP_split b [] noEnd_nil).2.2
theorem lines_cons (s r : List UInt8) (h : NoEnd s) : linesD (s ++ 13 :: 10 :: r) = s :: linesD r ∧ restD (s ++ 13 :: 10 :: r) = restD r := by
  unfold linesD restD
  rw [rawP_line s r h]
  exact ⟨rfl, rfl⟩
theorem lines_none (s : List UInt8) (h : NoEnd s) : linesD s = [] ∧ restD s = s := by
  unfold linesD restD
  rw [rawP_noEnd s [] (by simpa using h)]
  exact ⟨rfl, rfl⟩
theorem lines_join (L : List (List UInt8)) (h : ∀ s ∈ L, NoEnd s) (r : List UInt8) : linesD (joinEnds L ++ r) = L ++ linesD r ∧ restD (joinEnds L ++ r) = restD r := by
  induction L with
  | nil => exact ⟨rfl, rfl⟩
  | cons x l ih =>
    obtain ⟨e1, e2⟩ := ih (fun s hs => h s (by simp [hs]))
    have e3 := lines_cons x (joinEnds l ++ r) (h x (by simp))
    rw [joinEnds, List.append_assoc]
    simp only [List.cons_append]
    rw [e3.1, e3.2, e1, e2]
    exact ⟨rfl, rfl⟩
/-- there is an end, or there is none -/
theorem two_ways (x : List UInt8) : NoEnd x ∨ ∃ l r, x = l ++ 13 :: 10 :: r ∧ NoEnd l := by
  have h := split_eq x
  have hn := lines_noEnd x
  cases hl : linesD x with
  | nil =>
    rw [hl, joinEnds, List.nil_append] at h
    left
    rw [h]
    exact rest_noEnd x
  | cons l ls =>
    right
    rw [hl] at h
    refine ⟨l, joinEnds ls ++ restD x, ?_, hn l (by rw [hl]; simp)⟩
    generalize restD x = y at *
    rw [h, joinEnds]
    simp
theorem occ_two (s : List UInt8) (i : Nat) : Lib.occAt s [13, 10] i = true ↔ s[i]? = some 13 ∧ s[i + 1]? = some 10 := by
  unfold Lib.occAt
  have e0 : s[i]? = (s.drop i)[0]? := by rw [List.getElem?_drop, Nat.add_zero]
  have e1 : s[i + 1]? = (s.drop i)[1]? := by rw [List.getElem?_drop]
  rw [e0, e1]
  generalize s.drop i = t
  match t with
  | [] => simp
  | [a] => simp [List.isPrefixOf]
  | a :: c :: r =>
    simp [List.isPrefixOf]
    constructor
    · rintro ⟨h1, h2⟩; exact ⟨h1.symm, h2.symm⟩
    · rintro ⟨h1, h2⟩; exact ⟨h1.symm, h2.symm⟩
theorem occ_no {s : List UInt8} (h : NoEnd s) (i : Nat) : Lib.occAt s [13, 10] i = false := by
  cases ho : Lib.occAt s [13, 10] i with
  | false => rfl
  | true => exact absurd ((occ_two s i).1 ho) (h i)
theorem index_noEnd {s : List UInt8} (h : NoEnd s) : Lib.index s [13, 10] = -1 := Lib.index_none (fun j _ => occ_no h j)
theorem index_end {l : List UInt8} (h : NoEnd l) (r : List UInt8) : Lib.index (l ++ 13 :: 10 :: r) [13, 10] = l.length := by
  refine Lib.index_first (by simp) ((occ_two _ _).2 ⟨by simp, by rw [List.getElem?_append_right (by omega)]; simp⟩) (fun j hj => ?_)
  cases ho : Lib.occAt (l ++ 13 :: 10 :: r) [13, 10] j with
  | false => rfl
  | true =>
    obtain ⟨h1, h2⟩ := (occ_two _ _).1 ho
    exfalso
    rw [List.getElem?_append_left hj] at h1
    by_cases hj2 : j + 1 < l.length
    · rw [List.getElem?_append_left hj2] at h2
      exact h j ⟨h1, h2⟩
    · have e : j + 1 = l.length := by omega
      rw [e, List.getElem?_append_right (Nat.le_refl _)] at h2
      simp at h2
/-- what comes of a text, from the place o on: each line with its place, and whether it has an end -/
abbrev Itm := Nat × List UInt8 × Bool
def itemsE : Nat → List (List UInt8) → List Itm
  | _, [] => []
  | o, l :: ls => (o, l, true) :: itemsE (o + l.length + 2) ls
def itemsD (o : Nat) (x : List UInt8) : List Itm := itemsE o (linesD x) ++ if restD x = [] then [] else [(o + (joinEnds (linesD x)).length, restD x, false)]
theorem items_nil (o : Nat) : itemsD o [] = [] := rfl
theorem items_none (o : Nat) (x : List UInt8) (h : NoEnd x) (hx : x ≠ []) : itemsD o x = [(o, x, false)] := by
  unfold itemsD
  rw [(lines_none x h).1, (lines_none x h).2, if_neg hx]
  simp [itemsE, joinEnds]
theorem items_cons (o : Nat) (l r : List UInt8) (h : NoEnd l) : itemsD o (l ++ 13 :: 10 :: r) = (o, l, true) :: itemsD (o + l.length + 2) r := by
  unfold itemsD
  rw [(lines_cons l r h).1, (lines_cons l r h).2]
  simp only [itemsE, joinEnds, List.length_append, List.length_cons, List.cons_append]
  have e : o + (l.length + ((joinEnds (linesD r)).length + 1 + 1)) = o + l.length + 2 + (joinEnds (linesD r)).length := by omega
  rw [e]
theorem itemsE_len : ∀ (ls : List (List UInt8)) (o : Nat), (itemsE o ls).length = ls.length
  | [], _ => rfl
  | l :: ls, o => by simp [itemsE, itemsE_len ls]
theorem itemsE_texts : ∀ (ls : List (List UInt8)) (o : Nat), (itemsE o ls).map (·.2.1) = ls
  | [], _ => rfl
  | l :: ls, o => by simp [itemsE, itemsE_texts ls]
theorem joinEnds_app (L M : List (List UInt8)) : joinEnds (L ++ M) = joinEnds L ++ joinEnds M := by
  induction L with
  | nil => rfl
  | cons x l ih => simp [joinEnds, ih]
theorem joinEnds_ge : ∀ (ls : List (List UInt8)), 2 * ls.length ≤ (joinEnds ls).length
  | [] => Nat.zero_le _
  | l :: ls => by have := joinEnds_ge ls; simp only [joinEnds, List.length_append, List.length_cons]; omega
theorem items_few (o : Nat) (x : List UInt8) : (itemsD o x).length ≤ x.length := by
  have h := congrArg List.length (split_eq x)
  rw [List.length_append] at h
  have h2 := joinEnds_ge (linesD x)
  unfold itemsD
  rw [List.length_append, itemsE_len]
  split
  · simp; omega
  · next hr =>
    have := List.length_pos_iff.2 hr
    simp
    omega
/-- what is read there is what stands there -/
def FitD (b : List UInt8) (x : Itm) : Prop := (b.drop x.1).take x.2.1.length = x.2.1

/-- a line, stuffed; unstuffed -/
def stuffD (l : List UInt8) : List UInt8 := if l.head? = some 46 then 46 :: l else l
def unstD (l : List UInt8) : List UInt8 := if l.head? = some 46 then l.tail else l
def lineS (l : List UInt8) : List UInt8 := stuffD l ++ [13, 10]
def lineU (l : List UInt8) : List UInt8 := unstD l ++ [13, 10]
def partS (xs : List Itm) : List UInt8 := xs.flatMap fun x => lineS x.2.1
def sentD (b : List UInt8) : List UInt8 := partS (itemsD 0 b) ++ [46, 13, 10]
theorem partS_snoc (xs : List Itm) (x : Itm) : partS (xs ++ [x]) = partS xs ++ lineS x.2.1 := by simp [partS]
/-- the lines of a body, the last one too -/
def allD (b : List UInt8) : List (List UInt8) := linesD b ++ if restD b = [] then [] else [restD b]
theorem all_noEnd (b : List UInt8) : ∀ s ∈ allD b, NoEnd s := by
  intro s hs
  rcases List.mem_append.1 hs with hs | hs
  · exact lines_noEnd b s hs
  · split at hs
    · simp at hs
    · obtain rfl := List.mem_singleton.1 hs
      exact rest_noEnd b
theorem items_texts (b : List UInt8) : (itemsD 0 b).map (·.2.1) = allD b := by
  unfold itemsD allD
  rw [List.map_append, itemsE_texts]
  split <;> simp
theorem joinEnds_flat (L : List (List UInt8)) : joinEnds L = L.flatMap (· ++ [13, 10]) := by
  induction L with
  | nil => rfl
  | cons x l ih => simp [joinEnds, ih]
theorem sent_eq (b : List UInt8) : sentD b = joinEnds ((allD b).map stuffD ++ [[46]]) := by
  unfold sentD partS
  rw [joinEnds_app, joinEnds_flat, List.flatMap_map, ← items_texts, List.flatMap_map]
  rfl
theorem noEnd_stuff {l : List UInt8} (h : NoEnd l) : NoEnd (stuffD l) := by
  unfold stuffD
  split
  · intro i ⟨h1, h2⟩
    cases i with
    | zero => simp at h1
    | succ j =>
      simp only [List.getElem?_cons_succ] at h1 h2
      exact h j ⟨h1, h2⟩
  · exact h
theorem stuff_ne (l : List UInt8) : stuffD l ≠ [46] := by
  unfold stuffD
  split
  · next h =>
    intro e
    injection e with _ e
    subst e
    simp at h
  · next h =>
    intro e
    subst e
    simp at h
theorem unst_stuff (l : List UInt8) : unstD (stuffD l) = l := by
  unfold stuffD
  split
  · simp [unstD]
  · next h => unfold unstD; rw [if_neg h]
/-- a body is read: what it is, and how many bytes are taken -/
def readL : List (List UInt8) → Option (List UInt8 × Nat)
  | [] => none
  | l :: ls => if l = [46] then some ([], 3) else (readL ls).map fun p => (lineU l ++ p.1, l.length + 2 + p.2)
def readD (b : List UInt8) : Option (List UInt8 × Nat) := readL (linesD b)
theorem read_stuff (L : List (List UInt8)) (X : List (List UInt8)) : readL (L.map stuffD ++ [46] :: X) = some (joinEnds L, (joinEnds (L.map stuffD ++ [[46]])).length) := by
  induction L with
  | nil => rfl
  | cons l ls ih =>
    simp only [List.map_cons, List.cons_append, readL]
    rw [if_neg (stuff_ne l), ih]
    simp only [Option.map_some, lineU, unst_stuff, joinEnds, List.length_append, List.length_cons, List.append_assoc, List.cons_append, List.nil_append, Option.some.injEq, Prod.mk.injEq, true_and]
    omega
/-- what is sent is read as it was, whatever comes behind -/
theorem read_sent (b more : List UInt8) : readD (sentD b ++ more) = some (joinEnds (allD b), (sentD b).length) := by
  have hn : ∀ s ∈ (allD b).map stuffD ++ [[46]], NoEnd s := by
    intro s hs
    rcases List.mem_append.1 hs with hs | hs
    · obtain ⟨l, hl, rfl⟩ := List.mem_map.1 hs
      exact noEnd_stuff (all_noEnd b l hl)
    · obtain rfl := List.mem_singleton.1 hs
      intro i ⟨h1, h2⟩
      cases i with
      | zero => simp at h1
      | succ j => simp at h1
  unfold readD
  rw [sent_eq, (lines_join _ hn more).1, List.append_assoc]
  exact read_stuff _ _
/-- a body with a line's end behind, if it had none -/
def wholeD (b : List UInt8) : List UInt8 := if b = [] ∨ [13, 10] <:+ b then b else b ++ [13, 10]
theorem whole_all (b : List UInt8) : wholeD b = joinEnds (allD b) := by
  have hs := split_eq b
  unfold wholeD allD
  by_cases hr : restD b = []
  · rw [if_pos hr, List.append_nil]
    rw [hr, List.append_nil] at hs
    rw [if_pos]
    · exact hs
    · rw [hs]
      generalize linesD b = L at *
      rcases List.eq_nil_or_concat L with h | ⟨L', l, h⟩
      · left; rw [h]; rfl
      · right
        rw [h, List.concat_eq_append, joinEnds_app]
        exact ⟨joinEnds L' ++ l, by simp [joinEnds]⟩
  · rw [if_neg hr, joinEnds_app]
    rw [if_neg]
    · conv => lhs; rw [hs]
      simp [joinEnds]
    · rintro (h | ⟨t, ht⟩)
      · rw [h] at hr
        exact hr rfl
      · have hn := rest_noEnd b
        rw [hs] at ht
        generalize restD b = r at *
        have hj : joinEnds (linesD b) = [] ∨ ∃ t, joinEnds (linesD b) = t ++ [10] := by
          rcases List.eq_nil_or_concat (linesD b) with h | ⟨L', l, h⟩
          · left; rw [h]; rfl
          · right; rw [h, List.concat_eq_append, joinEnds_app]; exact ⟨joinEnds L' ++ (l ++ [13]), by simp [joinEnds]⟩
        rcases List.eq_nil_or_concat r with h | ⟨r1, z, h⟩
        · exact hr h
        · rw [List.concat_eq_append] at h
          subst h
          have e1 : t ++ [13] ++ [10] = joinEnds (linesD b) ++ r1 ++ [z] := by simpa using ht
          obtain ⟨e2, e3⟩ := List.append_inj' e1 rfl
          injection e3 with e3
          subst e3
          rcases List.eq_nil_or_concat r1 with h | ⟨r2, y, h⟩
          · subst h
            rw [List.append_nil] at e2
            rcases hj with h | ⟨t2, h⟩
            · rw [h] at e2
              simp at e2
            · rw [h] at e2
              obtain ⟨_, e3⟩ := List.append_inj' e2 rfl
              simp at e3
          · rw [List.concat_eq_append] at h
            subst h
            have e4 : t ++ [13] = (joinEnds (linesD b) ++ r2) ++ [y] := by rw [e2]; simp
            obtain ⟨_, e5⟩ := List.append_inj' e4 rfl
            injection e5 with e5
            subst e5
            exact NoEnd.last hn ⟨by simp, rfl⟩
end Go.Proofs.YtlpplmcploddaaaDoor
