/-
  The document's own way to send and to read a body, in plain terms, is the code's. No conditions.
-/
import Derived.Test.YtlpplmcploddaaaDoorDtQ
import Derived.Lib.Replace
namespace Go.Proofs.YtlpplmcploddaaaDoor

def dotP : List UInt8 := [13, 10, 46]
/-- each 13 10 46, from the left, by something else -/
def rep (new : List UInt8) : List UInt8 → List UInt8
  | [] => []
  | c :: r => if c = 13 ∧ r.take 2 = [10, 46] then new ++ rep new (r.drop 2) else c :: rep new r
termination_by l => l.length
decreasing_by all_goals simp only [List.length_drop, List.length_cons]; omega
theorem rep_nil (new : List UInt8) : rep new [] = [] := by rw [rep]
theorem rep_hit (new r : List UInt8) : rep new (13 :: 10 :: 46 :: r) = new ++ rep new r := by
  rw [rep, if_pos ⟨rfl, rfl⟩]
  rfl
theorem rep_on (new : List UInt8) (c : UInt8) (r : List UInt8) (h : ¬ (c = 13 ∧ r.take 2 = [10, 46])) : rep new (c :: r) = c :: rep new r := by rw [rep, if_neg h]
theorem occ_three (s : List UInt8) (i : Nat) : Lib.occAt s dotP i = true ↔ ∃ r, s.drop i = 13 :: 10 :: 46 :: r := by
  unfold Lib.occAt dotP
  rw [List.isPrefixOf_iff_prefix]
  constructor
  · rintro ⟨r, h⟩; exact ⟨r, by rw [← h]; rfl⟩
  · rintro ⟨r, h⟩; exact ⟨r, by rw [h]; rfl⟩
theorem rep_ahead (new : List UInt8) : ∀ (i : Nat) (s : List UInt8), Lib.occAt s dotP i = true → Lib.NoOcc s dotP i → rep new s = s.take i ++ (new ++ rep new (s.drop (i + 3)))
  | 0, s, h, _ => by
    obtain ⟨r, hr⟩ := (occ_three s 0).1 h
    rw [List.drop_zero] at hr
    subst hr
    rw [rep_hit]
    rfl
  | i + 1, s, h, hn => by
    obtain ⟨r, hr⟩ := (occ_three s (i + 1)).1 h
    cases s with
    | nil => simp at hr
    | cons c t =>
      have h0 : ¬ (c = 13 ∧ t.take 2 = [10, 46]) := by
        rintro ⟨h1, h2⟩
        have := hn 0 (by omega)
        have h3 : Lib.occAt (c :: t) dotP 0 = true := (occ_three _ 0).2 (by
          refine ⟨t.drop 2, ?_⟩
          rw [List.drop_zero, h1]
          conv => lhs; rw [← List.take_append_drop 2 t, h2]
          rfl)
        rw [this] at h3
        cases h3
      rw [rep_on new c t h0, rep_ahead new i t (by
        rw [occ_three]; exact ⟨r, by simpa using hr⟩) (fun j hj => by
        have := hn (j + 1) (by omega)
        unfold Lib.occAt at this ⊢
        simpa using this)]
      simp
theorem rep_none (new : List UInt8) : ∀ (s : List UInt8), (∀ j, j ≤ s.length → Lib.occAt s dotP j = false) → rep new s = s
  | [], _ => rep_nil new
  | c :: t, h => by
    have h0 : ¬ (c = 13 ∧ t.take 2 = [10, 46]) := by
      rintro ⟨h1, h2⟩
      have h3 : Lib.occAt (c :: t) dotP 0 = true := (occ_three _ 0).2 (by
        refine ⟨t.drop 2, ?_⟩
        rw [List.drop_zero, h1]
        conv => lhs; rw [← List.take_append_drop 2 t, h2]
        rfl)
      rw [h 0 (Nat.zero_le _)] at h3
      cases h3
    rw [rep_on new c t h0, rep_none new t (fun j hj => by
      have := h (j + 1) (by simp; omega)
      unfold Lib.occAt at this ⊢
      simpa using this)]
theorem replaceK_rep (new : List UInt8) : ∀ (n : Nat) (s : List UInt8), s.length ≤ n → Lib.replaceK dotP new (Lib.count s dotP) s = rep new s
  | n, s, hn => by
    rcases Lib.index_spec s dotP with ⟨h1, h2⟩ | ⟨i, h1, h2, h3, h4⟩
    · rw [Lib.count_miss h1, Lib.replaceK, rep_none new s h2]
    · rw [Lib.count_hit (by simp [dotP]) h1, Nat.add_comm, Lib.replaceK_hit _ _ _ _ i h1, rep_ahead new i s h3 h4]
      have hl : 3 ≤ s.length := by
        obtain ⟨r, hr⟩ := (occ_three s i).1 h3
        have := congrArg List.length hr
        rw [List.length_drop] at this
        simp at this
        omega
      cases n with
      | zero => omega
      | succ n =>
        have := replaceK_rep new n (s.drop (i + dotP.length)) (by rw [List.length_drop]; simp [dotP]; omega)
        rw [this, List.append_assoc]
        rfl
theorem replaceAll_rep (new s : List UInt8) (h : new ≠ dotP) : Lib.replaceAll s dotP new = rep new s := by
  unfold Lib.replaceAll Lib.replace
  rw [if_neg (by simpa using fun e => h e.symm)]
  unfold Lib.replaceNum
  rw [if_pos (.inl (by decide))]
  exact replaceK_rep new s.length s (Nat.le_refl _)
/-- ahead of an end nothing is replaced -/
theorem rep_line (new : List UInt8) : ∀ (l : List UInt8), NoEnd l → ∀ r, rep new (l ++ 13 :: r) = l ++ rep new (13 :: r)
  | [], _, _ => rfl
  | c :: t, h, r => by
    have h0 : ¬ (c = 13 ∧ (t ++ 13 :: r).take 2 = [10, 46]) := by
      rintro ⟨h1, h2⟩
      cases t with
      | nil => simp at h2
      | cons d u =>
        simp at h2
        exact h 0 ⟨by simp [h1], by simp [h2.1]⟩
    have ht : NoEnd t := fun i hi => h (i + 1) (by simpa using hi)
    rw [List.cons_append, rep_on new c _ h0, rep_line new t ht r]
    rfl
/-- an end, and lines behind it -/
def behindE (L : List (List UInt8)) : List UInt8 := 13 :: 10 :: joinEnds L
theorem behindE_cons (l : List UInt8) (L : List (List UInt8)) : behindE (l :: L) = 13 :: 10 :: (l ++ behindE L) := by
  unfold behindE
  rw [joinEnds]
theorem rep_behind (new : List UInt8) (f : List UInt8 → List UInt8) (hd : ∀ l, new ++ l = 13 :: 10 :: f (46 :: l)) (hf : ∀ l, l.head? ≠ some 46 → f l = l) : ∀ (L : List (List UInt8)), (∀ s ∈ L, NoEnd s) → rep new (behindE L) = behindE (L.map f)
  | [], _ => by
    unfold behindE
    rw [joinEnds, rep_on new _ _ (by simp), rep_on new _ _ (by simp), rep_nil]
    rfl
  | l :: L, h => by
    have ih := rep_behind new f hd hf L (fun s hs => h s (by simp [hs]))
    have hl := h l (by simp)
    rw [behindE_cons, List.map_cons, behindE_cons, ← ih]
    have eb : ∃ r, behindE L = 13 :: r := ⟨_, rfl⟩
    obtain ⟨r, hr⟩ := eb
    rw [hr]
    cases l with
    | nil =>
      rw [hf [] (by simp)]
      rw [rep_on new 13 _ (by simp), rep_on new 10 _ (by simp)]
      rfl
    | cons c t =>
      by_cases hc : c = 46
      · subst hc
        have ht : NoEnd t := fun i hi => hl (i + 1) (by simpa using hi)
        rw [List.cons_append, rep_hit, rep_line new t ht, ← List.append_assoc, hd]
        rfl
      · rw [hf (c :: t) (by simpa using hc)]
        rw [rep_on new 13 _ (by simpa using hc), rep_on new 10 _ (by simp), rep_line new (c :: t) hl]
theorem rep_stuff (L : List (List UInt8)) (h : ∀ s ∈ L, NoEnd s) : rep [13, 10, 46, 46] (behindE L) = behindE (L.map stuffD) :=
  rep_behind _ stuffD (fun l => by simp [stuffD]) (fun l hl => by unfold stuffD; rw [if_neg hl]) L h
theorem rep_unst (L : List (List UInt8)) (h : ∀ s ∈ L, NoEnd s) : rep [13, 10] (behindE L) = behindE (L.map unstD) :=
  rep_behind _ unstD (fun l => by simp [unstD]) (fun l hl => by unfold unstD; rw [if_neg hl]) L h
/-- what the document sends -/
theorem ref_sent (b : List UInt8) : (rep [13, 10, 46, 46] (13 :: 10 :: wholeD b)).drop 2 ++ [46, 13, 10] = sentD b := by
  rw [whole_all]
  have := rep_stuff (allD b) (all_noEnd b)
  unfold behindE at this
  rw [this, sent_eq, joinEnds_app]
  simp [joinEnds]
def endP : List UInt8 := [13, 10, 46, 13, 10]
theorem occ_five (s : List UInt8) (i : Nat) : Lib.occAt s endP i = true ↔ ∃ r, s.drop i = 13 :: 10 :: 46 :: 13 :: 10 :: r := by
  unfold Lib.occAt endP
  rw [List.isPrefixOf_iff_prefix]
  constructor
  · rintro ⟨r, h⟩; exact ⟨r, by rw [← h]; rfl⟩
  · rintro ⟨r, h⟩; exact ⟨r, by rw [h]; rfl⟩
theorem occ_two_of (s : List UInt8) (i : Nat) (h : Lib.occAt s endP i = true) : s[i]? = some 13 ∧ s[i + 1]? = some 10 := by
  obtain ⟨r, hr⟩ := (occ_five s i).1 h
  have e0 : s[i]? = (s.drop i)[0]? := by rw [List.getElem?_drop, Nat.add_zero]
  have e1 : s[i + 1]? = (s.drop i)[1]? := by rw [List.getElem?_drop]
  rw [e0, e1, hr]
  exact ⟨rfl, rfl⟩
/-- in a line no end stands ahead of its own -/
theorem no_two (l r : List UInt8) (h : NoEnd l) (j : Nat) (hj : j < l.length) : ¬ ((l ++ 13 :: r)[j]? = some 13 ∧ (l ++ 13 :: r)[j + 1]? = some 10) := by
  rintro ⟨h1, h2⟩
  rw [List.getElem?_append_left hj] at h1
  by_cases hj2 : j + 1 < l.length
  · rw [List.getElem?_append_left hj2] at h2
    exact h j ⟨h1, h2⟩
  · have e : j + 1 = l.length := by omega
    rw [e, List.getElem?_append_right (Nat.le_refl _)] at h2
    simp at h2
theorem dot_line (l r : List UInt8) (h : NoEnd l) (he : ∃ r', l ++ 13 :: 10 :: r = 46 :: 13 :: 10 :: r') : l = [46] := by
  obtain ⟨r', he⟩ := he
  cases l with
  | nil => simp at he
  | cons c t =>
    simp only [List.cons_append, List.cons.injEq] at he
    obtain ⟨rfl, he⟩ := he
    cases t with
    | nil => rfl
    | cons d u =>
      simp only [List.cons_append, List.cons.injEq] at he
      obtain ⟨rfl, he⟩ := he
      exfalso
      cases u with
      | nil => simp at he
      | cons e v =>
        simp only [List.cons_append, List.cons.injEq] at he
        obtain ⟨rfl, he⟩ := he
        exact h 1 ⟨rfl, rfl⟩
/-- where the document finds the end -/
theorem ref_index (rest : List UInt8) (hrest : NoEnd rest) : ∀ (L : List (List UInt8)), (∀ s ∈ L, NoEnd s) →
    ((∀ l ∈ L, l ≠ [46]) → Lib.index (13 :: 10 :: (joinEnds L ++ rest)) endP = -1) ∧
    ∀ pre X, L = pre ++ [46] :: X → (∀ l ∈ pre, l ≠ [46]) → Lib.index (13 :: 10 :: (joinEnds L ++ rest)) endP = (joinEnds pre).length
  | [], _ => by
    refine ⟨fun _ => ?_, fun pre X h => by simp at h⟩
    refine Lib.index_none fun j _ => ?_
    cases ho : Lib.occAt (13 :: 10 :: (joinEnds [] ++ rest)) endP j with
    | false => rfl
    | true =>
      exfalso
      obtain ⟨r, hr⟩ := (occ_five _ _).1 ho
      match j, hr with
      | 0, hr =>
        simp [joinEnds] at hr
        exact hrest 1 ⟨by rw [hr]; rfl, by rw [hr]; rfl⟩
      | 1, hr => simp at hr
      | j + 2, hr =>
        have := occ_two_of _ _ ho
        simp [joinEnds] at this
        exact hrest j this
  | l :: L, h => by
    have ih := ref_index rest hrest L (fun s hs => h s (by simp [hs]))
    have hl := h l (by simp)
    have e : 13 :: 10 :: (joinEnds (l :: L) ++ rest) = 13 :: 10 :: (l ++ 13 :: (10 :: (joinEnds L ++ rest))) := by simp [joinEnds]
    rw [e]
    by_cases hd : l = [46]
    · subst hd
      have h0 : Lib.index (13 :: 10 :: ([46] ++ 13 :: (10 :: (joinEnds L ++ rest)))) endP = (0 : Nat) :=
        Lib.index_first (Nat.zero_le _) ((occ_five _ _).2 ⟨joinEnds L ++ rest, rfl⟩) (fun j hj => absurd hj (Nat.not_lt_zero _))
      refine ⟨fun hn => absurd rfl (hn [46] (by simp)), fun pre X hp hn => ?_⟩
      cases pre with
      | nil => exact h0
      | cons p q =>
        injection hp with hp _
        exact absurd hp.symm (hn p (by simp))
    · have hno : Lib.NoOcc (13 :: 10 :: (l ++ 13 :: (10 :: (joinEnds L ++ rest)))) endP (l.length + 2) := by
        intro j hj
        cases ho : Lib.occAt (13 :: 10 :: (l ++ 13 :: (10 :: (joinEnds L ++ rest)))) endP j with
        | false => rfl
        | true =>
          exfalso
          obtain ⟨r, hr⟩ := (occ_five _ _).1 ho
          match j, hj, hr, ho with
          | 0, _, hr, _ =>
            rw [List.drop_zero] at hr
            injection hr with _ hr
            injection hr with _ hr
            exact hd (dot_line l _ hl ⟨_, hr⟩)
          | 1, _, hr, _ => simp at hr
          | j + 2, hj, _, ho =>
            have := occ_two_of _ _ ho
            simp only [List.getElem?_cons_succ] at this
            exact no_two l _ hl j (by omega) this
      have hdr : (13 :: 10 :: (l ++ 13 :: (10 :: (joinEnds L ++ rest)))).drop (l.length + 2) = 13 :: 10 :: (joinEnds L ++ rest) := by
        rw [show l.length + 2 = (l.length + 1) + 1 from rfl, List.drop_succ_cons, List.drop_succ_cons]
        rw [List.drop_append_of_le_length (Nat.le_refl _), List.drop_length]
        rfl
      have hix := Lib.index_drop hno (by simp)
      rw [hdr] at hix
      refine ⟨fun hn => ?_, fun pre X hp hn => ?_⟩
      · rw [hix, ih.1 (fun x hx => hn x (by simp [hx]))]
        rfl
      · cases pre with
        | nil =>
          injection hp with hp _
          exact absurd hp hd
        | cons p q =>
          injection hp with hp hq
          subst hp
          have h2 := ih.2 q X hq (fun x hx => hn x (by simp [hx]))
          rw [hix, h2, if_neg (by simp)]
          simp only [joinEnds, List.length_append, List.length_cons]
          omega
/-- what the document reads -/
theorem ref_read (b : List UInt8) : (Lib.index (13 :: 10 :: b) endP = -1 ∧ readD b = none) ∨
    ∃ i : Nat, Lib.index (13 :: 10 :: b) endP = i ∧ i + 5 ≤ b.length + 2 ∧ readD b = some ((rep [13, 10] ((13 :: 10 :: b).take (i + 2))).drop 2, i + 3) := by
  have hs := split_eq b
  have hn := lines_noEnd b
  obtain ⟨i1, i2⟩ := ref_index (restD b) (rest_noEnd b) (linesD b) hn
  rw [← hs] at i1 i2
  unfold readD
  rcases read_ways (linesD b) with ⟨h1, h2⟩ | ⟨pre, X, h1, h2, h3⟩
  · exact .inl ⟨i1 h2, h1⟩
  · right
    refine ⟨(joinEnds pre).length, i2 pre X h1 h2, ?_, ?_⟩
    · have := congrArg List.length hs
      rw [List.length_append, h1, joinEnds_app, List.length_append] at this
      simp only [joinEnds, List.length_append, List.length_cons, List.length_nil] at this
      omega
    · rw [h3]
      have ht : (13 :: 10 :: b).take ((joinEnds pre).length + 2) = behindE pre := by
        rw [show (joinEnds pre).length + 2 = ((joinEnds pre).length + 1) + 1 from rfl, List.take_succ_cons, List.take_succ_cons]
        conv => lhs; rw [hs]
        rw [h1, joinEnds_app, List.append_assoc, List.take_append_of_le_length (Nat.le_refl _), List.take_length]
        rfl
      rw [ht, rep_unst pre (fun s hs => hn s (by rw [h1]; simp [hs])), flat_lineU]
      rfl
end Go.Proofs.YtlpplmcploddaaaDoor
