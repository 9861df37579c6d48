/-
  Merged texts (CdR, CdG, CdH, CdI, CdJ, CdK, CdL, CdM, CdN, CdBk, Go, Gs), each under a head of its own that says what it proves and under which conditions.
-/
import Derived.Test.YtnkepdeegpampaaGreatDoorM06
import Derived.Test.YtnkepdeegpampaaGreatDoorM05
import Derived.Deep.RegionLaw
import Derived.Test.YtnkepdeegpampaaGreatDoorM01
import Derived.OpenShut
import Derived.SliceStrings
import Derived.Deep.Strs
import Derived.WideShapes
/-
  Commands in plain terms: letters turned, blanks ahead and behind, long lines. No conditions.
-/
namespace Go.Proofs.YtnkepdeegpampaaGreatDoor

/-- letters turned small, by numbers -/
def trnC (bl : List UInt8) (i : Nat) (c : UInt8) : UInt8 := if (65 ≤ c ∧ c ≤ 90) ∧ ∃ h : i < bl.length, bl[i] % 2 = 1 then c + 97 - 65 else c
def trnD (bl : List UInt8) (x : List UInt8) : List UInt8 := x.mapIdx (trnC bl)
theorem trn_upc : ∀ c : UInt8, (65 ≤ c ∧ c ≤ 90) → upc (c + 97 - 65) = upc c := all_u8 (by decide +kernel)
theorem trn_up (bl x : List UInt8) : up (trnD bl x) = up x := by
  unfold up trnD
  apply List.ext_getElem (by simp)
  intro i h1 h2
  rw [List.getElem_map, List.getElem_map, List.getElem_mapIdx]
  unfold trnC
  split
  · rename_i h
    exact trn_upc _ h.1
  · rfl
theorem trn_len (bl x : List UInt8) : (trnD bl x).length = x.length := by unfold trnD; simp
/-- a text that is, but for letters' size, a row of parts -/
theorem up_parts {t a b : List UInt8} (h : up t = a ++ b) : ∃ x y, t = x ++ y ∧ up x = a ∧ up y = b := by
  obtain ⟨x, y, h1, h2, h3⟩ := List.map_eq_append_iff.1 h
  exact ⟨x, y, h1, h2, h3⟩
theorem up_cons {t l : List UInt8} (h : up t = 32 :: l) : ∃ r, t = 32 :: r ∧ up r = l := by
  cases t with
  | nil => simp [up] at h
  | cons x r =>
    unfold up at h
    rw [List.map_cons] at h
    injection h with h1 h2
    exact ⟨r, by rw [(upc_32 x).1 h1], h2⟩
/-- a right command's line with the word's letters turned -/
theorem turned_word {c : Cm} (h : rightC c = true) {w : List UInt8} (hw : up w = wordP c.verb) : cmdP (w ++ (lineP c).drop (wordP c.verb).length) = (c, 0) ∧ (w ++ (lineP c).drop (wordP c.verb).length).length = (lineP c).length := by
  obtain ⟨hn, h1, h2, ht, e⟩ := right_some h
  have hwl : w.length = (wordP c.verb).length := by rw [← hw, up_len]
  have hd : (lineP c).drop (wordP c.verb).length = if behindP c = [] then [] else 32 :: behindP c := by rw [e, List.drop_left]
  have hlen : (w ++ (lineP c).drop (wordP c.verb).length).length = (lineP c).length := by
    rw [hd, List.length_append, hwl, e, List.length_append]
  refine ⟨?_, hlen⟩
  refine cmd_of (blank := !decide (behindP c = [])) h1 h2 hw ht (fun hh => by simpa using hh) ?_ (by omega)
  rw [hd]
  by_cases hb : behindP c = [] <;> simp [hb]
/-- what MAIL and RCPT say: a path, and parameters -/
theorem sent_some {c : Cm} {ahead : List UInt8} (hv : c.verb = 3 ∧ ahead = fromT ∨ c.verb = 4 ∧ ahead = toT) (h : rightC c = true) :
    SentOk c.path c.params 510 ∧ behindP c = ahead ++ (printD c.path ++ c.params.flatMap pmT) ∧ c = { verb := c.verb, path := c.path, params := c.params } ∧ (c.verb = 3 → aloneC c.path = false) ∧ (c.verb = 4 → c.path.null = false) ∧ up ahead = ahead := by
  obtain ⟨hn, h1, h2, ht, e⟩ := right_some h
  generalize hbl : (!decide (behindP c = [])) = bl at ht
  obtain ⟨v, arg, p, l⟩ := c
  rcases hv with ⟨hv, rfl⟩ | ⟨hv, rfl⟩
  · obtain rfl : v = 3 := hv
    have hs : (({ verb := 3, path := (sentP (behindP ⟨3, arg, p, l⟩) fromT).1, params := (sentP (behindP ⟨3, arg, p, l⟩) fromT).2.1 } : Cm), (sentP (behindP ⟨3, arg, p, l⟩) fromT).2.2 && !aloneC (sentP (behindP ⟨3, arg, p, l⟩) fromT).1) = ((⟨3, arg, p, l⟩ : Cm), true) := ht
    rw [Prod.mk.injEq, Bool.and_eq_true, Cm.mk.injEq] at hs
    obtain ⟨⟨_, e2, e3, e4⟩, hs, ha⟩ := hs
    obtain ⟨k, kl⟩ := sentP_some hs
    have hbn : (behindP ⟨3, arg, p, l⟩).length ≤ 510 := by
      rw [e, List.length_append] at hn
      by_cases hb : behindP ⟨3, arg, p, l⟩ = []
      · rw [hb]; exact Nat.zero_le _
      · rw [if_neg hb, List.length_cons] at hn; omega
    rw [e3, e4] at k
    rw [e3] at ha
    have e2 : arg = [] := e2.symm
    have hk : SentOk p l 510 := ⟨k.right, k.fine, by have := k.len; omega⟩
    refine ⟨hk, ?_, by rw [e2], fun _ => by simpa using ha, (fun h => by cases h), from_up.1⟩
    show sentT fromT _ = _
    unfold sentT pathT
    rw [if_pos k.right]
  · obtain rfl : v = 4 := hv
    have hs : (({ verb := 4, path := (sentP (behindP ⟨4, arg, p, l⟩) toT).1, params := (sentP (behindP ⟨4, arg, p, l⟩) toT).2.1 } : Cm), (sentP (behindP ⟨4, arg, p, l⟩) toT).2.2 && !(sentP (behindP ⟨4, arg, p, l⟩) toT).1.null) = ((⟨4, arg, p, l⟩ : Cm), true) := ht
    rw [Prod.mk.injEq, Bool.and_eq_true, Cm.mk.injEq] at hs
    obtain ⟨⟨_, e2, e3, e4⟩, hs, ha⟩ := hs
    obtain ⟨k, kl⟩ := sentP_some hs
    have hbn : (behindP ⟨4, arg, p, l⟩).length ≤ 510 := by
      rw [e, List.length_append] at hn
      by_cases hb : behindP ⟨4, arg, p, l⟩ = []
      · rw [hb]; exact Nat.zero_le _
      · rw [if_neg hb, List.length_cons] at hn; omega
    rw [e3, e4] at k
    rw [e3] at ha
    have e2 : arg = [] := e2.symm
    have hk : SentOk p l 510 := ⟨k.right, k.fine, by have := k.len; omega⟩
    refine ⟨hk, ?_, by rw [e2], (fun h => by cases h), fun _ => by simpa using ha, from_up.2⟩
    show sentT toT _ = _
    unfold sentT pathT
    rw [if_pos k.right]
theorem ahead_ne {c : Cm} {ahead : List UInt8} (hv : c.verb = 3 ∧ ahead = fromT ∨ c.verb = 4 ∧ ahead = toT) (t : List UInt8) : ahead ++ t ≠ [] := by
  rcases hv with ⟨_, rfl⟩ | ⟨_, rfl⟩ <;> simp [fromT, toT]
/-- the line of MAIL and RCPT -/
theorem sent_line {c : Cm} {ahead : List UInt8} (hv : c.verb = 3 ∧ ahead = fromT ∨ c.verb = 4 ∧ ahead = toT) (h : rightC c = true) : lineP c = wordP c.verb ++ 32 :: (ahead ++ (printD c.path ++ c.params.flatMap pmT)) := by
  obtain ⟨_, h2, _⟩ := sent_some hv h
  obtain ⟨_, _, _, _, e⟩ := right_some h
  rw [e, h2, if_neg (ahead_ne hv _)]
/-- what MAIL and RCPT are told of texts that may be theirs -/
theorem told_sent {c : Cm} {ahead : List UInt8} (hv : c.verb = 3 ∧ ahead = fromT ∨ c.verb = 4 ∧ ahead = toT) (h : rightC c = true) {b : List UInt8} {r : Bool} {l : List Pm} (hb : sentP b ahead = (c.path, l, r)) (hl : r = true → l = c.params) : (toldP c.verb b true).2 = r ∧ (r = true → toldP c.verb b true = (c, true)) := by
  obtain ⟨h1, h2, h3, h4, h5, _⟩ := sent_some hv h
  obtain ⟨v, arg, p, q⟩ := c
  rcases hv with ⟨hv, rfl⟩ | ⟨hv, rfl⟩
  · obtain rfl : v = 3 := hv
    have e : toldP 3 b true = (({ verb := 3, path := (sentP b fromT).1, params := (sentP b fromT).2.1 } : Cm), (sentP b fromT).2.2 && !aloneC (sentP b fromT).1) := rfl
    show (toldP 3 b true).2 = r ∧ (r = true → toldP 3 b true = _)
    have ha : aloneC p = false := h4 rfl
    rw [e, hb]
    simp only [ha]
    refine ⟨by simp, fun hr => ?_⟩
    rw [hl hr, hr]
    exact congrArg (·, true) h3.symm
  · obtain rfl : v = 4 := hv
    have e : toldP 4 b true = (({ verb := 4, path := (sentP b toT).1, params := (sentP b toT).2.1 } : Cm), (sentP b toT).2.2 && !(sentP b toT).1.null) := rfl
    show (toldP 4 b true).2 = r ∧ (r = true → toldP 4 b true = _)
    have ha : p.null = false := h5 rfl
    rw [e, hb]
    simp only [ha]
    refine ⟨by simp, fun hr => ?_⟩
    rw [hl hr, hr]
    exact congrArg (·, true) h3.symm
/-- the line of MAIL and RCPT with letters turned: the word, what stands ahead of the path, the keys -/
theorem turned_sent {c : Cm} {ahead : List UInt8} (hv : c.verb = 3 ∧ ahead = fromT ∨ c.verb = 4 ∧ ahead = toT) (h : rightC c = true) {t : List UInt8} (ht : up t = wordP c.verb ++ 32 :: ahead) {ks : List (List UInt8)} (hk : ks.map up = c.params.map (·.key)) :
    cmdP (t ++ (printD c.path ++ joinC 32 ((ks.zip c.params).map fun x => pmS x.1 x.2))) = (c, 0) ∧ (t ++ (printD c.path ++ joinC 32 ((ks.zip c.params).map fun x => pmS x.1 x.2))).length = (lineP c).length := by
  obtain ⟨h1, h2, h3, h4, h5, h6⟩ := sent_some hv h
  obtain ⟨hn, v1, v2, _, _⟩ := right_some h
  have hpl : ∀ (l : List Pm) (ks : List (List UInt8)), ks.map up = l.map (·.key) → (joinC 32 ((ks.zip l).map fun x => pmS x.1 x.2)).length = (l.flatMap pmT).length := by
    intro l
    induction l with
    | nil => intro ks _; simp [joinC]
    | cons p l ih =>
      intro ks e
      cases ks with
      | nil => simp at e
      | cons k ks =>
        rw [List.map_cons, List.map_cons] at e
        injection e with e1 e2
        have ek : k.length = p.key.length := by rw [← e1, up_len]
        rw [List.zip_cons_cons, List.map_cons, joinC, List.flatMap_cons, List.flatMap_cons, List.length_append, List.length_append]
        have := ih ks e2
        rw [joinC] at this
        rw [this]
        show (32 :: (k ++ _)).length + _ = (32 :: (p.key ++ _)).length + _
        rw [List.length_cons, List.length_cons, List.length_append, List.length_append, ek]
  have hlen : (t ++ (printD c.path ++ joinC 32 ((ks.zip c.params).map fun x => pmS x.1 x.2))).length = (lineP c).length := by
    rw [sent_line hv h]
    have := congrArg List.length ht
    rw [up_len] at this
    rw [List.length_append, List.length_append, hpl _ _ hk, this]
    simp
    omega
  refine ⟨?_, hlen⟩
  obtain ⟨w, y, rfl, e1, e2⟩ := up_parts ht
  obtain ⟨a, rfl, e3⟩ := up_cons e2
  have hp := params_all c.params h1.fine ks hk
  have hs := sentP_back h1 hp e3
  obtain ⟨_, k2⟩ := told_sent hv h hs (fun _ => rfl)
  refine cmd_of (blank := true) v1 v2 e1 (k2 rfl) (fun hh => by cases hh) ?_ (by omega)
  rw [if_pos rfl]
  simp
/-- a blank ahead of a line says no verb -/
theorem verb_nil : verbP [] = 0 := by decide
theorem blank_ahead {s : List UInt8} (h : s.length < 510) : cmdP (32 :: s) = ({}, 160) := by
  have e : cutW 32 (32 :: s) = [] := by simp [cutW]
  unfold cmdP
  rw [if_neg (by rw [List.length_cons]; omega), e, verb_nil, if_pos rfl]
theorem upc_9 : upc 9 = 9 := by decide
/-- a tab in place of a line's first blank -/
theorem tab_wrong {a b : List UInt8} (ha : ∀ x ∈ a, x ≠ 32) (h : (a ++ 9 :: b).length ≤ 510) : cmdP (a ++ 9 :: b) = ({}, 160) := by
  have hm : (9 : UInt8) ∈ cutW 32 (a ++ 9 :: b) := by
    unfold cutW
    have : a.takeWhile (· != 32) = a := (cut_none ha).1
    rw [List.takeWhile_append, this, if_pos rfl, List.takeWhile_cons, if_pos (by decide)]
    simp
  have hv : verbP (cutW 32 (a ++ 9 :: b)) = 0 := by
    cases hv : decide (verbP (cutW 32 (a ++ 9 :: b)) = 0) with
    | true => exact of_decide_eq_true hv
    | false =>
      exfalso
      obtain ⟨h1, h2, h3⟩ := verb_some (of_decide_eq_false hv)
      have : upc 9 ∈ up (cutW 32 (a ++ 9 :: b)) := List.mem_map.2 ⟨9, hm, rfl⟩
      rw [h3, upc_9] at this
      exact (word_32 h1 h2 _ this).2 rfl
  unfold cmdP
  rw [if_neg (by omega), hv, if_pos rfl]
theorem dom_blank {b : List UInt8} (h : fineB b = true) : fineB (b ++ [32]) = false := by
  unfold fineB at *
  rw [Bool.and_eq_true] at h
  have hx : Stop [32] domStop := fun c hc => by
    obtain rfl : (32 : UInt8) = c := by simpa using hc
    decide
  have e := domain_all hx h.1 (st0 (b ++ [32])) rfl
  have : dB (b ++ [32]) = false := by
    unfold dB allB
    rw [e]
    rfl
  rw [this]
  rfl
theorem fine_br {b : List UInt8} (h : brP b = true) : fineB (b ++ [32]) = false := by
  unfold brP at h
  simp only [Bool.and_eq_true, beq_iff_eq] at h
  cases b with
  | nil => simp at h
  | cons c b =>
    obtain rfl : c = 91 := by simpa using h.1.1
    cases hd : dB (91 :: b ++ [32]) with
    | false => unfold fineB; rw [hd]; rfl
    | true =>
      obtain ⟨c, r, e1, e2⟩ := dB_head hd
      injection e1 with e1 _
      rw [← e1] at e2
      exact absurd e2 (by decide)
theorem br_blank (b : List UInt8) : brP (b ++ [32]) = false := by
  unfold brP
  cases b with
  | nil => rfl
  | cons c b =>
    rw [List.cons_append, List.drop_succ_cons, List.drop_zero]
    simp
theorem some_blank {b : List UInt8} (h : someP shB b = true) : someP shB (b ++ [32]) = true := by
  unfold someP at *
  simp only [Bool.and_eq_true, List.all_append] at *
  refine ⟨⟨h.1, by decide⟩, by simp⟩
theorem params_blank {l : List Pm} (hl : ∀ p ∈ l, PmFine p) : paramsP (l.flatMap pmT ++ [32]) = ([], false) := by
  have e : l.flatMap pmT ++ [32] = joinC 32 ((((l.map (·.key)).zip l).map fun x => pmS x.1 x.2) ++ [[]]) := by
    rw [pmT_join, joinC, joinC, List.flatMap_append]
    rfl
  have hno : ∀ (l : List Pm), (∀ p ∈ l, PmFine p) → ∀ p ∈ (((l.map (·.key)).zip l).map fun x => pmS x.1 x.2), ∀ x ∈ p, x ≠ 32 := by
    intro l
    induction l with
    | nil => simp
    | cons p l ih =>
      intro hl q hq
      rw [List.map_cons, List.zip_cons_cons, List.map_cons] at hq
      rcases List.mem_cons.1 hq with rfl | hq
      · exact (pm_back (hl p (by simp)) (hl p (by simp)).2.1).2.2
      · exact ih (fun r hr => hl r (by simp [hr])) q hq
  have hs := split_join (c := 32) (l := (((l.map (·.key)).zip l).map fun x => pmS x.1 x.2) ++ [[]]) (fun p hp => by
    rcases List.mem_append.1 hp with hp | hp
    · exact hno l hl p hp
    · obtain rfl : p = [] := by simpa using hp
      simp) (a := []) (by simp)
  rw [List.nil_append] at hs
  unfold paramsP
  rw [e, hs, if_neg]
  rintro ⟨_, h2⟩
  rw [List.tail_cons, List.all_append, Bool.and_eq_true] at h2
  have := h2.2
  revert this
  decide
/-- a blank behind a right command's line -/
theorem blank_free {c : Cm} (h : rightC c = true) (hv : 7 ≤ c.verb ∧ c.verb ≤ 10) (ha : c.arg ≠ []) (hn : (lineP c).length < 510) : cmdP (lineP c ++ [32]) = (({ verb := c.verb, arg := c.arg ++ [32] } : Cm), 0) := by
  obtain ⟨_, h1, h2, ht, e⟩ := right_some h
  have hb : behindP c = c.arg := by unfold behindP; rw [if_neg (by omega), if_neg (by omega)]
  rw [hb, if_neg ha] at e
  rw [hb, decide_eq_false ha] at ht
  have hlen : (lineP c ++ [32]).length ≤ 510 := by rw [List.length_append]; simp; omega
  have ht2 : toldP c.verb (c.arg ++ [32]) true = (({ verb := c.verb, arg := c.arg ++ [32] } : Cm), true) := by
    have hs : someP shB c.arg = true := by
      have h2 := (Prod.mk.inj ht).2
      obtain ⟨v, arg, p, l⟩ := c
      simp only at hv
      obtain hv | hv | hv | hv : v = 7 ∨ v = 8 ∨ v = 9 ∨ v = 10 := by omega
      all_goals
        subst hv
        exact h2
    have := some_blank hs
    obtain ⟨v, arg, p, l⟩ := c
    simp only at hv
    obtain hv | hv | hv | hv : v = 7 ∨ v = 8 ∨ v = 9 ∨ v = 10 := by omega
    all_goals
      subst hv
      exact Prod.ext rfl this
  exact cmd_of (blank := true) h1 h2 (word_up h1 h2).1 ht2 (fun hh => by cases hh) (by rw [e]; simp) hlen
theorem blank_wrong {c : Cm} (h : rightC c = true) (hv : ¬ ((7 ≤ c.verb ∧ c.verb ≤ 10) ∧ c.arg ≠ [])) (hn : (lineP c).length < 510) : cmdP (lineP c ++ [32]) = ({}, 161) := by
  obtain ⟨_, h1, h2, ht, e⟩ := right_some h
  have hlen : (lineP c ++ [32]).length ≤ 510 := by rw [List.length_append]; simp; omega
  by_cases hs : c.verb = 3 ∨ c.verb = 4
  · obtain ⟨ahead, hv2⟩ : ∃ ahead, (c.verb = 3 ∧ ahead = fromT ∨ c.verb = 4 ∧ ahead = toT) := by
      rcases hs with h | h
      · exact ⟨fromT, .inl ⟨h, rfl⟩⟩
      · exact ⟨toT, .inr ⟨h, rfl⟩⟩
    obtain ⟨k1, k2, k3, k4, k5, k6⟩ := sent_some hv2 h
    have hq : sentP (ahead ++ (printD c.path ++ (c.params.flatMap pmT ++ [32]))) ahead = (c.path, [], false) := by
      unfold sentP
      rw [List.take_left, k6, if_neg (by simp), List.drop_left]
      unfold sentQ
      rw [parseP_all (print_path k1.right) _, if_pos rfl]
      simp only [List.drop_left, params_blank k1.fine]
    obtain ⟨q1, _⟩ := told_sent hv2 h hq (fun hh => by cases hh)
    refine cmd_wrong (blank := true) h1 h2 (word_up h1 h2).1 q1 (fun hh => by cases hh) ?_ hlen
    rw [sent_line hv2 h, if_pos rfl]
    simp
  · have hb : behindP c = c.arg := by unfold behindP; rw [if_neg (by omega), if_neg (by omega)]
    rw [hb] at e ht
    by_cases ha : c.arg = []
    · rw [ha, if_pos rfl, List.append_nil] at e
      refine cmd_wrong (b := []) (blank := true) h1 h2 (word_up h1 h2).1 ?_ (fun hh => by cases hh) (by rw [e]; rfl) hlen
      rw [ha] at ht
      obtain ⟨v, arg, p, l⟩ := c
      simp only at h1 h2 hs
      have h2' := (Prod.mk.inj ht).2
      obtain hv | hv | hv | hv | hv | hv | hv | hv | hv : v = 1 ∨ v = 2 ∨ v = 5 ∨ v = 6 ∨ v = 7 ∨ v = 8 ∨ v = 9 ∨ v = 10 ∨ v = 11 := by omega
      · subst hv; exact fine_nil
      · subst hv
        show (fineB [] || brP []) = false
        rw [fine_nil, br_nil]
        rfl
      all_goals
        subst hv
        rfl
    · have hv1 : c.verb = 1 ∨ c.verb = 2 := by
        have hno : ¬ (7 ≤ c.verb ∧ c.verb ≤ 10) := fun h => hv ⟨h, ha⟩
        obtain ⟨v, arg, p, l⟩ := c
        simp only at h1 h2 hs hno ha ⊢
        obtain hv | hv | hv | hv | hv : v = 1 ∨ v = 2 ∨ v = 5 ∨ v = 6 ∨ v = 11 := by omega
        · exact .inl hv
        · exact .inr hv
        all_goals
          exfalso
          subst hv
          have e2 := (Prod.mk.inj ht).1
          have : ([] : List UInt8) = arg := congrArg Cm.arg e2
          exact ha this.symm
      rw [if_neg ha] at e
      rw [decide_eq_false ha] at ht
      refine cmd_wrong (b := c.arg ++ [32]) (blank := true) h1 h2 (word_up h1 h2).1 ?_ (fun hh => by cases hh) (by rw [e]; simp) hlen
      obtain ⟨v, arg, p, l⟩ := c
      have h3 := (Prod.mk.inj ht).2
      rcases hv1 with hv1 | hv1
      · obtain rfl : v = 1 := hv1
        have h4 : fineB arg = true := h3
        exact dom_blank h4
      · obtain rfl : v = 2 := hv1
        have h4 : (fineB arg || brP arg) = true := h3
        show (fineB (arg ++ [32]) || brP (arg ++ [32])) = false
        rw [br_blank, Bool.or_false]
        cases hf : fineB arg with
        | true => exact dom_blank hf
        | false => rw [hf] at h4; exact fine_br (by simpa using h4)
/-- long lines -/
def longT (n : Nat) (c : UInt8) : List UInt8 := List.replicate n c
theorem long_yes {n : Nat} {c : UInt8} (hn : 1 ≤ n ∧ n ≤ 505) (hc : shB c = true) : cmdP ([86, 82, 70, 89, 32] ++ longT n c) = (({ verb := 7, arg := longT n c } : Cm), 0) := by
  refine cmd_of (w := [86, 82, 70, 89]) (blank := true) (v := 7) (by omega) (by omega) (by decide) (b := longT n c) ?_ (fun hh => by cases hh) rfl (by simp [longT]; omega)
  show (({ verb := 7, arg := longT n c } : Cm), someP shB (longT n c)) = _
  have : someP shB (longT n c) = true := by
    unfold someP longT
    obtain ⟨m, rfl⟩ : ∃ m, n = m + 1 := ⟨n - 1, by omega⟩
    simp [hc]
  rw [this]
theorem long_much {s : List UInt8} (h : 510 < s.length) : cmdP s = ({}, 3) := by unfold cmdP; rw [if_pos h]
theorem long_verb (r : List UInt8) (h : r.length ≤ 505) : cmdP ([120, 82, 70, 89, 32] ++ r) = ({}, 160) := by
  have e : cutW 32 ([120, 82, 70, 89, 32] ++ r) = [120, 82, 70, 89] := (cut_at (a := [120, 82, 70, 89]) (by decide) r).1
  unfold cmdP
  rw [if_neg (by simp; omega), e, if_pos (by decide)]
end Go.Proofs.YtnkepdeegpampaaGreatDoor

/-
  The contract of command.Parse. Conditions: the variables that are read.
-/
namespace Go.Proofs.YtnkepdeegpampaaGreatDoor
open Go.RowKit Go.Shelf

theorem cut_has_b (c : UInt8) (s : List UInt8) : cutH c s = false → cutB c s = [] := fun h => (cut_no c s h).2
set_option maxRecDepth 100000 in
set_option maxHeartbeats 4000000 in
theorem cparse_any (line : List UInt8) (hl : line.length ≤ 9223372036854775807) (w : World) (he : Env w) : Calls Tryz.prog 11 #[.string (bs line)] w (CmdOut w (cmdP line).1 (.int .i64 (cmdP line).2)) := by
  obtain ⟨W0, hW0⟩ : ∃ W0, W0 = w.alloc (.cells #[.int .u8 0, .string ⟨#[]⟩, .bool false, .slice none 0 0, .string ⟨#[]⟩, .string ⟨#[]⟩, .bool false, .slice none 0 0] 29) := ⟨_, rfl⟩
  have hsz : W0.heap.size = w.heap.size + 1 := by rw [hW0, World.size_alloc]
  have hb0 : Below w.heap.size w W0 := by rw [hW0]; exact (Below.refl _ w).alloc (Nat.le_refl _) _
  have hx0 : Blk W0 w.heap.size 29 cmZero := by rw [hW0]; exact Blk.new _ _ _
  have he0 := he.later hb0
  have HE := Lib.hid (fun W (hW : Below W0.heap.size W0 W) => he0.later hW)
  have HX := Lib.hid (fun W (hW : Below W0.heap.size W0 W) => (show Blk W w.heap.size 29 cmZero from hx0.below hW hx0.lt))
  have HB := Lib.hid (fun W (hW : Below W0.heap.size W0 W) => low_trans hb0 hW)
  have HW0 := Lib.hid hW0
  have HSZ : Hid (w.heap.size < W0.heap.size) := by show _ < _; omega
  have hls : (bs line).size = line.length := rfl
  have HQ0 : Hid (∀ z W', cmdP line = ({}, z) → Below w.heap.size w W' → CmdOut w (cmdP line).1 (.int .i64 (cmdP line).2) (.returned (.tuple #[.agg #[.int .u8 0, .string ⟨#[]⟩, .bool false, .slice none 0 0, .string ⟨#[]⟩, .string ⟨#[]⟩, .bool false, .slice none 0 0], .int .i64 z])) W') := fun z W' h hb => by
    rw [h]
    exact ⟨none, 0, none, 0, rfl, RowFrom.none_ _ _ _, Nat.le_refl _, RowFrom.none_ _ _ _, Nat.le_refl _, hb⟩
  by_cases hlt : 510 < line.length
  · have hc : cmdP line = ({}, 3) := long_much hlt
    have HO := Lib.hid (fun W' hb => HQ0.out 3 W' hc hb)
    have hlz : (510 : Int) < (line.length : Int) := by omega
    generalize CmdOut w (cmdP line).1 (.int .i64 (cmdP line).2) = Q at *
    have HZ := Lib.hid (HX.out W0 (Below.refl _ _))
    have HL := Lib.hid (HB.out W0 (Below.refl _ _))
    obtain ⟨x0, x1, x2, x3, x4, x5, x6, x7⟩ := cmZero_cells HZ.out
    obtain ⟨z0, z1, z2, z3, z4, z5, z6, z7⟩ := froz8 HZ.out
    clear hW0 hb0 hx0 he0 he hc hlt HX HQ0 HE hsz HSZ
    generalize bs line = S at *
    go_enter Tryz.func11, Tryz.ntmps11
    go_upto_region 1 with (fail)
    rw [← HW0.out]
    obtain ⟨g0, hg0⟩ : ∃ g0, g0 = w.heap.size := ⟨_, rfl⟩
    rw [← hg0] at x0 x1 x2 x3 x4 x5 x6 x7 z0 z1 z2 z3 z4 z5 z6 z7 HZ HL HO ⊢
    clear hg0 HW0
    go_wp2
    refine bodyPost_ret (results_cell_tmp rfl _ _ g0 29 _ (0, 0) _ rfl (set8_ HZ.out _ _ _ _ _ _ _ _) Tryz.underlying29 rfl infoCmd) rfl ?_
    exact HO.out _ (low8_ HL.out (Nat.le_refl _) _ _ _ _ _ _ _ _)
  · have hlz : ¬ (510 : Int) < (line.length : Int) := by omega
    obtain ⟨hcw, hcb⟩ := cut_lens 32 line
    have HCU := Lib.hid (fun W (hW : Env W) => cut_any 32 line (by omega) W hW)
    have HVO := Lib.hid (fun W (hW : Env W) => verbOf_any (cutW 32 line) (by omega) W hW)
    have HTO := Lib.hid (fun h1 h2 W (hW : Env W) => told_any (verbP (cutW 32 line)) h1 h2 (cutB 32 line) (by omega) (cutH 32 line) W hW)
    have hcm : cmdP line = if verbP (cutW 32 line) = 0 then ({}, 160) else if (toldP (verbP (cutW 32 line)) (cutB 32 line) (cutH 32 line)).2 = true then ((toldP (verbP (cutW 32 line)) (cutB 32 line) (cutH 32 line)).1, 0) else ({}, 161) := by
      unfold cmdP
      rw [if_neg hlt]
    have HVI : Hid (verbP (cutW 32 line) ≠ 0 → 1 ≤ verbP (cutW 32 line) ∧ verbP (cutW 32 line) ≤ 11) := fun h => ⟨(verb_some h).1, (verb_some h).2.1⟩
    by_cases hv : verbP (cutW 32 line) = 0
    · rw [if_pos hv] at hcm
      have HO := Lib.hid (fun W' hb => HQ0.out 160 W' hcm hb)
      generalize CmdOut w (cmdP line).1 (.int .i64 (cmdP line).2) = Q at *
      rw [hv] at HVO
      clear hW0 hb0 hx0 he0 he hcm hlt HQ0 hsz HVI HTO hcw hcb hv
      generalize bs (cutW 32 line) = S1 at *
      generalize bs (cutB 32 line) = S2 at *
      generalize cutH 32 line = H1 at *
      generalize bs line = S at *
      go_enter Tryz.func11, Tryz.ntmps11
      go_upto_region 1 with (fail)
      rw [← HW0.out]
      obtain ⟨g0, hg0⟩ : ∃ g0, g0 = w.heap.size := ⟨_, rfl⟩
      rw [← hg0] at HX HB HO HSZ ⊢
      clear hg0 HW0
      go_upto_region 5 with (first | (go_at_call 24; refine (HCU.out W0 (HE.out W0 (Below.refl _ _))).mono ?_; rintro e w1 ⟨rfl, hb⟩; have HL1 := Lib.hid hb; clear hb) | (go_at_call 25; refine (HVO.out w1 (HE.out w1 HL1.out)).mono ?_; rintro e w2 ⟨rfl, hb⟩; have HL2 := Lib.hid (low_trans HL1.out hb); clear hb))
      have HZ := Lib.hid (HX.out w2 HL2.out)
      have HL := Lib.hid (HB.out w2 HL2.out)
      obtain ⟨x0, x1, x2, x3, x4, x5, x6, x7⟩ := cmZero_cells HZ.out
      obtain ⟨z0, z1, z2, z3, z4, z5, z6, z7⟩ := froz8 HZ.out
      go_wp2
      refine bodyPost_ret (results_cell_tmp rfl _ _ g0 29 _ (0, 0) _ rfl (set8_ HZ.out _ _ _ _ _ _ _ _) Tryz.underlying29 rfl infoCmd) rfl ?_
      exact HO.out _ (low8_ HL.out (Nat.le_refl _) _ _ _ _ _ _ _ _)
    · rw [if_neg hv] at hcm
      obtain ⟨hv1, hv2⟩ := HVI.out hv
      have HT1 := Lib.hid (HTO.out hv1 hv2)
      have hvz : (((verbP (cutW 32 line) : Nat) : Int) == 0) = false := by simpa using hv
      have HQ1 : Hid ((toldP (verbP (cutW 32 line)) (cutB 32 line) (cutH 32 line)).2 = true → ∀ W' a1 c1 a2 c2, RowFrom w.heap.size W' a1 ((toldP (verbP (cutW 32 line)) (cutB 32 line) (cutH 32 line)).1.path.route.map textV) → (toldP (verbP (cutW 32 line)) (cutB 32 line) (cutH 32 line)).1.path.route.length ≤ c1 → RowFrom w.heap.size W' a2 ((toldP (verbP (cutW 32 line)) (cutB 32 line) (cutH 32 line)).1.params.flatMap pmCells) → (toldP (verbP (cutW 32 line)) (cutB 32 line) (cutH 32 line)).1.params.length ≤ c2 → Below w.heap.size w W' → CmdOut w (cmdP line).1 (.int .i64 (cmdP line).2) (.returned (.tuple #[cmV (toldP (verbP (cutW 32 line)) (cutB 32 line) (cutH 32 line)).1 a1 c1 a2 c2, .int .i64 0])) W') := fun ht W' a1 c1 a2 c2 k1 k2 k3 k4 hb => by
        rw [hcm, if_pos ht]
        exact ⟨a1, c1, a2, c2, rfl, k1, k2, k3, k4, hb⟩
      have HQ2 : Hid ((toldP (verbP (cutW 32 line)) (cutB 32 line) (cutH 32 line)).2 = false → ∀ W', Below w.heap.size w W' → CmdOut w (cmdP line).1 (.int .i64 (cmdP line).2) (.returned (.tuple #[.agg #[.int .u8 0, .string ⟨#[]⟩, .bool false, .slice none 0 0, .string ⟨#[]⟩, .string ⟨#[]⟩, .bool false, .slice none 0 0], .int .i64 161])) W') := fun ht W' hb => HQ0.out 161 W' (by rw [hcm, if_neg (by rw [ht]; decide)]) hb
      generalize CmdOut w (cmdP line).1 (.int .i64 (cmdP line).2) = Q at *
      clear hW0 hb0 hx0 he0 he hcm hlt HQ0 hsz HVI HTO hcw hcb
      generalize toldP (verbP (cutW 32 line)) (cutB 32 line) (cutH 32 line) = T at *
      generalize verbP (cutW 32 line) = v at *
      generalize bs (cutW 32 line) = S1 at *
      generalize bs (cutB 32 line) = S2 at *
      generalize cutH 32 line = H1 at *
      generalize bs line = S at *
      obtain ⟨c, r⟩ := T
      have hvb : (v : Int) ≤ 11 := by omega
      have hva : (0 : Int) ≤ (v : Int) := by omega
      clear hv hv1 hv2
      unfold CmdOut cmV cmCells at HT1
      unfold cmV cmCells at HQ1
      go_enter Tryz.func11, Tryz.ntmps11
      go_upto_region 1 with (fail)
      rw [← HW0.out]
      obtain ⟨g0, hg0⟩ : ∃ g0, g0 = w.heap.size := ⟨_, rfl⟩
      rw [← hg0] at HX HB HQ1 HQ2 HSZ ⊢
      clear hg0 HW0
      go_upto_region 8 with (first | (go_at_call 24; refine (HCU.out W0 (HE.out W0 (Below.refl _ _))).mono ?_; rintro e w1 ⟨rfl, hb⟩; have HL1 := Lib.hid hb; clear hb) | (go_at_call 25; refine (HVO.out w1 (HE.out w1 HL1.out)).mono ?_; rintro e w2 ⟨rfl, hb⟩; have HL2 := Lib.hid (low_trans HL1.out hb); clear hb) | (go_at_call 26; refine (HT1.out w2 (HE.out w2 HL2.out)).mono ?_; rintro e w3 ⟨a1, c1, a2, c2, rfl, k1, k2, k3, k4, hb⟩; have HL3 := Lib.hid (low_trans HL2.out hb); have HR1 := Lib.hid (k1.mono (Nat.lt_of_lt_of_le HSZ.out HL2.out.size)); have HR2 := Lib.hid (k3.mono (Nat.lt_of_lt_of_le HSZ.out HL2.out.size)); have HC1 := Lib.hid k2; have HC2 := Lib.hid k4; clear k1 k2 k3 k4 hb))
      change Code.wp _ _ _ _ (World.alloc w3 (.cells #[.int .u8 (c.verb : Int), .string (bs c.arg), .bool c.path.null, .slice a1 c.path.route.length c1, .string (bs c.path.loc), .string (bs c.path.dom), .bool c.path.lit, .slice a2 c.params.length c2] 29))
      obtain ⟨W4, hW4⟩ : ∃ W4, W4 = w3.alloc (.cells #[.int .u8 (c.verb : Int), .string (bs c.arg), .bool c.path.null, .slice a1 c.path.route.length c1, .string (bs c.path.loc), .string (bs c.path.dom), .bool c.path.lit, .slice a2 c.params.length c2] 29) := ⟨_, rfl⟩
      obtain ⟨g4, hg4⟩ : ∃ g, g = w3.heap.size := ⟨_, rfl⟩
      have HK4 : Hid (Blk W4 g4 29 #[.int .u8 (c.verb : Int), .string (bs c.arg), .bool c.path.null, .slice a1 c.path.route.length c1, .string (bs c.path.loc), .string (bs c.path.dom), .bool c.path.lit, .slice a2 c.params.length c2]) := by rw [hW4, hg4]; exact Blk.new _ _ _
      have HL4 : Hid (Below W0.heap.size W0 W4) := by rw [hW4]; exact HL3.out.alloc HL3.out.size _
      have HR4 : Hid (RowFrom (g0 + 1) W4 a1 (c.path.route.map textV)) := by rw [hW4]; exact HR1.out.below ((Below.refl _ w3).alloc (Nat.le_refl _) _)
      have HR5 : Hid (RowFrom (g0 + 1) W4 a2 (c.params.flatMap pmCells)) := by rw [hW4]; exact HR2.out.below ((Below.refl _ w3).alloc (Nat.le_refl _) _)
      have HG4 : Hid (g0 < g4) := by rw [hg4]; exact Nat.lt_of_lt_of_le HSZ.out HL3.out.size
      rw [← hW4, ← hg4]
      clear hW4 hg4 HCU HVO HT1
      have HZ := Lib.hid (HX.out W4 HL4.out)
      have HL := Lib.hid (HB.out W4 HL4.out)
      obtain ⟨x0, x1, x2, x3, x4, x5, x6, x7⟩ := cmZero_cells HZ.out
      obtain ⟨z0, z1, z2, z3, z4, z5, z6, z7⟩ := froz8 HZ.out
      obtain ⟨y0, y1, y2, y3, y4, y5, y6, y7⟩ := cells8 HK4.out
      have hne : ¬ g4 = g0 := by have := HG4.out; omega
      have hne2 : ¬ g0 = g4 := by have := HG4.out; omega
      cases r with
      | true =>
        have HO := Lib.hid (HQ1.out rfl)
        clear HQ1 HQ2
        go_wp2
        refine bodyPost_ret (results_cell_tmp rfl _ _ g0 29 _ (0, 0) _ rfl (set8_ HZ.out _ _ _ _ _ _ _ _) Tryz.underlying29 rfl infoCmd) rfl ?_
        exact HO.out _ a1 c1 a2 c2 ((row8_ HR4.out (Nat.lt_succ_self _) _ _ _ _ _ _ _ _).mono (Nat.le_succ _)) HC1.out ((row8_ HR5.out (Nat.lt_succ_self _) _ _ _ _ _ _ _ _).mono (Nat.le_succ _)) HC2.out (low8_ HL.out (Nat.le_refl _) _ _ _ _ _ _ _ _)
      | false =>
        have HO := Lib.hid (HQ2.out rfl)
        clear HQ1 HQ2
        go_wp2
        refine bodyPost_ret (results_cell_tmp rfl _ _ g0 29 _ (0, 0) _ rfl (set8_ HZ.out _ _ _ _ _ _ _ _) Tryz.underlying29 rfl infoCmd) rfl ?_
        exact HO.out _ (low8_ HL.out (Nat.le_refl _) _ _ _ _ _ _ _ _)
end Go.Proofs.YtnkepdeegpampaaGreatDoor

/-
  The contracts of command.put, command.sentText, command.lineOf. Conditions: texts of at most 2^40 bytes; the variables that are read.
-/
namespace Go.Proofs.YtnkepdeegpampaaGreatDoor
open Go.RowKit Go.Shelf

/-- a text with pieces behind it, up to 511 bytes -/
def putS (l p : List UInt8) : List UInt8 := l ++ p.take (511 - l.length)
theorem putS_take (F p : List UInt8) : putS (F.take 511) p = (F ++ p).take 511 := by
  unfold putS
  rw [List.take_append, List.length_take]
  by_cases h : F.length ≤ 511
  · rw [Nat.min_eq_right h]
  · rw [Nat.min_eq_left (by omega), Nat.sub_self, show 511 - F.length = 0 by omega]
theorem ext_take (q : List UInt8) (j : Nat) : (bs q).extract 0 j = bs (q.take j) := by
  have : ((bs q).extract 0 j).data = (bs (q.take j)).data := by
    rw [ByteArray.data_extract]
    apply Array.toList_inj.1
    simp [bs, List.extract_eq_take_drop]
  cases h1 : (bs q).extract 0 j
  rw [h1] at this
  cases h2 : bs (q.take j)
  rw [h2] at this
  simp only at this
  rw [this]
theorem putS_len {l : List UInt8} (h : l.length ≤ 511) (p : List UInt8) : (putS l p).length ≤ 511 := by
  unfold putS
  rw [List.length_append, List.length_take]
  omega
set_option maxRecDepth 100000 in
set_option maxHeartbeats 2000000 in
theorem put_any (l : List UInt8) (hl : l.length ≤ 511) (ps : List (List UInt8)) (hps : ∀ p ∈ ps, p.length ≤ 1099511627776) (a : Option Addr) (c : Nat) (w : World) (h : TextsAt w a ps) : Calls Tryz.prog 42 #[.string (bs l), .slice a ps.length c] w fun e w' => e = .returned (.string (bs (ps.foldl putS l))) ∧ w' = w := by
  have hlen := h.len
  have HT := Lib.hid h
  have HPS := Lib.hid hps
  have HLL := Lib.hid hl
  obtain ⟨n, hn⟩ : ∃ n, n = ps.length := ⟨_, rfl⟩
  rw [← hn] at hlen ⊢
  have HN := Lib.hid hn
  have hnb : (n : Int) ≤ 9223372036854775807 := by unfold maxLen at hlen; omega
  clear h hps hl hn
  go_enter Tryz.func42, Tryz.ntmps42
  go_wp2
  go_loopw [0, 10] (fun v i wr => ∃ (k : Nat) (L : List UInt8), k ≤ n ∧ i = .int .i64 (k : Int) ∧ v = .string (bs L) ∧ Hid (L = (ps.take k).foldl putS l) ∧ Hid (L.length ≤ 511) ∧ wr = w) (fun _ i _ => n - (intOf i).toNat)
  case atStart => exact ⟨0, l, Nat.zero_le _, rfl, rfl, rfl, HLL.out, rfl⟩
  case round =>
    as_aux_lemma =>
      obtain ⟨k, L, hk, rfl, rfl, HL, HM, rfl⟩ := hrel
      have hk0 : (0 : Int) ≤ (k : Int) := by omega
      by_cases hlt : k < n
      · have hkl : k < ps.length := by rw [← HN.out]; exact hlt
        have hkz : (k : Int) < (n : Int) := by omega
        obtain ⟨b, o, rfl, c0⟩ := TextsAt.at_ HT.out hkl
        have HP := Lib.hid (HPS.out ps[k] (List.getElem_mem hkl))
        have HNX : Hid (putS L ps[k] = (ps.take (k + 1)).foldl putS l) := by
          show _ = _
          rw [List.take_succ_eq_append_getElem hkl, List.foldl_append, ← HL.out]
          rfl
        generalize ps[k] = q at *
        clear hkl HL
        have hLs : (bs L).size = L.length := rfl
        have hqs : (bs q).size = q.length := rfl
        obtain ⟨j, hj⟩ : ∃ j, j = min q.length (511 - L.length) := ⟨_, rfl⟩
        have hjq : j ≤ q.length := by rw [hj]; exact Nat.min_le_left _ _
        have hto : ∀ W, (Instr.slice 9 (.string (bs q)) none (some (.int .i64 (j : Int))) none).run Tryz.prog W = .ok (.string (bs (q.take j))) W := fun W => str_to q j hjq W
        have hM := HM.out
        have hQ := HP.out
        have hadd := add_bs L (q.take j) (by rw [List.length_take]; omega)
        have hres : L ++ q.take j = putS L q := by
          unfold putS
          rw [hj]
          congr 1
          by_cases hqq : q.length ≤ 511 - L.length
          · rw [Nat.min_eq_left hqq, List.take_length, List.take_of_length_le hqq]
          · rw [Nat.min_eq_right (by omega)]
        rw [hres] at hadd
        have HEX : Hid (bs L ++ (bs q).extract 0 (min q.length (511 - L.length)) = bs (putS L q)) := by
          show _ = _
          rw [ext_take, bs_app, ← hj, hres]
        have HM2 := Lib.hid (putS_len hM q)
        have hLz : (L.length : Int) ≤ 511 := by omega
        have hL0 : (0 : Int) ≤ (L.length : Int) := by omega
        have hmx : max (511 - (L.length : Int)) 0 = 511 - (L.length : Int) := by omega
        have hmn : min (q.length : Int) (511 - (L.length : Int)) = (j : Int) := by omega
        have hqz : (q.length : Int) ≤ 1099511627776 := by omega
        clear hres hM hQ hjq
        generalize putS L q = R at *
        generalize bs (q.take j) = T at *
        go_wp2
        go_roundw
        case rel => exact ⟨k + 1, R, by omega, by go_num, by rw [HEX.out], HNX.out, HM2.out, trivial⟩
        case measure => simp [intOf]; omega
      · have hke : k = n := by omega
        have hkz : ¬ (k : Int) < (n : Int) := by omega
        have HO : Hid (L = ps.foldl putS l) := by
          have h1 := HL.out
          rw [hke, HN.out, List.take_length] at h1
          exact h1
        clear hke HL
        go_wp2
        go_ret
        exact ⟨by rw [← HO.out]; rfl, rfl⟩
end Go.Proofs.YtnkepdeegpampaaGreatDoor

/-
  The contracts of command.sentText, command.lineOf. Conditions: texts of at most 2^40 bytes; the variables that are read; the command lies in memory.
-/
namespace Go.Proofs.YtnkepdeegpampaaGreatDoor
open Go.RowKit Go.Shelf

/-- a command's texts are of at most n bytes -/
structure CmFits (c : Cm) (n : Nat) : Prop where
  arg : c.arg.length ≤ n
  path : PaFits c.path n
  pms : ∀ p ∈ c.params, p.key.length ≤ n ∧ p.value.length ≤ n
/-- a command's rows in memory -/
structure CmIn (w : World) (c : Cm) (a1 : Option Addr) (c1 : Nat) (a2 : Option Addr) : Prop where
  route : TextsAt w a1 c.path.route
  room : c.path.route.length ≤ c1
  pms : PmsAt w a2 c.params
theorem CmIn.below {w w' : World} {c : Cm} {a1 : Option Addr} {c1 : Nat} {a2 : Option Addr} (h : CmIn w c a1 c1 a2) (hb : Below w.heap.size w w') : CmIn w' c a1 c1 a2 := ⟨RowAt.below h.route hb, h.room, RowAt.below h.pms hb⟩
theorem texts1 (w : World) (x : List UInt8) (S : ByteArray) (hS : S = bs x) : TextsAt (w.alloc (.cells #[.string S] 9)) (some ⟨w.heap.size, 0, none⟩) [x] := by
  subst hS
  refine ⟨by simp [maxLen], fun _ => ⟨w.heap.size, 0, rfl, by rw [World.size_alloc]; omega, fun j hj => ?_⟩⟩
  rw [Nat.zero_add, (Blk.new w 9 _).cell j]
  match j, hj with
  | 0, _ => rfl
theorem texts2 (w : World) (x y : List UInt8) (S T : ByteArray) (hS : S = bs x) (hT : T = bs y) : TextsAt (w.alloc (.cells #[.string S, .string T] 9)) (some ⟨w.heap.size, 0, none⟩) [x, y] := by
  subst hS hT
  refine ⟨by simp [maxLen], fun _ => ⟨w.heap.size, 0, rfl, by rw [World.size_alloc]; omega, fun j hj => ?_⟩⟩
  rw [Nat.zero_add, (Blk.new w 9 _).cell j]
  match j, hj with
  | 0, _ => rfl
  | 1, _ => rfl
theorem pathT_eq (p : Pa) : (printP p).1 = pathT p := by unfold printP pathT; split <;> rfl
theorem put2 (F x y : List UInt8) : [x, y].foldl putS (F.take 511) = (F ++ (x ++ y)).take 511 := by
  show putS (putS (F.take 511) x) y = _
  rw [putS_take, putS_take, List.append_assoc]
theorem take_le (F : List UInt8) : (F.take 511).length ≤ 511 := by rw [List.length_take]; omega
def lineK (ahead : List UInt8) (c : Cm) (k : Nat) : List UInt8 := ahead ++ (pathT c.path ++ (c.params.take k).flatMap pmT)
set_option maxRecDepth 100000 in
set_option maxHeartbeats 4000000 in
theorem sentText_any (ahead : List UInt8) (ha : ahead.length ≤ 10) (c : Cm) (a1 a2 : Option Addr) (c1 c2 : Nat) (hf : CmFits c 1099511627776) (w : World) (hi : CmIn w c a1 c1 a2) (he : Env w) : Calls Tryz.prog 41 #[.string (bs ahead), cmV c a1 c1 a2 c2] w fun e w' => e = .returned (.string (bs ((sentT ahead c).take 511))) ∧ Below w.heap.size w w' := by
  obtain ⟨W1, hW1⟩ : ∃ W1, W1 = w.alloc (.cells (cmCells c (.slice a1 c.path.route.length c1) (.slice a2 c.params.length c2)) 29) := ⟨_, rfl⟩
  obtain ⟨g1, hg1⟩ : ∃ g1, g1 = w.heap.size := ⟨_, rfl⟩
  have hb1 : Below w.heap.size w W1 := by rw [hW1]; exact (Below.refl _ w).alloc (Nat.le_refl _) _
  have hk1 : Blk W1 g1 29 (cmCells c (.slice a1 c.path.route.length c1) (.slice a2 c.params.length c2)) := by rw [hW1, hg1]; exact Blk.new _ _ _
  have HL1 := Lib.hid hb1
  have HI1 := Lib.hid (hi.below hb1)
  have HE1 := Lib.hid (he.later hb1)
  have HPR := Lib.hid (print_any c.path a1 c1 W1 hi.room HI1.out.route hf.path HE1.out.err)
  unfold PrOut at HPR
  rw [pathT_eq] at HPR
  generalize (printP c.path).2 = z at HPR
  have HQ : Hid (∀ L w', L = (lineK ahead c c.params.length).take 511 → Below w.heap.size w w' → (Ending.returned (Value.string (bs L)) = .returned (.string (bs ((sentT ahead c).take 511))) ∧ Below w.heap.size w w')) := fun L w' hL hb => by
    refine ⟨?_, hb⟩
    rw [hL]
    unfold lineK
    rw [List.take_length]
    rfl
  have HY : Hid (∀ W, Below W1.heap.size W1 W → W.cell? ⟨g1, 7, none⟩ = some (.slice a2 c.params.length c2)) := fun W hW => (hk1.below hW hk1.lt).cell 7
  have HPI : Hid (∀ W, Below W1.heap.size W1 W → PmsAt W a2 c.params) := fun W hW => RowAt.below HI1.out.pms hW
  have HPF := Lib.hid hf.pms
  obtain ⟨x2, x3, x4, x5, x6⟩ : W1.cell? ⟨g1, 2, none⟩ = some (.bool c.path.null) ∧ W1.cell? ⟨g1, 3, none⟩ = some (.slice a1 c.path.route.length c1) ∧ W1.cell? ⟨g1, 4, none⟩ = some (.string (bs c.path.loc)) ∧ W1.cell? ⟨g1, 5, none⟩ = some (.string (bs c.path.dom)) ∧ W1.cell? ⟨g1, 6, none⟩ = some (.bool c.path.lit) := ⟨hk1.cell 2, hk1.cell 3, hk1.cell 4, hk1.cell 5, hk1.cell 6⟩
  have hpl : c.params.length ≤ 1099511627776 ∨ ¬ c.params.length ≤ 1099511627776 := by omega
  have hpm : c.params.length * 3 ≤ maxLen := by have := hi.pms.len; rw [pmFlat_len] at this; exact this
  have HPT : Hid ((pathT c.path).length ≤ 1099511627776) := by
    unfold pathT
    split
    · rename_i hr
      have := print_most hr
      show _ ≤ _
      omega
    · exact Nat.zero_le _
  generalize hP : (fun (e : Ending) (w' : World) => e = Ending.returned (Value.string (bs ((sentT ahead c).take 511))) ∧ Below w.heap.size w w') = Q
  have HQQ : Hid (∀ L w', L = (lineK ahead c c.params.length).take 511 → Below w.heap.size w w' → Q (.returned (.string (bs L))) w') := fun L w' hL hb => by rw [← hP]; exact HQ.out L w' hL hb
  clear HQ hP hpl
  unfold cmCells at hW1
  unfold paV paCells at HPR
  unfold cmV cmCells
  have HW1 := Lib.hid hW1
  have HG1 := Lib.hid hg1
  clear hW1 hg1 hb1 hk1 hi he hf
  obtain ⟨n, hn⟩ : ∃ n, n = c.params.length := ⟨_, rfl⟩
  rw [← hn] at HQQ HY hpm HW1 ⊢
  have HN := Lib.hid hn
  have hnb : (n : Int) ≤ 4611686018427387904 := by unfold maxLen at hpm; omega
  clear hn hpm
  have HA1 : Hid (ahead.length ≤ 511) := by show _ ≤ _; omega
  go_enter Tryz.func41, Tryz.ntmps41
  go_upto_region 1 with (fail)
  rw [← HW1.out, ← HG1.out]
  go_upto_region 2 with (go_at_call 16; refine HPR.out.mono ?_; rintro e w2 ⟨rfl, hb⟩; have HB2 := Lib.hid hb; clear hb x2 x3 x4 x5 x6)
  have HPU := Lib.hid (put_any ahead HA1.out [pathT c.path] (by intro p hp; rw [List.mem_singleton.1 hp]; exact HPT.out) (some ⟨w2.heap.size, 0, none⟩) 1 _ (texts1 w2 (pathT c.path) (bs (pathT c.path)) rfl))
  have HL0 : Hid ([pathT c.path].foldl putS ahead = (lineK ahead c 0).take 511) := by
    show putS ahead (pathT c.path) = (ahead ++ (pathT c.path ++ [])).take 511
    have : ahead = ahead.take 511 := (List.take_of_length_le HA1.out).symm
    rw [List.append_nil]
    conv => lhs; rw [this]
    exact putS_take _ _
  rw [HL0.out] at HPU
  have e1 : ([pathT c.path] : List (List UInt8)).length = 1 := rfl
  rw [e1] at HPU
  generalize bs (pathT c.path) = PT at *
  go_upto_region 3 with (go_at_call 42; refine HPU.out.mono ?_; rintro e w3 ⟨rfl, rfl⟩; have HB3 := Lib.hid (HB2.out.alloc HB2.out.size (Obj.cells #[.string PT] 9)))
  obtain ⟨W4, hW4⟩ : ∃ W4, W4 = w2.alloc (.cells #[.string PT] 9) := ⟨_, rfl⟩
  rw [← hW4] at HB3 ⊢
  clear hW4 HPU HPR HB2
  have y7 := HY.out W4 HB3.out
  go_wp2
  go_loopw [7, 23] (fun v i wr => ∃ (k : Nat) (L : List UInt8), k ≤ n ∧ i = .int .i64 (k : Int) ∧ v = .string (bs L) ∧ Hid (L = (lineK ahead c k).take 511) ∧ Hid (Below W1.heap.size W1 wr)) (fun _ i _ => n - (intOf i).toNat)
  case atStart => exact ⟨0, _, Nat.zero_le _, rfl, rfl, rfl, HB3.out⟩
  case round =>
    as_aux_lemma =>
      clear HB3 y7
      obtain ⟨k, L, hk, rfl, rfl, HL, HB⟩ := hrel
      have hk0 : (0 : Int) ≤ (k : Int) := by omega
      by_cases hlt : k < n
      · have hkl : k < c.params.length := by rw [← HN.out]; exact hlt
        have hkz : (k : Int) < (n : Int) := by omega
        obtain ⟨b, o, rfl, c0, c1', c2'⟩ := PmsAt.at_ (HPI.out wr HB.out) hkl
        have HF := Lib.hid (HPF.out c.params[k] (List.getElem_mem hkl))
        have HNX : Hid (lineK ahead c (k + 1) = lineK ahead c k ++ pmT c.params[k]) := by
          show _ = _
          unfold lineK
          rw [List.take_succ_eq_append_getElem hkl, List.flatMap_append, List.flatMap_cons, List.flatMap_nil, List.append_nil]
          simp only [List.append_assoc]
        generalize c.params[k] = q at *
        obtain ⟨qk, qv, qh⟩ := q
        clear hkl
        simp only at c0 c1' c2'
        have HK1 : Hid (qk.length ≤ 1099511627776) := HF.out.1
        have HV1 : Hid (qv.length ≤ 1099511627776) := HF.out.2
        have HLE : Hid (L.length ≤ 511) := by show _ ≤ _; rw [HL.out]; exact take_le _
        obtain ⟨F, hF⟩ : ∃ F, F = lineK ahead c k := ⟨_, rfl⟩
        rw [← hF] at HL HNX
        clear hF HF
        go_upto_region 6 with (fail)
        obtain ⟨W5, hW5⟩ : ∃ W5, W5 = wr.alloc (.cells #[.string (bs qk), .string (bs qv), .bool qh] 45) := ⟨_, rfl⟩
        obtain ⟨g5, hg5⟩ : ∃ g5, g5 = wr.heap.size := ⟨_, rfl⟩
        have HK5 : Hid (Blk W5 g5 45 #[.string (bs qk), .string (bs qv), .bool qh]) := by rw [hW5, hg5]; exact Blk.new _ _ _
        have HB5 : Hid (Below W1.heap.size W1 W5) := by rw [hW5]; exact HB.out.alloc HB.out.size _
        rw [← hW5, ← hg5]
        clear hW5 hg5 c0 c1' c2'
        have HY5 : Hid (∀ W, Below W5.heap.size W5 W → W.cell? ⟨g5, 0, none⟩ = some (.string (bs qk)) ∧ W.cell? ⟨g5, 1, none⟩ = some (.string (bs qv)) ∧ W.cell? ⟨g5, 2, none⟩ = some (.bool qh)) := fun W hW => by
          have h := HK5.out.below hW HK5.out.lt
          exact ⟨h.cell 0, h.cell 1, h.cell 2⟩
        obtain ⟨v0, v1, v2⟩ := HY5.out W5 (Below.refl _ _)
        have HP1 := Lib.hid (put_any L HLE.out [[32], qk] (by intro p hp; rcases List.mem_cons.1 hp with rfl | hp; exact (by decide); rw [List.mem_singleton.1 hp]; exact HK1.out) (some ⟨W5.heap.size, 0, none⟩) 2 _ (texts2 W5 [32] qk ⟨#[32]⟩ (bs qk) rfl rfl))
        rw [HL.out, put2] at HP1
        rw [← HL.out] at HP1
        have e2 : ([[32], qk] : List (List UInt8)).length = 2 := rfl
        rw [e2] at HP1
        clear e2
        go_upto_region 7 with (go_at_call 42; refine HP1.out.mono ?_; rintro e w6 ⟨rfl, rfl⟩; have HB6 := Lib.hid (HB5.out.alloc HB5.out.size (Obj.cells #[.string ⟨#[32]⟩, .string (bs qk)] 9)); obtain ⟨u0, u1, u2⟩ := HY5.out _ ((Below.refl W5.heap.size W5).alloc (Nat.le_refl _) (Obj.cells #[.string ⟨#[32]⟩, .string (bs qk)] 9)); have HA6 := Lib.hid ((Below.refl W5.heap.size W5).alloc (Nat.le_refl _) (Obj.cells #[.string ⟨#[32]⟩, .string (bs qk)] 9)))
        obtain ⟨W6, hW6⟩ : ∃ W6, W6 = W5.alloc (.cells #[.string ⟨#[32]⟩, .string (bs qk)] 9) := ⟨_, rfl⟩
        rw [← hW6] at HB6 HA6 u0 u1 u2 ⊢
        clear hW6 v0 v1 v2 HP1
        cases qh with
        | false =>
          have HNX2 : Hid (((F ++ ([32] ++ qk)).take 511) = (lineK ahead c (k + 1)).take 511) := by
            show _ = _
            rw [HNX.out]
            simp [pmT]
          clear HNX
          go_wp2
          go_roundw
          case rel => exact ⟨k + 1, _, by omega, by go_num, rfl, (show _ = _ from by have h := HNX2.out; simpa using h), HB6.out⟩
          case measure => simp [intOf]; omega
        | true =>
          have HP2 := Lib.hid (put_any ((F ++ ([32] ++ qk)).take 511) (take_le _) [[61], qv] (by intro p hp; rcases List.mem_cons.1 hp with rfl | hp; exact (by decide); rw [List.mem_singleton.1 hp]; exact HV1.out) (some ⟨W6.heap.size, 0, none⟩) 2 _ (texts2 W6 [61] qv ⟨#[61]⟩ (bs qv) rfl rfl))
          rw [put2] at HP2
          have e2 : ([[61], qv] : List (List UInt8)).length = 2 := rfl
          rw [e2] at HP2
          have HNX2 : Hid (((F ++ ([32] ++ qk) ++ ([61] ++ qv)).take 511) = (lineK ahead c (k + 1)).take 511) := by
            show _ = _
            rw [HNX.out]
            simp [pmT]
          clear HNX e2
          go_wp2_with (go_at_call 42; refine HP2.out.mono ?_; rintro e w7 ⟨rfl, rfl⟩; have HB7 := Lib.hid (HB6.out.alloc HB6.out.size (Obj.cells #[.string ⟨#[61]⟩, .string (bs qv)] 9)))
          go_roundw
          case rel => exact ⟨k + 1, _, by omega, by go_num, rfl, (show _ = _ from by have h := HNX2.out; simpa using h), HB7.out⟩
          case measure => simp [intOf]; omega
      · have hke : k = n := by omega
        have hkz : ¬ (k : Int) < (n : Int) := by omega
        have HO : Hid (L = (lineK ahead c n).take 511) := by
          have h1 := HL.out
          rw [hke] at h1
          exact h1
        clear hke HL
        go_wp2
        exact HQQ.out L wr HO.out (low_trans HL1.out HB.out)
end Go.Proofs.YtnkepdeegpampaaGreatDoor

/-
  The contract of command.lineOf. Conditions: texts of at most 2^40 bytes; the variables that are read; the command lies in memory.
-/
namespace Go.Proofs.YtnkepdeegpampaaGreatDoor
open Go.RowKit Go.Shelf

theorem take_app_take (A X : List UInt8) (n : Nat) : (A ++ X.take n).take n = (A ++ X).take n := by
  rw [List.take_append, List.take_append, List.take_take, Nat.min_eq_left (Nat.sub_le _ _)]
theorem word_short (v : Nat) : (wordP v).length ≤ 4 := by
  by_cases h : v < 12
  · have : ∀ i : Fin 12, (wordP i.val).length ≤ 4 := by decide
    exact this ⟨v, h⟩
  · rw [wordP_much (by omega)]; decide
theorem take_nil (X : List UInt8) : X.take 511 = [] ↔ X = [] := by
  cases X <;> simp
theorem env_drew {w : World} (h : Env w) (n : Nat) : Env (w.drewN n) := ⟨ErrAt.later h.err ⟨rfl, rfl, rfl, Nat.le_refl _, fun _ _ => rfl⟩, h.max, h.words⟩
set_option maxRecDepth 100000 in
set_option maxHeartbeats 1000000 in
theorem lineOf_any (c : Cm) (hv : c.verb ≤ 255) (a1 a2 : Option Addr) (c1 c2 : Nat) (hf : CmFits c 1099511627776) (w : World) (hi : CmIn w c a1 c1 a2) (he : Env w) : Calls Tryz.prog 22 #[cmV c a1 c1 a2 c2] w fun e w' => e = .returned (.string (bs (lineP c))) ∧ Below w.heap.size w w' := by
  obtain ⟨W1, hW1⟩ : ∃ W1, W1 = w.alloc (.cells (cmCells c (.slice a1 c.path.route.length c1) (.slice a2 c.params.length c2)) 29) := ⟨_, rfl⟩
  obtain ⟨g1, hg1⟩ : ∃ g1, g1 = w.heap.size := ⟨_, rfl⟩
  have hb1 : Below w.heap.size w W1 := by rw [hW1]; exact (Below.refl _ w).alloc (Nat.le_refl _) _
  have hk1 : Blk W1 g1 29 (cmCells c (.slice a1 c.path.route.length c1) (.slice a2 c.params.length c2)) := by rw [hW1, hg1]; exact Blk.new _ _ _
  have HL1 := Lib.hid hb1
  have HI1 := Lib.hid (hi.below hb1)
  have HE1 := Lib.hid (he.later hb1)
  have HWO := Lib.hid (fun W (hW : Env W) => word_any c.verb hv W hW)
  have HY : Hid (∀ W, Below W1.heap.size W1 W → W.cell? ⟨g1, 0, none⟩ = some (.int .u8 (c.verb : Int)) ∧ W.cell? ⟨g1, 1, none⟩ = some (.string (bs c.arg)) ∧ W.cell? ⟨g1, 2, none⟩ = some (.bool c.path.null) ∧ W.cell? ⟨g1, 3, none⟩ = some (.slice a1 c.path.route.length c1) ∧ W.cell? ⟨g1, 4, none⟩ = some (.string (bs c.path.loc)) ∧ W.cell? ⟨g1, 5, none⟩ = some (.string (bs c.path.dom)) ∧ W.cell? ⟨g1, 6, none⟩ = some (.bool c.path.lit) ∧ W.cell? ⟨g1, 7, none⟩ = some (.slice a2 c.params.length c2)) := fun W hW => by
    have h := hk1.below hW hk1.lt
    exact ⟨h.cell 0, h.cell 1, h.cell 2, h.cell 3, h.cell 4, h.cell 5, h.cell 6, h.cell 7⟩
  have HST := Lib.hid (fun ahead (ha : ahead.length ≤ 10) W (hW : Below W1.heap.size W1 W) => sentText_any ahead ha c a1 a2 c1 c2 hf W (HI1.out.below hW) (HE1.out.later hW))
  have HPU := Lib.hid (fun b (hb : b.length ≤ 1099511627776) W => put_any (wordP c.verb) (Nat.le_trans (word_short _) (by decide)) [[32], b] (by intro p hp; rcases List.mem_cons.1 hp with rfl | hp; exact (by decide); rw [List.mem_singleton.1 hp]; exact hb) (some ⟨W.heap.size, 0, none⟩) 2 _ (texts2 W [32] b ⟨#[32]⟩ (bs b) rfl rfl))
  have HWT : Hid ((wordP c.verb).take 511 = wordP c.verb) := List.take_of_length_le (Nat.le_trans (word_short _) (by decide))
  have HPV : Hid (∀ b, [[32], b].foldl putS (wordP c.verb) = (wordP c.verb ++ ([32] ++ b)).take 511) := fun b => by
    have := put2 (wordP c.verb) [32] b
    rw [HWT.out] at this
    exact this
  have HAF := Lib.hid hf.arg
  have HQ : Hid (∀ B b w', behindP c = B → (b = B ∨ b = B.take 511) → Below w.heap.size w w' → (if b = [] then bs (wordP c.verb) else bs ([[32], b].foldl putS (wordP c.verb))) = bs (lineP c) ∧ Below w.heap.size w w') := fun B b w' hB hb hw => by
    refine ⟨?_, hw⟩
    rw [HPV.out]
    unfold lineP fullP
    rw [hB]
    by_cases hb0 : B = []
    · have : b = [] := by rcases hb with h | h <;> rw [h, hb0] ; rfl
      rw [if_pos this, if_pos hb0, List.append_nil, HWT.out]
    · have hbn : b ≠ [] := by
        rcases hb with h | h
        · rw [h]; exact hb0
        · rw [h]; exact fun e => hb0 ((take_nil B).1 e)
      rw [if_neg hbn, if_neg hb0]
      rcases hb with h | h
      · rw [h]; rfl
      · rw [h]
        have := take_app_take (wordP c.verb ++ [32]) B 511
        rw [List.append_assoc, List.append_assoc] at this
        rw [this]
        rfl
  generalize hP : (fun (e : Ending) (w' : World) => e = Ending.returned (Value.string (bs (lineP c))) ∧ Below w.heap.size w w') = Q
  have HQ1 : Hid (∀ B w', behindP c = B → (B = [] → Below w.heap.size w w' → Q (.returned (.string (bs (wordP c.verb)))) w') ∧ (∀ b, B ≠ [] → (b = B ∨ b = B.take 511) → Below w.heap.size w w' → Q (.returned (.string (bs ([[32], b].foldl putS (wordP c.verb))))) w')) := fun B w' hB => by
    refine ⟨fun h0 hw => ?_, fun b h0 hb hw => ?_⟩
    · have := HQ.out B B w' hB (.inl rfl) hw
      rw [if_pos h0] at this
      rw [← hP]
      exact ⟨by rw [this.1], hw⟩
    · have := HQ.out B b w' hB hb hw
      rw [if_neg (by rcases hb with h | h; rw [h]; exact h0; rw [h]; exact fun e => h0 ((take_nil B).1 e))] at this
      rw [← hP]
      exact ⟨by rw [this.1], hw⟩
  have HBP : Hid (behindP c = if c.verb = 3 then sentT fromT c else if c.verb = 4 then sentT toT c else c.arg) := rfl
  clear HQ hP HPV HWT
  unfold cmCells at hW1
  unfold cmV cmCells at HST ⊢
  have HW1 := Lib.hid hW1
  have HG1 := Lib.hid hg1
  clear hW1 hg1 hb1 hk1 hi he hf
  obtain ⟨x0, x1, x2, x3, x4, x5, x6, x7⟩ := HY.out W1 (Below.refl _ _)
  have hv0 : (0 : Int) ≤ (c.verb : Int) := by omega
  have hv1 : (c.verb : Int) ≤ 255 := by omega
  go_enter Tryz.func22, Tryz.ntmps22
  go_upto_region 1 with (fail)
  rw [← HW1.out, ← HG1.out]
  go_quiet ((go_at_call 14; refine (HWO.out _ (env_drew HE1.out _)).mono ?_; rintro e w' ⟨rfl, rfl⟩; exact ⟨rfl, _, rfl⟩))
  obtain ⟨W2, hW2⟩ : ∃ W2, W2 = W1.drewN nq := ⟨_, rfl⟩
  have HB2 : Hid (Below W1.heap.size W1 W2) := by rw [hW2]; exact ⟨rfl, rfl, rfl, Nat.le_refl _, fun _ _ => rfl⟩
  rw [← hW2]
  clear hW2 x0 x1 x2 x3 x4 x5 x6 x7
  obtain ⟨x0, x1, x2, x3, x4, x5, x6, x7⟩ := HY.out W2 HB2.out
  clear HY HWO
  by_cases h3 : c.verb = 3
  · have hz3 : ((c.verb : Int) == 3) = true := by rw [h3]; rfl
    · have HB : Hid (behindP c = sentT fromT c) := by rw [HBP.out]; exact if_pos h3
      have HO := Lib.hid (fun w' => (HQ1.out _ w' HB.out).2)
      have HS := Lib.hid (HST.out fromT (by decide) W2 HB2.out)
      have eT : bs fromT = (⟨#[70, 82, 79, 77, 58]⟩ : ByteArray) := rfl
      rw [eT] at HS
      have HNE : Hid (sentT fromT c ≠ []) := by show _ ≠ []; unfold sentT fromT; simp
      have hem : (bs ((sentT fromT c).take 511)).toList.isEmpty = false := by
        rw [bs_toL]
        cases h : (sentT fromT c).take 511 with
        | nil => exact absurd ((take_nil _).1 h) HNE.out
        | cons => rfl
      have HPB := Lib.hid (fun W => HPU.out ((sentT fromT c).take 511) (Nat.le_trans (take_le _) (by decide)) W)
      have e2 : ([[32], (sentT fromT c).take 511] : List (List UInt8)).length = 2 := rfl
      rw [e2] at HPB
      clear eT e2 HPU HST HQ1 HBP HAF
      obtain ⟨X, hX⟩ : ∃ X, X = (sentT fromT c).take 511 := ⟨_, rfl⟩
      rw [← hX] at HPB hem HS
      have HXX := Lib.hid hX
      clear hX h3
      go_wp2_with (first | (go_at_call 41; refine HS.out.mono ?_; rintro e w3 ⟨rfl, hb⟩; have HB3 := Lib.hid (low_trans HB2.out hb); clear hb) | (go_at_call 42; refine (HPB.out w3).mono ?_; rintro e w4 ⟨rfl, rfl⟩; have HB4 := Lib.hid (HB3.out.alloc HB3.out.size (Obj.cells #[.string ⟨#[32]⟩, .string (bs X)] 9))))
      exact HO.out _ X HNE.out (.inr HXX.out) (low_trans HL1.out HB4.out)
  · have hz3 : ((c.verb : Int) == 3) = false := by
      rw [beq_eq_false_iff_ne]
      omega
    by_cases h4 : c.verb = 4
    · have hz4 : ((c.verb : Int) == 4) = true := by rw [h4]; rfl
      have HB : Hid (behindP c = sentT toT c) := by rw [HBP.out]; rw [if_neg h3]; exact if_pos h4
      have HO := Lib.hid (fun w' => (HQ1.out _ w' HB.out).2)
      have HS := Lib.hid (HST.out toT (by decide) W2 HB2.out)
      have eT : bs toT = (⟨#[84, 79, 58]⟩ : ByteArray) := rfl
      rw [eT] at HS
      have HNE : Hid (sentT toT c ≠ []) := by show _ ≠ []; unfold sentT toT; simp
      have hem : (bs ((sentT toT c).take 511)).toList.isEmpty = false := by
        rw [bs_toL]
        cases h : (sentT toT c).take 511 with
        | nil => exact absurd ((take_nil _).1 h) HNE.out
        | cons => rfl
      have HPB := Lib.hid (fun W => HPU.out ((sentT toT c).take 511) (Nat.le_trans (take_le _) (by decide)) W)
      have e2 : ([[32], (sentT toT c).take 511] : List (List UInt8)).length = 2 := rfl
      rw [e2] at HPB
      clear eT e2 HPU HST HQ1 HBP HAF
      obtain ⟨X, hX⟩ : ∃ X, X = (sentT toT c).take 511 := ⟨_, rfl⟩
      rw [← hX] at HPB hem HS
      have HXX := Lib.hid hX
      clear hX h3 h4
      go_wp2_with (first | (go_at_call 41; refine HS.out.mono ?_; rintro e w3 ⟨rfl, hb⟩; have HB3 := Lib.hid (low_trans HB2.out hb); clear hb) | (go_at_call 42; refine (HPB.out w3).mono ?_; rintro e w4 ⟨rfl, rfl⟩; have HB4 := Lib.hid (HB3.out.alloc HB3.out.size (Obj.cells #[.string ⟨#[32]⟩, .string (bs X)] 9))))
      exact HO.out _ X HNE.out (.inr HXX.out) (low_trans HL1.out HB4.out)
    · have hz4 : ((c.verb : Int) == 4) = false := by
        rw [beq_eq_false_iff_ne]
        omega
      have HB : Hid (behindP c = c.arg) := by rw [HBP.out, if_neg h3, if_neg h4]; rfl
      have HO := Lib.hid (fun w' => HQ1.out _ w' HB.out)
      have hem : (bs c.arg).toList.isEmpty = decide (c.arg = []) := by rw [bs_toL]; cases c.arg <;> rfl
      clear HST HQ1 HBP h3 h4
      by_cases ha : c.arg = []
      · rw [decide_eq_true ha] at hem
        have HA := Lib.hid ha
        clear ha
        go_wp2
        exact (HO.out _).1 HA.out (low_trans HL1.out HB2.out)
      · rw [decide_eq_false ha] at hem
        have HPB := Lib.hid (fun W => HPU.out c.arg HAF.out W)
        have e2 : ([[32], c.arg] : List (List UInt8)).length = 2 := rfl
        rw [e2] at HPB
        clear e2 HPU
        go_wp2_with (go_at_call 42; refine (HPB.out W2).mono ?_; rintro e w4 ⟨rfl, rfl⟩; have HB4 := Lib.hid (HB2.out.alloc HB2.out.size (Obj.cells #[.string ⟨#[32]⟩, .string (bs c.arg)] 9)))
        exact (HO.out _).2 c.arg ha (.inl rfl) (low_trans HL1.out HB4.out)
end Go.Proofs.YtnkepdeegpampaaGreatDoor

/-
  The contracts of slices.Equal at texts and at parameters. Conditions: the rows lie in memory.
-/
namespace Go.Proofs.YtnkepdeegpampaaGreatDoor
open Go.RowKit Go.Shelf

theorem texts_equal (l1 l2 : List (List UInt8)) (a1 a2 : Option Addr) (c1 c2 : Nat) (w : World) (h1 : TextsAt w a1 l1) (h2 : TextsAt w a2 l2) : Calls Tryz.prog 44 #[.slice a1 l1.length c1, .slice a2 l2.length c2] w fun e w' => e = .returned (.bool (decide (l1 = l2))) ∧ Below w.heap.size w w' := by
  have m1 := h1.len
  have m2 := h2.len
  unfold maxLen at m1 m2
  by_cases hl : l1.length = l2.length
  · by_cases h0 : l1.length = 0
    · rw [h0]
      refine (Tryz.slices_Equal_string_empty a1 a2 c1 l2.length c2 w (by omega)).mono ?_
      rintro e w' ⟨rfl, rfl⟩
      have e1 := List.length_eq_zero_iff.1 h0
      have e2 := List.length_eq_zero_iff.1 (hl ▸ h0)
      rw [e1, e2]
      exact ⟨rfl, Below.refl _ _⟩
    · obtain ⟨b1, o1, rfl, _, k1⟩ := h1.row (by rw [List.length_map]; omega)
      obtain ⟨b2, o2, rfl, _, k2⟩ := h2.row (by rw [List.length_map]; omega)
      have q1 : ∀ j, j < (l1.map bs).length → w.cell? ⟨b1, o1 + j, none⟩ = some (.string ((l1.map bs).getD j ByteArray.empty)) := fun j hj => by
        rw [List.length_map] at hj
        rw [k1 j (by rw [List.length_map]; exact hj), List.getElem_map, List.getD_eq_getElem?_getD, List.getElem?_map, List.getElem?_eq_getElem hj]
        rfl
      have q2 : ∀ j, j < (l2.map bs).length → w.cell? ⟨b2, o2 + j, none⟩ = some (.string ((l2.map bs).getD j ByteArray.empty)) := fun j hj => by
        rw [List.length_map] at hj
        rw [k2 j (by rw [List.length_map]; exact hj), List.getElem_map, List.getD_eq_getElem?_getD, List.getElem?_map, List.getElem?_eq_getElem hj]
        rfl
      refine (Tryz.slices_Equal_string b1 o1 l1.length c1 b2 o2 l2.length c2 (l1.map bs) (l2.map bs) w (by rw [List.length_map]; omega) (by rw [List.length_map]; omega) (by omega) (by omega) q1 q2).mono ?_
      rintro e w' ⟨rfl, q, rfl⟩
      refine ⟨ret_bool ?_, ⟨rfl, rfl, rfl, Nat.le_refl _, fun _ _ => rfl⟩⟩
      rw [List.take_of_length_le (by rw [List.length_map]; omega), List.take_of_length_le (by rw [List.length_map]; omega)]
      have inj : ∀ (x y : List (List UInt8)), x.map bs = y.map bs → x = y := by
        intro x
        induction x with
        | nil => intro y h; cases y with
          | nil => rfl
          | cons => simp at h
        | cons p x ih => intro y h; cases y with
          | nil => simp at h
          | cons q y =>
            rw [List.map_cons, List.map_cons] at h
            injection h with h1 h2
            have : (bs p).data.toList = (bs q).data.toList := by rw [h1]
            rw [bs_list, bs_list] at this
            rw [this, ih y h2]
      by_cases he : l1 = l2
      · subst he; simp
      · rw [decide_eq_false he, decide_eq_false (fun h => he (inj _ _ h))]
  · refine (Tryz.slices_Equal_string_lens a1 a2 l1.length c1 l2.length c2 w hl).mono ?_
    rintro e w' ⟨rfl, rfl⟩
    rw [decide_eq_false (fun h => hl (by rw [h]))]
    exact ⟨rfl, Below.refl _ _⟩
/-- two parameters: equal, or the first part that differs -/
theorem pm_parts (p q : Pm) : (p = q ∧ ((bs p.key).toList == (bs q.key).toList) = true ∧ ((bs p.value).toList == (bs q.value).toList) = true ∧ (p.has == q.has) = true) ∨ (p ≠ q ∧ (((bs p.key).toList == (bs q.key).toList) = false ∨ ((bs p.key).toList == (bs q.key).toList) = true ∧ (((bs p.value).toList == (bs q.value).toList) = false ∨ ((bs p.value).toList == (bs q.value).toList) = true ∧ (p.has == q.has) = false))) := by
  rw [toL_eq, toL_eq]
  obtain ⟨k1, v1, h1⟩ := p
  obtain ⟨k2, v2, h2⟩ := q
  by_cases hk : k1 = k2
  · by_cases hv : v1 = v2
    · by_cases hh : h1 = h2
      · left; subst hk hv hh; simp
      · right
        exact ⟨fun h => hh (Pm.mk.inj h).2.2, .inr ⟨decide_eq_true hk, .inr ⟨decide_eq_true hv, by simpa using hh⟩⟩⟩
    · right
      exact ⟨fun h => hv (Pm.mk.inj h).2.1, .inr ⟨decide_eq_true hk, .inl (decide_eq_false hv)⟩⟩
  · right
    exact ⟨fun h => hk (Pm.mk.inj h).1, .inl (decide_eq_false hk)⟩
theorem drewN_below {B : Nat} {a w : World} (h : Below B a w) (n : Nat) : Below B a (w.drewN n) := ⟨h.os, h.tape, h.output, h.size, h.block⟩
set_option maxRecDepth 100000 in
set_option maxHeartbeats 1000000 in
theorem pms_equal (l1 l2 : List Pm) (a1 a2 : Option Addr) (c1 c2 : Nat) (w : World) (h1 : PmsAt w a1 l1) (h2 : PmsAt w a2 l2) : Calls Tryz.prog 43 #[.slice a1 l1.length c1, .slice a2 l2.length c2] w fun e w' => e = .returned (.bool (decide (l1 = l2))) ∧ Below w.heap.size w w' := by
  have m1 := h1.len
  have m2 := h2.len
  rw [pmFlat_len] at m1 m2
  unfold maxLen at m1 m2
  have HQ : Hid (∀ b m, b = decide (l1 = l2) → (Ending.returned (Value.bool b) = .returned (.bool (decide (l1 = l2))) ∧ Below w.heap.size w (w.drewN m))) := fun b m hb => by subst hb; exact ⟨rfl, drewN_below (Below.refl _ _) m⟩
  have HQ0 : Hid (∀ b, b = decide (l1 = l2) → (Ending.returned (Value.bool b) = .returned (.bool (decide (l1 = l2))) ∧ Below w.heap.size w w)) := fun b hb => by subst hb; exact ⟨rfl, Below.refl _ _⟩
  have H1 := Lib.hid h1
  have H2 := Lib.hid h2
  clear h1 h2
  by_cases hl : l1.length = l2.length
  · obtain ⟨n, hn⟩ : ∃ n, n = l1.length := ⟨_, rfl⟩
    rw [← hl, ← hn]
    have HN1 := Lib.hid hn
    have HN2 : Hid (n = l2.length) := hn.trans hl
    have hnb : (n : Int) ≤ 4611686018427387904 := by omega
    clear hl hn m1 m2
    go_enter Tryz.func43, Tryz.ntmps43
    go_wp2
    go_loopw [13] (fun i wr => ∃ k m : Nat, k ≤ n ∧ i = .int .i64 (k : Int) ∧ Hid (l1.take k = l2.take k) ∧ Hid (wr = w.drewN m)) (fun i _ => n - (intOf i).toNat)
    case atStart => exact ⟨0, 0, Nat.zero_le _, rfl, rfl, rfl⟩
    case round =>
      as_aux_lemma =>
        obtain ⟨k, m, hk, rfl, HE, HW⟩ := hrel
        have hk0 : (0 : Int) ≤ (k : Int) := by omega
        by_cases hlt : k < n
        · have hkp : k < l1.length := by rw [← HN1.out]; exact hlt
          have hkq : k < l2.length := by rw [← HN2.out]; exact hlt
          have hkz : (k : Int) < (n : Int) := by omega
          obtain ⟨b1, o1, rfl, p0, p1, p2⟩ := PmsAt.at_ H1.out hkp
          obtain ⟨b2, o2, rfl, q0, q1, q2⟩ := PmsAt.at_ H2.out hkq
          have hw0 : wr = w.drewN m := HW.out
          have cl : ∀ a, wr.cell? a = w.cell? a := fun a => by rw [hw0]; rfl
          rw [← cl] at p0 p1 p2 q0 q1 q2
          clear cl hw0
          have HST : Hid (l1[k] = l2[k] → l1.take (k + 1) = l2.take (k + 1)) := fun h => by
            rw [List.take_succ_eq_append_getElem hkp, List.take_succ_eq_append_getElem hkq, h, HE.out]
          have HNE : Hid (l1[k] ≠ l2[k] → l1 ≠ l2) := fun h e => h (by
            have : l1[k]? = l2[k]? := by rw [e]
            rw [List.getElem?_eq_getElem hkp, List.getElem?_eq_getElem hkq] at this
            exact Option.some.inj this)
          have hcs := pm_parts l1[k] l2[k]
          generalize l1[k] = u at *
          generalize l2[k] = v at *
          obtain ⟨uk, uv, uh⟩ := u
          obtain ⟨vk, vv, vh⟩ := v
          clear hkp hkq
          simp only at p0 p1 p2 q0 q1 q2 hcs
          rcases hcs with ⟨he, f1, f2, f3⟩ | ⟨hne, hcs⟩
          · have HNX := Lib.hid (HST.out he)
            clear HST HNE he
            generalize bs uk = x1 at *
            generalize bs uv = x2 at *
            generalize bs vk = x3 at *
            generalize bs vv = x4 at *
            go_wp2
            go_quiet (fail)
            go_wp2
            go_roundw
            case rel => exact ⟨k + 1, m + nq, by omega, by go_num, HNX.out, (by show _ = _; rw [HW.out]; exact drewN_add w m nq)⟩
            case measure => simp [intOf]; omega
          · have HNX := Lib.hid (HNE.out hne)
            clear HST HNE hne
            generalize bs uk = x1 at *
            generalize bs uv = x2 at *
            generalize bs vk = x3 at *
            generalize bs vv = x4 at *
            rcases hcs with f1 | ⟨f1, f2 | ⟨f2, f3⟩⟩
            all_goals
              go_wp2
              go_quiet (fail)
              go_wp2
              rw [HW.out, drewN_add]
              go_ret
              exact HQ.out false _ (decide_eq_false HNX.out).symm
        · have hke : k = n := by omega
          have hkz : ¬ (k : Int) < (n : Int) := by omega
          have HRR : Hid (l1 = l2) := by
            have h1 := HE.out
            rw [hke] at h1
            rw [show n = l1.length from HN1.out, List.take_length] at h1
            rw [show l1.length = l2.length from HN1.out.symm.trans HN2.out, List.take_length] at h1
            exact h1
          clear hke HE
          go_wp2
          rw [HW.out]
          go_ret
          exact HQ.out true m (decide_eq_true HRR.out).symm
  · have hz : ((l1.length : Int) == (l2.length : Int)) = false := by
      rw [beq_eq_false_iff_ne]
      omega
    have HO := Lib.hid (HQ0.out false (decide_eq_false (fun h => hl (by rw [h]))).symm)
    clear hl
    go_enter Tryz.func43, Tryz.ntmps43
    go_wp2
    go_ret
    exact HO.out
end Go.Proofs.YtnkepdeegpampaaGreatDoor

/-
  The contracts of command.says, command.Right, command.Print. Conditions: texts of at most 2^40 bytes; the variables that are read; the command lies in memory.
-/
namespace Go.Proofs.YtnkepdeegpampaaGreatDoor
open Go.RowKit Go.Shelf

theorem CmdOut.in_ {w w' : World} {c : Cm} {x : Value} {e : Ending} (h : CmdOut w c x e w') : ∃ a1 c1 a2 c2, e = .returned (.tuple #[cmV c a1 c1 a2 c2, x]) ∧ CmIn w' c a1 c1 a2 ∧ Below w.heap.size w w' := by
  obtain ⟨a1, c1, a2, c2, h1, h2, h3, h4, h5, h6⟩ := h
  exact ⟨a1, c1, a2, c2, h1, ⟨h2.1, h3, h4.1⟩, h6⟩
theorem cm_ne {c d : Cm} (h : c.verb ≠ d.verb ∨ c.arg ≠ d.arg ∨ c.params ≠ d.params ∨ c.path.null ≠ d.path.null ∨ c.path.loc ≠ d.path.loc ∨ c.path.dom ≠ d.path.dom ∨ c.path.lit ≠ d.path.lit ∨ c.path.route ≠ d.path.route) : c ≠ d := by
  rintro rfl
  rcases h with h | h | h | h | h | h | h | h <;> exact h rfl
theorem cm_eq {c d : Cm} (h1 : c.verb = d.verb) (h2 : c.arg = d.arg) (h3 : c.params = d.params) (h4 : c.path.null = d.path.null) (h5 : c.path.loc = d.path.loc) (h6 : c.path.dom = d.path.dom) (h7 : c.path.lit = d.path.lit) (h8 : c.path.route = d.path.route) : c = d := by
  obtain ⟨v, a, ⟨n, r, l, m, t⟩, p⟩ := c
  obtain ⟨v', a', ⟨n', r', l', m', t'⟩, p'⟩ := d
  simp only at h1 h2 h3 h4 h5 h6 h7 h8
  rw [h1, h2, h3, h4, h5, h6, h7, h8]
set_option maxRecDepth 100000 in
set_option maxHeartbeats 4000000 in
theorem says_any (line : List UInt8) (hl : line.length ≤ 9223372036854775807) (c : Cm) (a1 a2 : Option Addr) (c1 c2 : Nat) (w : World) (hi : CmIn w c a1 c1 a2) (he : Env w) : Calls Tryz.prog 23 #[.string (bs line), cmV c a1 c1 a2 c2] w (SameOut w (saysP line c)) := by
  obtain ⟨W1, hW1⟩ : ∃ W1, W1 = w.alloc (.cells (cmCells c (.slice a1 c.path.route.length c1) (.slice a2 c.params.length c2)) 29) := ⟨_, rfl⟩
  obtain ⟨g1, hg1⟩ : ∃ g1, g1 = w.heap.size := ⟨_, rfl⟩
  have hb1 : Below w.heap.size w W1 := by rw [hW1]; exact (Below.refl _ w).alloc (Nat.le_refl _) _
  have hk1 : Blk W1 g1 29 (cmCells c (.slice a1 c.path.route.length c1) (.slice a2 c.params.length c2)) := by rw [hW1, hg1]; exact Blk.new _ _ _
  have HPA := Lib.hid ((cparse_any line hl W1 (he.later hb1)).mono fun _ _ h => h.in_)
  have HI1 := Lib.hid (hi.below hb1)
  have HL1 := Lib.hid hb1
  have HK1 := Lib.hid hk1
  obtain ⟨d, hd⟩ : ∃ d, d = (cmdP line).1 := ⟨_, rfl⟩
  obtain ⟨z, hz⟩ : ∃ z, z = (cmdP line).2 := ⟨_, rfl⟩
  have hdz : cmdP line = (d, z) := by rw [hd, hz]
  rw [← hd, ← hz] at HPA
  have HF : Hid ((d, z) ≠ (c, 0) → ∀ w', Below w.heap.size w w' → SameOut w (saysP line c) (.returned (.bool false)) w') := fun h w' hb => by
    have : saysP line c = false := by unfold saysP; rw [hdz]; exact decide_eq_false h
    rw [this]
    exact ⟨rfl, hb⟩
  have HT : Hid (d = c → z = 0 → ∀ w', Below w.heap.size w w' → SameOut w (saysP line c) (.returned (.bool true)) w') := fun h1 h2 w' hb => by
    have : saysP line c = true := by unfold saysP; rw [hdz, h1, h2]; exact decide_eq_true rfl
    rw [this]
    exact ⟨rfl, hb⟩
  generalize SameOut w (saysP line c) = Q at *
  unfold cmV cmCells at HPA
  unfold cmCells at hW1 HK1
  unfold cmV cmCells
  have HW1 := Lib.hid hW1
  have HG1 := Lib.hid hg1
  clear hW1 hg1 hb1 hk1 hi he hl hd hz hdz
  generalize bs line = S at *
  go_enter Tryz.func23, Tryz.ntmps23
  go_upto_region 1 with (fail)
  rw [← HW1.out, ← HG1.out]
  go_upto_region 2 with (go_at_call 11; refine HPA.out.mono ?_; rintro e w2 ⟨b1, d1, b2, d2, rfl, hc, hb⟩; have HI2 := Lib.hid hc; have HB2 := Lib.hid hb; clear hc hb)
  change Code.wp _ _ _ _ (World.alloc w2 (.cells #[.int .u8 (d.verb : Int), .string (bs d.arg), .bool d.path.null, .slice b1 d.path.route.length d1, .string (bs d.path.loc), .string (bs d.path.dom), .bool d.path.lit, .slice b2 d.params.length d2] 29))
  obtain ⟨W3, hW3⟩ : ∃ W3, W3 = w2.alloc (.cells #[.int .u8 (d.verb : Int), .string (bs d.arg), .bool d.path.null, .slice b1 d.path.route.length d1, .string (bs d.path.loc), .string (bs d.path.dom), .bool d.path.lit, .slice b2 d.params.length d2] 29) := ⟨_, rfl⟩
  obtain ⟨g3, hg3⟩ : ∃ g, g = w2.heap.size := ⟨_, rfl⟩
  have HK3 : Hid (Blk W3 g3 29 #[.int .u8 (d.verb : Int), .string (bs d.arg), .bool d.path.null, .slice b1 d.path.route.length d1, .string (bs d.path.loc), .string (bs d.path.dom), .bool d.path.lit, .slice b2 d.params.length d2]) := by rw [hW3, hg3]; exact Blk.new _ _ _
  have HB3 : Hid (Below W1.heap.size W1 W3) := by rw [hW3]; exact HB2.out.alloc HB2.out.size _
  have HI3 : Hid (CmIn W3 d b1 d1 b2) := by rw [hW3]; exact HI2.out.below ((Below.refl _ w2).alloc (Nat.le_refl _) _)
  have HC3 : Hid (CmIn W3 c a1 c1 a2) := HI1.out.below HB3.out
  have HKC : Hid (Blk W3 g1 29 #[.int .u8 (c.verb : Int), .string (bs c.arg), .bool c.path.null, .slice a1 c.path.route.length c1, .string (bs c.path.loc), .string (bs c.path.dom), .bool c.path.lit, .slice a2 c.params.length c2]) := HK1.out.below HB3.out HK1.out.lt
  have HLW : Hid (Below w.heap.size w W3) := low_trans HL1.out HB3.out
  rw [← hW3, ← hg3]
  clear hW3 hg3 HPA HB2 HI2 HI1 HK1 HW1
  have HCE : Hid (∀ W, Below W3.heap.size W3 W → (W.cell? ⟨g1, 0, none⟩ = some (.int .u8 (c.verb : Int)) ∧ W.cell? ⟨g1, 1, none⟩ = some (.string (bs c.arg)) ∧ W.cell? ⟨g1, 2, none⟩ = some (.bool c.path.null) ∧ W.cell? ⟨g1, 3, none⟩ = some (.slice a1 c.path.route.length c1) ∧ W.cell? ⟨g1, 4, none⟩ = some (.string (bs c.path.loc)) ∧ W.cell? ⟨g1, 5, none⟩ = some (.string (bs c.path.dom)) ∧ W.cell? ⟨g1, 6, none⟩ = some (.bool c.path.lit) ∧ W.cell? ⟨g1, 7, none⟩ = some (.slice a2 c.params.length c2)) ∧ (W.cell? ⟨g3, 0, none⟩ = some (.int .u8 (d.verb : Int)) ∧ W.cell? ⟨g3, 1, none⟩ = some (.string (bs d.arg)) ∧ W.cell? ⟨g3, 2, none⟩ = some (.bool d.path.null) ∧ W.cell? ⟨g3, 3, none⟩ = some (.slice b1 d.path.route.length d1) ∧ W.cell? ⟨g3, 4, none⟩ = some (.string (bs d.path.loc)) ∧ W.cell? ⟨g3, 5, none⟩ = some (.string (bs d.path.dom)) ∧ W.cell? ⟨g3, 6, none⟩ = some (.bool d.path.lit) ∧ W.cell? ⟨g3, 7, none⟩ = some (.slice b2 d.params.length d2))) := fun W hW => ⟨cells8 (HKC.out.below hW HKC.out.lt), cells8 (HK3.out.below hW HK3.out.lt)⟩
  have HEP := Lib.hid (pms_equal c.params d.params a2 b2 c2 d2 W3 HC3.out.pms HI3.out.pms)
  have HER := Lib.hid (fun W (hW : Below W3.heap.size W3 W) => texts_equal c.path.route d.path.route a1 b1 c1 d1 W (RowAt.below HC3.out.route hW) (RowAt.below HI3.out.route hW))
  clear HC3 HI3 HKC HK3
  obtain ⟨⟨x0, x1, x2, x3, x4, x5, x6, x7⟩, ⟨y0, y1, y2, y3, y4, y5, y6, y7⟩⟩ := HCE.out W3 (Below.refl _ _)
  by_cases e0 : z = 0
  rotate_left
  · have E0 := Lib.hid e0
    have hz : (z == 0) = false := by simpa using e0
    clear e0 HT
    go_wp2
    exact HF.out (fun h => E0.out (Prod.mk.inj h).2) W3 HLW.out
  have hz : (z == 0) = true := by simpa using e0
  have E0 := Lib.hid e0
  clear e0
  by_cases e1 : c.verb = d.verb
  rotate_left
  · have E1 := Lib.hid e1
    have hv : ((c.verb : Int) == (d.verb : Int)) = false := by rw [beq_eq_false_iff_ne]; omega
    clear e1 HT
    go_wp2
    exact HF.out (fun h => cm_ne (.inl E1.out) (Prod.mk.inj h).1.symm) W3 HLW.out
  have hv : ((c.verb : Int) == (d.verb : Int)) = true := by rw [e1]; simp
  have E1 := Lib.hid e1
  clear e1
  by_cases e2 : c.arg = d.arg
  rotate_left
  · have E2 := Lib.hid e2
    have ha : ((bs c.arg).toList == (bs d.arg).toList) = false := by rw [toL_eq]; exact decide_eq_false e2
    clear e2 HT
    go_wp2
    exact HF.out (fun h => cm_ne (.inr (.inl E2.out)) (Prod.mk.inj h).1.symm) W3 HLW.out
  have ha : ((bs c.arg).toList == (bs d.arg).toList) = true := by rw [toL_eq]; exact decide_eq_true e2
  have E2 := Lib.hid e2
  clear e2
  by_cases e3 : c.params = d.params
  rotate_left
  · have E3 := Lib.hid e3
    rw [decide_eq_false e3] at HEP
    clear e3 HT
    go_wp2_with (first | (go_at_call 43; refine HEP.out.mono ?_; rintro e w4 ⟨rfl, hb⟩; have HB4 := Lib.hid hb; clear hb x0 x1 x2 x3 x4 x5 x6 x7 y0 y1 y2 y3 y4 y5 y6 y7; obtain ⟨⟨x0, x1, x2, x3, x4, x5, x6, x7⟩, ⟨y0, y1, y2, y3, y4, y5, y6, y7⟩⟩ := HCE.out w4 HB4.out))
    exact HF.out (fun h => cm_ne (.inr (.inr (.inl E3.out))) (Prod.mk.inj h).1.symm) w4 (low_trans HLW.out HB4.out)
  rw [decide_eq_true e3] at HEP
  have E3 := Lib.hid e3
  clear e3
  by_cases e4 : c.path.null = d.path.null
  rotate_left
  · have E4 := Lib.hid e4
    have hn : (c.path.null == d.path.null) = false := by simpa using e4
    clear e4 HT
    go_wp2_with (first | (go_at_call 43; refine HEP.out.mono ?_; rintro e w4 ⟨rfl, hb⟩; have HB4 := Lib.hid hb; clear hb x0 x1 x2 x3 x4 x5 x6 x7 y0 y1 y2 y3 y4 y5 y6 y7; obtain ⟨⟨x0, x1, x2, x3, x4, x5, x6, x7⟩, ⟨y0, y1, y2, y3, y4, y5, y6, y7⟩⟩ := HCE.out w4 HB4.out))
    exact HF.out (fun h => cm_ne (.inr (.inr (.inr (.inl E4.out)))) (Prod.mk.inj h).1.symm) w4 (low_trans HLW.out HB4.out)
  have hn : (c.path.null == d.path.null) = true := by simpa using e4
  have E4 := Lib.hid e4
  clear e4
  by_cases e5 : c.path.loc = d.path.loc
  rotate_left
  · have E5 := Lib.hid e5
    have hlo : ((bs c.path.loc).toList == (bs d.path.loc).toList) = false := by rw [toL_eq]; exact decide_eq_false e5
    clear e5 HT
    go_wp2_with (first | (go_at_call 43; refine HEP.out.mono ?_; rintro e w4 ⟨rfl, hb⟩; have HB4 := Lib.hid hb; clear hb x0 x1 x2 x3 x4 x5 x6 x7 y0 y1 y2 y3 y4 y5 y6 y7; obtain ⟨⟨x0, x1, x2, x3, x4, x5, x6, x7⟩, ⟨y0, y1, y2, y3, y4, y5, y6, y7⟩⟩ := HCE.out w4 HB4.out))
    exact HF.out (fun h => cm_ne (.inr (.inr (.inr (.inr (.inl E5.out))))) (Prod.mk.inj h).1.symm) w4 (low_trans HLW.out HB4.out)
  have hlo : ((bs c.path.loc).toList == (bs d.path.loc).toList) = true := by rw [toL_eq]; exact decide_eq_true e5
  have E5 := Lib.hid e5
  clear e5
  by_cases e6 : c.path.dom = d.path.dom
  rotate_left
  · have E6 := Lib.hid e6
    have hdo : ((bs c.path.dom).toList == (bs d.path.dom).toList) = false := by rw [toL_eq]; exact decide_eq_false e6
    clear e6 HT
    go_wp2_with (first | (go_at_call 43; refine HEP.out.mono ?_; rintro e w4 ⟨rfl, hb⟩; have HB4 := Lib.hid hb; clear hb x0 x1 x2 x3 x4 x5 x6 x7 y0 y1 y2 y3 y4 y5 y6 y7; obtain ⟨⟨x0, x1, x2, x3, x4, x5, x6, x7⟩, ⟨y0, y1, y2, y3, y4, y5, y6, y7⟩⟩ := HCE.out w4 HB4.out))
    exact HF.out (fun h => cm_ne (.inr (.inr (.inr (.inr (.inr (.inl E6.out)))))) (Prod.mk.inj h).1.symm) w4 (low_trans HLW.out HB4.out)
  have hdo : ((bs c.path.dom).toList == (bs d.path.dom).toList) = true := by rw [toL_eq]; exact decide_eq_true e6
  have E6 := Lib.hid e6
  clear e6
  by_cases e7 : c.path.lit = d.path.lit
  rotate_left
  · have E7 := Lib.hid e7
    have hli : (c.path.lit == d.path.lit) = false := by simpa using e7
    clear e7 HT
    go_wp2_with (first | (go_at_call 43; refine HEP.out.mono ?_; rintro e w4 ⟨rfl, hb⟩; have HB4 := Lib.hid hb; clear hb x0 x1 x2 x3 x4 x5 x6 x7 y0 y1 y2 y3 y4 y5 y6 y7; obtain ⟨⟨x0, x1, x2, x3, x4, x5, x6, x7⟩, ⟨y0, y1, y2, y3, y4, y5, y6, y7⟩⟩ := HCE.out w4 HB4.out))
    exact HF.out (fun h => cm_ne (.inr (.inr (.inr (.inr (.inr (.inr (.inl E7.out))))))) (Prod.mk.inj h).1.symm) w4 (low_trans HLW.out HB4.out)
  have hli : (c.path.lit == d.path.lit) = true := by simpa using e7
  have E7 := Lib.hid e7
  clear e7
  by_cases e8 : c.path.route = d.path.route
  rotate_left
  · have E8 := Lib.hid e8
    rw [decide_eq_false e8] at HER
    clear e8 HT
    go_wp2_with (first | (go_at_call 43; refine HEP.out.mono ?_; rintro e w4 ⟨rfl, hb⟩; have HB4 := Lib.hid hb; clear hb x0 x1 x2 x3 x4 x5 x6 x7 y0 y1 y2 y3 y4 y5 y6 y7; obtain ⟨⟨x0, x1, x2, x3, x4, x5, x6, x7⟩, ⟨y0, y1, y2, y3, y4, y5, y6, y7⟩⟩ := HCE.out w4 HB4.out) | (go_at_call 44; refine (HER.out w4 HB4.out).mono ?_; rintro e w5 ⟨rfl, hb⟩; have HB5 := Lib.hid (low_trans HB4.out hb); clear hb))
    exact HF.out (fun h => cm_ne (.inr (.inr (.inr (.inr (.inr (.inr (.inr (E8.out)))))))) (Prod.mk.inj h).1.symm) w5 (low_trans HLW.out HB5.out)
  rw [decide_eq_true e8] at HER
  have E8 := Lib.hid e8
  clear e8
  go_wp2_with (first | (go_at_call 43; refine HEP.out.mono ?_; rintro e w4 ⟨rfl, hb⟩; have HB4 := Lib.hid hb; clear hb x0 x1 x2 x3 x4 x5 x6 x7 y0 y1 y2 y3 y4 y5 y6 y7; obtain ⟨⟨x0, x1, x2, x3, x4, x5, x6, x7⟩, ⟨y0, y1, y2, y3, y4, y5, y6, y7⟩⟩ := HCE.out w4 HB4.out) | (go_at_call 44; refine (HER.out w4 HB4.out).mono ?_; rintro e w5 ⟨rfl, hb⟩; have HB5 := Lib.hid (low_trans HB4.out hb); clear hb))
  exact HT.out (cm_eq E1.out E2.out E3.out E4.out E5.out E6.out E7.out E8.out).symm E0.out w5 (low_trans HLW.out HB5.out)
theorem right_say (c : Cm) : saysP (lineP c) c = rightC c := rfl
set_option maxRecDepth 100000 in
set_option maxHeartbeats 1000000 in
theorem cright_any (c : Cm) (hv : c.verb ≤ 255) (a1 a2 : Option Addr) (c1 c2 : Nat) (hf : CmFits c 1099511627776) (w : World) (hi : CmIn w c a1 c1 a2) (he : Env w) : Calls Tryz.prog 9 #[cmV c a1 c1 a2 c2] w (SameOut w (rightC c)) := by
  obtain ⟨W1, hW1⟩ : ∃ W1, W1 = w.alloc (.cells (cmCells c (.slice a1 c.path.route.length c1) (.slice a2 c.params.length c2)) 29) := ⟨_, rfl⟩
  obtain ⟨g1, hg1⟩ : ∃ g1, g1 = w.heap.size := ⟨_, rfl⟩
  have hb1 : Below w.heap.size w W1 := by rw [hW1]; exact (Below.refl _ w).alloc (Nat.le_refl _) _
  have hk1 : Blk W1 g1 29 (cmCells c (.slice a1 c.path.route.length c1) (.slice a2 c.params.length c2)) := by rw [hW1, hg1]; exact Blk.new _ _ _
  have HLO := Lib.hid (fun W (hW : Below W1.heap.size W1 W) => lineOf_any c hv a1 a2 c1 c2 hf W ((hi.below hb1).below hW) ((he.later hb1).later hW))
  have HSA := Lib.hid (fun W (hW : Below W1.heap.size W1 W) => says_any (lineP c) (by unfold lineP; have := take_le (fullP c); omega) c a1 a2 c1 c2 W ((hi.below hb1).below hW) ((he.later hb1).later hW))
  rw [right_say] at HSA
  have HL1 := Lib.hid hb1
  have HK1 := Lib.hid hk1
  have HQ : Hid (∀ w', Below w.heap.size w w' → SameOut w (rightC c) (.returned (.bool (rightC c))) w') := fun w' h => ⟨rfl, h⟩
  generalize SameOut w (rightC c) = Q at *
  unfold cmV cmCells at HLO HSA ⊢
  unfold cmCells at hW1 HK1
  have HW1 := Lib.hid hW1
  have HG1 := Lib.hid hg1
  clear hW1 hg1 hb1 hk1 hi he hf
  generalize rightC c = R at *
  generalize bs (lineP c) = S at *
  obtain ⟨x0, x1, x2, x3, x4, x5, x6, x7⟩ := cells8 HK1.out
  have HK2 : Hid (∀ W, Below W1.heap.size W1 W → Blk W g1 29 #[.int .u8 (c.verb : Int), .string (bs c.arg), .bool c.path.null, .slice a1 c.path.route.length c1, .string (bs c.path.loc), .string (bs c.path.dom), .bool c.path.lit, .slice a2 c.params.length c2]) := fun W hW => HK1.out.below hW HK1.out.lt
  go_enter Tryz.func9, Tryz.ntmps9
  go_upto_region 1 with (fail)
  rw [← HW1.out, ← HG1.out]
  have HD : Hid (Below W1.heap.size W1 W1.drew) := ⟨rfl, rfl, rfl, Nat.le_refl _, fun _ _ => rfl⟩
  clear x0 x1 x2 x3 x4 x5 x6 x7
  obtain ⟨x0, x1, x2, x3, x4, x5, x6, x7⟩ := cells8 (HK2.out _ HD.out)
  go_region_law (first | (go_simp; go_at_call 22; refine (HLO.out _ HD.out).mono ?_; rintro e w3 ⟨rfl, hb⟩; have HB3 := Lib.hid (low_trans HD.out hb); clear hb x0 x1 x2 x3 x4 x5 x6 x7; obtain ⟨x0, x1, x2, x3, x4, x5, x6, x7⟩ := cells8 (HK2.out _ HB3.out)) | (go_simp; go_at_call 23; refine (HSA.out _ HB3.out).mono ?_; rintro e w4 ⟨rfl, hb⟩; have HB4 := Lib.hid (low_trans HB3.out hb); clear hb))
  all_goals go_wp2
  all_goals first | (go_ret; exact HQ.out _ (low_trans HL1.out HB4.out)) | (go_simp; go_ret; exact HQ.out _ (low_trans HL1.out HB4.out)) | (go_simp; exact HQ.out _ (low_trans HL1.out HB4.out))
set_option maxRecDepth 100000 in
set_option maxHeartbeats 1000000 in
theorem cprint_any (c : Cm) (hv : c.verb ≤ 255) (a1 a2 : Option Addr) (c1 c2 : Nat) (hf : CmFits c 1099511627776) (w : World) (hi : CmIn w c a1 c1 a2) (he : Env w) : Calls Tryz.prog 8 #[cmV c a1 c1 a2 c2] w (PrOut w (printC c)) := by
  obtain ⟨W1, hW1⟩ : ∃ W1, W1 = w.alloc (.cells (cmCells c (.slice a1 c.path.route.length c1) (.slice a2 c.params.length c2)) 29) := ⟨_, rfl⟩
  obtain ⟨g1, hg1⟩ : ∃ g1, g1 = w.heap.size := ⟨_, rfl⟩
  have hb1 : Below w.heap.size w W1 := by rw [hW1]; exact (Below.refl _ w).alloc (Nat.le_refl _) _
  have hk1 : Blk W1 g1 29 (cmCells c (.slice a1 c.path.route.length c1) (.slice a2 c.params.length c2)) := by rw [hW1, hg1]; exact Blk.new _ _ _
  have HLO := Lib.hid (fun W (hW : Below W1.heap.size W1 W) => lineOf_any c hv a1 a2 c1 c2 hf W ((hi.below hb1).below hW) ((he.later hb1).later hW))
  have HSA := Lib.hid (fun W (hW : Below W1.heap.size W1 W) => says_any (lineP c) (by unfold lineP; have := take_le (fullP c); omega) c a1 a2 c1 c2 W ((hi.below hb1).below hW) ((he.later hb1).later hW))
  rw [right_say] at HSA
  have HL1 := Lib.hid hb1
  have HK1 := Lib.hid hk1
  have HQT : Hid (rightC c = true → ∀ w', Below w.heap.size w w' → PrOut w (printC c) (.returned (.tuple #[.string (bs (lineP c)), .int .i64 0])) w') := fun h w' hb => by
    unfold printC
    rw [if_pos h]
    exact ⟨rfl, hb⟩
  have HQF : Hid (rightC c = false → ∀ w', Below w.heap.size w w' → PrOut w (printC c) (.returned (.tuple #[.string ⟨#[]⟩, .int .i64 2])) w') := fun h w' hb => by
    unfold printC
    rw [if_neg (by rw [h]; decide)]
    exact ⟨rfl, hb⟩
  generalize PrOut w (printC c) = Q at *
  unfold cmV cmCells at HLO HSA ⊢
  unfold cmCells at hW1 HK1
  have HW1 := Lib.hid hW1
  have HG1 := Lib.hid hg1
  clear hW1 hg1 hb1 hk1 hi he hf
  generalize bs (lineP c) = S at *
  have HK2 : Hid (∀ W, Below W1.heap.size W1 W → Blk W g1 29 #[.int .u8 (c.verb : Int), .string (bs c.arg), .bool c.path.null, .slice a1 c.path.route.length c1, .string (bs c.path.loc), .string (bs c.path.dom), .bool c.path.lit, .slice a2 c.params.length c2]) := fun W hW => HK1.out.below hW HK1.out.lt
  obtain ⟨x0, x1, x2, x3, x4, x5, x6, x7⟩ := cells8 HK1.out
  cases hr : rightC c with
  | true =>
    rw [hr] at HSA
    have HO := Lib.hid (HQT.out hr)
    clear HQT HQF hr
    go_enter Tryz.func8, Tryz.ntmps8
    go_upto_region 1 with (fail)
    rw [← HW1.out, ← HG1.out]
    go_wp2_with (first | (go_at_call 22; refine (HLO.out _ (Below.refl _ _)).mono ?_; rintro e w3 ⟨rfl, hb⟩; have HB3 := Lib.hid hb; clear hb x0 x1 x2 x3 x4 x5 x6 x7; obtain ⟨x0, x1, x2, x3, x4, x5, x6, x7⟩ := cells8 (HK2.out _ HB3.out)) | (go_at_call 23; refine (HSA.out _ HB3.out).mono ?_; rintro e w4 ⟨rfl, hb⟩; have HB4 := Lib.hid (low_trans HB3.out hb); clear hb))
    exact HO.out _ (low_trans HL1.out HB4.out)
  | false =>
    rw [hr] at HSA
    have HO := Lib.hid (HQF.out hr)
    clear HQT HQF hr
    go_enter Tryz.func8, Tryz.ntmps8
    go_upto_region 1 with (fail)
    rw [← HW1.out, ← HG1.out]
    go_wp2_with (first | (go_at_call 22; refine (HLO.out _ (Below.refl _ _)).mono ?_; rintro e w3 ⟨rfl, hb⟩; have HB3 := Lib.hid hb; clear hb x0 x1 x2 x3 x4 x5 x6 x7; obtain ⟨x0, x1, x2, x3, x4, x5, x6, x7⟩ := cells8 (HK2.out _ HB3.out)) | (go_at_call 23; refine (HSA.out _ HB3.out).mono ?_; rintro e w4 ⟨rfl, hb⟩; have HB4 := Lib.hid (low_trans HB3.out hb); clear hb))
    exact HO.out _ (low_trans HL1.out HB4.out)
end Go.Proofs.YtnkepdeegpampaaGreatDoor

/-
  The contract of frankinglaw16.Same. Conditions: the commands lie in memory.
-/
namespace Go.Proofs.YtnkepdeegpampaaGreatDoor
open Go.RowKit Go.Shelf

set_option maxRecDepth 100000 in
set_option maxHeartbeats 4000000 in
theorem same16_any (c d : Cm) (a1 a2 b1 b2 : Option Addr) (c1 c2 d1 d2 : Nat) (w : World) (hr1 : TextsAt w a1 c.path.route) (hp1 : PmsAt w a2 c.params) (hr2 : TextsAt w b1 d.path.route) (hp2 : PmsAt w b2 d.params) : Calls Tryz.prog 12 #[cmV c a1 c1 a2 c2, cmV d b1 d1 b2 d2] w (SameOut w (decide (c = d))) := by
  obtain ⟨W1, hW1⟩ : ∃ W1, W1 = w.alloc (.cells (cmCells c (.slice a1 c.path.route.length c1) (.slice a2 c.params.length c2)) 29) := ⟨_, rfl⟩
  obtain ⟨W2, hW2⟩ : ∃ W2, W2 = W1.alloc (.cells (cmCells d (.slice b1 d.path.route.length d1) (.slice b2 d.params.length d2)) 29) := ⟨_, rfl⟩
  obtain ⟨g1, hg1⟩ : ∃ g1, g1 = w.heap.size := ⟨_, rfl⟩
  obtain ⟨g2, hg2⟩ : ∃ g2, g2 = w.heap.size + 1 := ⟨_, rfl⟩
  have hs1 : W1.heap.size = w.heap.size + 1 := by rw [hW1, World.size_alloc]
  have hb1 : Below w.heap.size w W1 := by rw [hW1]; exact (Below.refl _ w).alloc (Nat.le_refl _) _
  have hb2 : Below w.heap.size w W2 := by rw [hW2]; exact hb1.alloc hb1.size _
  have hk1 : Blk W2 g1 29 (cmCells c (.slice a1 c.path.route.length c1) (.slice a2 c.params.length c2)) := by rw [hW2, hW1, hg1]; exact (Blk.new _ _ _).alloc _
  have hk2 : Blk W2 g2 29 (cmCells d (.slice b1 d.path.route.length d1) (.slice b2 d.params.length d2)) := by rw [hW2, hg2, ← hs1]; exact Blk.new _ _ _
  have HS := Lib.hid (same_any c.path d.path a1 b1 c1 d1 W2 (RowAt.below hr1 hb2) (RowAt.below hr2 hb2))
  have HP1 := Lib.hid (fun W (hW : Below W2.heap.size W2 W) => (show PmsAt W a2 c.params from RowAt.below (RowAt.below hp1 hb2) hW))
  have HP2 := Lib.hid (fun W (hW : Below W2.heap.size W2 W) => (show PmsAt W b2 d.params from RowAt.below (RowAt.below hp2 hb2) hW))
  have HL := Lib.hid hb2
  have HF : Hid (c ≠ d → ∀ w', Below w.heap.size w w' → SameOut w (decide (c = d)) (.returned (.bool false)) w') := fun h w' hb => by rw [decide_eq_false h]; exact ⟨rfl, hb⟩
  have HT : Hid (c = d → ∀ w', Below w.heap.size w w' → SameOut w (decide (c = d)) (.returned (.bool true)) w') := fun h w' hb => by rw [decide_eq_true h]; exact ⟨rfl, hb⟩
  generalize SameOut w (decide (c = d)) = Q at *
  have HCE : Hid (∀ W, Below W2.heap.size W2 W → ((W.cell? ⟨g1, 0, none⟩ = some (.int .u8 (c.verb : Int)) ∧ W.cell? ⟨g1, 1, none⟩ = some (.string (bs c.arg)) ∧ W.cell? ⟨g1, 2, none⟩ = some (.bool c.path.null) ∧ W.cell? ⟨g1, 3, none⟩ = some (.slice a1 c.path.route.length c1) ∧ W.cell? ⟨g1, 4, none⟩ = some (.string (bs c.path.loc)) ∧ W.cell? ⟨g1, 5, none⟩ = some (.string (bs c.path.dom)) ∧ W.cell? ⟨g1, 6, none⟩ = some (.bool c.path.lit) ∧ W.cell? ⟨g1, 7, none⟩ = some (.slice a2 c.params.length c2)) ∧ (W.cell? ⟨g2, 0, none⟩ = some (.int .u8 (d.verb : Int)) ∧ W.cell? ⟨g2, 1, none⟩ = some (.string (bs d.arg)) ∧ W.cell? ⟨g2, 2, none⟩ = some (.bool d.path.null) ∧ W.cell? ⟨g2, 3, none⟩ = some (.slice b1 d.path.route.length d1) ∧ W.cell? ⟨g2, 4, none⟩ = some (.string (bs d.path.loc)) ∧ W.cell? ⟨g2, 5, none⟩ = some (.string (bs d.path.dom)) ∧ W.cell? ⟨g2, 6, none⟩ = some (.bool d.path.lit) ∧ W.cell? ⟨g2, 7, none⟩ = some (.slice b2 d.params.length d2)))) := fun W hW => ⟨cells8 (hk1.below hW hk1.lt), cells8 (hk2.below hW hk2.lt)⟩
  unfold paV paCells at HS
  unfold cmCells at hW1 hW2
  unfold cmV cmCells
  have m1 := hp1.len
  rw [pmFlat_len] at m1
  unfold maxLen at m1
  have HW1 := Lib.hid hW1
  have HW2 := Lib.hid hW2
  have HG1 := Lib.hid hg1
  have HG2 := Lib.hid hg2
  obtain ⟨⟨x0, x1, x2, x3, x4, x5, x6, x7⟩, ⟨y0, y1, y2, y3, y4, y5, y6, y7⟩⟩ := HCE.out W2 (Below.refl _ _)
  clear hW1 hW2 hg1 hg2 hs1 hb1 hb2 hk1 hk2 hr1 hp1 hr2 hp2
  by_cases e0 : c.verb = d.verb
  rotate_left
  · have E0 := Lib.hid e0
    have hv : ((c.verb : Int) == (d.verb : Int)) = false := by rw [beq_eq_false_iff_ne]; omega
    have hv3 : ¬ ((c.verb : Int) = (d.verb : Int)) := by omega
    clear e0 HT
    go_enter Tryz.func12, Tryz.ntmps12
    go_upto_region 1 with (fail)
    rw [← HW1.out, ← HW2.out, ← HG2.out, ← HG1.out]
    go_wp2
    exact HF.out (fun h => E0.out (by rw [h])) W2 HL.out
  have hv : ((c.verb : Int) == (d.verb : Int)) = true := by rw [e0]; simp
  rw [← e0] at y0 HCE HW2 ⊢
  clear hv
  have E0 := Lib.hid e0
  clear e0
  by_cases e1 : c.arg = d.arg
  rotate_left
  · have E1 := Lib.hid e1
    have ha : ((bs c.arg).toList == (bs d.arg).toList) = false := by rw [toL_eq]; exact decide_eq_false e1
    clear e1 HT
    go_enter Tryz.func12, Tryz.ntmps12
    go_upto_region 1 with (fail)
    rw [← HW1.out, ← HW2.out, ← HG2.out, ← HG1.out]
    go_wp2
    exact HF.out (fun h => E1.out (by rw [h])) W2 HL.out
  have ha : ((bs c.arg).toList == (bs d.arg).toList) = true := by rw [toL_eq]; exact decide_eq_true e1
  have E1 := Lib.hid e1
  clear e1
  by_cases e2 : c.path = d.path
  rotate_left
  · have E2 := Lib.hid e2
    rw [decide_eq_false e2] at HS
    clear e2 HT
    go_enter Tryz.func12, Tryz.ntmps12
    go_upto_region 1 with (fail)
    rw [← HW1.out, ← HW2.out, ← HG2.out, ← HG1.out]
    go_wp2_with ((go_at_call 27; refine HS.out.mono ?_; rintro e w4 ⟨rfl, hb⟩; have HB4 := Lib.hid hb; clear hb x0 x1 x2 x3 x4 x5 x6 x7 y0 y1 y2 y3 y4 y5 y6 y7; obtain ⟨⟨x0, x1, x2, x3, x4, x5, x6, x7⟩, ⟨y0, y1, y2, y3, y4, y5, y6, y7⟩⟩ := HCE.out w4 HB4.out))
    exact HF.out (fun h => E2.out (by rw [h])) w4 (low_trans HL.out HB4.out)
  rw [decide_eq_true e2] at HS
  have E2 := Lib.hid e2
  clear e2
  by_cases e3 : c.params.length = d.params.length
  rotate_left
  · have E3 := Lib.hid e3
    have hl : ((c.params.length : Int) == (d.params.length : Int)) = false := by rw [beq_eq_false_iff_ne]; omega
    have hv3 : ¬ ((c.params.length : Int) = (d.params.length : Int)) := by omega
    clear e3 HT
    go_enter Tryz.func12, Tryz.ntmps12
    go_upto_region 1 with (fail)
    rw [← HW1.out, ← HW2.out, ← HG2.out, ← HG1.out]
    go_wp2_with ((go_at_call 27; refine HS.out.mono ?_; rintro e w4 ⟨rfl, hb⟩; have HB4 := Lib.hid hb; clear hb x0 x1 x2 x3 x4 x5 x6 x7 y0 y1 y2 y3 y4 y5 y6 y7; obtain ⟨⟨x0, x1, x2, x3, x4, x5, x6, x7⟩, ⟨y0, y1, y2, y3, y4, y5, y6, y7⟩⟩ := HCE.out w4 HB4.out))
    exact HF.out (fun h => E3.out (by rw [h])) w4 (low_trans HL.out HB4.out)
  have hl : ((c.params.length : Int) == (d.params.length : Int)) = true := by rw [e3]; simp
  have E3 := Lib.hid e3
  clear e3
  obtain ⟨n, hn⟩ : ∃ n, n = c.params.length := ⟨_, rfl⟩
  rw [← E3.out, ← hn] at HCE hl HW2
  rw [← hn] at HW1 m1
  rw [← E3.out] at y7 ⊢
  rw [← hn] at x7 y7 ⊢
  have HN1 := Lib.hid hn
  have HN2 : Hid (n = d.params.length) := hn.trans E3.out
  have hnb : (n : Int) ≤ 4611686018427387904 := by omega
  clear hn m1
  go_enter Tryz.func12, Tryz.ntmps12
  go_upto_region 1 with (fail)
  rw [← HW1.out, ← HW2.out, ← HG2.out, ← HG1.out]
  go_upto_region 3 with ((go_at_call 27; refine HS.out.mono ?_; rintro e w4 ⟨rfl, hb⟩; have HB4 := Lib.hid hb; clear hb x0 x1 x2 x3 x4 x5 x6 x7 y0 y1 y2 y3 y4 y5 y6 y7; obtain ⟨⟨x0, x1, x2, x3, x4, x5, x6, x7⟩, ⟨y0, y1, y2, y3, y4, y5, y6, y7⟩⟩ := HCE.out w4 HB4.out))
  have HL4 := Lib.hid (low_trans HL.out HB4.out)
  go_wp2
  go_loopw [38] (fun i wr => ∃ k m : Nat, k ≤ n ∧ i = .int .i64 (k : Int) ∧ Hid (c.params.take k = d.params.take k) ∧ Hid (wr = w4.drewN m)) (fun i _ => n - (intOf i).toNat)
  case atStart => exact ⟨0, 0, Nat.zero_le _, rfl, rfl, rfl⟩
  case round =>
    as_aux_lemma =>
      obtain ⟨k, m, hk, rfl, HE, HW⟩ := hrel
      have hk0 : (0 : Int) ≤ (k : Int) := by omega
      have hw0 : wr = w4.drewN m := HW.out
      have HBW : Hid (Below W2.heap.size W2 wr) := by rw [hw0]; exact drewN_below HB4.out m
      have HQW : Hid (∀ q, Below w.heap.size w (wr.drewN q)) := fun q => by rw [hw0, drewN_add]; exact drewN_below HL4.out _
      clear x0 x1 x2 x3 x4 x5 x6 x7 y0 y1 y2 y3 y4 y5 y6 y7 hw0
      obtain ⟨⟨x0, x1, x2, x3, x4, x5, x6, x7⟩, ⟨y0, y1, y2, y3, y4, y5, y6, y7⟩⟩ := HCE.out wr HBW.out
      clear x0 x1 x2 x3 x4 x5 x6 y0 y1 y2 y3 y4 y5 y6
      by_cases hlt : k < n
      · have hkp : k < c.params.length := by rw [← HN1.out]; exact hlt
        have hkq : k < d.params.length := by rw [← HN2.out]; exact hlt
        have hkz : (k : Int) < (n : Int) := by omega
        obtain ⟨f1, o1, rfl, p0, p1, p2⟩ := PmsAt.at_ (HP1.out wr HBW.out) hkp
        obtain ⟨f2, o2, rfl, q0, q1, q2⟩ := PmsAt.at_ (HP2.out wr HBW.out) hkq
        have HST : Hid (c.params[k] = d.params[k] → c.params.take (k + 1) = d.params.take (k + 1)) := fun h => by
          rw [List.take_succ_eq_append_getElem hkp, List.take_succ_eq_append_getElem hkq, h, HE.out]
        have HNE : Hid (c.params[k] ≠ d.params[k] → c ≠ d) := fun h e => h (by
          subst e
          rfl)
        have hcs := pm_parts c.params[k] d.params[k]
        generalize c.params[k] = u at *
        generalize d.params[k] = v at *
        obtain ⟨uk, uv, uh⟩ := u
        obtain ⟨vk, vv, vh⟩ := v
        clear hkp hkq
        simp only at p0 p1 p2 q0 q1 q2 hcs
        rcases hcs with ⟨he, f1', f2', f3'⟩ | ⟨hne, hcs⟩
        · have HNX := Lib.hid (HST.out he)
          clear HST HNE he
          generalize bs uk = z1 at *
          generalize bs uv = z2 at *
          generalize bs vk = z3 at *
          generalize bs vv = z4 at *
          go_wp2
          go_quiet (fail)
          go_wp2
          go_roundw
          case rel => exact ⟨k + 1, m + nq, by omega, by go_num, HNX.out, (by show _ = _; rw [HW.out]; exact drewN_add w4 m nq)⟩
          case measure => simp [intOf]; omega
        · have HNX := Lib.hid (HNE.out hne)
          clear HST HNE hne
          generalize bs uk = z1 at *
          generalize bs uv = z2 at *
          generalize bs vk = z3 at *
          generalize bs vv = z4 at *
          rcases hcs with f1' | ⟨f1', f2' | ⟨f2', f3'⟩⟩
          all_goals
            go_wp2
            go_quiet (fail)
            go_wp2
            exact HF.out HNX.out _ (HQW.out _)
      · have hke : k = n := by omega
        have hkz : ¬ (k : Int) < (n : Int) := by omega
        have HRR : Hid (c = d) := by
          have h1 := HE.out
          rw [hke] at h1
          rw [show n = c.params.length from HN1.out, List.take_length] at h1
          rw [show c.params.length = d.params.length from HN1.out.symm.trans HN2.out, List.take_length] at h1
          have i1 := E0.out
          have i2 := E1.out
          have i3 := E2.out
          show c = d
          cases c
          cases d
          simp only at h1 i1 i2 i3
          rw [h1, i1, i2, i3]
        clear hke HE
        go_wp2
        have := HQW.out 0
        exact HT.out HRR.out _ this
end Go.Proofs.YtnkepdeegpampaaGreatDoor

/-
  The contracts of frankinglaw16.refused, frankinglaw16.reads, frankinglaw16.awake. Conditions: the variables that are read.
-/
namespace Go.Proofs.YtnkepdeegpampaaGreatDoor
open Go.RowKit Go.Shelf

theorem noPms (w : World) (a : Option Addr) : PmsAt w a [] := pms_none w a
set_option maxRecDepth 100000 in
set_option maxHeartbeats 2000000 in
theorem refused_yes (line : List UInt8) (hl : line.length ≤ 9223372036854775807) (z : Int) (h : cmdP line = ({}, z)) (w : World) (he : Env w) : Calls Tryz.prog 17 #[.string (bs line), .int .i64 z] w (SameOut w true) := by
  have hp := cparse_any line hl w he
  rw [h] at hp
  have HPA : Hid (Calls Tryz.prog 11 #[.string (bs line)] w fun e w' => ∃ a1 c1 a2 c2, e = .returned (.tuple #[.agg #[.int .u8 0, .string ⟨#[]⟩, .bool false, .slice a1 0 c1, .string ⟨#[]⟩, .string ⟨#[]⟩, .bool false, .slice a2 0 c2], .int .i64 z]) ∧ Below w.heap.size w w') := hp.mono fun e w' hh => by
    obtain ⟨a1, c1, a2, c2, h1, _, h3⟩ := hh.in_
    exact ⟨a1, c1, a2, c2, h1, h3⟩
  have HSM : Hid (∀ W a1 c1 a2 c2, Calls Tryz.prog 12 #[.agg #[.int .u8 0, .string ⟨#[]⟩, .bool false, .slice a1 0 c1, .string ⟨#[]⟩, .string ⟨#[]⟩, .bool false, .slice a2 0 c2], .agg #[.int .u8 0, .string ⟨#[]⟩, .bool false, .slice none 0 0, .string ⟨#[]⟩, .string ⟨#[]⟩, .bool false, .slice none 0 0]] W (SameOut W true)) := fun W a1 c1 a2 c2 => same16_any {} {} a1 a2 none none c1 c2 0 0 W (noTexts W a1) (noPms W a2) (noTexts W none) (noPms W none)
  have HQ : Hid (∀ w', Below w.heap.size w w' → SameOut w true (.returned (.bool true)) w') := fun w' hb => ⟨rfl, hb⟩
  generalize SameOut w true = Q at *
  clear hp h hl he
  generalize bs line = S at *
  go_enter Tryz.func17, Tryz.ntmps17
  go_upto_region 2 with (go_at_call 11; refine HPA.out.mono ?_; rintro e w2 ⟨a1, c1, a2, c2, rfl, hb⟩; have HB2 := Lib.hid hb; clear hb)
  change Code.wp _ _ _ _ (World.alloc w2 (.cells #[.int .u8 0, .string ⟨#[]⟩, .bool false, .slice a1 0 c1, .string ⟨#[]⟩, .string ⟨#[]⟩, .bool false, .slice a2 0 c2] 29))
  obtain ⟨W3, hW3⟩ : ∃ W3, W3 = w2.alloc (.cells #[.int .u8 0, .string ⟨#[]⟩, .bool false, .slice a1 0 c1, .string ⟨#[]⟩, .string ⟨#[]⟩, .bool false, .slice a2 0 c2] 29) := ⟨_, rfl⟩
  obtain ⟨g3, hg3⟩ : ∃ g, g = w2.heap.size := ⟨_, rfl⟩
  have HK3 : Hid (Blk W3 g3 29 #[.int .u8 0, .string ⟨#[]⟩, .bool false, .slice a1 0 c1, .string ⟨#[]⟩, .string ⟨#[]⟩, .bool false, .slice a2 0 c2]) := by rw [hW3, hg3]; exact Blk.new _ _ _
  have HB3 : Hid (Below w.heap.size w W3) := by rw [hW3]; exact HB2.out.alloc HB2.out.size _
  rw [← hW3, ← hg3]
  clear hW3 hg3 HPA HB2
  obtain ⟨x0, x1, x2, x3, x4, x5, x6, x7⟩ := cells8 HK3.out
  go_wp2_with (go_at_call 12; refine (HSM.out _ _ _ _ _).mono ?_; rintro e w4 ⟨rfl, hb⟩; have HB4 := Lib.hid (low_trans HB3.out hb); clear hb)
  exact HQ.out w4 HB4.out
set_option maxRecDepth 100000 in
set_option maxHeartbeats 2000000 in
theorem reads16_yes (line : List UInt8) (hl : line.length ≤ 9223372036854775807) (c : Cm) (h : cmdP line = (c, 0)) (a1 a2 : Option Addr) (c1 c2 : Nat) (w : World) (hr : TextsAt w a1 c.path.route) (hpm : PmsAt w a2 c.params) (he : Env w) : Calls Tryz.prog 20 #[.string (bs line), cmV c a1 c1 a2 c2] w (SameOut w true) := by
  obtain ⟨W1, hW1⟩ : ∃ W1, W1 = w.alloc (.cells (cmCells c (.slice a1 c.path.route.length c1) (.slice a2 c.params.length c2)) 29) := ⟨_, rfl⟩
  obtain ⟨g1, hg1⟩ : ∃ g1, g1 = w.heap.size := ⟨_, rfl⟩
  have hb1 : Below w.heap.size w W1 := by rw [hW1]; exact (Below.refl _ w).alloc (Nat.le_refl _) _
  have hk1 : Blk W1 g1 29 (cmCells c (.slice a1 c.path.route.length c1) (.slice a2 c.params.length c2)) := by rw [hW1, hg1]; exact Blk.new _ _ _
  have hp := (cparse_any line hl W1 (he.later hb1))
  rw [h] at hp
  have HPA := Lib.hid (hp.mono fun _ _ hh => hh.in_)
  have HR1 := Lib.hid (RowAt.below hr hb1)
  have HP1 := Lib.hid (RowAt.below hpm hb1)
  have HL1 := Lib.hid hb1
  have HK1 := Lib.hid hk1
  have HQ : Hid (∀ w', Below w.heap.size w w' → SameOut w true (.returned (.bool true)) w') := fun w' hb => ⟨rfl, hb⟩
  generalize SameOut w true = Q at *
  have HSS := Lib.hid (fun W b1 b2 d1 d2 (hW : Below W1.heap.size W1 W) (k1 : TextsAt W b1 c.path.route) (k2 : PmsAt W b2 c.params) => same16_any c c b1 b2 a1 a2 d1 d2 c1 c2 W k1 k2 (RowAt.below HR1.out hW) (RowAt.below HP1.out hW))
  rw [decide_eq_true rfl] at HSS
  unfold cmV cmCells at HPA HSS ⊢
  unfold cmCells at hW1 HK1
  have HW1 := Lib.hid hW1
  have HG1 := Lib.hid hg1
  clear hW1 hg1 hb1 hk1 hp h hl he hr hpm
  generalize bs line = S at *
  go_enter Tryz.func20, Tryz.ntmps20
  go_upto_region 1 with (fail)
  rw [← HW1.out, ← HG1.out]
  go_upto_region 2 with (go_at_call 11; refine HPA.out.mono ?_; rintro e w2 ⟨b1, d1, b2, d2, rfl, hi, hb⟩; have HI2 := Lib.hid hi; have HB2 := Lib.hid hb; clear hb hi)
  change Code.wp _ _ _ _ (World.alloc w2 (.cells #[.int .u8 (c.verb : Int), .string (bs c.arg), .bool c.path.null, .slice b1 c.path.route.length d1, .string (bs c.path.loc), .string (bs c.path.dom), .bool c.path.lit, .slice b2 c.params.length d2] 29))
  obtain ⟨W3, hW3⟩ : ∃ W3, W3 = w2.alloc (.cells #[.int .u8 (c.verb : Int), .string (bs c.arg), .bool c.path.null, .slice b1 c.path.route.length d1, .string (bs c.path.loc), .string (bs c.path.dom), .bool c.path.lit, .slice b2 c.params.length d2] 29) := ⟨_, rfl⟩
  obtain ⟨g3, hg3⟩ : ∃ g, g = w2.heap.size := ⟨_, rfl⟩
  have HK3 : Hid (Blk W3 g3 29 #[.int .u8 (c.verb : Int), .string (bs c.arg), .bool c.path.null, .slice b1 c.path.route.length d1, .string (bs c.path.loc), .string (bs c.path.dom), .bool c.path.lit, .slice b2 c.params.length d2]) := by rw [hW3, hg3]; exact Blk.new _ _ _
  have HB3 : Hid (Below W1.heap.size W1 W3) := by rw [hW3]; exact HB2.out.alloc HB2.out.size _
  have HI3 : Hid (CmIn W3 c b1 d1 b2) := by rw [hW3]; exact HI2.out.below ((Below.refl _ w2).alloc (Nat.le_refl _) _)
  have HKC := Lib.hid (HK1.out.below HB3.out HK1.out.lt)
  rw [← hW3, ← hg3]
  clear hW3 hg3 HPA HB2 HI2
  obtain ⟨x0, x1, x2, x3, x4, x5, x6, x7⟩ := cells8 HK3.out
  obtain ⟨y0, y1, y2, y3, y4, y5, y6, y7⟩ := cells8 HKC.out
  have HSM := Lib.hid (HSS.out W3 b1 b2 d1 d2 HB3.out HI3.out.route HI3.out.pms)
  clear HSS
  go_wp2_with (go_at_call 12; refine HSM.out.mono ?_; rintro e w4 ⟨rfl, hb⟩; have HB4 := Lib.hid (low_trans (low_trans HL1.out HB3.out) hb); clear hb)
  exact HQ.out w4 HB4.out
/-- the chapter's lines that say nothing -/
def badC : List (List UInt8) := [[78, 79, 79, 80, 32], [77, 65, 73, 76, 32, 70, 82, 79, 77, 58, 32, 60, 62], [68, 65, 84, 65, 32, 120], [82, 67, 80, 84, 32, 84, 79, 58, 60, 62], [77, 65, 73, 76, 32, 70, 82, 79, 77, 58, 60, 112, 111, 115, 116, 109, 97, 115, 116, 101, 114, 62]]
theorem badC_all : ∀ k, (h : k < badC.length) → cmdP badC[k] = ({}, 161) ∧ badC[k].length ≤ 1000 := by decide +kernel
def cx1 : List UInt8 := [109, 97, 105, 108, 32, 102, 114, 111, 109, 58, 60, 65, 64, 66, 46, 99, 62, 32, 115, 105, 122, 101, 61, 57, 32, 66, 79, 68, 89]
def cm1 : Cm := { verb := 3, path := { loc := [65], dom := [98, 46, 99] }, params := [⟨[83, 73, 90, 69], [57], true⟩, ⟨[66, 79, 68, 89], [], false⟩] }
theorem cx1_told : cmdP cx1 = (cm1, 0) := by decide +kernel
theorem cx2_told : cmdP [69, 72, 76, 79, 32, 88, 46, 121] = ({ verb := 2, arg := [120, 46, 121] }, 0) := by decide +kernel
theorem cx3_told : cmdP [78, 79, 79, 80] = ({ verb := 9 }, 0) := by decide +kernel
theorem cx4_told : cmdP [78, 79, 79, 80, 32, 97, 32, 32, 98] = ({ verb := 9, arg := [97, 32, 32, 98] }, 0) := by decide +kernel
theorem cx5_told : cmdP [72, 69, 76, 79, 120] = ({}, 160) ∧ cmdP [] = ({}, 160) := by decide +kernel
theorem two_pms (w : World) : PmsAt (w.alloc (.cells #[.string ⟨#[83, 73, 90, 69]⟩, .string ⟨#[57]⟩, .bool true, .string ⟨#[66, 79, 68, 89]⟩, .string ⟨#[]⟩, .bool false] 45)) (some ⟨w.heap.size, 0, none⟩) cm1.params := by
  refine ⟨by decide, fun _ => ⟨w.heap.size, 0, rfl, by rw [World.size_alloc]; omega, fun j hj => ?_⟩⟩
  rw [Nat.zero_add, (Blk.new w 45 _).cell j]
  match j, hj with
  | 0, _ => rfl
  | 1, _ => rfl
  | 2, _ => rfl
  | 3, _ => rfl
  | 4, _ => rfl
  | 5, _ => rfl
set_option maxRecDepth 100000 in
set_option maxHeartbeats 1000000 in
theorem awake16_any (w : World) (he : Env w) : Calls Tryz.prog 10 #[] w (SameOut w true) := by
  have HQ : Hid (∀ w', Below w.heap.size w w' → SameOut w true (.returned (.bool true)) w') := fun w' h => ⟨rfl, h⟩
  generalize SameOut w true = Q at *
  have HE := Lib.hid (fun W (hW : Below w.heap.size w W) => he.later hW)
  have HF1 : Hid (∀ (W : World), Env W → Calls Tryz.prog 17 #[.string ⟨#[72, 69, 76, 79, 120]⟩, .int .i64 160] W (SameOut W true)) := fun W hW => refused_yes [72, 69, 76, 79, 120] (by decide) 160 cx5_told.1 W hW
  have HF2 : Hid (∀ (W : World), Env W → Calls Tryz.prog 17 #[.string ⟨#[]⟩, .int .i64 160] W (SameOut W true)) := fun W hW => refused_yes [] (by decide) 160 cx5_told.2 W hW
  have HR1 : Hid (∀ (W : World) (A : Option Addr), Env W → PmsAt W A cm1.params → Calls Tryz.prog 20 #[.string ⟨#[109, 97, 105, 108, 32, 102, 114, 111, 109, 58, 60, 65, 64, 66, 46, 99, 62, 32, 115, 105, 122, 101, 61, 57, 32, 66, 79, 68, 89]⟩, .agg #[.int .u8 3, .string ⟨#[]⟩, .bool false, .slice none 0 0, .string ⟨#[65]⟩, .string ⟨#[98, 46, 99]⟩, .bool false, .slice A 2 2]] W (SameOut W true)) := fun W A hW hA => reads16_yes cx1 (by decide) cm1 cx1_told none A 0 2 W (noTexts W none) hA hW
  have HR2 : Hid (∀ (W : World), Env W → Calls Tryz.prog 20 #[.string ⟨#[69, 72, 76, 79, 32, 88, 46, 121]⟩, .agg #[.int .u8 2, .string ⟨#[120, 46, 121]⟩, .bool false, .slice none 0 0, .string ⟨#[]⟩, .string ⟨#[]⟩, .bool false, .slice none 0 0]] W (SameOut W true)) := fun W hW => reads16_yes [69, 72, 76, 79, 32, 88, 46, 121] (by decide) { verb := 2, arg := [120, 46, 121] } cx2_told none none 0 0 W (noTexts W none) (noPms W none) hW
  have HR3 : Hid (∀ (W : World), Env W → Calls Tryz.prog 20 #[.string ⟨#[78, 79, 79, 80]⟩, .agg #[.int .u8 9, .string ⟨#[]⟩, .bool false, .slice none 0 0, .string ⟨#[]⟩, .string ⟨#[]⟩, .bool false, .slice none 0 0]] W (SameOut W true)) := fun W hW => reads16_yes [78, 79, 79, 80] (by decide) { verb := 9 } cx3_told none none 0 0 W (noTexts W none) (noPms W none) hW
  have HR4 : Hid (∀ (W : World), Env W → Calls Tryz.prog 20 #[.string ⟨#[78, 79, 79, 80, 32, 97, 32, 32, 98]⟩, .agg #[.int .u8 9, .string ⟨#[97, 32, 32, 98]⟩, .bool false, .slice none 0 0, .string ⟨#[]⟩, .string ⟨#[]⟩, .bool false, .slice none 0 0]] W (SameOut W true)) := fun W hW => reads16_yes [78, 79, 79, 80, 32, 97, 32, 32, 98] (by decide) { verb := 9, arg := [97, 32, 32, 98] } cx4_told none none 0 0 W (noTexts W none) (noPms W none) hW
  obtain ⟨W1, hW1⟩ : ∃ W1, W1 = w.alloc (.cells (badC.map textV).toArray 9) := ⟨_, rfl⟩
  obtain ⟨g1, hg1⟩ : ∃ g1, g1 = w.heap.size := ⟨_, rfl⟩
  have hb1 : Below w.heap.size w W1 := by rw [hW1]; exact (Below.refl _ w).alloc (Nat.le_refl _) _
  have hk1 : Blk W1 g1 9 (badC.map textV).toArray := by rw [hW1, hg1]; exact Blk.new _ _ _
  have HK1 := Lib.hid hk1
  have HL1 := Lib.hid hb1
  clear he
  go_enter Tryz.func10, Tryz.ntmps10
  go_wp2
  change Code.wp _ _ _ _ (World.alloc w (Obj.cells (badC.map textV).toArray 9))
  rw [← hW1, ← hg1]
  have HLT : Hid (g1 < W1.heap.size) := hk1.lt
  clear hb1 hk1 hW1 hg1
  go_loopw [6] (fun i wr => ∃ k : Nat, k ≤ 5 ∧ i = .int .i64 k ∧ Hid (Below W1.heap.size W1 wr)) (fun i _ => 5 - (intOf i).toNat)
  case atStart => exact ⟨0, by decide, rfl, Below.refl _ _⟩
  case round =>
    obtain ⟨k, hk, rfl, HW⟩ := hrel
    have hk0 : (0 : Int) ≤ (k : Int) := by omega
    have HLW := Lib.hid (low_trans HL1.out HW.out)
    by_cases hlt : k < 5
    · have hkb : k < badC.length := hlt
      obtain ⟨hp, hl⟩ := badC_all k hkb
      have hkz : (k : Int) < 5 := by omega
      have hc : wr.cell? ⟨g1, k, none⟩ = some (.string (bs badC[k])) := by
        rw [(HK1.out.below HW.out HLT.out).cell k, List.getElem?_toArray, List.getElem?_map, List.getElem?_eq_getElem hkb]
        rfl
      have HRF := Lib.hid (refused_yes badC[k] (by omega) 161 hp wr (HE.out wr HLW.out))
      generalize badC[k] = s at *
      clear hkb hp hl
      generalize bs s = S at *
      go_wp2_with (go_at_call 17; refine HRF.out.mono ?_; rintro e w4 ⟨rfl, hb⟩; have HB4 := Lib.hid (low_trans HW.out hb); clear hb)
      go_roundw
      case rel => exact ⟨k + 1, by omega, by go_num, HB4.out⟩
      case measure => simp [intOf]; omega
    · have hkz : ¬ (k : Int) < 5 := by omega
      have hk7 : 5 ≤ (k : Int) := by omega
      clear hk hlt
      go_upto_region 8 with (fail)
      obtain ⟨W9, hW9⟩ : ∃ W9, W9 = wr.alloc (.cells #[.bool false, .slice none 0 0, .string ⟨#[65]⟩, .string ⟨#[98, 46, 99]⟩, .bool false] 26) := ⟨_, rfl⟩
      obtain ⟨g9, hg9⟩ : ∃ g9, g9 = wr.heap.size := ⟨_, rfl⟩
      have HK9 : Hid (Blk W9 g9 26 #[.bool false, .slice none 0 0, .string ⟨#[65]⟩, .string ⟨#[98, 46, 99]⟩, .bool false]) := by rw [hW9, hg9]; exact Blk.new _ _ _
      have HL9 : Hid (Below w.heap.size w W9) := by rw [hW9]; exact HLW.out.alloc HLW.out.size _
      rw [← hW9, ← hg9]
      clear hW9 hg9 HK1 HLT HW
      have HKY : Hid (∀ W, Below W9.heap.size W9 W → W.cell? ⟨g9, 0, none⟩ = some (.bool false) ∧ W.cell? ⟨g9, 1, none⟩ = some (.slice none 0 0) ∧ W.cell? ⟨g9, 2, none⟩ = some (.string ⟨#[65]⟩) ∧ W.cell? ⟨g9, 3, none⟩ = some (.string ⟨#[98, 46, 99]⟩) ∧ W.cell? ⟨g9, 4, none⟩ = some (.bool false)) := fun W hW => by
        have h := HK9.out.below hW HK9.out.lt
        exact ⟨h.cell 0, h.cell 1, h.cell 2, h.cell 3, h.cell 4⟩
      go_wp2_with (first | (go_at_call 17; (with_reducible refine (HF1.out _ (HE.out _ HL9.out)).mono ?_); rintro e w10 ⟨rfl, hb⟩; have HB10 := Lib.hid hb; have HL10 := Lib.hid (low_trans HL9.out hb); clear hb HF1) | (go_at_call 17; (with_reducible refine (HF2.out _ (HE.out _ HL10.out)).mono ?_); rintro e w11 ⟨rfl, hb⟩; have HB11 := Lib.hid (low_trans HB10.out hb); have HL11 := Lib.hid (low_trans HL10.out hb); obtain ⟨x0, x1, x2, x3, x4⟩ := HKY.out w11 HB11.out; have HLA := Lib.hid (HL11.out.alloc HL11.out.size (.cells #[.string ⟨#[83, 73, 90, 69]⟩, .string ⟨#[57]⟩, .bool true, .string ⟨#[66, 79, 68, 89]⟩, .string ⟨#[]⟩, .bool false] 45)); have HPM := Lib.hid (two_pms w11); clear hb HF2) | (go_at_call 20; (with_reducible refine (HR1.out _ _ (HE.out _ HLA.out) HPM.out).mono ?_); rintro e w12 ⟨rfl, hb⟩; have HL12 := Lib.hid (low_trans HLA.out hb); clear hb HR1) | (go_at_call 20; (with_reducible refine (HR2.out _ (HE.out _ HL12.out)).mono ?_); rintro e w13 ⟨rfl, hb⟩; have HL13 := Lib.hid (low_trans HL12.out hb); clear hb HR2) | (go_at_call 20; (with_reducible refine (HR3.out _ (HE.out _ HL13.out)).mono ?_); rintro e w14 ⟨rfl, hb⟩; have HL14 := Lib.hid (low_trans HL13.out hb); clear hb HR3) | (go_at_call 20; (with_reducible refine (HR4.out _ (HE.out _ HL14.out)).mono ?_); rintro e w15 ⟨rfl, hb⟩; have HL15 := Lib.hid (low_trans HL14.out hb); clear hb HR4))
      exact HQ.out w15 HL15.out
end Go.Proofs.YtnkepdeegpampaaGreatDoor

/-
  The contract of frankinglaw16.CommandBack. Conditions: texts of at most 2^40 bytes; the command lies in memory; the variables that are read.
-/
namespace Go.Proofs.YtnkepdeegpampaaGreatDoor
open Go.RowKit Go.Shelf

theorem has_word {c : Cm} (h : rightC c = true) : Lib.hasPrefix (lineP c) (wordP c.verb) = true := by
  obtain ⟨_, _, _, _, e⟩ := right_some h
  unfold Lib.hasPrefix
  rw [e, List.isPrefixOf_iff_prefix]
  exact List.prefix_append _ _
set_option maxRecDepth 100000 in
set_option maxHeartbeats 2000000 in
theorem back16_any (c : Cm) (hv : c.verb ≤ 255) (a1 a2 : Option Addr) (c1 c2 : Nat) (hf : CmFits c 1099511627776) (w : World) (hi : CmIn w c a1 c1 a2) (he : Env w) : Calls Tryz.prog 3 #[cmV c a1 c1 a2 c2] w (SameOut w true) := by
  obtain ⟨W1, hW1⟩ : ∃ W1, W1 = w.alloc (.cells (cmCells c (.slice a1 c.path.route.length c1) (.slice a2 c.params.length c2)) 29) := ⟨_, rfl⟩
  obtain ⟨g1, hg1⟩ : ∃ g1, g1 = w.heap.size := ⟨_, rfl⟩
  have hb1 : Below w.heap.size w W1 := by rw [hW1]; exact (Below.refl _ w).alloc (Nat.le_refl _) _
  have hk1 : Blk W1 g1 29 (cmCells c (.slice a1 c.path.route.length c1) (.slice a2 c.params.length c2)) := by rw [hW1, hg1]; exact Blk.new _ _ _
  have hi1 := hi.below hb1
  have he1 := he.later hb1
  have HPR := Lib.hid (fun W (hW : Below W1.heap.size W1 W) => cprint_any c hv a1 a2 c1 c2 hf W (hi1.below hW) (he1.later hW))
  have HRI := Lib.hid (fun W (hW : Below W1.heap.size W1 W) => cright_any c hv a1 a2 c1 c2 hf W (hi1.below hW) (he1.later hW))
  have HAW := Lib.hid (fun W (hW : Below W1.heap.size W1 W) => awake16_any W (he1.later hW))
  have HWO := Lib.hid (fun W (hW : Below W1.heap.size W1 W) => word_any c.verb hv W (he1.later hW))
  have HSS := Lib.hid (fun W b1 b2 d1 d2 (hW : Below W1.heap.size W1 W) (k1 : TextsAt W b1 c.path.route) (k2 : PmsAt W b2 c.params) => same16_any c c a1 a2 b1 b2 c1 c2 d1 d2 W (RowAt.below hi1.route hW) (RowAt.below hi1.pms hW) k1 k2)
  rw [decide_eq_true rfl] at HSS
  have HL1 := Lib.hid hb1
  have HK1 := Lib.hid hk1
  have HQ : Hid (∀ w', Below w.heap.size w w' → SameOut w true (.returned (.bool true)) w') := fun w' h => ⟨rfl, h⟩
  generalize SameOut w true = Q at *
  have HPA := Lib.hid (fun (h : rightC c = true) W (hW : Below W1.heap.size W1 W) => (cparse_any (lineP c) (by unfold lineP; have := take_le (fullP c); omega) W (he1.later hW)))
  unfold PrOut printC at HPR
  unfold cmV cmCells at HPR HRI HSS ⊢
  unfold cmCells at hW1 HK1
  have HW1 := Lib.hid hW1
  have HG1 := Lib.hid hg1
  have HK2 : Hid (∀ W, Below W1.heap.size W1 W → Blk W g1 29 #[.int .u8 (c.verb : Int), .string (bs c.arg), .bool c.path.null, .slice a1 c.path.route.length c1, .string (bs c.path.loc), .string (bs c.path.dom), .bool c.path.lit, .slice a2 c.params.length c2]) := fun W hW => hk1.below hW hk1.lt
  clear hW1 hg1 hb1 hk1 hi he hf hi1 he1
  obtain ⟨x0, x1, x2, x3, x4, x5, x6, x7⟩ := cells8 HK1.out
  cases hr : rightC c with
  | false =>
    rw [hr] at HPR HRI
    rw [if_neg (by decide)] at HPR
    have en : bs [] = (⟨#[]⟩ : ByteArray) := rfl
    rw [en] at HPR
    clear HPA HSS HWO hr en
    go_enter Tryz.func3, Tryz.ntmps3
    go_upto_region 1 with (fail)
    rw [← HW1.out, ← HG1.out]
    go_wp2_with (first | (go_at_call 8; refine (HPR.out _ (Below.refl _ _)).mono ?_; rintro e w3 ⟨rfl, hb⟩; have HB3 := Lib.hid hb; clear hb x0 x1 x2 x3 x4 x5 x6 x7; obtain ⟨x0, x1, x2, x3, x4, x5, x6, x7⟩ := cells8 (HK2.out _ HB3.out)) | (go_at_call 9; refine (HRI.out _ HB3.out).mono ?_; rintro e w4 ⟨rfl, hb⟩; have HB4 := Lib.hid (low_trans HB3.out hb); clear hb) | (go_at_call 10; refine (HAW.out _ HB4.out).mono ?_; rintro e w5 ⟨rfl, hb⟩; have HB5 := Lib.hid (low_trans HB4.out hb); clear hb))
    exact HQ.out _ (low_trans HL1.out HB5.out)
  | true =>
    have HPB := Lib.hid (HPA.out hr)
    rw [right_line hr] at HPB
    have hpre := has_word hr
    have hlen := (right_some hr).1
    have hls : (bs (lineP c)).size = (lineP c).length := rfl
    have hlz : ((lineP c).length : Int) ≤ 510 := by omega
    rw [hr] at HPR HRI
    rw [if_pos rfl] at HPR
    have HHP := Lib.hid (fun W => Tryz.strings_HasPrefix (bs (lineP c)) (bs (wordP c.verb)) W)
    have e1 : (bs (lineP c)).data.toList = lineP c := rfl
    have e2 : (bs (wordP c.verb)).data.toList = wordP c.verb := rfl
    rw [e1, e2, hpre] at HHP
    have HPC : Hid (∀ W, Below W1.heap.size W1 W → Calls Tryz.prog 11 #[.string (bs (lineP c))] W fun e w' => ∃ b1 d1 b2 d2, e = .returned (.tuple #[cmV c b1 d1 b2 d2, .int .i64 0]) ∧ CmIn w' c b1 d1 b2 ∧ Below W.heap.size W w') := fun W hW => (HPB.out W hW).mono fun _ _ hh => hh.in_
    unfold cmV cmCells at HPC
    clear HPA HPB hr e1 e2 hpre hlen
    generalize (lineP c).length = ln at *
    generalize bs (lineP c) = S at *
    go_enter Tryz.func3, Tryz.ntmps3
    go_upto_region 1 with (fail)
    rw [← HW1.out, ← HG1.out]
    go_upto_region 5 with (first | (go_at_call 8; refine (HPR.out _ (Below.refl _ _)).mono ?_; rintro e w3 ⟨rfl, hb⟩; have HB3 := Lib.hid hb; clear hb x0 x1 x2 x3 x4 x5 x6 x7; obtain ⟨x0, x1, x2, x3, x4, x5, x6, x7⟩ := cells8 (HK2.out _ HB3.out)) | (go_at_call 9; refine (HRI.out _ HB3.out).mono ?_; rintro e w4 ⟨rfl, hb⟩; have HB4 := Lib.hid (low_trans HB3.out hb); clear hb) | (go_at_call 11; refine (HPC.out _ HB4.out).mono ?_; rintro e w5 ⟨b1, d1, b2, d2, rfl, hi, hb⟩; have HB5 := Lib.hid (low_trans HB4.out hb); have HI5 := Lib.hid hi; clear hb hi))
    change Code.wp _ _ _ _ (World.alloc w5 (.cells #[.int .u8 (c.verb : Int), .string (bs c.arg), .bool c.path.null, .slice b1 c.path.route.length d1, .string (bs c.path.loc), .string (bs c.path.dom), .bool c.path.lit, .slice b2 c.params.length d2] 29))
    obtain ⟨W6, hW6⟩ : ∃ W6, W6 = w5.alloc (.cells #[.int .u8 (c.verb : Int), .string (bs c.arg), .bool c.path.null, .slice b1 c.path.route.length d1, .string (bs c.path.loc), .string (bs c.path.dom), .bool c.path.lit, .slice b2 c.params.length d2] 29) := ⟨_, rfl⟩
    obtain ⟨g6, hg6⟩ : ∃ g, g = w5.heap.size := ⟨_, rfl⟩
    have HK6 : Hid (Blk W6 g6 29 #[.int .u8 (c.verb : Int), .string (bs c.arg), .bool c.path.null, .slice b1 c.path.route.length d1, .string (bs c.path.loc), .string (bs c.path.dom), .bool c.path.lit, .slice b2 c.params.length d2]) := by rw [hW6, hg6]; exact Blk.new _ _ _
    have HB6 : Hid (Below W1.heap.size W1 W6) := by rw [hW6]; exact HB5.out.alloc HB5.out.size _
    have HI6 : Hid (CmIn W6 c b1 d1 b2) := by rw [hW6]; exact HI5.out.below ((Below.refl _ w5).alloc (Nat.le_refl _) _)
    rw [← hW6, ← hg6]
    clear hW6 hg6 HPR HRI HPC x0 x1 x2 x3 x4 x5 x6 x7
    obtain ⟨x0, x1, x2, x3, x4, x5, x6, x7⟩ := cells8 (HK2.out _ HB6.out)
    obtain ⟨y0, y1, y2, y3, y4, y5, y6, y7⟩ := cells8 HK6.out
    have HSM := Lib.hid (HSS.out W6 b1 b2 d1 d2 HB6.out HI6.out.route HI6.out.pms)
    clear HSS
    have HY0 : Hid (∀ W, Below W1.heap.size W1 W → W.cell? ⟨g1, 0, none⟩ = some (.int .u8 (c.verb : Int))) := fun W hW => (HK2.out W hW).cell 0
    go_wp2_with (first | (go_at_call 12; refine HSM.out.mono ?_; rintro e w7 ⟨rfl, hb⟩; have HB7 := Lib.hid (low_trans HB6.out hb); clear hb x0 x1 x2 x3 x4 x5 x6 x7 y0 y1 y2 y3 y4 y5 y6 y7; have x0 := HY0.out w7 HB7.out) | (go_at_call 14; refine (HWO.out w7 HB7.out).mono ?_; rintro e w8 ⟨rfl, rfl⟩) | (go_at_call 13; refine (HHP.out _).mono ?_; rintro e w9 ⟨rfl, rfl⟩) | (go_at_call 10; refine (HAW.out _ HB7.out).mono ?_; rintro e wA ⟨rfl, hb⟩; have HBA := Lib.hid (low_trans HB7.out hb); clear hb))
    exact HQ.out _ (low_trans HL1.out HBA.out)
end Go.Proofs.YtnkepdeegpampaaGreatDoor

/-
  Bytes that come in lie in memory. No conditions.
-/
namespace Go.Proofs.YtnkepdeegpampaaGreatDoor
open Go.ChangeShapes Go.RowKit
variable {H : Type} {enc : TypeId × Value → H} {W : World} {fuel : Nat}

theorem row_of (a : Addr) (l : List Value) (hl : l.length ≤ maxLen) (h : ∀ i, (hi : i < l.length) → W.cell? (a.add i) = some l[i]) : RowAt W (some a) l := by
  refine ⟨hl, fun h0 => ?_⟩
  obtain ⟨g, o, s⟩ := a
  have c0 := h 0 h0
  rw [show (⟨g, o, s⟩ : Addr).add 0 = ⟨g, o, s⟩ from rfl] at c0
  have hs : s = none := by
    cases s with
    | none => rfl
    | some k =>
      unfold World.cell? at c0
      split at c0 <;> simp at c0
  subst hs
  exact ⟨g, o, rfl, World.block_lt_of_cell? _ _ c0, fun j hj => by have := h j hj; rw [Addr.add_mid] at this; exact this⟩
theorem bytes_cell {cs : List Value} {x : DataW H × List MemPlace} (h : DataW.trod enc Tryz.prog W 0 (fun _ => true) true fuel 41 cs = some x) : ∃ a c l, cs = [.slice a (List.length l) c] ∧ BytesAt W a l ∧ l.length ≤ c ∧ c ≤ maxLen := by
  rcases open_ints Tryz.underlying41 Tryz.underlying5 (by kernel_rfl) h with ⟨hcs, _⟩ | ⟨a, len, cap, zs, hcs, _, hl, hm, hz, _, hcell, hwz⟩
  · exact ⟨none, 0, [], hcs, ⟨by decide, fun h => absurd h (by decide)⟩, Nat.zero_le _, Nat.zero_le _⟩
  · simp only [if_true] at hz
    have hb : ∀ z ∈ zs, ((UInt8.ofNat z.toNat).toNat : Int) = z := fun z hzm => by
      have hk : 0 ≤ z ∧ z < 256 := by have := hwz z hzm; simp [Lit.wf, IntKind.min, IntKind.max, IntKind.signed, IntKind.bits] at this; omega
      rw [UInt8.toNat_ofNat']
      omega
    have hlen : ((zs.take len).map fun z => UInt8.ofNat z.toNat).length = len := by rw [List.length_map, List.length_take]; omega
    refine ⟨some a, cap, (zs.take len).map fun z => UInt8.ofNat z.toNat, by rw [hlen]; exact hcs, row_of a _ (by rw [List.length_map, hlen]; omega) fun i hi => ?_, by rw [hlen]; exact hl, hm⟩
    rw [List.length_map, hlen] at hi
    rw [hcell i (by omega), List.getElem_map, List.getElem_map, List.getElem_take, List.getD_eq_getElem?_getD, List.getElem?_eq_getElem (by omega)]
    unfold byteV
    rw [hb _ (List.getElem_mem _)]
    rfl
end Go.Proofs.YtnkepdeegpampaaGreatDoor

/-
  Texts that come in lie in memory. No conditions.
-/
namespace Go.Proofs.YtnkepdeegpampaaGreatDoor
open Go.ChangeShapes Go.RowKit
variable {H : Type} {enc : TypeId × Value → H} {W : World} {fuel : Nat}

theorem texts_cell {cs : List Value} {x : DataW H × List MemPlace} (h : DataW.trod enc Tryz.prog W 0 (fun _ => true) true fuel 22 cs = some x) : ∃ a c l, cs = [.slice a (List.length l) c] ∧ TextsAt W a l ∧ (∀ s ∈ l, s.length ≤ maxLen) ∧ l.length ≤ c := by
  rcases open_strings Tryz.underlying22 Tryz.underlying9 (by kernel_rfl) h with ⟨hcs, _⟩ | ⟨a, len, cap, ss, hcs, _, hl, hm, hz, _, hcell, hwz⟩
  · exact ⟨none, 0, [], hcs, ⟨by decide, fun h => absurd h (by decide)⟩, fun s hs => (by cases hs), Nat.zero_le _⟩
  · simp only [if_true] at hz
    have hlen : ((ss.take len).map fun s => s.data.toList).length = len := by rw [List.length_map, List.length_take]; omega
    refine ⟨some a, cap, (ss.take len).map fun s => s.data.toList, by rw [hlen]; exact hcs, row_of a _ (by rw [List.length_map, hlen]; omega) fun i hi => ?_, fun s hs => ?_, by rw [hlen]; exact hl⟩
    · rw [List.length_map, hlen] at hi
      rw [hcell i (by omega), List.getElem_map, List.getElem_map, List.getElem_take, List.getD_eq_getElem?_getD, List.getElem?_eq_getElem (by omega)]
      rfl
    · obtain ⟨b, hb, rfl⟩ := List.mem_map.1 hs
      exact hwz b (List.mem_of_mem_take hb)
end Go.Proofs.YtnkepdeegpampaaGreatDoor
