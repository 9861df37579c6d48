/-
  How long what is right may be; how a path's text begins and ends. No conditions.
-/
import Derived.Test.YtjgadocojdieeaaGreatDoorPtZf
namespace Go.Proofs.YtjgadocojdieeaaGreatDoor
open Go.RowKit Go.Shelf

theorem run_most (p : UInt8 → Bool) (st : Rs) : st.rest.length = (runR p st).rest.length + (runL p st).length := by
  unfold runR runL
  have := congrArg List.length (List.takeWhile_append_dropWhile (p := p) (l := st.rest))
  rw [List.length_append] at this
  simp only
  omega
theorem take_most (w : List UInt8) (st : Rs) : st.rest.length ≤ (takeR w st).2.rest.length + w.length := by
  unfold takeR
  split
  · simp only [List.length_drop]; omega
  · simp
theorem each_most {part : Rd} {m : Nat} (hm : ∀ st, (part st).1 = true → st.rest.length ≤ (part st).2.rest.length + m) (sep : List UInt8) : ∀ (f many : Nat) (st : Rs), st.rest.length + many * (m + sep.length) ≤ (eachF part sep f many st).2.rest.length + (eachF part sep f many st).1 * (m + sep.length) := by
  intro f
  induction f with
  | zero => intro many st; exact Nat.le_refl _
  | succ f ih =>
    intro many st
    rw [eachF]
    split
    · exact Nat.le_refl _
    · split
      · exact Nat.le_refl _
      · rename_i h1 h2
        have h3 := ih (many + 1) (part (sepR sep many st).2).2
        have h4 := hm (sepR sep many st).2 (by simpa using h2)
        have h5 : st.rest.length ≤ (sepR sep many st).2.rest.length + sep.length := by
          unfold sepR
          split
          · simp
          · exact take_most sep st
        rw [Nat.add_mul] at h3
        omega
theorem num_most (st : Rs) (h : (numberR st).1 = true) : st.rest.length ≤ (numberR st).2.rest.length + 3 := by
  have h1 := run_most digB st
  unfold numberR numOk at *
  simp only [Bool.and_eq_true, decide_eq_true_eq] at h
  have := h.1.2
  simp only
  omega
theorem group_most (st : Rs) (h : (groupR st).1 = true) : st.rest.length ≤ (groupR st).2.rest.length + 4 := by
  have h1 := run_most hexB st
  unfold groupR at *
  simp only [Bool.and_eq_true, decide_eq_true_eq] at h
  have := h.2
  simp only
  omega
theorem address_most (st : Rs) (h : (addressR st).1 = true) : st.rest.length ≤ (addressR st).2.rest.length + 42 := by
  have e1 := each_most group_most [58] (st.rest.length + 2) 0 st
  change _ ≤ (eachR groupR [58] st).2.rest.length + (eachR groupR [58] st).1 * 5 at e1
  have t1 := take_most [58, 58] (eachR groupR [58] st).2
  have e2 := each_most group_most [58] ((takeR [58, 58] (eachR groupR [58] st).2).2.rest.length + 2) 0 (takeR [58, 58] (eachR groupR [58] st).2).2
  change _ ≤ (eachR groupR [58] (takeR [58, 58] (eachR groupR [58] st).2).2).2.rest.length + (eachR groupR [58] (takeR [58, 58] (eachR groupR [58] st).2).2).1 * 5 at e2
  unfold addressR at *
  split at h
  · rename_i hc
    rw [if_pos hc]
    simp only [decide_eq_true_eq] at h ⊢
    rw [h] at e1
    simp at t1 e1 ⊢
    omega
  · rename_i hc
    rw [if_neg hc]
    simp only [decide_eq_true_eq] at h ⊢
    simp at t1 e1 e2 ⊢
    omega
theorem words_most {l : List UInt8} (h : wB l = true) : l.length ≤ 255 := by
  obtain ⟨h1, h2⟩ := allB_iff.1 h
  have t1 := take_most ipv6P (st0 l)
  have hi : ipv6P.length ≤ 5 := by decide
  have e1 : (st0 l).rest = l := rfl
  rw [e1] at t1
  unfold wordsR at h1 h2
  split at h1
  · rename_i hc
    rw [if_pos hc] at h2
    have := address_most _ h1
    rw [h2] at this
    simp at this
    omega
  · rename_i hc
    rw [if_neg hc] at h2
    have e1 := each_most num_most [46] ((takeR ipv6P (st0 l)).2.rest.length + 2) 0 (takeR ipv6P (st0 l)).2
    change _ ≤ (eachR numberR [46] (takeR ipv6P (st0 l)).2).2.rest.length + (eachR numberR [46] (takeR ipv6P (st0 l)).2).1 * 4 at e1
    unfold numbersR at h1 h2
    simp only [decide_eq_true_eq] at h1
    rw [h1, h2] at e1
    simp at e1
    omega
theorem fine_most {l : List UInt8} (h : fineB l = true) : l.length ≤ 255 := by
  unfold fineB at h
  simp only [Bool.and_eq_true, Bool.not_eq_true'] at h
  obtain ⟨h1, h2⟩ := h
  obtain ⟨_, h3⟩ := allB_iff.1 h1
  unfold dL domainR at h2
  unfold domainR at h3
  simp only [Bool.or_eq_false_iff, decide_eq_false_iff_not] at h2
  simp only at h3
  have h4 := h2.2
  unfold used at h4
  rw [h3] at h4
  have e1 : (st0 l).rest = l := rfl
  rw [e1] at h4
  simp at h4
  exact h4
theorem box_lens {loc d : List UInt8} {lit : Bool} (h : rightBoxD loc d lit = true) : loc.length ≤ 64 ∧ d.length ≤ 255 := by
  refine ⟨rightBox_loc h, ?_⟩
  unfold rightBoxD at h
  simp only [Bool.and_eq_true] at h
  have h2 := h.2
  cases lit with
  | true =>
    rw [if_pos rfl] at h2
    unfold toldB at h2
    simp only [Bool.and_eq_true] at h2
    exact words_most h2.1
  | false =>
    rw [if_neg (by decide)] at h2
    unfold toldB at h2
    simp only [Bool.and_eq_true] at h2
    exact fine_most h2.1
theorem right_lens {p : Pa} (h : rightD p = true) : p.loc.length ≤ 64 ∧ p.dom.length ≤ 255 ∧ p.route.length ≤ 20 ∧ ∀ d ∈ p.route, d.length ≤ 255 := by
  unfold rightD at h
  split at h
  · simp only [Bool.and_eq_true, decide_eq_true_eq] at h
    obtain ⟨h0, ⟨h1, h2⟩, _⟩ := h
    have : p.route = [] := List.length_eq_zero_iff.1 h0
    rw [h1, h2, this]
    simp
  · split at h
    · rename_i _ ha
      unfold aloneB at ha
      simp only [Bool.and_eq_true, decide_eq_true_eq] at ha h
      obtain ⟨⟨h1, h2⟩, _⟩ := ha
      have : p.route = [] := List.length_eq_zero_iff.1 h
      rw [h1, h2, this]
      simp [postP]
    · simp only [Bool.and_eq_true, decide_eq_true_eq] at h
      obtain ⟨⟨h1, h2⟩, h3⟩ := h
      obtain ⟨h4, h5⟩ := box_lens h3
      refine ⟨h4, h5, h1, fun d hd => ?_⟩
      have := List.all_eq_true.1 h2 d hd
      unfold toldB at this
      simp only [Bool.and_eq_true] at this
      exact fine_most this.1
theorem sml_60 : ∀ c, sml c = 60 → c = 60 := all_u8 (by decide +kernel)
theorem sml_62 : ∀ c, sml c = 62 → c = 62 := all_u8 (by decide +kernel)
/-- a path's text begins with < and ends with > -/
theorem path_ends {t : List UInt8} {p : Pa} {lg : Bool} (h : PathT t p lg) : ∃ m, t = 60 :: (m ++ [62]) := by
  rcases h with ⟨rfl, _⟩ | ⟨h1, _⟩ | ⟨rt, ds, l1, bt, loc, d, lit, l2, _, _, rfl, _⟩
  · exact ⟨[], rfl⟩
  · have e : aloneT = 60 :: (postP ++ [62]) := rfl
    rw [e] at h1
    cases t with
    | nil => simp [low] at h1
    | cons c t =>
      unfold low at h1
      rw [List.map_cons] at h1
      injection h1 with h2 h3
      obtain ⟨a, b, rfl, h4, h5⟩ := List.map_eq_append_iff.1 h3
      obtain ⟨x, rfl, h6⟩ : ∃ x, b = [x] ∧ sml x = 62 := by
        cases b with
        | nil => simp at h5
        | cons x b' =>
          rw [List.map_cons] at h5
          injection h5 with h6 h7
          have : b' = [] := List.map_eq_nil_iff.1 h7
          exact ⟨x, by rw [this], h6⟩
      exact ⟨a, by rw [sml_60 c h2, sml_62 x h6]⟩
  · exact ⟨rt ++ bt, by simp⟩
/-- what Parse tells of a text, and what is printed of it -/
theorem parseP_print {s : List UInt8} (h : (parseP s).1 = 0) : rightD (parseP s).2.1 = true ∧ 2 ≤ (parseP s).2.2 ∧ (parseP s).2.2 ≤ s.length ∧ s[0]? = some 60 ∧ s[(parseP s).2.2 - 1]? = some 62 ∧ parseP (printD (parseP s).2.1) = (0, (parseP s).2.1, (printD (parseP s).2.1).length) ∧ (printD (parseP s).2.1).length ≤ (parseP s).2.2 := by
  obtain ⟨t, x, h1, h2, h3⟩ := parseP_ok h
  have hr := path_right h1
  obtain ⟨m, hm⟩ := path_ends h1
  have hl : t.length = m.length + 2 := by rw [hm]; simp
  rw [h3]
  generalize (parseP s).2.1 = p at *
  have hpp := parseP_all (print_path hr) []
  rw [List.append_nil] at hpp
  refine ⟨hr, by omega, by rw [h2, List.length_append]; omega, ?_, ?_, hpp, print_len h1⟩
  · rw [h2, hm]; rfl
  · rw [h2, List.getElem?_append_left (by omega), hm]
    rw [show (60 :: (m ++ [62])).length - 1 = m.length + 1 by simp, List.getElem?_cons_succ, List.getElem?_append_right (Nat.le_refl _)]
    simp
theorem parseP_bad {s : List UInt8} (h : (parseP s).1 ≠ 0) : ((parseP s).1 = 150 ∨ (parseP s).1 = 3) ∧ (parseP s).2.2 = 0 ∧ (parseP s).2.1 = {} := by
  unfold parseP at h ⊢
  split
  · rename_i hv; rw [if_pos hv] at h; exact absurd rfl h
  · rename_i hv
    exact ⟨verdict_ne _ _ hv, rfl, rfl⟩
end Go.Proofs.YtjgadocojdieeaaGreatDoor
