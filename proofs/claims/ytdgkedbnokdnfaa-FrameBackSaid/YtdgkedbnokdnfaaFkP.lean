/-
  What FrameBack asks of texts, in plain terms: a text without 13 10 within, as strings.Contains tells it; texts joined, with an end behind. No conditions.
-/
import Derived.Test.YtdgkedbnokdnfaaFrP
import Derived.Lib.IndexMore
import Derived.Lib.Join
namespace Go.Proofs.Ytdgkedbnokdnfaa

theorem noEnd_of (s : List UInt8) (h : Lib.contains s [13, 10] = false) : NoEnd s := by
  unfold Lib.contains at h
  have h1 : Lib.index s [13, 10] < 0 := by simpa using h
  intro i ⟨e1, e2⟩
  have l2 := (List.getElem?_eq_some_iff.1 e2).1
  rcases Lib.index_spec s [13, 10] with ⟨_, h2⟩ | ⟨j, h2, _⟩
  · have h3 := h2 i (by omega)
    unfold Lib.occAt at h3
    have e3 : s.drop i = 13 :: 10 :: s.drop (i + 2) := by
      have l1 : i < s.length := by omega
      rw [List.drop_eq_getElem_cons l1, List.drop_eq_getElem_cons l2]
      rw [List.getElem?_eq_getElem l1] at e1
      rw [List.getElem?_eq_getElem l2] at e2
      injection e1 with e1
      injection e2 with e2
      rw [e1, e2]
    rw [e3] at h3
    simp [List.isPrefixOf] at h3
  · omega
/-- texts joined, and an end behind, if there are any -/
theorem join_ends (l : List (List UInt8)) : Lib.join l [13, 10] ++ (if l = [] then [] else [13, 10]) = joinEnds l := by
  cases l with
  | nil => rfl
  | cons x r =>
    rw [Lib.join_cons, if_neg (by simp)]
    have key : ∀ (r : List (List UInt8)) (x : List UInt8), x ++ Lib.joinTail [13, 10] r ++ [13, 10] = joinEnds (x :: r) := by
      intro r
      induction r with
      | nil => intro x; simp [Lib.joinTail, joinEnds]
      | cons y r ih =>
        intro x
        have := ih y
        simp only [joinEnds, Lib.joinTail, List.map_cons, List.flatten_cons] at this ⊢
        simp only [List.append_assoc, List.cons_append, List.nil_append] at this ⊢
        rw [this]
    exact key r x
theorem joinEnds_len (l : List (List UInt8)) (h : ∀ s ∈ l, s.length ≤ 300) : (joinEnds l).length ≤ l.length * 302 := by
  induction l with
  | nil => simp [joinEnds]
  | cons x r ih =>
    have h1 := ih (fun s hs => h s (by simp [hs]))
    have h2 := h x (by simp)
    simp only [joinEnds, List.length_append, List.length_cons]
    omega
theorem told_lines (n : Nat) (l : List (List UInt8)) (h : ∀ s ∈ l, NoEnd s) : rawP [] (joinEnds l) = ([], l) := rawP_lines l h
end Go.Proofs.Ytdgkedbnokdnfaa
