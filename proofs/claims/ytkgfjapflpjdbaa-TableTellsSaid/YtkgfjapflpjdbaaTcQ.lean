/-
  What was read without falling short is read alike where more stands behind; a part of a packed table, or one with more behind it, is refused. No conditions.
-/
import Derived.Test.YtkgfjapflpjdbaaTcP
namespace Go.Proofs.Ytkgfjapflpjdbaa
open Go.RowKit

theorem some_keep {l : List UInt8} (r : List UInt8) {s : Rs} {m : Nat} (hle : s.at_ ≤ l.length) (h : (someP l s m).2.short = false) : s.short = false ∧ someP (l ++ r) s m = someP l s m := by
  unfold someP at h ⊢
  split at h
  · cases h
  · rename_i hm
    refine ⟨h, ?_⟩
    rw [List.length_append, if_neg (by omega), if_neg hm, List.drop_append_of_le_length hle, List.take_append_of_le_length (by rw [List.length_drop]; omega)]
theorem num_keep {l : List UInt8} (r : List UInt8) {s : Rs} {m : Nat} (hle : s.at_ ≤ l.length) (h : (numP l s m).2.short = false) : s.short = false ∧ numP (l ++ r) s m = numP l s m := by
  obtain ⟨h1, h2⟩ := some_keep r hle h
  exact ⟨h1, by unfold numP; rw [h2]⟩
theorem names_le (l : List UInt8) {s : Rs} (hle : s.at_ ≤ l.length) : ∀ m, (namesR l m s).2.at_ ≤ l.length
  | 0 => hle
  | m + 1 => someP_le (someP_le (names_le l hle m))
theorem names_keep {l : List UInt8} (r : List UInt8) {s : Rs} (hle : s.at_ ≤ l.length) : ∀ m, (namesR l m s).2.short = false → s.short = false ∧ namesR (l ++ r) m s = namesR l m s
  | 0, h => ⟨h, rfl⟩
  | m + 1, h => by
    have l1 := names_le l hle m
    have l2 : (numP l (namesR l m s).2 1).2.at_ ≤ l.length := someP_le l1
    obtain ⟨h1, h2⟩ := some_keep r l2 (show (someP l (numP l (namesR l m s).2 1).2 (numP l (namesR l m s).2 1).1).2.short = false from h)
    obtain ⟨h3, h4⟩ := num_keep r l1 h1
    obtain ⟨h5, h6⟩ := names_keep r hle m h3
    exact ⟨h5, by simp only [namesR, h6, h4, h2]⟩
theorem table_keep (l r : List UInt8) (h : (tableR l ⟨0, false⟩).2.short = false) (h3 : (someP l ⟨0, false⟩ 3).1 = [70, 84, 1]) : tableR (l ++ r) ⟨0, false⟩ = tableR l ⟨0, false⟩ := by
  obtain ⟨b, s1, a0⟩ : ∃ b s1, someP l ⟨0, false⟩ 3 = (b, s1) := ⟨_, _, rfl⟩
  rw [a0] at h3
  obtain rfl : b = [70, 84, 1] := h3
  obtain ⟨m, s2, a1⟩ : ∃ m s2, numP l s1 1 = (m, s2) := ⟨_, _, rfl⟩
  obtain ⟨q, s3, a2⟩ : ∃ m s', numP l s2 2 = (m, s') := ⟨_, _, rfl⟩
  obtain ⟨k, s4, a3⟩ : ∃ m s', numP l s3 1 = (m, s') := ⟨_, _, rfl⟩
  obtain ⟨ns, s5, a4⟩ : ∃ m s', namesR l k s4 = (m, s') := ⟨_, _, rfl⟩
  obtain ⟨o, s6, a5⟩ : ∃ m s', someP l s5 256 = (m, s') := ⟨_, _, rfl⟩
  obtain ⟨g, s7, a6⟩ : ∃ m s', someP l s6 (q * 1) = (m, s') := ⟨_, _, rfl⟩
  obtain ⟨x, s8, a7⟩ : ∃ u s', someP l s7 (q * (m + 1) * 2) = (u, s') := ⟨_, _, rfl⟩
  have e := tableR_yes l _ s1 s2 s3 s4 s5 s6 s7 s8 m q k _ ns o g x a0 a1 a2 a3 a4 a5 a6 rfl a7
  rw [e] at h ⊢
  have z1 : s1.at_ ≤ l.length := by have := someP_le (l := l) (s := ⟨0, false⟩) (m := 3) (Nat.zero_le _); rw [a0] at this; exact this
  have z2 : s2.at_ ≤ l.length := by have := someP_le (m := 1) z1; rw [show (someP l s1 1).2 = s2 from congrArg Prod.snd a1] at this; exact this
  have z3 : s3.at_ ≤ l.length := by have := someP_le (m := 2) z2; rw [show (someP l s2 2).2 = s3 from congrArg Prod.snd a2] at this; exact this
  have z4 : s4.at_ ≤ l.length := by have := someP_le (m := 1) z3; rw [show (someP l s3 1).2 = s4 from congrArg Prod.snd a3] at this; exact this
  have z5 : s5.at_ ≤ l.length := by have := names_le l z4 k; rw [a4] at this; exact this
  have z6 : s6.at_ ≤ l.length := by have := someP_le (m := 256) z5; rw [a5] at this; exact this
  have z7 : s7.at_ ≤ l.length := by have := someP_le (m := q * 1) z6; rw [a6] at this; exact this
  obtain ⟨p7, c7⟩ := some_keep r z7 (show (someP l s7 (q * (m + 1) * 2)).2.short = false by rw [a7]; exact h)
  obtain ⟨p6, c6⟩ := some_keep r z6 (show (someP l s6 (q * 1)).2.short = false by rw [a6]; exact p7)
  obtain ⟨p5, c5⟩ := some_keep r z5 (show (someP l s5 256).2.short = false by rw [a5]; exact p6)
  obtain ⟨p4, c4⟩ := names_keep r z4 k (show (namesR l k s4).2.short = false by rw [a4]; exact p5)
  obtain ⟨p3, c3⟩ := num_keep r z3 (show (numP l s3 1).2.short = false by rw [a3]; exact p4)
  obtain ⟨p2, c2⟩ := num_keep r z2 (show (numP l s2 2).2.short = false by rw [a2]; exact p3)
  obtain ⟨p1, c1⟩ := num_keep r z1 (show (numP l s1 1).2.short = false by rw [a1]; exact p2)
  obtain ⟨_, c0⟩ := some_keep (l := l) (s := ⟨0, false⟩) (m := 3) r (Nat.zero_le _) (show (someP l ⟨0, false⟩ 3).2.short = false by rw [a0]; exact p1)
  exact tableR_yes (l ++ r) _ s1 s2 s3 s4 s5 s6 s7 s8 m q k _ ns o g x (c0.trans a0) (c1.trans a1) (c2.trans a2) (c3.trans a3) (c4.trans a4) (c5.trans a5) (c6.trans a6) rfl (c7.trans a7)
/-- a table that is right begins with the three bytes -/
theorem right_front (l : List UInt8) (h : tabRightB (tableR l ⟨0, false⟩).1 = true) : (someP l ⟨0, false⟩ 3).1 = [70, 84, 1] := by
  by_cases hf : (someP l ⟨0, false⟩ 3).1 = [70, 84, 1]
  · exact hf
  · rw [tableR_no l _ hf] at h
    exact absurd h (by have : tabRightB zeroTab = false := by kernel_rfl
                       rw [this]; decide)
theorem read_more (l r : List UInt8) (h : readB l = true) (hr : r ≠ []) : readB (l ++ r) = false := by
  unfold readB wholeB at h
  simp only [Bool.and_eq_true, decide_eq_true_eq, Bool.not_eq_true'] at h
  obtain ⟨⟨h1, h2⟩, h3⟩ := h
  unfold readB wholeB
  rw [table_keep l r h2 (right_front l h3), h1]
  have : l.length ≠ (l ++ r).length := by
    rw [List.length_append]
    have := List.length_pos_iff.2 hr
    omega
  rw [decide_eq_false this]
  rfl
theorem read_less (l r : List UInt8) (h : readB (l ++ r) = true) (hr : r ≠ []) : readB l = false := by
  cases hl : readB l with
  | false => rfl
  | true => rw [read_more l r hl hr] at h; cases h
end Go.Proofs.Ytkgfjapflpjdbaa
