/-
  Frames in plain terms: bytes are cut into lines; what is held of a line is its first bytes. No conditions.
-/
import Derived.Test.YtlpplmcploddaaaDoorProg
namespace Go.Proofs.YtlpplmcploddaaaDoor

/-- a line as it is told -/
structure LnP where
  text : List UInt8
  long : Bool
/-- what a frame has of the line under way -/
structure FrP where
  held : List UInt8
  over : Bool
  cr : Bool
/-- the bytes of a line under way, and one more: what is under way then, and the line that ends -/
def rawS (t : List UInt8) (c : UInt8) : List UInt8 × List (List UInt8) := if t.getLast? = some 13 ∧ c = 10 then ([], [t.dropLast]) else (t ++ [c], [])
def rawP : List UInt8 → List UInt8 → List UInt8 × List (List UInt8)
  | t, [] => (t, [])
  | t, c :: r => ((rawP (rawS t c).1 r).1, (rawS t c).2 ++ (rawP (rawS t c).1 r).2)
theorem rawP_append : ∀ (a t b : List UInt8), rawP t (a ++ b) = ((rawP (rawP t a).1 b).1, (rawP t a).2 ++ (rawP (rawP t a).1 b).2) := by
  intro a
  induction a with
  | nil => intro t b; rfl
  | cons c r ih => intro t b; simp [rawP, ih]
theorem rawP_snoc (t a : List UInt8) (c : UInt8) : rawP t (a ++ [c]) = ((rawS (rawP t a).1 c).1, (rawP t a).2 ++ (rawS (rawP t a).1 c).2) := by
  rw [rawP_append]; simp [rawP]
theorem rawP_few : ∀ (b t : List UInt8), (rawP t b).2.length ≤ b.length := by
  intro b
  induction b with
  | nil => intro t; simp [rawP]
  | cons c r ih =>
    intro t
    have h1 : (rawS t c).2.length ≤ 1 := by unfold rawS; split <;> simp
    have h2 := ih (rawS t c).1
    simp only [rawP, List.length_append, List.length_cons]
    omega
theorem rawP_short : ∀ (b t : List UInt8), (rawP t b).1.length ≤ t.length + b.length := by
  intro b
  induction b with
  | nil => intro t; simp [rawP]
  | cons c r ih =>
    intro t
    have h1 : (rawS t c).1.length ≤ t.length + 1 := by unfold rawS; split <;> simp
    have h2 := ih (rawS t c).1
    simp only [rawP, List.length_cons]
    omega
/-- a line as it is told, of its text -/
def lineP (m : Nat) (t : List UInt8) : LnP := ⟨t.take m, decide (m < t.length)⟩
def lastCr (t : List UInt8) : Bool := decide (t.getLast? = some 13)
/-- that of the bytes under way which is kept at once -/
def bodyP (t : List UInt8) : List UInt8 := if lastCr t = true then t.dropLast else t
def stP (m : Nat) (t : List UInt8) : FrP := ⟨(bodyP t).take m, decide (m < (bodyP t).length), lastCr t⟩
theorem take_keep {m : Nat} {u : List UInt8} (h : ¬ m ≤ (u.take m).length) (c : UInt8) : u.take m ++ [c] = (u ++ [c]).take m ∧ decide (m < u.length) = decide (m < (u ++ [c]).length) := by
  rw [List.length_take] at h
  have h2 : u.length < m := by omega
  rw [List.take_of_length_le (by omega), List.take_of_length_le (by simp; omega)]
  exact ⟨rfl, by simp; omega⟩
theorem take_full {m : Nat} {u : List UInt8} (h : m ≤ (u.take m).length) (c : UInt8) : u.take m = (u ++ [c]).take m ∧ true = decide (m < (u ++ [c]).length) := by
  rw [List.length_take] at h
  have h2 : m ≤ u.length := by omega
  rw [List.take_append_of_le_length h2]
  exact ⟨rfl, by simp; omega⟩
theorem lastCr_snoc (t : List UInt8) (c : UInt8) : lastCr (t ++ [c]) = decide (c = 13) := by simp [lastCr]
theorem lastCr_end {t : List UInt8} (h : lastCr t = true) : t = bodyP t ++ [13] := by
  unfold bodyP
  rw [if_pos h]
  have h2 : t.getLast? = some 13 := by simpa [lastCr] using h
  have hne : t ≠ [] := by intro e; subst e; simp at h2
  have h3 : t.getLast hne = 13 := by rw [List.getLast?_eq_some_getLast hne] at h2; injection h2
  rw [← h3, List.dropLast_concat_getLast hne]
theorem bodyP_no {t : List UInt8} (h : lastCr t = false) : bodyP t = t := by unfold bodyP; rw [h]; rfl
theorem bodyP_cr (t : List UInt8) : bodyP (t ++ [13]) = t := by unfold bodyP; rw [lastCr_snoc]; simp
theorem bodyP_on (t : List UInt8) (c : UInt8) (h : c ≠ 13) : bodyP (t ++ [c]) = t ++ [c] := bodyP_no (by rw [lastCr_snoc]; simp [h])
theorem rawS_end {t : List UInt8} (h : lastCr t = true) : rawS t 10 = ([], [bodyP t]) := by
  have h2 : t.getLast? = some 13 := by simpa [lastCr] using h
  unfold rawS bodyP
  rw [if_pos ⟨h2, rfl⟩, if_pos h]
theorem rawS_no {t : List UInt8} (h : lastCr t = false) (c : UInt8) : rawS t c = (t ++ [c], []) := by
  have h2 : ¬ t.getLast? = some 13 := by simpa [lastCr] using h
  unfold rawS
  rw [if_neg (fun hh => h2 hh.1)]
theorem rawS_on (t : List UInt8) (c : UInt8) (h : c ≠ 10) : rawS t c = (t ++ [c], []) := by
  unfold rawS
  rw [if_neg (fun hh => h hh.2)]
/-- no end of a line lies within -/
def NoEnd (t : List UInt8) : Prop := ∀ i : Nat, ¬ (t[i]? = some 13 ∧ t[i + 1]? = some 10)
theorem NoEnd.front {a b : List UInt8} (h : NoEnd (a ++ b)) : NoEnd a := by
  intro i ⟨h1, h2⟩
  have l1 := (List.getElem?_eq_some_iff.1 h1).1
  have l2 := (List.getElem?_eq_some_iff.1 h2).1
  exact h i ⟨by rw [List.getElem?_append_left l1]; exact h1, by rw [List.getElem?_append_left l2]; exact h2⟩
theorem NoEnd.snoc {a : List UInt8} (h : NoEnd a) (c : UInt8) (hc : ¬ (a.getLast? = some 13 ∧ c = 10)) : NoEnd (a ++ [c]) := by
  intro i ⟨h1, h2⟩
  by_cases hi : i + 1 < a.length
  · rw [List.getElem?_append_left (by omega)] at h1
    rw [List.getElem?_append_left hi] at h2
    exact h i ⟨h1, h2⟩
  · have l2 := (List.getElem?_eq_some_iff.1 h2).1
    simp at l2
    have e : i + 1 = a.length := by omega
    rw [List.getElem?_append_left (by omega)] at h1
    rw [e] at h2
    simp at h2
    refine hc ⟨?_, h2⟩
    rw [List.getLast?_eq_getElem?, ← h1]
    congr 1
    omega
theorem NoEnd.last {a : List UInt8} {c : UInt8} (h : NoEnd (a ++ [c])) : ¬ (a.getLast? = some 13 ∧ c = 10) := by
  intro ⟨h1, h2⟩
  have hne : a ≠ [] := by intro e; subst e; simp at h1
  have hp : 0 < a.length := List.length_pos_iff.2 hne
  rw [List.getLast?_eq_getElem?] at h1
  refine h (a.length - 1) ⟨?_, ?_⟩
  · rw [List.getElem?_append_left (by omega)]; exact h1
  · rw [show a.length - 1 + 1 = a.length by omega, h2]; simp
theorem rawP_noEnd : ∀ (s t : List UInt8), NoEnd (t ++ s) → rawP t s = (t ++ s, []) := by
  intro s
  induction s with
  | nil => intro t _; simp [rawP]
  | cons c r ih =>
    intro t h
    have h1 : NoEnd (t ++ [c] ++ r) := by simpa using h
    have hs : rawS t c = (t ++ [c], []) := by
      unfold rawS
      rw [if_neg (NoEnd.last h1.front)]
    simp only [rawP, hs]
    rw [ih _ h1]
    simp
theorem rawP_line (s rest : List UInt8) (h : NoEnd s) : rawP [] (s ++ 13 :: 10 :: rest) = ((rawP [] rest).1, s :: (rawP [] rest).2) := by
  rw [rawP_append, rawP_noEnd s [] (by simpa using h)]
  have h1 : rawS s 13 = (s ++ [13], []) := rawS_on s 13 (by decide)
  have h2 : rawS (s ++ [13]) 10 = ([], [s]) := by rw [rawS_end (by rw [lastCr_snoc]; rfl), bodyP_cr]
  simp only [List.nil_append, rawP, h1, h2]
  simp
def joinEnds : List (List UInt8) → List UInt8
  | [] => []
  | s :: l => s ++ 13 :: 10 :: joinEnds l
theorem rawP_lines : ∀ (l : List (List UInt8)), (∀ s ∈ l, NoEnd s) → rawP [] (joinEnds l) = ([], l) := by
  intro l
  induction l with
  | nil => intro _; rfl
  | cons s l ih =>
    intro h
    rw [joinEnds, rawP_line s _ (h s (by simp)), ih (fun x hx => h x (by simp [hx]))]
theorem stP_nil (m : Nat) : stP m [] = ⟨[], false, false⟩ := by simp [stP, bodyP, lastCr]
/-- bytes without each 10 that stands behind a 13 -/
def bareS (t : List UInt8) (c : UInt8) : List UInt8 := if t.getLast? = some 13 ∧ c = 10 then t else t ++ [c]
def bareP (l : List UInt8) : List UInt8 := l.foldl bareS []
theorem bareP_snoc (l : List UInt8) (c : UInt8) : bareP (l ++ [c]) = bareS (bareP l) c := by simp [bareP]
theorem bareP_noEnd (l : List UInt8) : NoEnd (bareP l) := by
  have : ∀ (l t : List UInt8), NoEnd t → NoEnd (l.foldl bareS t) := by
    intro l
    induction l with
    | nil => intro t h; exact h
    | cons c r ih =>
      intro t h
      refine ih _ ?_
      unfold bareS
      split
      · exact h
      · next hc => exact h.snoc c hc
  exact this l [] (by intro i ⟨h, _⟩; simp at h)
theorem bareP_len (l : List UInt8) : (bareP l).length ≤ l.length := by
  have : ∀ (l t : List UInt8), (l.foldl bareS t).length ≤ t.length + l.length := by
    intro l
    induction l with
    | nil => intro t; simp
    | cons c r ih =>
      intro t
      have := ih (bareS t c)
      have h2 : (bareS t c).length ≤ t.length + 1 := by unfold bareS; split <;> simp
      simp only [List.foldl_cons, List.length_cons]
      omega
  have h := this l []
  simp only [List.length_nil, Nat.zero_add] at h
  exact h
end Go.Proofs.YtlpplmcploddaaaDoor
