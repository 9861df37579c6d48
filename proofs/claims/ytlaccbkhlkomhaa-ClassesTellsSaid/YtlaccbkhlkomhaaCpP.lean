/-
  Classes in plain terms: bytes that are parted by a set, numbered as they are met; the classes of some sets; right classes with the same partition are the same. No conditions.
-/
import Derived.Test.YtlaccbkhlkomhaaClF
namespace Go.Proofs.Ytlaccbkhlkomhaa
open Go.RowKit
set_option maxRecDepth 100000

/-! ### what is met first is numbered first -/
section
variable {α : Type} [DecidableEq α]
def posL (s : List α) (x : α) : Nat := s.idxOf x
theorem posL_lt {s : List α} {x : α} (h : x ∈ s) : posL s x < s.length := List.idxOf_lt_length_iff.2 h
theorem posL_le (s : List α) (x : α) : posL s x ≤ s.length := List.idxOf_le_length
def seenL : List α → List α → List α
  | [], s => s
  | x :: r, s => seenL r (if x ∈ s then s else s ++ [x])
def numL : List α → List α → List Nat
  | [], _ => []
  | x :: r, s => s.idxOf x :: numL r (if x ∈ s then s else s ++ [x])
theorem seenL_snoc : ∀ (l s : List α) (x : α), seenL (l ++ [x]) s = if x ∈ seenL l s then seenL l s else seenL l s ++ [x]
  | [], s, x => rfl
  | y :: r, s, x => by
    show seenL (r ++ [x]) _ = _
    rw [seenL_snoc r]
    rfl
theorem numL_snoc : ∀ (l s : List α) (x : α), numL (l ++ [x]) s = numL l s ++ [posL (seenL l s) x]
  | [], s, x => rfl
  | y :: r, s, x => by
    show _ :: numL (r ++ [x]) _ = _
    rw [numL_snoc r]
    rfl
theorem numL_len : ∀ (l s : List α), (numL l s).length = l.length
  | [], _ => rfl
  | x :: r, s => by simp [numL, numL_len r]
theorem seenL_le : ∀ (l s : List α), (seenL l s).length ≤ s.length + l.length
  | [], s => by simp [seenL]
  | x :: r, s => by
    have := seenL_le r (if x ∈ s then s else s ++ [x])
    rw [seenL]
    split at this <;> simp_all <;> omega
theorem idx_of_not {s : List α} {x : α} (h : x ∉ s) : s.idxOf x = s.length := List.idxOf_eq_length h
theorem seenL_pre : ∀ (l s : List α), ∃ t, seenL l s = s ++ t
  | [], s => ⟨[], by simp [seenL]⟩
  | x :: r, s => by
    obtain ⟨t, ht⟩ := seenL_pre r (if x ∈ s then s else s ++ [x])
    rw [seenL, ht]
    split
    · exact ⟨t, rfl⟩
    · exact ⟨[x] ++ t, by simp⟩
theorem mem_seenL : ∀ (l s : List α) (x : α), x ∈ l → x ∈ seenL l s
  | y :: r, s, x, h => by
    rw [seenL]
    rcases List.mem_cons.1 h with rfl | h
    · obtain ⟨t, ht⟩ := seenL_pre r (if x ∈ s then s else s ++ [x])
      rw [ht]
      refine List.mem_append_left _ ?_
      split
      · assumption
      · simp
    · exact mem_seenL r _ x h
theorem numL_at : ∀ (l s : List α) (i : Nat) (h : i < l.length), (numL l s)[i]? = some (posL (seenL l s) l[i])
  | x :: r, s, 0, _ => by
    have hin : x ∈ (if x ∈ s then s else s ++ [x]) := by split <;> simp_all
    obtain ⟨t, ht⟩ := seenL_pre r (if x ∈ s then s else s ++ [x])
    show some (s.idxOf x) = some (posL (seenL r _) x)
    unfold posL
    rw [ht, List.idxOf_append, if_pos hin]
    by_cases hx : x ∈ s
    · rw [if_pos hx]
    · rw [if_neg hx, idx_of_not hx, List.idxOf_append, if_neg hx]
      simp
  | x :: r, s, i + 1, h => by
    show (numL r _)[i]? = some (posL (seenL r _) (r[i]'(by simpa using h)))
    exact numL_at r _ i (by simpa using h)
theorem idx_inj {s : List α} {x y : α} (hx : x ∈ s) (h : posL s x = posL s y) : x = y := by
  unfold posL at h
  induction s with
  | nil => simp at hx
  | cons z r ih =>
    rw [List.idxOf_cons, List.idxOf_cons] at h
    by_cases h1 : z = x
    · by_cases h2 : z = y
      · rw [← h1, h2]
      · rw [beq_iff_eq.2 h1, beq_eq_false_iff_ne.2 h2, cond_true, cond_false] at h
        omega
    · by_cases h2 : z = y
      · rw [beq_eq_false_iff_ne.2 h1, beq_iff_eq.2 h2, cond_true, cond_false] at h
        omega
      · rw [beq_eq_false_iff_ne.2 h1, beq_eq_false_iff_ne.2 h2, cond_false, cond_false] at h
        rcases List.mem_cons.1 hx with rfl | hx
        · exact absurd rfl h1
        · exact ih hx (by omega)
theorem clGo_num : ∀ (l s : List α), (seenL l s).length ≤ 256 → clGo ((numL l s).map UInt8.ofNat) s.length = some (seenL l s).length
  | [], s, _ => rfl
  | x :: r, s, h => by
    have hle : s.idxOf x ≤ s.length := List.idxOf_le_length
    have h2 : (if x ∈ s then s else s ++ [x]).length ≤ (seenL (x :: r) s).length := by
      rw [seenL]
      obtain ⟨t, ht⟩ := seenL_pre r (if x ∈ s then s else s ++ [x])
      rw [ht, List.length_append]
      omega
    have hlt : s.idxOf x < 256 := by
      by_cases hx : x ∈ s
      · have := List.idxOf_lt_length_iff.2 hx
        rw [if_pos hx] at h2
        omega
      · rw [if_neg hx] at h2
        simp at h2
        omega
    have hn : (UInt8.ofNat (s.idxOf x)).toNat = s.idxOf x := by
      rw [UInt8.toNat_ofNat']
      exact Nat.mod_eq_of_lt hlt
    show clGo (UInt8.ofNat (s.idxOf x) :: _) _ = _
    rw [clGo, hn, if_neg (by omega)]
    have ih := clGo_num r (if x ∈ s then s else s ++ [x]) h
    rw [seenL, ← ih]
    congr 1
    by_cases hx : x ∈ s
    · have := List.idxOf_lt_length_iff.2 hx
      rw [if_pos hx, if_neg (by omega)]
    · rw [if_neg hx, idx_of_not hx, if_pos rfl]
      simp
end
/-! ### one set parts classes -/

/-- a byte's class, and whether the set has it -/
def keyB (of : List UInt8) (s : St) (i : Nat) : Nat × Bool := ((of.getD i 0).toNat, inS s i)
def keysB (of : List UInt8) (s : St) (n : Nat) : List (Nat × Bool) := (List.range n).map (keyB of s)
def partedL (of : List UInt8) (s : St) : List UInt8 := (numL (keysB of s 256) []).map UInt8.ofNat
def manyP (of : List UInt8) (s : St) : Nat := (seenL (keysB of s 256) []).length
theorem keysB_len (of : List UInt8) (s : St) (n : Nat) : (keysB of s n).length = n := by simp [keysB]
theorem keysB_succ (of : List UInt8) (s : St) (n : Nat) : keysB of s (n + 1) = keysB of s n ++ [keyB of s n] := by simp [keysB, List.range_succ]
theorem keysB_at (of : List UInt8) (s : St) (n i : Nat) (h : i < (keysB of s n).length) : (keysB of s n)[i] = keyB of s i := by simp [keysB]
theorem seen_le (of : List UInt8) (s : St) (n : Nat) : (seenL (keysB of s n) []).length ≤ n := by
  have := seenL_le (keysB of s n) []
  rw [keysB_len] at this
  simpa using this
theorem num_lt (of : List UInt8) (s : St) (n : Nat) (hn : n < 256) : posL (seenL (keysB of s n) []) (keyB of s n) < 256 := by
  have h1 := seen_le of s n
  have h2 : posL (seenL (keysB of s n) []) (keyB of s n) ≤ _ := posL_le _ _
  omega
theorem partedL_len (of : List UInt8) (s : St) : (partedL of s).length = 256 := by rw [partedL, List.length_map, numL_len, keysB_len]
theorem partedN_go (of : List UInt8) (s : St) (n : Nat) (hn : n ≤ 256) : clGo ((numL (keysB of s n) []).map UInt8.ofNat) 0 = some (seenL (keysB of s n) []).length := clGo_num (keysB of s n) [] (Nat.le_trans (seen_le of s n) hn)
theorem partedL_go (of : List UInt8) (s : St) : clGo (partedL of s) 0 = some (manyP of s) := by
  unfold partedL manyP
  exact partedN_go of s 256 (Nat.le_refl _)
theorem mem_keysB (of : List UInt8) (s : St) (n i : Nat) (h : i < n) : keyB of s i ∈ keysB of s n := List.mem_map.2 ⟨i, List.mem_range.2 h, rfl⟩
theorem partedN_at (of : List UInt8) (s : St) (n i : Nat) (hn : n ≤ 256) (h : i < n) : (((numL (keysB of s n) []).map UInt8.ofNat).getD i 0).toNat = posL (seenL (keysB of s n) []) (keyB of s i) := by
  have h1 := numL_at (keysB of s n) [] i (by rw [keysB_len]; exact h)
  rw [keysB_at] at h1
  have hin : keyB of s i ∈ seenL (keysB of s n) [] := mem_seenL _ _ _ (mem_keysB of s n i h)
  have hlt := posL_lt hin
  have hle := seen_le of s n
  rw [List.getD_eq_getElem?_getD, List.getElem?_map, h1]
  show (UInt8.ofNat _).toNat = _
  rw [UInt8.toNat_ofNat']
  exact Nat.mod_eq_of_lt (by omega)
theorem partedN_same (of : List UInt8) (s : St) (n i j : Nat) (hn : n ≤ 256) (hi : i < n) (hj : j < n) : ((numL (keysB of s n) []).map UInt8.ofNat).getD i 0 = ((numL (keysB of s n) []).map UInt8.ofNat).getD j 0 ↔ of.getD i 0 = of.getD j 0 ∧ inS s i = inS s j := by
  have hin : ∀ i, i < n → keyB of s i ∈ seenL (keysB of s n) [] := fun i h => mem_seenL _ _ _ (mem_keysB of s n i h)
  constructor
  · intro h
    have h1 := congrArg UInt8.toNat h
    rw [partedN_at of s n i hn hi, partedN_at of s n j hn hj] at h1
    have h2 := idx_inj (hin i hi) h1
    unfold keyB at h2
    injection h2 with h2 h3
    exact ⟨UInt8.toNat_inj.1 h2, h3⟩
  · rintro ⟨h1, h2⟩
    refine UInt8.toNat_inj.1 ?_
    rw [partedN_at of s n i hn hi, partedN_at of s n j hn hj]
    unfold keyB
    rw [h1, h2]
theorem partedL_same (of : List UInt8) (s : St) (i j : Nat) (hi : i < 256) (hj : j < 256) : (partedL of s).getD i 0 = (partedL of s).getD j 0 ↔ of.getD i 0 = of.getD j 0 ∧ inS s i = inS s j := by
  unfold partedL
  exact partedN_same of s 256 i j (Nat.le_refl _) hi hj
/-! ### the classes of some sets -/
def manyOf (of : List UInt8) : Nat := (clGo of 0).getD 0
def stepCl (of : List UInt8) (s : St) : List UInt8 := if partsB of s then partedL of s else of
def cl0 : List UInt8 := List.replicate 256 0
theorem cl0_len : cl0.length = 256 := by unfold cl0; exact List.length_replicate
theorem cl0_go : clGo cl0 0 = some 1 := by decide +kernel
def clL (V : List St) : List UInt8 := V.foldl stepCl cl0
/-- bytes' classes are those of some sets -/
structure CP (V : List St) (of : List UInt8) : Prop where
  len : of.length = 256
  go : clGo of 0 = some (manyOf of)
  same : ∀ i j, i < 256 → j < 256 → (of.getD i 0 = of.getD j 0 ↔ ∀ s ∈ V, inS s i = inS s j)
theorem parts_iff (of : List UInt8) (s : St) : partsB of s = true ↔ ∃ i, i < 256 ∧ ∃ j, j < 256 ∧ of.getD i 0 = of.getD j 0 ∧ inS s i ≠ inS s j := by
  unfold partsB
  rw [decide_eq_true_iff]
  constructor
  · rintro ⟨i, hi, j, hj, he, h1, h2⟩
    exact ⟨i, hi, j, hj, he, by rw [h1, h2]; decide⟩
  · rintro ⟨i, hi, j, hj, he, h⟩
    cases h1 : inS s i with
    | true => exact ⟨i, hi, j, hj, he, h1, by cases h2 : inS s j; rfl; rw [h1, h2] at h; exact absurd rfl h⟩
    | false => exact ⟨j, hj, i, hi, he.symm, by cases h2 : inS s j; rw [h1, h2] at h; exact absurd rfl h; rfl, h1⟩
theorem CP.parted {V : List St} {of : List UInt8} (h : CP V of) (s : St) : CP (V ++ [s]) (partedL of s) := by
  refine ⟨partedL_len of s, by rw [manyOf, partedL_go, Option.getD_some], fun i j hi hj => ?_⟩
  rw [partedL_same of s i j hi hj, h.same i j hi hj]
  simp only [List.mem_append, List.mem_singleton]
  constructor
  · rintro ⟨h1, h2⟩ s' (hs | rfl)
    · exact h1 s' hs
    · exact h2
  · intro h1
    exact ⟨fun s' hs => h1 s' (.inl hs), h1 s (.inr rfl)⟩
theorem CP.kept {V : List St} {of : List UInt8} (h : CP V of) {s : St} (hp : partsB of s = false) : CP (V ++ [s]) of := by
  refine ⟨h.len, h.go, fun i j hi hj => ?_⟩
  rw [h.same i j hi hj]
  constructor
  · intro h1 s' hs
    rcases List.mem_append.1 hs with hs | hs
    · exact h1 s' hs
    · obtain rfl := List.mem_singleton.1 hs
      cases he : decide (inS s' i = inS s' j) with
      | true => exact of_decide_eq_true he
      | false =>
        have := (parts_iff of s').2 ⟨i, hi, j, hj, (h.same i j hi hj).2 h1, of_decide_eq_false he⟩
        rw [hp] at this
        cases this
  · intro h1 s' hs
    exact h1 s' (List.mem_append_left _ hs)
theorem CP.step {V : List St} {of : List UInt8} (h : CP V of) (s : St) : CP (V ++ [s]) (stepCl of s) := by
  unfold stepCl
  cases hp : partsB of s with
  | true => exact h.parted s
  | false => exact h.kept hp
theorem cl0_at (i : Nat) (hi : i < 256) : cl0.getD i 0 = 0 := by
  unfold cl0
  rw [List.getD_eq_getElem?_getD, List.getElem?_replicate, if_pos hi]
  rfl
theorem CP.start : CP [] cl0 := by
  refine ⟨cl0_len, by rw [manyOf, cl0_go, Option.getD_some], fun i j hi hj => ?_⟩
  rw [cl0_at i hi, cl0_at j hj]
  exact ⟨fun _ s hs => absurd hs (List.not_mem_nil), fun _ => rfl⟩
theorem cp_fold : ∀ (V U : List St) (of : List UInt8), CP U of → CP (U ++ V) (V.foldl stepCl of)
  | [], U, of, h => by rw [List.append_nil]; exact h
  | s :: V, U, of, h => by
    have := cp_fold V (U ++ [s]) (stepCl of s) (h.step s)
    rw [List.append_assoc] at this
    exact this
theorem clL_cp (V : List St) : CP V (clL V) := cp_fold V [] cl0 CP.start
theorem clL_snoc (V : List St) (s : St) : clL (V ++ [s]) = stepCl (clL V) s := by unfold clL; rw [List.foldl_append]; rfl
/-- right classes with the same partition are the same -/
theorem cl_take : ∀ (n : Nat) (a b : List UInt8) (g g' : Nat), a.length = 256 → b.length = 256 → clGo a 0 = some g → clGo b 0 = some g' → (∀ i j, i < 256 → j < 256 → (a.getD i 0 = a.getD j 0 ↔ b.getD i 0 = b.getD j 0)) → n ≤ 256 → a.take n = b.take n := by
  intro n a b g g' ha hb hga hgb hs
  induction n with
  | zero => intro _; rfl
  | succ n ih =>
    intro hn
    have ih := ih (by omega)
    have hna : n < a.length := by omega
    have hnb : n < b.length := by omega
    rw [List.take_succ_eq_append_getElem hna, List.take_succ_eq_append_getElem hnb, ih]
    congr 1
    have part : ∀ (l : List UInt8) (g : Nat), l.length = 256 → clGo l 0 = some g → ∃ q, clGo (l.take n) 0 = some q ∧ (∀ h : n < l.length, l[n].toNat ≤ q) := fun l g hl hg => by
      cases hq : clGo (l.take n) 0 with
      | none => rw [clGo_none_take l n 0 hq] at hg; cases hg
      | some q =>
        refine ⟨q, rfl, fun h => ?_⟩
        have h2 := clGo_snoc (l.take n) 0 l[n]
        rw [← List.take_succ_eq_append_getElem h, hq] at h2
        simp only at h2
        by_cases hlt : q < l[n].toNat
        · rw [if_pos hlt] at h2
          rw [clGo_none_take l (n + 1) 0 h2] at hg
          cases hg
        · omega
    obtain ⟨q, hq1, hq2⟩ := part a g ha hga
    obtain ⟨q', hq3, hq4⟩ := part b g' hb hgb
    rw [ih, hq3] at hq1
    injection hq1 with hq1
    subst hq1
    have hq2 := hq2 hna
    have hq4 := hq4 hnb
    have gd : ∀ (l : List UInt8) (i : Nat) (h : i < l.length), l.getD i 0 = l[i] := fun l i h => by rw [List.getD_eq_getElem?_getD, List.getElem?_eq_getElem h]; rfl
    have old : ∀ (x y : List UInt8) (hx : n < x.length) (hy : n < y.length), x.take n = y.take n → clGo (x.take n) 0 = some q' → (∀ i j, i < 256 → j < 256 → (x.getD i 0 = x.getD j 0 ↔ y.getD i 0 = y.getD j 0)) → x[n].toNat < q' → x[n] = y[n] := fun x y hx hy hxy hgo hsame hlt => by
      obtain ⟨k, hk, he⟩ := cl_occurs _ (x.take n) q' rfl hgo x[n].toNat hlt
      have hkn : k < n := by rw [List.length_take] at hk; omega
      have hk1 : (x.take n)[k] = x[k]'(by omega) := by rw [List.getElem_take]
      have hk2 : (x.take n)[k] = y[k]'(by omega) := by
        have : (x.take n)[k]? = (y.take n)[k]? := by rw [hxy]
        rw [List.getElem?_eq_getElem hk, List.getElem?_take, if_pos hkn, List.getElem?_eq_getElem (by omega)] at this
        injection this
      have h1 : x[k]'(by omega) = x[n] := UInt8.toNat_inj.1 (by rw [← hk1, he])
      have h2 := (hsame k n (by omega) (by omega)).1 (by rw [gd x k (by omega), gd x n hx]; exact h1)
      rw [gd y k (by omega), gd y n hy] at h2
      rw [← h2, ← hk2, hk1, h1]
    by_cases h1 : a[n].toNat < q'
    · rw [old a b hna hnb ih (by rw [ih]; exact hq3) hs h1]
    · by_cases h2 : b[n].toNat < q'
      · rw [old b a hnb hna ih.symm hq3 (fun i j hi hj => (hs i j hi hj).symm) h2]
      · have : a[n] = b[n] := UInt8.toNat_inj.1 (by omega)
        rw [this]
theorem CP.unique {V V' : List St} {a b : List UInt8} (ha : CP V a) (hb : CP V' b) (h : ∀ i j, i < 256 → j < 256 → ((∀ s ∈ V, inS s i = inS s j) ↔ ∀ s ∈ V', inS s i = inS s j)) : a = b := by
  have := cl_take 256 a b _ _ ha.len hb.len ha.go hb.go (fun i j hi hj => by rw [ha.same i j hi hj, hb.same i j hi hj, h i j hi hj]) (Nat.le_refl _)
  rwa [List.take_of_length_le (by rw [ha.len]; exact Nat.le_refl _), List.take_of_length_le (by rw [hb.len]; exact Nat.le_refl _)] at this
theorem clL_same {V V' : List St} (h : ∀ s, s ∈ V ↔ s ∈ V') : clL V = clL V' :=
  (clL_cp V).unique (clL_cp V') (fun i j _ _ => ⟨fun h1 s hs => h1 s ((h s).2 hs), fun h1 s hs => h1 s ((h s).1 hs)⟩)
theorem CP.right {V : List St} {of : List UInt8} (h : CP V of) : clRightB of (manyOf of : Int) = true := by
  unfold clRightB
  rw [h.go]
  exact beq_self_eq_true _
theorem partedL_many (of : List UInt8) (s : St) : manyOf (partedL of s) = manyP of s := by rw [manyOf, partedL_go, Option.getD_some]
/-- the same, without the question whether there is anything to part -/
def clQ (V : List St) : List UInt8 := V.foldl partedL cl0
theorem cpq_fold : ∀ (V U : List St) (of : List UInt8), CP U of → CP (U ++ V) (V.foldl partedL of)
  | [], U, of, h => by rw [List.append_nil]; exact h
  | s :: V, U, of, h => by
    have := cpq_fold V (U ++ [s]) (partedL of s) (h.parted s)
    rw [List.append_assoc] at this
    exact this
theorem clQ_cp (V : List St) : CP V (clQ V) := cpq_fold V [] cl0 CP.start
theorem clL_eq_clQ (V : List St) : clL V = clQ V := (clL_cp V).unique (clQ_cp V) (fun _ _ _ _ => Iff.rfl)
end Go.Proofs.Ytlaccbkhlkomhaa
