/-
  Plain facts on what is read of a line: how many bytes, and where an error lies. No conditions.
-/
import Derived.Test.YtciabhboiomehaaDoorTable
namespace Go.Proofs.YtciabhboiomehaaDoor

/-- at least one byte, and no more than there are; an error within the text -/
def Fits (p : Pc) (l : List UInt8) : Prop := p.bad ≤ l.length ∧ (p.err = 0 → 1 ≤ p.size ∧ p.size ≤ l.length) ∧ p.err ≤ 16

theorem byteZ_cons (c : UInt8) (r : List UInt8) : byteZ (c :: r) 0 = c.toNat := rfl
theorem spanZ_pos (p : Int → Bool) (l : List UInt8) (h : l ≠ []) (hp : p (byteZ l 0) = true) : 1 ≤ spanZ p l := by
  cases l with
  | nil => exact absurd rfl h
  | cons c r => rw [byteZ_cons] at hp; rw [spanZ, if_pos hp]; omega
theorem named_of_letter {n : Int} (h : letterZ n = true) : namedZ n = true := by simp [namedZ, h]
theorem prefix_le {l t : List UInt8} (h : Lib.hasPrefix l t = true) : t.length ≤ l.length := by
  obtain ⟨r, hr⟩ := List.isPrefixOf_iff_prefix.1 h
  rw [← hr, List.length_append]
  omega
theorem quoteAt_lt : ∀ (l : List UInt8) (i : Nat), quoteAt l = some i → i < l.length := by
  intro l
  induction l with
  | nil => intro i h; cases h
  | cons c r ih =>
    intro i h
    rw [quoteAt] at h
    split at h
    · injection h with h; subst h; simp
    · split at h
      · cases h
      · cases hq : quoteAt r with
        | none => rw [hq] at h; cases h
        | some j =>
          rw [hq] at h
          have h' : j + 1 = i := Option.some.inj h
          have := ih j hq
          simp only [List.length_cons]
          omega
theorem moreVals_bd {l : List UInt8} {base : Int} (hb0 : 0 ≤ base) (hb1 : base ≤ 16) : ∀ (f k : Nat) (nums : List Int) (out : List Int) (k2 : Nat), k ≤ l.length → moreVals l base f k nums = some (out, k2) → k ≤ k2 ∧ k2 ≤ l.length := by
  intro f
  induction f with
  | zero => intro k nums out k2 _ h; cases h
  | succ f ih =>
    intro k nums out k2 hk h
    rw [moreVals] at h
    split at h
    · cases hv : valueZ l (k + 1) base with
      | none => rw [hv] at h; cases h
      | some vk =>
        obtain ⟨v, k3⟩ := vk
        rw [hv] at h
        have hb := valueZ_bd hb0 hb1 hv
        have := ih k3 _ out k2 hb.2.2.2 h
        omega
    · injection h with h
      injection h with _ h
      omega
theorem fits_wrong (l : List UInt8) : Fits wrongP l := ⟨Nat.zero_le _, (fun h => by cases h), by decide⟩
theorem fits_values (l : List UInt8) : Fits (valuesP l) l := by
  obtain ⟨hb0, hb1⟩ := baseZ_bd l
  unfold valuesP
  cases hv : valueZ l 2 (baseZ l) with
  | none => exact fits_wrong l
  | some ak =>
    obtain ⟨a, k⟩ := ak
    have hb := valueZ_bd hb0 hb1 hv
    rw [valuesOf]
    split
    · cases hv2 : valueZ l (k + 1) (baseZ l) with
      | none => exact fits_wrong l
      | some bk =>
        obtain ⟨b, k2⟩ := bk
        have hb2 := valueZ_bd hb0 hb1 hv2
        rw [rangeOf]
        split
        · exact fits_wrong l
        · exact ⟨Nat.zero_le _, fun _ => ⟨by show 1 ≤ k2; omega, hb2.2.2.2⟩, Nat.zero_le _⟩
    · cases hm : moreVals l (baseZ l) (l.length + 1) k [a] with
      | none => exact fits_wrong l
      | some nk =>
        obtain ⟨nums, k2⟩ := nk
        have hm2 := moreVals_bd hb0 hb1 _ _ _ _ _ hb.2.2.2 hm
        exact ⟨Nat.zero_le _, fun _ => ⟨by show 1 ≤ k2; omega, hm2.2⟩, by simp [bytesOf]⟩
theorem fits_chars (l : List UInt8) : Fits (charsP l) l := by
  unfold charsP
  cases hq : quoteAt (l.drop 1) with
  | none => exact ⟨Nat.zero_le _, (fun h => by cases h), by simp [charsOf]⟩
  | some i =>
    have := quoteAt_lt _ _ hq
    rw [List.length_drop] at this
    exact ⟨Nat.zero_le _, fun _ => ⟨by show 1 ≤ i + 2; omega, by show i + 2 ≤ _; omega⟩, by simp [charsOf]⟩
theorem fits_times (l : List UInt8) (hl : l ≠ []) (h : timesZ (byteZ l 0) = true) : Fits (timesP l) l := by
  have hle := spanZ_le digitZ l
  unfold timesP
  split
  · exact ⟨Nat.zero_le _, (fun h => by cases h), by decide⟩
  · split
    · rename_i hst
      have hlt := standsB_lt hst
      have hle2 := spanZ_le digitZ (l.drop (spanZ digitZ l + 1))
      rw [List.length_drop] at hle2
      split
      · exact ⟨by show spanZ digitZ l + 1 ≤ _; omega, (fun h => by cases h), by simp⟩
      · split
        · split
          · exact ⟨Nat.zero_le _, (fun h => by cases h), by decide⟩
          · exact ⟨Nat.zero_le _, fun _ => ⟨by show 1 ≤ _ + 1 + _; omega, by show _ + 1 + _ ≤ _; omega⟩, by simp [timesTok]⟩
        · exact ⟨Nat.zero_le _, fun _ => ⟨by show 1 ≤ _ + 1; omega, by show _ + 1 ≤ _; omega⟩, by simp [timesTok]⟩
    · rename_i hst
      refine ⟨Nat.zero_le _, fun _ => ⟨?_, hle⟩, by simp [timesTok]⟩
      show 1 ≤ spanZ digitZ l
      cases hd : digitZ (byteZ l 0) with
      | true => exact spanZ_pos digitZ l hl hd
      | false =>
        exfalso
        apply hst
        have h0 : spanZ digitZ l = 0 := by
          cases l with
          | nil => exact absurd rfl hl
          | cons c r => rw [byteZ_cons] at hd; rw [spanZ, if_neg (by simp [hd])]
        rw [h0]
        simp only [timesZ, hd, Bool.false_or] at h
        have : 0 < l.length := List.length_pos_iff.2 hl
        simp [standsB, h, this]

def Good (row : Row) : Prop := ∀ l, l ≠ [] → row.1 l = true → Fits (row.2 l) l
theorem good_sign (kind : Int) (t : List UInt8) (ht : 1 ≤ t.length) : Good (signRow kind t) := fun l _ h => ⟨Nat.zero_le _, fun _ => ⟨ht, prefix_le h⟩, by simp [signRow]⟩
theorem good_err (p : List UInt8 → Bool) (er : Nat) (h1 : er ≠ 0) (h2 : er ≤ 16) : Good (p, fun _ => { bad := 0, err := er }) := fun _ _ _ => ⟨Nat.zero_le _, fun h => absurd h h1, h2⟩
theorem good_table : ∀ row ∈ table, Good row := by
  intro row h
  simp only [table, List.mem_cons, List.not_mem_nil, or_false] at h
  rcases h with rfl | rfl | rfl | rfl | rfl | rfl | rfl | rfl | rfl | rfl | rfl | rfl | rfl | rfl | rfl
  · exact fun l hl h => ⟨Nat.zero_le _, fun _ => ⟨spanZ_pos blankZ l hl h, spanZ_le _ _⟩, by simp⟩
  · exact fun l hl h => ⟨Nat.zero_le _, fun _ => ⟨List.length_pos_iff.2 hl, Nat.le_refl _⟩, by simp⟩
  · exact fun l hl h => ⟨Nat.zero_le _, fun _ => ⟨spanZ_pos namedZ l hl (named_of_letter h), spanZ_le _ _⟩, by simp [nameP]⟩
  · exact good_sign _ _ (by decide)
  · exact good_sign _ _ (by decide)
  · exact good_sign _ _ (by decide)
  · exact good_sign _ _ (by decide)
  · exact good_sign _ _ (by decide)
  · exact good_sign _ _ (by decide)
  · exact good_sign _ _ (by decide)
  · exact fun l hl h => fits_times l hl h
  · exact fun l _ _ => fits_chars l
  · exact fun l _ _ => fits_values l
  · exact good_err _ _ (by decide) (by decide)
  · exact good_err _ _ (by decide) (by decide)
theorem fits_pick (rows : List Row) (hr : ∀ row ∈ rows, Good row) (l : List UInt8) (hl : l ≠ []) : Fits (pick rows l) l := by
  induction rows with
  | nil => exact ⟨Nat.zero_le _, (fun h => by cases h), by simp [pick]⟩
  | cons row rows ih =>
    obtain ⟨p, r⟩ := row
    rw [pick]
    split
    · exact hr (p, r) (by simp) l hl (by assumption)
    · exact ih fun row h => hr row (by simp [h])
theorem fits_read (l : List UInt8) (hl : l ≠ []) : Fits (readP l) l := fits_pick table good_table l hl

/-- a line's tokens, from a place on: the tokens, and the place and the number of an error, or 0, 0 -/
def tokensF (l : List UInt8) (start : Nat) : Nat → Nat → List Tk → List Tk × Nat × Nat
  | 0, _, toks => (toks, 0, 0)
  | f + 1, at_, toks =>
    if l.length ≤ at_ then (toks, 0, 0)
    else if (readP (l.drop at_)).err ≠ 0 then (toks, start + at_ + (readP (l.drop at_)).bad, (readP (l.drop at_)).err)
    else tokensF l start f (at_ + (readP (l.drop at_)).size) (if (readP (l.drop at_)).tok.kind ≠ 0 then toks ++ [{ (readP (l.drop at_)).tok with place := (start : Int) + at_ }] else toks)
def tokensP (l : List UInt8) (start : Nat) (toks : List Tk) : List Tk × Nat × Nat := tokensF l start (l.length + 1) 0 toks

theorem tokensF_end {l : List UInt8} {start f at_ : Nat} {toks : List Tk} (h : l.length ≤ at_) : tokensF l start f at_ toks = (toks, 0, 0) := by
  cases f with
  | zero => rfl
  | succ f => rw [tokensF, if_pos h]
theorem tokensF_err {l : List UInt8} {start f at_ : Nat} {toks : List Tk} (hf : l.length < f + at_) (h : at_ < l.length) (he : (readP (l.drop at_)).err ≠ 0) :
    tokensF l start f at_ toks = (toks, start + at_ + (readP (l.drop at_)).bad, (readP (l.drop at_)).err) := by
  cases f with
  | zero => omega
  | succ f => rw [tokensF, if_neg (by omega), if_pos he]
theorem tokensF_go {l : List UInt8} {start f at_ : Nat} {toks : List Tk} (h : at_ < l.length) (he : (readP (l.drop at_)).err = 0) :
    tokensF l start (f + 1) at_ toks = tokensF l start f (at_ + (readP (l.drop at_)).size) (if (readP (l.drop at_)).tok.kind ≠ 0 then toks ++ [{ (readP (l.drop at_)).tok with place := (start : Int) + at_ }] else toks) := by
  rw [tokensF, if_neg (by omega), if_neg (by simp [he])]
end Go.Proofs.YtciabhboiomehaaDoor
