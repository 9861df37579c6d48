/-
  Plain facts: what is read at a place that is neither a blank's nor a remark's; tokens passed one blank at a time; a line as a part of its text. No conditions.
-/
import Derived.Test.YtkidhffloaonaaaRefJ
namespace Go.Proofs.Ytkidhffloaonaaa
open Go.RowKit

def Kinded (row : Row) : Prop := ∀ l, (row.2 l).err = 0 → (row.2 l).tok.kind ≠ 0
theorem kinded_times (l : List UInt8) : (timesP l).err = 0 → (timesP l).tok.kind ≠ 0 := by
  unfold timesP timesTok
  split
  · intro h; cases h
  · split
    · split
      · intro h; cases h
      · split
        · split
          · intro h; cases h
          · intro _; simp
        · intro _; simp
    · intro _; simp
theorem kinded_chars (l : List UInt8) : (charsP l).err = 0 → (charsP l).tok.kind ≠ 0 := by
  unfold charsP
  cases quoteAt (l.drop 1) with
  | none => intro h; cases h
  | some i => intro _; simp [charsOf]
theorem kinded_values (l : List UInt8) : (valuesP l).err = 0 → (valuesP l).tok.kind ≠ 0 := by
  unfold valuesP
  cases valueZ l 2 (baseZ l) with
  | none => intro h; cases h
  | some ak =>
    obtain ⟨a, k⟩ := ak
    rw [valuesOf]
    split
    · cases valueZ l (k + 1) (baseZ l) with
      | none => intro h; cases h
      | some bk =>
        obtain ⟨b, k2⟩ := bk
        rw [rangeOf]
        split
        · intro h; cases h
        · intro _; simp
    · cases moreVals l (baseZ l) (l.length + 1) k [a] with
      | none => intro h; cases h
      | some nk => intro _; simp [bytesOf]
theorem kinded_sign (kind : Int) (t : List UInt8) (h : kind ≠ 0) : Kinded (signRow kind t) := fun _ _ => h
theorem kinded_err (p : List UInt8 → Bool) (er : Nat) (h : er ≠ 0) : Kinded (p, fun _ => { bad := 0, err := er }) := fun _ e => absurd e h
theorem kinded_table : ∀ row ∈ table.drop 2, Kinded row := by
  intro row h
  unfold table at h
  simp only [List.drop_succ_cons, List.drop_zero, List.mem_cons, List.not_mem_nil, or_false] at h
  rcases h with h | h | h | h | h | h | h | h | h | h | h | h | h <;> subst h
  · intro l _; simp [nameP]
  · exact kinded_sign _ _ (by decide)
  · exact kinded_sign _ _ (by decide)
  · exact kinded_sign _ _ (by decide)
  · exact kinded_sign _ _ (by decide)
  · exact kinded_sign _ _ (by decide)
  · exact kinded_sign _ _ (by decide)
  · exact kinded_sign _ _ (by decide)
  · exact kinded_times
  · exact kinded_chars
  · exact kinded_values
  · exact kinded_err _ _ (by decide)
  · exact kinded_err _ _ (by decide)
theorem kinded_pick (rows : List Row) (hr : ∀ row ∈ rows, Kinded row) (l : List UInt8) (he : (pick rows l).err = 0) : (pick rows l).tok.kind ≠ 0 := by
  induction rows with
  | nil => cases he
  | cons row rows ih =>
    obtain ⟨p, r⟩ := row
    rw [pick] at he ⊢
    split
    · rename_i hp
      rw [if_pos hp] at he
      exact hr (p, r) (by simp) l he
    · rename_i hp
      rw [if_neg hp] at he
      exact ih (fun row h => hr row (by simp [h])) he
theorem read_past (l : List UInt8) (hl : l ≠ []) (hb : blankZ (byteZ l 0) = false) (hr : byteZ l 0 ≠ 59) : readP l = pick (table.drop 2) l := by
  cases l with
  | nil => exact absurd rfl hl
  | cons c r =>
    rw [byteZ_cons] at hb hr
    have h1 : c ≠ 59 := fun e => hr (by rw [e]; rfl)
    unfold readP table
    rw [pick, if_neg (by rw [byteZ_cons, hb]; simp), pick, if_neg (by rw [pre1 c 59 r h1]; simp)]
    rfl
theorem read_kind (l : List UInt8) (hl : l ≠ []) (hb : blankZ (byteZ l 0) = false) (hr : byteZ l 0 ≠ 59) (he : (readP l).err = 0) : (readP l).tok.kind ≠ 0 := by
  rw [read_past l hl hb hr] at he ⊢
  exact kinded_pick _ kinded_table l he
theorem read_blank (l : List UInt8) (hb : blankZ (byteZ l 0) = true) : readP l = { size := spanZ blankZ l } := by
  unfold readP table
  rw [pick, if_pos hb]
theorem read_semi (l : List UInt8) (hl : l ≠ []) (h : byteZ l 0 = 59) : readP l = { size := l.length } := by
  cases l with
  | nil => exact absurd rfl hl
  | cons c r =>
    rw [byteZ_cons] at h
    have h1 : c = 59 := u8_of (k := 59) h (by omega)
    subst h1
    rfl

theorem tokensF_fuel (ln : List UInt8) (st : Nat) : ∀ (f f' p : Nat) (toks : List Tk), ln.length < f + p → ln.length < f' + p → tokensF ln st f p toks = tokensF ln st f' p toks := by
  intro f
  induction f with
  | zero =>
    intro f' p toks h1 h2
    rw [tokensF_end (by omega), tokensF_end (by omega)]
  | succ f ih =>
    intro f' p toks h1 h2
    by_cases hp : ln.length ≤ p
    · rw [tokensF_end hp, tokensF_end hp]
    · obtain ⟨f', rfl⟩ : ∃ g, f' = g + 1 := ⟨f' - 1, by omega⟩
      have hne : ln.drop p ≠ [] := drop_ne (by omega)
      by_cases he : (readP (ln.drop p)).err = 0
      · have hs := ((fits_read _ hne).2.1 he).1
        rw [tokensF_go (by omega) he, tokensF_go (by omega) he]
        exact ih _ _ _ (by omega) (by omega)
      · rw [tokensF_err h1 (by omega) he, tokensF_err h2 (by omega) he]
theorem spanZ_cons_pos (p : Int → Bool) (c : UInt8) (r : List UInt8) (h : p c.toNat = true) : spanZ p (c :: r) = spanZ p r + 1 := by
  rw [spanZ, if_pos h]
  try omega
theorem tok_blank (ln : List UInt8) (st f f' p : Nat) (toks : List Tk) (hp : p < ln.length) (hb : blankZ (byteZ ln p) = true) (h1 : ln.length < f + p) (h2 : ln.length < f' + (p + 1)) :
    tokensF ln st f p toks = tokensF ln st f' (p + 1) toks := by
  obtain ⟨c, hc, hcb⟩ := drop_byte ln p hp
  have hb0 : blankZ (byteZ (ln.drop p) 0) = true := by rw [byteZ_drop]; exact hb
  have hcb' : blankZ c.toNat = true := by rw [hcb]; exact hb
  obtain ⟨f, rfl⟩ : ∃ g, f = g + 1 := ⟨f - 1, by omega⟩
  have hr := read_blank _ hb0
  rw [tokensF_go hp (by rw [hr]), hr]
  simp only [ne_eq, not_true_eq_false, if_false]
  rw [hc, spanZ_cons_pos _ _ _ hcb']
  by_cases hp1 : p + 1 < ln.length
  · cases hb1 : blankZ (byteZ ln (p + 1)) with
    | true =>
      obtain ⟨f', rfl⟩ : ∃ g, f' = g + 1 := ⟨f' - 1, by omega⟩
      have hr1 := read_blank (ln.drop (p + 1)) (by rw [byteZ_drop]; exact hb1)
      have hs1 : 1 ≤ spanZ blankZ (ln.drop (p + 1)) := spanZ_pos _ _ (drop_ne hp1) (by rw [byteZ_drop]; exact hb1)
      rw [tokensF_go hp1 (by rw [hr1]), hr1]
      simp only [ne_eq, not_true_eq_false, if_false]
      rw [show p + (spanZ blankZ (ln.drop (p + 1)) + 1) = p + 1 + spanZ blankZ (ln.drop (p + 1)) from by omega]
      exact tokensF_fuel _ _ _ _ _ _ (by omega) (by omega)
    | false =>
      have : spanZ blankZ (ln.drop (p + 1)) = 0 := spanZ_stop blankZ _ 0 (Nat.zero_le _) (by rw [List.length_drop]; omega) (by rw [byteZ_drop]; exact hb1)
      rw [this]
      exact tokensF_fuel _ _ _ _ _ _ (by omega) (by omega)
  · rw [tokensF_end (by omega), tokensF_end (by omega)]
theorem tok_semi (ln : List UInt8) (st f p : Nat) (toks : List Tk) (hp : p < ln.length) (h : byteZ ln p = 59) : tokensF ln st f p toks = (toks, 0, 0) := by
  cases f with
  | zero => rfl
  | succ f =>
    have hr := read_semi (ln.drop p) (drop_ne hp) (by rw [byteZ_drop]; exact h)
    rw [tokensF_go hp (by rw [hr]), hr]
    simp only [ne_eq, not_true_eq_false, if_false]
    exact tokensF_end (by rw [List.length_drop]; omega)
theorem tok_next (ln : List UInt8) (st f p : Nat) (toks : List Tk) (hp : p < ln.length) (hb : blankZ (byteZ ln p) = false) (hr : byteZ ln p ≠ 59) (he : (readP (ln.drop p)).err = 0) :
    tokensF ln st (f + 1) p toks = tokensF ln st f (p + (readP (ln.drop p)).size) (toks ++ [{ (readP (ln.drop p)).tok with place := (st : Int) + p }]) := by
  rw [tokensF_go hp he, if_pos (read_kind _ (drop_ne hp) (by rw [byteZ_drop]; exact hb) (by rw [byteZ_drop]; exact hr) he)]

/-- a line stands in its text -/
theorem cut_take (l : List UInt8) (k : Nat) : (l.drop k).take (cutP l k).1.length = (cutP l k).1 := (List.prefix_iff_eq_take.1 (cut_prefix l k)).symm
theorem cut_part (l : List UInt8) (k p : Nat) : (l.take (k + (cutP l k).1.length)).drop (k + p) = (cutP l k).1.drop p := by
  rw [← List.drop_drop, List.drop_take, Nat.add_sub_cancel_left, cut_take]
theorem cut_byte (l : List UInt8) (k p : Nat) (h : p < (cutP l k).1.length) : byteZ l (k + p) = byteZ (cutP l k).1 p := by
  rw [← byteZ_drop, ← cut_take l k]
  unfold byteZ
  rw [List.getD_eq_getElem?_getD, List.getD_eq_getElem?_getD, List.getElem?_take, if_pos h]

/-- a line that is read -/
theorem line_step (l : List UInt8) (f k : Nat) (toks tk' : List Tk) (o : Bool) (R : List Tk × Nat × Nat) (hk : k < l.length) (hf : l.length < f + 1 + k) (hR : R = lexF l (f + 1) k toks o)
    (hl : lineP (cutP l k).1 k toks o = ⟨(tokensP (cutP l k).1 k tk').1, true, (tokensP (cutP l k).1 k tk').2.1, (tokensP (cutP l k).1 k tk').2.2⟩) :
    ((tokensP (cutP l k).1 k tk').2.2 ≠ 0 → R = ([], (tokensP (cutP l k).1 k tk').2.1, (tokensP (cutP l k).1 k tk').2.2)) ∧ ((tokensP (cutP l k).1 k tk').2.2 = 0 → R = lexF l f (cutP l k).2 (tokensP (cutP l k).1 k tk').1 true) := by
  constructor
  · intro he
    rw [hR, lexF_err hf hk (by rw [hl]; exact he), hl]
  · intro he
    rw [hR, lexF_go hk (by rw [hl]; exact he), hl]
theorem line_idle (l : List UInt8) (f k : Nat) (toks : List Tk) (o : Bool) (hk : k < l.length) (h : idleB (cutP l k).1 = true) : lexF l (f + 1) k toks o = lexF l f (cutP l k).2 toks o := by
  have hl : lineP (cutP l k).1 k toks o = ⟨toks, o, 0, 0⟩ := by rw [lineP, if_pos h]
  rw [lexF_go hk (by rw [hl]), hl]
theorem line_letter (ln : List UInt8) (k : Nat) (toks : List Tk) (o : Bool) (hi : idleB ln = false) (hl : letterZ (byteZ ln 0) = true) :
    lineP ln k toks o = ⟨(tokensP ln k (if o = true then toks ++ [endTok k] else toks)).1, true, (tokensP ln k (if o = true then toks ++ [endTok k] else toks)).2.1, (tokensP ln k (if o = true then toks ++ [endTok k] else toks)).2.2⟩ := by
  rw [lineP, if_neg (by simp [hi]), if_pos hl]
theorem line_blank (ln : List UInt8) (k : Nat) (toks : List Tk) (hi : idleB ln = false) (hl : letterZ (byteZ ln 0) = false) (hb : blankZ (byteZ ln 0) = true) :
    lineP ln k toks true = ⟨(tokensP ln k toks).1, true, (tokensP ln k toks).2.1, (tokensP ln k toks).2.2⟩ := by
  rw [lineP, if_neg (by simp [hi]), if_neg (by simp [hl]), if_pos (by simp [hb])]
theorem line_wrong (l : List UInt8) (f k : Nat) (toks : List Tk) (o : Bool) (hk : k < l.length) (hi : idleB (cutP l k).1 = false) (hl : letterZ (byteZ (cutP l k).1 0) = false) (hb : (blankZ (byteZ (cutP l k).1 0) && o) = false) :
    lexF l (f + 1) k toks o = ([], k, 10) := by
  have hln : lineP (cutP l k).1 k toks o = ⟨toks, o, k, 10⟩ := by rw [lineP, if_neg (by simp [hi]), if_neg (by simp [hl]), if_neg (by simp [hb])]
  rw [lexF, if_neg (by omega), hln, if_pos (by simp)]
/-- the lines that are still to come -/
theorem lines_next (l : List UInt8) (f k : Nat) (p : Nat × Nat) (ps : List (Nat × Nat)) (h : p :: ps = linesF l f k) : ∃ f', f = f' + 1 ∧ k < l.length ∧ p = (k, k + (cutP l k).1.length) ∧ ps = linesF l f' (cutP l k).2 := by
  cases f with
  | zero => cases h
  | succ f =>
    rw [linesF] at h
    split at h
    · cases h
    · injection h with h1 h2
      exact ⟨f, rfl, by omega, h1, h2⟩
theorem lines_done (l : List UInt8) (f k : Nat) (hf : l.length < f + k) (h : linesF l f k = []) : l.length ≤ k := by
  cases f with
  | zero => omega
  | succ f =>
    rw [linesF] at h
    split at h
    · assumption
    · cases h
end Go.Proofs.Ytkidhffloaonaaa
