/-
  Plain facts: a byte 13 at the end of a line that has no error stands in a remark. No conditions.
-/
import Derived.Test.YtciabhboiomehaaDoorWholeQ
namespace Go.Proofs.YtciabhboiomehaaDoor

theorem byteZ_snoc (r : List UInt8) (c : UInt8) (k : Nat) (h : k < r.length) : byteZ (r ++ [c]) k = byteZ r k := by
  unfold byteZ
  rw [List.getD_eq_getElem?_getD, List.getD_eq_getElem?_getD, List.getElem?_append_left h]
theorem byteZ_last (r : List UInt8) (c : UInt8) : byteZ (r ++ [c]) r.length = c.toNat := by
  unfold byteZ
  rw [List.getD_eq_getElem?_getD, List.getElem?_append_right (Nat.le_refl _), Nat.sub_self]
  rfl
theorem spanZ_snoc (p : Int → Bool) (h : p 13 = false) : ∀ r : List UInt8, spanZ p (r ++ [13]) = spanZ p r := by
  intro r
  induction r with
  | nil =>
    have h' : p ((13 : UInt8).toNat : Int) = false := h
    simp only [List.nil_append, spanZ]
    rw [if_neg (by rw [h']; simp)]
  | cons c r ih => rw [List.cons_append, spanZ, spanZ, ih]
theorem standsB_snoc (r : List UInt8) (k : Nat) (b : Int) (hb : b ≠ 13) : standsB (r ++ [13]) k b = standsB r k b := by
  unfold standsB
  rw [List.length_append, List.length_singleton]
  rcases Nat.lt_trichotomy k r.length with h | h | h
  · rw [byteZ_snoc r 13 k h]
    simp [h, Nat.lt_succ_of_lt h]
  · subst h
    rw [byteZ_last]
    have : (((13 : UInt8).toNat : Int) == b) = false := by
      rw [beq_eq_false_iff_ne]
      intro e
      exact hb e.symm
    rw [this]
    simp
  · have h1 : ¬ k < r.length + 1 := by omega
    have h2 : ¬ k < r.length := by omega
    simp [h1, h2]
theorem drop_snoc (r : List UInt8) (c : UInt8) (k : Nat) (h : k ≤ r.length) : (r ++ [c]).drop k = r.drop k ++ [c] := List.drop_append_of_le_length h
theorem take_span_snoc (p : Int → Bool) (r : List UInt8) : (r ++ [13]).take (spanZ p r) = r.take (spanZ p r) := List.take_append_of_le_length (spanZ_le p r)
theorem digitBelow_13 (base : Int) (h : base ≤ 16) : digitBelow base 13 = false := by
  unfold digitBelow
  have : digitOfZ 13 = 16 := by decide
  rw [this]
  simp
  omega
theorem valueZ_snoc (r : List UInt8) (at_ : Nat) (base : Int) (hb : base ≤ 16) : valueZ (r ++ [13]) at_ base = valueZ r at_ base := by
  unfold valueZ
  rw [List.length_append, List.length_singleton]
  by_cases h : at_ ≤ r.length
  · rw [if_neg (show ¬ r.length + 1 < at_ by omega), if_neg (show ¬ r.length < at_ by omega), drop_snoc r 13 at_ h, spanZ_snoc _ (digitBelow_13 base hb), take_span_snoc]
  · rw [if_pos (show r.length < at_ by omega)]
    by_cases h2 : r.length + 1 < at_
    · rw [if_pos h2]
    · have e : at_ = r.length + 1 := by omega
      subst e
      rw [if_neg (by omega), List.drop_eq_nil_of_le (by simp), if_pos (by left; simp [spanZ])]
theorem baseZ_snoc (r : List UInt8) (h : r ≠ []) : baseZ (r ++ [13]) = baseZ r := by
  have hp := pos_of_ne h
  unfold baseZ
  rw [List.length_append, List.length_singleton]
  by_cases h2 : r.length < 2
  · have e : r.length = 1 := by omega
    have hb : byteZ (r ++ [13]) 1 = 13 := by
      have := byteZ_last r 13
      rw [e] at this
      exact this
    rw [if_pos h2, if_neg (by omega), hb]
    decide
  · rw [if_neg h2, if_neg (by omega), byteZ_snoc r 13 1 (by omega)]
theorem moreVals_fuel {l : List UInt8} {base : Int} (hb0 : 0 ≤ base) (hb1 : base ≤ 16) : ∀ (f f' k : Nat) (nums : List Int), l.length < f + k → l.length < f' + k → k ≤ l.length → moreVals l base f k nums = moreVals l base f' k nums := by
  intro f
  induction f with
  | zero => intro f' k nums h _ hk; omega
  | succ f ih =>
    intro f' k nums h h' hk
    cases f' with
    | zero => omega
    | succ f' =>
      rw [moreVals, moreVals]
      split
      · cases hv : valueZ l (k + 1) base with
        | none => rfl
        | some vk =>
          obtain ⟨v, k2⟩ := vk
          have hb := valueZ_bd hb0 hb1 hv
          exact ih f' k2 _ (by omega) (by omega) (by omega)
      · rfl
theorem moreVals_snoc (r : List UInt8) (base : Int) (hb : base ≤ 16) : ∀ (f k : Nat) (nums : List Int), moreVals (r ++ [13]) base f k nums = moreVals r base f k nums := by
  intro f
  induction f with
  | zero => intro k nums; rfl
  | succ f ih =>
    intro k nums
    rw [moreVals, moreVals, standsB_snoc r k 46 (by decide), valueZ_snoc r _ base hb]
    split
    · split
      · rfl
      · exact ih _ _
    · rfl
theorem valuesP_snoc (r : List UInt8) (h : r ≠ []) : valuesP (r ++ [13]) = valuesP r := by
  obtain ⟨hb0, hb1⟩ := baseZ_bd r
  unfold valuesP
  rw [baseZ_snoc r h, valueZ_snoc r _ _ hb1]
  cases hv : valueZ r 2 (baseZ r) with
  | none => rfl
  | some ak =>
    obtain ⟨a, k⟩ := ak
    have hk := valueZ_bd hb0 hb1 hv
    rw [valuesOf, valuesOf, standsB_snoc r k 45 (by decide), valueZ_snoc r _ _ hb1, moreVals_snoc r _ hb1, List.length_append, List.length_singleton,
      moreVals_fuel hb0 hb1 (r.length + 1 + 1) (r.length + 1) k [a] (by omega) (by omega) hk.2.2.2]
theorem timesP_snoc (r : List UInt8) : timesP (r ++ [13]) = timesP r := by
  have h13 : digitZ 13 = false := by decide
  have hle := spanZ_le digitZ r
  unfold timesP
  rw [spanZ_snoc digitZ h13, take_span_snoc, standsB_snoc r _ 42 (by decide)]
  by_cases hst : standsB r (spanZ digitZ r) 42 = true
  · have hlt := standsB_lt hst
    rw [drop_snoc r 13 _ (by omega), spanZ_snoc digitZ h13, take_span_snoc]
  · rw [if_neg hst, if_neg hst]
theorem quoteAt_snoc : ∀ (y : List UInt8) (i : Nat), quoteAt (y ++ [13]) = some i → quoteAt y = some i ∧ i < y.length := by
  intro y
  induction y with
  | nil => intro i h; revert h; simp [quoteAt]
  | cons c y ih =>
    intro i h
    rw [List.cons_append, quoteAt] at h
    rw [quoteAt]
    split at h
    · rename_i hc
      rw [if_pos hc]
      have : 0 = i := Option.some.inj h
      subst this
      exact ⟨rfl, by simp⟩
    · rename_i hc
      split at h
      · cases h
      · rename_i hc2
        rw [if_neg hc, if_neg hc2]
        cases hq : quoteAt (y ++ [13]) with
        | none => rw [hq] at h; cases h
        | some j =>
          rw [hq] at h
          obtain ⟨h1, h2⟩ := ih j hq
          have : j + 1 = i := Option.some.inj h
          subst this
          rw [h1]
          exact ⟨rfl, by simp only [List.length_cons]; omega⟩
theorem charsP_snoc (r : List UInt8) (h : r ≠ []) (he : (charsP (r ++ [13])).err = 0) : charsP (r ++ [13]) = charsP r := by
  have hp := pos_of_ne h
  unfold charsP at he ⊢
  rw [drop_snoc r 13 1 hp] at he ⊢
  cases hq : quoteAt (r.drop 1 ++ [13]) with
  | none => rw [hq] at he; cases he
  | some i =>
    obtain ⟨h1, h2⟩ := quoteAt_snoc _ i hq
    rw [h1]
    show charsOf _ (some i) = charsOf _ (some i)
    rw [charsOf, charsOf, List.take_append_of_le_length (by omega)]
theorem prefix_snoc (r t : List UInt8) (ht : (13 : UInt8) ∉ t) : Lib.hasPrefix (r ++ [13]) t = Lib.hasPrefix r t := by
  unfold Lib.hasPrefix
  rw [Bool.eq_iff_iff, List.isPrefixOf_iff_prefix, List.isPrefixOf_iff_prefix]
  constructor
  · intro h
    rcases List.prefix_concat_iff.1 h with h1 | h1
    · exfalso
      apply ht
      rw [h1]
      simp
    · exact h1
  · intro h
    exact h.trans (List.prefix_append _ _)
theorem byteZ0_snoc (r : List UInt8) (h : r ≠ []) : byteZ (r ++ [13]) 0 = byteZ r 0 := byteZ_snoc r 13 0 (pos_of_ne h)

/-- a row of the table tells the same with a byte 13 at the end, if there is no error, or it is a remark -/
def SnocAs (a b : Pc) (r : List UInt8) : Prop := a = b ∨ (Lib.hasPrefix r [59] = true ∧ a = { size := r.length + 1 } ∧ b = { size := r.length })
def Snoc (row : Row) : Prop := ∀ r, r ≠ [] → row.1 (r ++ [13]) = row.1 r ∧ (row.1 r = true → (row.2 (r ++ [13])).err = 0 → SnocAs (row.2 (r ++ [13])) (row.2 r) r)
theorem snoc_text (t : List UInt8) (p : List UInt8 → Pc) (ht : (13 : UInt8) ∉ t) (hp : ∀ r, r ≠ [] → (p (r ++ [13])).err = 0 → p (r ++ [13]) = p r) : Snoc (fun l => Lib.hasPrefix l t, p) :=
  fun r hr => ⟨prefix_snoc r t ht, fun _ he => .inl (hp r hr he)⟩
theorem snoc_byte (q : Int → Bool) (p : List UInt8 → Pc) (hp : ∀ r, r ≠ [] → p (r ++ [13]) = p r) : Snoc (fun l => q (byteZ l 0), p) :=
  fun r hr => ⟨congrArg q (byteZ0_snoc r hr), fun _ _ => .inl (hp r hr)⟩
theorem snoc_table : ∀ row ∈ table, Snoc row := by
  intro row h
  simp only [table, List.mem_cons, List.not_mem_nil, or_false] at h
  rcases h with rfl | rfl | rfl | rfl | rfl | rfl | rfl | rfl | rfl | rfl | rfl | rfl | rfl | rfl | rfl
  · exact snoc_byte blankZ _ (fun r _ => by rw [spanZ_snoc blankZ (by decide)])
  · exact fun r _ => ⟨prefix_snoc r [59] (by decide), fun h _ => .inr ⟨h, by simp, rfl⟩⟩
  · exact snoc_byte letterZ nameP (fun r _ => by rw [nameP, nameP, spanZ_snoc namedZ (by decide), take_span_snoc])
  · exact snoc_text _ _ (by decide) (fun _ _ _ => rfl)
  · exact snoc_text _ _ (by decide) (fun _ _ _ => rfl)
  · exact snoc_text _ _ (by decide) (fun _ _ _ => rfl)
  · exact snoc_text _ _ (by decide) (fun _ _ _ => rfl)
  · exact snoc_text _ _ (by decide) (fun _ _ _ => rfl)
  · exact snoc_text _ _ (by decide) (fun _ _ _ => rfl)
  · exact snoc_text _ _ (by decide) (fun _ _ _ => rfl)
  · exact snoc_byte timesZ timesP (fun r _ => timesP_snoc r)
  · exact snoc_text _ charsP (by decide) (fun r h he => charsP_snoc r h he)
  · exact snoc_text _ valuesP (by decide) (fun r h _ => valuesP_snoc r h)
  · exact snoc_text _ _ (by decide) (fun _ _ _ => rfl)
  · exact snoc_text _ _ (by decide) (fun _ _ _ => rfl)
theorem pick_snoc (rows : List Row) (hr : ∀ row ∈ rows, Snoc row) (r : List UInt8) (h : r ≠ []) (he : (pick rows (r ++ [13])).err = 0) : SnocAs (pick rows (r ++ [13])) (pick rows r) r := by
  induction rows with
  | nil => exact .inl rfl
  | cons row rows ih =>
    obtain ⟨p, q⟩ := row
    obtain ⟨h1, h2⟩ := hr (p, q) (by simp) r h
    rw [pick] at he
    rw [pick, pick]
    by_cases hp : p r = true
    · have hp' : p (r ++ [13]) = true := h1.trans hp
      rw [if_pos hp'] at he
      rw [if_pos hp, if_pos hp']
      exact h2 hp he
    · have hp' : ¬ p (r ++ [13]) = true := fun e => hp (h1.symm.trans e)
      rw [if_neg hp'] at he
      rw [if_neg hp, if_neg hp']
      exact ih (fun row h => hr row (by simp [h])) he
theorem read_snoc (r : List UInt8) (h : r ≠ []) (he : (readP (r ++ [13])).err = 0) : SnocAs (readP (r ++ [13])) (readP r) r := pick_snoc table snoc_table r h he

theorem read_13 : (readP [13]).err = 11 := by decide
/-- a line's tokens without a byte 13 at its end -/
theorem tokens_snoc (x : List UInt8) (start : Nat) : ∀ (f at_ : Nat) (toks : List Tk), (x ++ [13]).length < f + at_ → at_ ≤ x.length → (tokensF (x ++ [13]) start f at_ toks).2.2 = 0 →
    ∀ f', x.length < f' + at_ → tokensF x start f' at_ toks = tokensF (x ++ [13]) start f at_ toks := by
  intro f
  induction f with
  | zero => intro at_ toks h hat; rw [List.length_append, List.length_singleton] at h; omega
  | succ f ih =>
    intro at_ toks hf hat he f' hf'
    rw [List.length_append, List.length_singleton] at hf
    have hlt : at_ < (x ++ [13]).length := by rw [List.length_append, List.length_singleton]; omega
    have hd := drop_snoc x 13 at_ hat
    by_cases hend : at_ = x.length
    · exfalso
      rw [hend, List.drop_length, List.nil_append] at hd
      have hne : (readP ((x ++ [13]).drop at_)).err ≠ 0 := by rw [hend, hd, read_13]; decide
      rw [tokensF_err (by rw [List.length_append, List.length_singleton]; omega) hlt hne] at he
      exact hne he
    · have hlt' : at_ < x.length := by omega
      have hne := drop_ne hlt'
      by_cases he1 : (readP ((x ++ [13]).drop at_)).err = 0
      · rw [tokensF_go hlt he1] at he ⊢
        rw [hd] at he he1 ⊢
        cases f' with
        | zero => omega
        | succ f' =>
          rcases read_snoc _ hne he1 with h1 | ⟨_, h1, h2⟩
          · have he2 : (readP (x.drop at_)).err = 0 := by rw [← h1]; exact he1
            rw [tokensF_go hlt' he2]
            rw [h1] at he ⊢
            have hfit := fits_read _ hne
            rw [Fits, List.length_drop] at hfit
            have hsz := hfit.2.1 he2
            exact ih _ _ (by rw [List.length_append, List.length_singleton]; omega) (by omega) he f' (by omega)
          · have he2 : (readP (x.drop at_)).err = 0 := by rw [h2]
            rw [tokensF_go hlt' he2, h1, h2, List.length_drop]
            rw [tokensF_end (by simp; omega), tokensF_end (by simp; omega)]
      · exfalso
        rw [tokensF_err (by rw [List.length_append, List.length_singleton]; omega) hlt he1] at he
        exact he1 he
theorem tokensP_snoc (x : List UInt8) (start : Nat) (toks : List Tk) (he : (tokensP (x ++ [13]) start toks).2.2 = 0) : tokensP x start toks = tokensP (x ++ [13]) start toks :=
  tokens_snoc x start _ 0 toks (by omega) (Nat.zero_le _) he _ (by omega)
theorem idle_snoc (x : List UInt8) (h : spanZ blankZ x ≠ x.length) : idleB (x ++ [13]) = idleB x := by
  have hle := spanZ_le blankZ x
  unfold idleB
  rw [spanZ_snoc blankZ (by decide), List.length_append, List.length_singleton, byteZ_snoc x 13 _ (by omega)]
  simp [h]
  intro h2
  omega
theorem line_snoc (x : List UInt8) (k : Nat) (toks : List Tk) (o : Bool) (he : (lineP (x ++ [13]) k toks o).err = 0) : lineP x k toks o = lineP (x ++ [13]) k toks o := by
  by_cases hall : spanZ blankZ x = x.length
  · exfalso
    have hid : idleB (x ++ [13]) = false := by
      unfold idleB
      rw [spanZ_snoc blankZ (by decide), hall, byteZ_last, List.length_append, List.length_singleton]
      simp
    unfold lineP at he
    rw [if_neg (by simp [hid])] at he
    have htok : ∀ tk, (tokensP (x ++ [13]) k tk).2.2 = 0 → False := by
      intro tk h
      have h1 := tokensP_snoc x k tk h
      rcases List.eq_nil_or_concat x with hx | ⟨y, c, hx⟩
      · subst hx
        revert h
        unfold tokensP
        rw [List.nil_append, tokensF_err (by simp) (by simp) (by rw [List.drop_zero, read_13]; decide), List.drop_zero]
        show ¬ (readP [13]).err = 0
        rw [read_13]
        decide
      · have hne : x ≠ [] := by rw [hx]; simp
        have hb : blankZ (byteZ x 0) = true := by
          cases x with
          | nil => exact absurd rfl hne
          | cons c r =>
            rw [byteZ_cons]
            rw [spanZ] at hall
            split at hall
            · assumption
            · simp at hall
        have hr : readP (x ++ [13]) = { size := spanZ blankZ (x ++ [13]) } := by
          unfold readP table
          rw [pick, if_pos (by rw [byteZ0_snoc x hne]; exact hb)]
        unfold tokensP at h
        have hpos := pos_of_ne hne
        rw [tokensF_go (by rw [List.length_append, List.length_singleton]; omega) (by rw [List.drop_zero, hr]), List.drop_zero, hr, spanZ_snoc blankZ (by decide), hall] at h
        have hd : (x ++ [13]).drop (0 + x.length) = [13] := by simp
        have hne2 : (readP ((x ++ [13]).drop (0 + x.length))).err ≠ 0 := by rw [hd, read_13]; decide
        rw [tokensF_err (by rw [List.length_append, List.length_singleton]; omega) (by rw [List.length_append, List.length_singleton]; omega) hne2] at h
        exact hne2 h
    split at he
    · exact htok _ he
    · split at he
      · exact htok _ he
      · cases he
  · have hne : x ≠ [] := by
      intro e
      subst e
      exact hall rfl
    unfold lineP at he ⊢
    rw [idle_snoc x hall, byteZ0_snoc x hne] at he ⊢
    split
    · rfl
    · rename_i h1
      rw [if_neg h1] at he
      split
      · rename_i h2
        rw [if_pos h2] at he
        rw [tokensP_snoc x k _ he]
      · rename_i h2
        rw [if_neg h2] at he
        split
        · rename_i h3
          rw [if_pos h3] at he
          rw [tokensP_snoc x k _ he]
        · rfl
end Go.Proofs.YtciabhboiomehaaDoor
