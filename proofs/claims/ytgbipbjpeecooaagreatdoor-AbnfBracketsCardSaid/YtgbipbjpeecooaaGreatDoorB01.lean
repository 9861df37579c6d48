/-
  Merged texts (TailQ, CatQ, Mid, BkL, BkT, BkP, GrP), each under a head of its own that says what it proves and under which conditions.
-/
import Derived.Test.YtgbipbjpeecooaaGreatDoorM05
import Derived.Test.YtgbipbjpeecooaaGreatDoorM06
/-
  Plain facts: a byte 13 at the end of a line that has no error stands in a remark. No conditions.
-/
namespace Go.Proofs.YtgbipbjpeecooaaGreatDoor

theorem byteZ_snoc (r : List UInt8) (c : UInt8) (k : Nat) (h : k < r.length) : byteZ (r ++ [c]) k = byteZ r k := by
  unfold byteZ
  rw [List.getD_eq_getElem?_getD, List.getD_eq_getElem?_getD, List.getElem?_append_left h]
theorem byteZ_last (r : List UInt8) (c : UInt8) : byteZ (r ++ [c]) r.length = c.toNat := by
  unfold byteZ
  rw [List.getD_eq_getElem?_getD, List.getElem?_append_right (Nat.le_refl _), Nat.sub_self]
  rfl
theorem spanZ_snoc (p : Int → Bool) (h : p 13 = false) : ∀ r : List UInt8, spanZ p (r ++ [13]) = spanZ p r := by
  intro r
  induction r with
  | nil =>
    have h' : p ((13 : UInt8).toNat : Int) = false := h
    simp only [List.nil_append, spanZ]
    rw [if_neg (by rw [h']; simp)]
  | cons c r ih => rw [List.cons_append, spanZ, spanZ, ih]
theorem standsB_snoc (r : List UInt8) (k : Nat) (b : Int) (hb : b ≠ 13) : standsB (r ++ [13]) k b = standsB r k b := by
  unfold standsB
  rw [List.length_append, List.length_singleton]
  rcases Nat.lt_trichotomy k r.length with h | h | h
  · rw [byteZ_snoc r 13 k h]
    simp [h, Nat.lt_succ_of_lt h]
  · subst h
    rw [byteZ_last]
    have : (((13 : UInt8).toNat : Int) == b) = false := by
      rw [beq_eq_false_iff_ne]
      intro e
      exact hb e.symm
    rw [this]
    simp
  · have h1 : ¬ k < r.length + 1 := by omega
    have h2 : ¬ k < r.length := by omega
    simp [h1, h2]
theorem drop_snoc (r : List UInt8) (c : UInt8) (k : Nat) (h : k ≤ r.length) : (r ++ [c]).drop k = r.drop k ++ [c] := List.drop_append_of_le_length h
theorem take_span_snoc (p : Int → Bool) (r : List UInt8) : (r ++ [13]).take (spanZ p r) = r.take (spanZ p r) := List.take_append_of_le_length (spanZ_le p r)
theorem digitBelow_13 (base : Int) (h : base ≤ 16) : digitBelow base 13 = false := by
  unfold digitBelow
  have : digitOfZ 13 = 16 := by decide
  rw [this]
  simp
  omega
theorem valueZ_snoc (r : List UInt8) (at_ : Nat) (base : Int) (hb : base ≤ 16) : valueZ (r ++ [13]) at_ base = valueZ r at_ base := by
  unfold valueZ
  rw [List.length_append, List.length_singleton]
  by_cases h : at_ ≤ r.length
  · rw [if_neg (show ¬ r.length + 1 < at_ by omega), if_neg (show ¬ r.length < at_ by omega), drop_snoc r 13 at_ h, spanZ_snoc _ (digitBelow_13 base hb), take_span_snoc]
  · rw [if_pos (show r.length < at_ by omega)]
    by_cases h2 : r.length + 1 < at_
    · rw [if_pos h2]
    · have e : at_ = r.length + 1 := by omega
      subst e
      rw [if_neg (by omega), List.drop_eq_nil_of_le (by simp), if_pos (by left; simp [spanZ])]
theorem baseZ_snoc (r : List UInt8) (h : r ≠ []) : baseZ (r ++ [13]) = baseZ r := by
  have hp := pos_of_ne h
  unfold baseZ
  rw [List.length_append, List.length_singleton]
  by_cases h2 : r.length < 2
  · have e : r.length = 1 := by omega
    have hb : byteZ (r ++ [13]) 1 = 13 := by
      have := byteZ_last r 13
      rw [e] at this
      exact this
    rw [if_pos h2, if_neg (by omega), hb]
    decide
  · rw [if_neg h2, if_neg (by omega), byteZ_snoc r 13 1 (by omega)]
theorem moreVals_fuel {l : List UInt8} {base : Int} (hb0 : 0 ≤ base) (hb1 : base ≤ 16) : ∀ (f f' k : Nat) (nums : List Int), l.length < f + k → l.length < f' + k → k ≤ l.length → moreVals l base f k nums = moreVals l base f' k nums := by
  intro f
  induction f with
  | zero => intro f' k nums h _ hk; omega
  | succ f ih =>
    intro f' k nums h h' hk
    cases f' with
    | zero => omega
    | succ f' =>
      rw [moreVals, moreVals]
      split
      · cases hv : valueZ l (k + 1) base with
        | none => rfl
        | some vk =>
          obtain ⟨v, k2⟩ := vk
          have hb := valueZ_bd hb0 hb1 hv
          exact ih f' k2 _ (by omega) (by omega) (by omega)
      · rfl
theorem moreVals_snoc (r : List UInt8) (base : Int) (hb : base ≤ 16) : ∀ (f k : Nat) (nums : List Int), moreVals (r ++ [13]) base f k nums = moreVals r base f k nums := by
  intro f
  induction f with
  | zero => intro k nums; rfl
  | succ f ih =>
    intro k nums
    rw [moreVals, moreVals, standsB_snoc r k 46 (by decide), valueZ_snoc r _ base hb]
    split
    · split
      · rfl
      · exact ih _ _
    · rfl
theorem valuesP_snoc (r : List UInt8) (h : r ≠ []) : valuesP (r ++ [13]) = valuesP r := by
  obtain ⟨hb0, hb1⟩ := baseZ_bd r
  unfold valuesP
  rw [baseZ_snoc r h, valueZ_snoc r _ _ hb1]
  cases hv : valueZ r 2 (baseZ r) with
  | none => rfl
  | some ak =>
    obtain ⟨a, k⟩ := ak
    have hk := valueZ_bd hb0 hb1 hv
    rw [valuesOf, valuesOf, standsB_snoc r k 45 (by decide), valueZ_snoc r _ _ hb1, moreVals_snoc r _ hb1, List.length_append, List.length_singleton,
      moreVals_fuel hb0 hb1 (r.length + 1 + 1) (r.length + 1) k [a] (by omega) (by omega) hk.2.2.2]
theorem timesP_snoc (r : List UInt8) : timesP (r ++ [13]) = timesP r := by
  have h13 : digitZ 13 = false := by decide
  have hle := spanZ_le digitZ r
  unfold timesP
  rw [spanZ_snoc digitZ h13, take_span_snoc, standsB_snoc r _ 42 (by decide)]
  by_cases hst : standsB r (spanZ digitZ r) 42 = true
  · have hlt := standsB_lt hst
    rw [drop_snoc r 13 _ (by omega), spanZ_snoc digitZ h13, take_span_snoc]
  · rw [if_neg hst, if_neg hst]
theorem quoteAt_snoc : ∀ (y : List UInt8) (i : Nat), quoteAt (y ++ [13]) = some i → quoteAt y = some i ∧ i < y.length := by
  intro y
  induction y with
  | nil => intro i h; revert h; simp [quoteAt]
  | cons c y ih =>
    intro i h
    rw [List.cons_append, quoteAt] at h
    rw [quoteAt]
    split at h
    · rename_i hc
      rw [if_pos hc]
      have : 0 = i := Option.some.inj h
      subst this
      exact ⟨rfl, by simp⟩
    · rename_i hc
      split at h
      · cases h
      · rename_i hc2
        rw [if_neg hc, if_neg hc2]
        cases hq : quoteAt (y ++ [13]) with
        | none => rw [hq] at h; cases h
        | some j =>
          rw [hq] at h
          obtain ⟨h1, h2⟩ := ih j hq
          have : j + 1 = i := Option.some.inj h
          subst this
          rw [h1]
          exact ⟨rfl, by simp only [List.length_cons]; omega⟩
theorem charsP_snoc (r : List UInt8) (h : r ≠ []) (he : (charsP (r ++ [13])).err = 0) : charsP (r ++ [13]) = charsP r := by
  have hp := pos_of_ne h
  unfold charsP at he ⊢
  rw [drop_snoc r 13 1 hp] at he ⊢
  cases hq : quoteAt (r.drop 1 ++ [13]) with
  | none => rw [hq] at he; cases he
  | some i =>
    obtain ⟨h1, h2⟩ := quoteAt_snoc _ i hq
    rw [h1]
    show charsOf _ (some i) = charsOf _ (some i)
    rw [charsOf, charsOf, List.take_append_of_le_length (by omega)]
theorem prefix_snoc (r t : List UInt8) (ht : (13 : UInt8) ∉ t) : Lib.hasPrefix (r ++ [13]) t = Lib.hasPrefix r t := by
  unfold Lib.hasPrefix
  rw [Bool.eq_iff_iff, List.isPrefixOf_iff_prefix, List.isPrefixOf_iff_prefix]
  constructor
  · intro h
    rcases List.prefix_concat_iff.1 h with h1 | h1
    · exfalso
      apply ht
      rw [h1]
      simp
    · exact h1
  · intro h
    exact h.trans (List.prefix_append _ _)
theorem byteZ0_snoc (r : List UInt8) (h : r ≠ []) : byteZ (r ++ [13]) 0 = byteZ r 0 := byteZ_snoc r 13 0 (pos_of_ne h)

/-- a row of the table tells the same with a byte 13 at the end, if there is no error, or it is a remark -/
def SnocAs (a b : Pc) (r : List UInt8) : Prop := a = b ∨ (Lib.hasPrefix r [59] = true ∧ a = { size := r.length + 1 } ∧ b = { size := r.length })
def Snoc (row : Row) : Prop := ∀ r, r ≠ [] → row.1 (r ++ [13]) = row.1 r ∧ (row.1 r = true → (row.2 (r ++ [13])).err = 0 → SnocAs (row.2 (r ++ [13])) (row.2 r) r)
theorem snoc_text (t : List UInt8) (p : List UInt8 → Pc) (ht : (13 : UInt8) ∉ t) (hp : ∀ r, r ≠ [] → (p (r ++ [13])).err = 0 → p (r ++ [13]) = p r) : Snoc (fun l => Lib.hasPrefix l t, p) :=
  fun r hr => ⟨prefix_snoc r t ht, fun _ he => .inl (hp r hr he)⟩
theorem snoc_byte (q : Int → Bool) (p : List UInt8 → Pc) (hp : ∀ r, r ≠ [] → p (r ++ [13]) = p r) : Snoc (fun l => q (byteZ l 0), p) :=
  fun r hr => ⟨congrArg q (byteZ0_snoc r hr), fun _ _ => .inl (hp r hr)⟩
theorem snoc_table : ∀ row ∈ table, Snoc row := by
  intro row h
  simp only [table, List.mem_cons, List.not_mem_nil, or_false] at h
  rcases h with rfl | rfl | rfl | rfl | rfl | rfl | rfl | rfl | rfl | rfl | rfl | rfl | rfl | rfl | rfl
  · exact snoc_byte blankZ _ (fun r _ => by rw [spanZ_snoc blankZ (by decide)])
  · exact fun r _ => ⟨prefix_snoc r [59] (by decide), fun h _ => .inr ⟨h, by simp, rfl⟩⟩
  · exact snoc_byte letterZ nameP (fun r _ => by rw [nameP, nameP, spanZ_snoc namedZ (by decide), take_span_snoc])
  · exact snoc_text _ _ (by decide) (fun _ _ _ => rfl)
  · exact snoc_text _ _ (by decide) (fun _ _ _ => rfl)
  · exact snoc_text _ _ (by decide) (fun _ _ _ => rfl)
  · exact snoc_text _ _ (by decide) (fun _ _ _ => rfl)
  · exact snoc_text _ _ (by decide) (fun _ _ _ => rfl)
  · exact snoc_text _ _ (by decide) (fun _ _ _ => rfl)
  · exact snoc_text _ _ (by decide) (fun _ _ _ => rfl)
  · exact snoc_byte timesZ timesP (fun r _ => timesP_snoc r)
  · exact snoc_text _ charsP (by decide) (fun r h he => charsP_snoc r h he)
  · exact snoc_text _ valuesP (by decide) (fun r h _ => valuesP_snoc r h)
  · exact snoc_text _ _ (by decide) (fun _ _ _ => rfl)
  · exact snoc_text _ _ (by decide) (fun _ _ _ => rfl)
theorem pick_snoc (rows : List Row) (hr : ∀ row ∈ rows, Snoc row) (r : List UInt8) (h : r ≠ []) (he : (pick rows (r ++ [13])).err = 0) : SnocAs (pick rows (r ++ [13])) (pick rows r) r := by
  induction rows with
  | nil => exact .inl rfl
  | cons row rows ih =>
    obtain ⟨p, q⟩ := row
    obtain ⟨h1, h2⟩ := hr (p, q) (by simp) r h
    rw [pick] at he
    rw [pick, pick]
    by_cases hp : p r = true
    · have hp' : p (r ++ [13]) = true := h1.trans hp
      rw [if_pos hp'] at he
      rw [if_pos hp, if_pos hp']
      exact h2 hp he
    · have hp' : ¬ p (r ++ [13]) = true := fun e => hp (h1.symm.trans e)
      rw [if_neg hp'] at he
      rw [if_neg hp, if_neg hp']
      exact ih (fun row h => hr row (by simp [h])) he
theorem read_snoc (r : List UInt8) (h : r ≠ []) (he : (readP (r ++ [13])).err = 0) : SnocAs (readP (r ++ [13])) (readP r) r := pick_snoc table snoc_table r h he

theorem read_13 : (readP [13]).err = 11 := by decide
/-- a line's tokens without a byte 13 at its end -/
theorem tokens_snoc (x : List UInt8) (start : Nat) : ∀ (f at_ : Nat) (toks : List Tk), (x ++ [13]).length < f + at_ → at_ ≤ x.length → (tokensF (x ++ [13]) start f at_ toks).2.2 = 0 →
    ∀ f', x.length < f' + at_ → tokensF x start f' at_ toks = tokensF (x ++ [13]) start f at_ toks := by
  intro f
  induction f with
  | zero => intro at_ toks h hat; rw [List.length_append, List.length_singleton] at h; omega
  | succ f ih =>
    intro at_ toks hf hat he f' hf'
    rw [List.length_append, List.length_singleton] at hf
    have hlt : at_ < (x ++ [13]).length := by rw [List.length_append, List.length_singleton]; omega
    have hd := drop_snoc x 13 at_ hat
    by_cases hend : at_ = x.length
    · exfalso
      rw [hend, List.drop_length, List.nil_append] at hd
      have hne : (readP ((x ++ [13]).drop at_)).err ≠ 0 := by rw [hend, hd, read_13]; decide
      rw [tokensF_err (by rw [List.length_append, List.length_singleton]; omega) hlt hne] at he
      exact hne he
    · have hlt' : at_ < x.length := by omega
      have hne := drop_ne hlt'
      by_cases he1 : (readP ((x ++ [13]).drop at_)).err = 0
      · rw [tokensF_go hlt he1] at he ⊢
        rw [hd] at he he1 ⊢
        cases f' with
        | zero => omega
        | succ f' =>
          rcases read_snoc _ hne he1 with h1 | ⟨_, h1, h2⟩
          · have he2 : (readP (x.drop at_)).err = 0 := by rw [← h1]; exact he1
            rw [tokensF_go hlt' he2]
            rw [h1] at he ⊢
            have hfit := fits_read _ hne
            rw [Fits, List.length_drop] at hfit
            have hsz := hfit.2.1 he2
            exact ih _ _ (by rw [List.length_append, List.length_singleton]; omega) (by omega) he f' (by omega)
          · have he2 : (readP (x.drop at_)).err = 0 := by rw [h2]
            rw [tokensF_go hlt' he2, h1, h2, List.length_drop]
            rw [tokensF_end (by simp; omega), tokensF_end (by simp; omega)]
      · exfalso
        rw [tokensF_err (by rw [List.length_append, List.length_singleton]; omega) hlt he1] at he
        exact he1 he
theorem tokensP_snoc (x : List UInt8) (start : Nat) (toks : List Tk) (he : (tokensP (x ++ [13]) start toks).2.2 = 0) : tokensP x start toks = tokensP (x ++ [13]) start toks :=
  tokens_snoc x start _ 0 toks (by omega) (Nat.zero_le _) he _ (by omega)
theorem idle_snoc (x : List UInt8) (h : spanZ blankZ x ≠ x.length) : idleB (x ++ [13]) = idleB x := by
  have hle := spanZ_le blankZ x
  unfold idleB
  rw [spanZ_snoc blankZ (by decide), List.length_append, List.length_singleton, byteZ_snoc x 13 _ (by omega)]
  simp [h]
  intro h2
  omega
theorem line_snoc (x : List UInt8) (k : Nat) (toks : List Tk) (o : Bool) (he : (lineP (x ++ [13]) k toks o).err = 0) : lineP x k toks o = lineP (x ++ [13]) k toks o := by
  by_cases hall : spanZ blankZ x = x.length
  · exfalso
    have hid : idleB (x ++ [13]) = false := by
      unfold idleB
      rw [spanZ_snoc blankZ (by decide), hall, byteZ_last, List.length_append, List.length_singleton]
      simp
    unfold lineP at he
    rw [if_neg (by simp [hid])] at he
    have htok : ∀ tk, (tokensP (x ++ [13]) k tk).2.2 = 0 → False := by
      intro tk h
      have h1 := tokensP_snoc x k tk h
      rcases List.eq_nil_or_concat x with hx | ⟨y, c, hx⟩
      · subst hx
        revert h
        unfold tokensP
        rw [List.nil_append, tokensF_err (by simp) (by simp) (by rw [List.drop_zero, read_13]; decide), List.drop_zero]
        show ¬ (readP [13]).err = 0
        rw [read_13]
        decide
      · have hne : x ≠ [] := by rw [hx]; simp
        have hb : blankZ (byteZ x 0) = true := by
          cases x with
          | nil => exact absurd rfl hne
          | cons c r =>
            rw [byteZ_cons]
            rw [spanZ] at hall
            split at hall
            · assumption
            · simp at hall
        have hr : readP (x ++ [13]) = { size := spanZ blankZ (x ++ [13]) } := by
          unfold readP table
          rw [pick, if_pos (by rw [byteZ0_snoc x hne]; exact hb)]
        unfold tokensP at h
        have hpos := pos_of_ne hne
        rw [tokensF_go (by rw [List.length_append, List.length_singleton]; omega) (by rw [List.drop_zero, hr]), List.drop_zero, hr, spanZ_snoc blankZ (by decide), hall] at h
        have hd : (x ++ [13]).drop (0 + x.length) = [13] := by simp
        have hne2 : (readP ((x ++ [13]).drop (0 + x.length))).err ≠ 0 := by rw [hd, read_13]; decide
        rw [tokensF_err (by rw [List.length_append, List.length_singleton]; omega) (by rw [List.length_append, List.length_singleton]; omega) hne2] at h
        exact hne2 h
    split at he
    · exact htok _ he
    · split at he
      · exact htok _ he
      · cases he
  · have hne : x ≠ [] := by
      intro e
      subst e
      exact hall rfl
    unfold lineP at he ⊢
    rw [idle_snoc x hall, byteZ0_snoc x hne] at he ⊢
    split
    · rfl
    · rename_i h1
      rw [if_neg h1] at he
      split
      · rename_i h2
        rw [if_pos h2] at he
        rw [tokensP_snoc x k _ he]
      · rename_i h2
        rw [if_neg h2] at he
        split
        · rename_i h3
          rw [if_pos h3] at he
          rw [tokensP_snoc x k _ he]
        · rfl
end Go.Proofs.YtgbipbjpeecooaaGreatDoor

/-
  Plain facts: a text, a byte 10 and another text are read one behind the other. No conditions.
-/
namespace Go.Proofs.YtgbipbjpeecooaaGreatDoor

/-- so many places on -/
def sh (d : Nat) (t : Tk) : Tk := { t with place := t.place + d }
theorem sh_end (d k : Nat) : sh d (endTok k) = endTok (k + d) := by simp [sh, endTok]

theorem tokens_app (ln : List UInt8) (start : Nat) (a : List Tk) : ∀ (f at_ : Nat) (b : List Tk), tokensF ln start f at_ (a ++ b) = (a ++ (tokensF ln start f at_ b).1, (tokensF ln start f at_ b).2) := by
  intro f
  induction f with
  | zero => intro at_ b; rfl
  | succ f ih =>
    intro at_ b
    rw [tokensF, tokensF]
    split
    · rfl
    · split
      · rfl
      · rw [← ih]
        congr 1
        split
        · rw [List.append_assoc]
        · rfl
def shPlace (d : Nat) (r : Nat × Nat) : Nat × Nat := (if r.2 = 0 then r.1 else r.1 + d, r.2)
theorem tokens_shift (ln : List UInt8) (start d : Nat) : ∀ (f at_ : Nat) (b : List Tk), tokensF ln (start + d) f at_ (b.map (sh d)) = ((tokensF ln start f at_ b).1.map (sh d), shPlace d (tokensF ln start f at_ b).2) := by
  intro f
  induction f with
  | zero => intro at_ b; rfl
  | succ f ih =>
    intro at_ b
    rw [tokensF, tokensF]
    split
    · rfl
    · split
      · rename_i he
        simp only [shPlace, if_neg he]
        rw [show start + d + at_ + (readP (ln.drop at_)).bad = start + at_ + (readP (ln.drop at_)).bad + d from by omega]
      · rw [← ih]
        congr 1
        split
        · rw [List.map_append, List.map_singleton]
          congr 2
          simp only [sh]
          congr 1
          push_cast
          omega
        · rfl
theorem line_shift (ln : List UInt8) (k d : Nat) (a b : List Tk) (o : Bool) : lineP ln (k + d) (a ++ b.map (sh d)) o =
    ⟨a ++ (lineP ln k b o).toks.map (sh d), (lineP ln k b o).opened, (shPlace d ((lineP ln k b o).place, (lineP ln k b o).err)).1, (lineP ln k b o).err⟩ := by
  have key : ∀ c : List Tk, tokensP ln (k + d) (a ++ c.map (sh d)) = (a ++ (tokensP ln k c).1.map (sh d), shPlace d (tokensP ln k c).2) := by
    intro c
    unfold tokensP
    rw [tokens_app, tokens_shift]
  unfold lineP
  split
  · rfl
  · split
    · have e : (if o = true then a ++ b.map (sh d) ++ [endTok (k + d)] else a ++ b.map (sh d)) = a ++ (if o = true then b ++ [endTok k] else b).map (sh d) := by
        split
        · rw [List.map_append, List.map_singleton, sh_end, List.append_assoc]
        · rfl
      rw [e, key]
      rfl
    · split
      · rw [key]
        rfl
      · rfl

/-- the lines from a place on: the tokens, and whether a rule is open; or the place and the number of an error -/
def runF (l : List UInt8) : Nat → Nat → List Tk → Bool → (List Tk × Bool) ⊕ (Nat × Nat)
  | 0, _, toks, o => .inl (toks, o)
  | f + 1, k, toks, o =>
    if l.length ≤ k then .inl (toks, o)
    else if (lineP (cutP l k).1 k toks o).err ≠ 0 then .inr ((lineP (cutP l k).1 k toks o).place, (lineP (cutP l k).1 k toks o).err)
    else runF l f (cutP l k).2 (lineP (cutP l k).1 k toks o).toks (lineP (cutP l k).1 k toks o).opened
def closeR (l : List UInt8) : (List Tk × Bool) ⊕ (Nat × Nat) → List Tk × Nat × Nat
  | .inl (toks, o) => (closed l toks o, 0, 0)
  | .inr (p, e) => ([], p, e)
theorem lexF_run (l : List UInt8) : ∀ (f k : Nat) (toks : List Tk) (o : Bool), lexF l f k toks o = closeR l (runF l f k toks o) := by
  intro f
  induction f with
  | zero => intro k toks o; rfl
  | succ f ih =>
    intro k toks o
    rw [lexF, runF]
    split
    · rfl
    · split
      · rfl
      · exact ih _ _ _
theorem runF_fuel (l : List UInt8) : ∀ (f f' k : Nat) (toks : List Tk) (o : Bool), l.length < f + k → l.length < f' + k → k ≤ l.length → runF l f k toks o = runF l f' k toks o := by
  intro f
  induction f with
  | zero => intro f' k toks o h _ hk; omega
  | succ f ih =>
    intro f' k toks o h h' hk
    cases f' with
    | zero => omega
    | succ f' =>
      rw [runF, runF]
      split
      · rfl
      · have hcb := cutP_bd l k (by omega)
        split
        · rfl
        · exact ih f' _ _ _ (by omega) (by omega) (by omega)
def run (l : List UInt8) (k : Nat) (toks : List Tk) (o : Bool) : (List Tk × Bool) ⊕ (Nat × Nat) := runF l (l.length + 1) k toks o
theorem lexP_run (l : List UInt8) (h : l.length ≤ 65536) : lexP l = closeR l (run l 0 [] false) := by
  unfold lexP
  rw [if_neg (by omega), lexF_run]
  rfl
theorem run_end {l : List UInt8} {k : Nat} {toks : List Tk} {o : Bool} (h : l.length ≤ k) : run l k toks o = .inl (toks, o) := by
  unfold run
  rw [runF, if_pos h]
theorem run_step {l : List UInt8} {k : Nat} {toks : List Tk} {o : Bool} (h : k < l.length) : run l k toks o =
    if (lineP (cutP l k).1 k toks o).err ≠ 0 then .inr ((lineP (cutP l k).1 k toks o).place, (lineP (cutP l k).1 k toks o).err)
    else run l (cutP l k).2 (lineP (cutP l k).1 k toks o).toks (lineP (cutP l k).1 k toks o).opened := by
  have hcb := cutP_bd l k h
  unfold run
  rw [runF, if_neg (by omega)]
  split
  · rfl
  · exact runF_fuel l _ _ _ _ _ (by omega) (by omega) (by omega)

theorem indexByte_append (x t : List UInt8) (c : UInt8) (h : 0 ≤ Lib.indexByte x c) : Lib.indexByte (x ++ t) c = Lib.indexByte x c := by
  induction x with
  | nil => simp [Lib.indexByte] at h
  | cons b x ih =>
    rw [List.cons_append]
    simp only [Lib.indexByte] at h ⊢
    split
    · rfl
    · rename_i hb
      rw [if_neg hb] at h
      by_cases h1 : (Lib.indexByte x c == -1) = true
      · rw [if_pos h1] at h
        omega
      · have hb1 := indexByte_bd x c
        have h0 : 0 ≤ Lib.indexByte x c := by
          have : Lib.indexByte x c ≠ -1 := by simpa using h1
          omega
        rw [ih h0]
theorem indexByte_none (x : List UInt8) (c : UInt8) (h : Lib.indexByte x c < 0) : Lib.indexByte (x ++ [c]) c = x.length := by
  induction x with
  | nil => simp [Lib.indexByte]
  | cons b x ih =>
    rw [List.cons_append]
    simp only [Lib.indexByte, List.length_cons] at h ⊢
    by_cases hb : (b == c) = true
    · rw [if_pos hb] at h
      omega
    · rw [if_neg hb] at h
      rw [if_neg hb]
      have hb1 := indexByte_bd x c
      have h0 : Lib.indexByte x c < 0 := by
        by_cases h1 : (Lib.indexByte x c == -1) = true
        · have : Lib.indexByte x c = -1 := by simpa using h1
          omega
        · rw [if_neg h1] at h
          omega
      rw [ih h0, if_neg (by
        simp only [beq_iff_eq]
        omega)]
      push_cast
      rfl
theorem drop_append_lt (x t : List UInt8) (k : Nat) (h : k ≤ x.length) : (x ++ t).drop k = x.drop k ++ t := List.drop_append_of_le_length h
/-- a line that ends within a text is the same with more behind -/
theorem cut_left (x t : List UInt8) (k : Nat) (h : k < x.length) (hi : 0 ≤ Lib.indexByte (x.drop k) 10) : cutP (x ++ t) k = cutP x k := by
  have hb := indexByte_bd (x.drop k) 10
  rw [List.length_drop] at hb
  unfold cutP
  rw [drop_append_lt x t k (by omega), indexByte_append _ _ _ hi, if_neg (by omega), if_neg (by omega), List.take_append_of_le_length (by rw [List.length_drop]; omega)]
theorem index_nl (x : List UInt8) (k : Nat) (h : k ≤ x.length) : 0 ≤ Lib.indexByte ((x ++ [10]).drop k) 10 := by
  rw [drop_append_lt x [10] k h]
  by_cases hi : 0 ≤ Lib.indexByte (x.drop k) 10
  · rw [indexByte_append _ _ _ hi]; exact hi
  · rw [indexByte_none _ _ (by omega)]
    omega
theorem cut_nl (x t : List UInt8) (k : Nat) (h : k ≤ x.length) : cutP (x ++ [10] ++ t) k = cutP (x ++ [10]) k :=
  cut_left (x ++ [10]) t k (by rw [List.length_append, List.length_singleton]; omega) (index_nl x k h)
theorem cut_right (x t : List UInt8) (j : Nat) : cutP (x ++ t) (j + x.length) = ((cutP t j).1, (cutP t j).2 + x.length) := by
  have hd : (x ++ t).drop (j + x.length) = t.drop j := by
    rw [Nat.add_comm, ← List.drop_drop, List.drop_left]
  unfold cutP
  rw [hd, List.length_append]
  split
  · simp only [Prod.mk.injEq, true_and]
    omega
  · simp only [Prod.mk.injEq, true_and]
    omega

/-- what stands ahead, with an end of a line, is read first -/
theorem run_first (x t : List UInt8) : ∀ (n k : Nat) (toks : List Tk) (o : Bool), x.length + 1 ≤ n + k → k ≤ x.length + 1 → run (x ++ [10] ++ t) k toks o =
    match run (x ++ [10]) k toks o with
    | .inl (a, o') => run (x ++ [10] ++ t) (x.length + 1) a o'
    | .inr e => .inr e := by
  have hlen : (x ++ [10]).length = x.length + 1 := by simp
  have stop : ∀ (toks : List Tk) (o : Bool), run (x ++ [10] ++ t) (x.length + 1) toks o =
      match run (x ++ [10]) (x.length + 1) toks o with
      | .inl (a, o') => run (x ++ [10] ++ t) (x.length + 1) a o'
      | .inr e => .inr e := by
    intro toks o
    rw [run_end (l := x ++ [10]) (by omega)]
  intro n
  induction n with
  | zero =>
    intro k toks o h hk
    obtain rfl : k = x.length + 1 := by omega
    exact stop toks o
  | succ n ih =>
    intro k toks o h hk
    by_cases he : k = x.length + 1
    · subst he
      exact stop toks o
    · have hcb := cutP_bd (x ++ [10]) k (by omega)
      rw [run_step (l := x ++ [10] ++ t) (by rw [List.length_append]; omega), run_step (l := x ++ [10]) (by omega), cut_nl x t k (by omega)]
      split
      · rfl
      · exact ih _ _ _ (by omega) (by omega)
/-- what stands behind is read as it is by itself, so many places on -/
theorem run_behind (x t : List UInt8) (a : List Tk) : ∀ (n j : Nat) (b : List Tk) (o : Bool), t.length ≤ n + j → j ≤ t.length → run (x ++ t) (j + x.length) (a ++ b.map (sh x.length)) o =
    match run t j b o with
    | .inl (b', o') => .inl (a ++ b'.map (sh x.length), o')
    | .inr e => .inr (e.1 + x.length, e.2) := by
  have stop : ∀ (b : List Tk) (o : Bool), run (x ++ t) (t.length + x.length) (a ++ b.map (sh x.length)) o =
      match run t t.length b o with
      | .inl (b', o') => .inl (a ++ b'.map (sh x.length), o')
      | .inr e => .inr (e.1 + x.length, e.2) := by
    intro b o
    rw [run_end (l := t) (Nat.le_refl _), run_end (by rw [List.length_append]; omega)]
  intro n
  induction n with
  | zero =>
    intro j b o h hj
    obtain rfl : j = t.length := by omega
    exact stop b o
  | succ n ih =>
    intro j b o h hj
    by_cases he : j = t.length
    · subst he
      exact stop b o
    · have hcb := cutP_bd t j (by omega)
      rw [run_step (l := x ++ t) (by rw [List.length_append]; omega), run_step (l := t) (by omega), cut_right, line_shift]
      simp only
      split
      · rename_i hne
        simp only [shPlace, if_neg hne]
      · exact ih _ _ _ (by omega) (by omega)
theorem line_nil (k : Nat) (toks : List Tk) (o : Bool) : lineP [] k toks o = ⟨toks, o, 0, 0⟩ := by
  unfold lineP
  rw [if_pos idle_nil]
/-- an end of a line more changes nothing -/
theorem run_nl (s : List UInt8) : ∀ (n k : Nat) (toks : List Tk) (o : Bool) (R : List Tk × Bool), s.length ≤ n + k → k ≤ s.length → run s k toks o = .inl R → run (s ++ [10]) k toks o = .inl R := by
  have hlen : (s ++ [10]).length = s.length + 1 := by simp
  have stop : ∀ (toks : List Tk) (o : Bool), run (s ++ [10]) s.length toks o = .inl (toks, o) := by
    intro toks o
    have hc : cutP (s ++ [10]) s.length = ([], s.length + 1) := by
      unfold cutP
      rw [List.drop_left]
      have : Lib.indexByte [10] 10 = 0 := rfl
      rw [this, if_neg (by omega)]
      simp [Lib.trimSuffix, Lib.hasSuffix]
    rw [run_step (by omega), hc]
    simp only [line_nil]
    rw [if_neg (by simp), run_end (by omega)]
  intro n
  induction n with
  | zero =>
    intro k toks o R h hk hr
    obtain rfl : k = s.length := by omega
    rw [run_end (Nat.le_refl _)] at hr
    rw [stop, hr]
  | succ n ih =>
    intro k toks o R h hk hr
    by_cases he : k = s.length
    · subst he
      rw [run_end (Nat.le_refl _)] at hr
      rw [stop, hr]
    · have hlt : k < s.length := by omega
      have hcb := cutP_bd s k hlt
      by_cases hi : 0 ≤ Lib.indexByte (s.drop k) 10
      · rw [run_step hlt] at hr
        rw [run_step (by omega), cut_left s [10] k hlt hi]
        split at hr
        · cases hr
        · rename_i hne
          rw [if_neg hne]
          exact ih _ _ _ R (by omega) (by omega) hr
      · have hc : cutP s k = (s.drop k, s.length) := by
          unfold cutP
          rw [if_pos (by omega)]
        have hc2 : cutP (s ++ [10]) k = (Lib.trimSuffix (s.drop k) [13], s.length + 1) := by
          unfold cutP
          rw [drop_append_lt s [10] k (by omega), indexByte_none _ _ (by omega), if_neg (by omega)]
          simp only [Int.toNat_natCast]
          rw [List.take_left' rfl, List.length_drop]
          congr 1
          omega
        rw [run_step hlt, hc] at hr
        rw [run_step (by omega), hc2]
        simp only at hr ⊢
        split at hr
        · cases hr
        · rename_i hne
          have herr : (lineP (s.drop k) k toks o).err = 0 := by
            cases hh : (lineP (s.drop k) k toks o).err with
            | zero => rfl
            | succ m => exact absurd (by rw [hh]; simp) hne
          have hsame : lineP (Lib.trimSuffix (s.drop k) [13]) k toks o = lineP (s.drop k) k toks o := by
            unfold Lib.trimSuffix
            split
            · rename_i hsuf
              obtain ⟨y, hy⟩ := List.isSuffixOf_iff_suffix.1 hsuf
              have hy' : (s.drop k).take ((s.drop k).length - ([13] : List UInt8).length) = y := by
                rw [← hy]
                simp
              rw [hy', ← hy]
              exact line_snoc y k toks o (by rw [hy]; exact herr)
            · rfl
          rw [hsame, if_neg hne, run_end (by omega)]
          rw [run_end (Nat.le_refl _)] at hr
          exact hr
theorem run_stays (l : List UInt8) : ∀ (n k : Nat) (toks : List Tk) (R : List Tk × Bool), l.length ≤ n + k → k ≤ l.length → run l k toks true = .inl R → R.2 = true := by
  intro n
  induction n with
  | zero =>
    intro k toks R h hk hr
    obtain rfl : k = l.length := by omega
    rw [run_end (Nat.le_refl _)] at hr
    cases hr
    rfl
  | succ n ih =>
    intro k toks R h hk hr
    by_cases he : k = l.length
    · subst he
      rw [run_end (Nat.le_refl _)] at hr
      cases hr
      rfl
    · have hcb := cutP_bd l k (by omega)
      rw [run_step (by omega)] at hr
      split at hr
      · cases hr
      · have ho : (lineP (cutP l k).1 k toks true).opened = true := by
          unfold lineP
          split
          · rfl
          · split
            · rfl
            · split
              · rfl
              · rfl
        rw [ho] at hr
        exact ih _ _ R (by omega) (by omega) hr
theorem run_app (t : List UInt8) (a b : List Tk) (j : Nat) (o : Bool) (hj : j ≤ t.length) : run t j (a ++ b) o =
    match run t j b o with
    | .inl (b', o') => .inl (a ++ b', o')
    | .inr e => .inr e := by
  have h := run_behind [] t a t.length j b o (by omega) hj
  have hid : ∀ l : List Tk, l.map (sh 0) = l := by
    intro l
    have : sh 0 = id := by funext t; simp [sh]
    rw [this, List.map_id]
  simp only [List.nil_append, List.length_nil, Nat.add_zero, hid] at h
  rw [h]
/-- with a rule open ahead of it a text's tokens are the same, with that rule's end, unless there is no rule -/
theorem run_opened (t : List UInt8) : ∀ (n j : Nat) (b : List Tk) (ob : Bool), t.length ≤ n + j → j ≤ t.length → run t j [] false = .inl (b, ob) →
    (ob = false ∧ b = [] ∧ run t j [] true = .inl ([], true)) ∨ (ob = true ∧ ∃ q, run t j [] true = .inl (endTok q :: b, true)) := by
  intro n
  induction n with
  | zero =>
    intro j b ob h hj hr
    obtain rfl : j = t.length := by omega
    rw [run_end (Nat.le_refl _)] at hr ⊢
    cases hr
    exact .inl ⟨rfl, rfl, rfl⟩
  | succ n ih =>
    intro j b ob h hj hr
    by_cases he : j = t.length
    · subst he
      rw [run_end (Nat.le_refl _)] at hr ⊢
      cases hr
      exact .inl ⟨rfl, rfl, rfl⟩
    · have hcb := cutP_bd t j (by omega)
      rw [run_step (by omega)] at hr ⊢
      generalize (cutP t j).1 = ln at *
      generalize (cutP t j).2 = nx at *
      by_cases hid : idleB ln = true
      · have e1 : ∀ o, lineP ln j [] o = ⟨[], o, 0, 0⟩ := by
          intro o
          unfold lineP
          rw [if_pos hid]
        rw [e1] at hr ⊢
        rw [if_neg (by simp)] at hr ⊢
        exact ih nx b ob (by omega) (by omega) hr
      · by_cases hlet : letterZ (byteZ ln 0) = true
        · have e1 : lineP ln j [] false = ⟨(tokensP ln j []).1, true, (tokensP ln j []).2.1, (tokensP ln j []).2.2⟩ := by
            unfold lineP
            rw [if_neg hid, if_pos hlet, if_neg (by simp)]
          have e2 : lineP ln j [] true = ⟨endTok j :: (tokensP ln j []).1, true, (tokensP ln j []).2.1, (tokensP ln j []).2.2⟩ := by
            have := tokens_app ln j [endTok j] (ln.length + 1) 0 []
            unfold lineP
            rw [if_neg hid, if_pos hlet, if_pos rfl]
            unfold tokensP
            rw [List.nil_append]
            rw [List.append_nil] at this
            rw [this]
            rfl
          rw [e1] at hr
          rw [e2]
          simp only at hr ⊢
          split at hr
          · cases hr
          · rename_i hne
            rw [if_neg hne]
            have hst := run_stays t t.length nx _ _ (by omega) (by omega) hr
            simp only at hst
            subst hst
            refine .inr ⟨rfl, j, ?_⟩
            have := run_app t [endTok j] (tokensP ln j []).1 nx true (by omega)
            rw [hr] at this
            exact this
        · exfalso
          have e1 : lineP ln j [] false = ⟨[], false, j, 10⟩ := by
            unfold lineP
            rw [if_neg hid, if_neg hlet, if_neg (by simp)]
          rw [e1] at hr
          simp at hr
end Go.Proofs.YtgbipbjpeecooaaGreatDoor

/-
  How a line's rest is read as tokens, but for their places: plain facts. No conditions.
-/
namespace Go.Proofs.YtgbipbjpeecooaaGreatDoor
open Go.RowKit

def bare (t : Tk) : Tk := { t with place := 0 }
theorem byteZ_drop (l : List UInt8) (a k : Nat) : byteZ (l.drop a) k = byteZ l (a + k) := by
  unfold byteZ
  rw [List.getD_eq_getElem?_getD, List.getD_eq_getElem?_getD, List.getElem?_drop]
theorem bare_sh (d : Nat) (t : Tk) : bare (sh d t) = bare t := rfl
theorem map_bare_sh (d : Nat) (l : List Tk) : (l.map (sh d)).map bare = l.map bare := by
  rw [List.map_map]
  rfl
theorem tokensF_fuel (ln : List UInt8) (st : Nat) : ∀ (f f' p : Nat) (toks : List Tk), ln.length < f + p → ln.length < f' + p → tokensF ln st f p toks = tokensF ln st f' p toks := by
  intro f
  induction f with
  | zero =>
    intro f' p toks h1 h2
    rw [tokensF_end (by omega), tokensF_end (by omega)]
  | succ f ih =>
    intro f' p toks h1 h2
    by_cases hp : ln.length ≤ p
    · rw [tokensF_end hp, tokensF_end hp]
    · obtain ⟨f', rfl⟩ : ∃ g, f' = g + 1 := ⟨f' - 1, by omega⟩
      have hne : ln.drop p ≠ [] := drop_ne (by omega)
      by_cases he : (readP (ln.drop p)).err = 0
      · have hs := ((fits_read _ hne).2.1 he).1
        rw [tokensF_go (by omega) he, tokensF_go (by omega) he]
        exact ih _ _ _ (by omega) (by omega)
      · rw [tokensF_err h1 (by omega) he, tokensF_err h2 (by omega) he]
theorem spanZ_cons_pos (p : Int → Bool) (c : UInt8) (r : List UInt8) (h : p c.toNat = true) : spanZ p (c :: r) = spanZ p r + 1 := by
  rw [spanZ, if_pos h]
  try omega
theorem read_blank (l : List UInt8) (hb : blankZ (byteZ l 0) = true) : readP l = { size := spanZ blankZ l } := by
  unfold readP table
  rw [pick, if_pos hb]
theorem tok_blank (ln : List UInt8) (st f f' p : Nat) (toks : List Tk) (hp : p < ln.length) (hb : blankZ (byteZ ln p) = true) (h1 : ln.length < f + p) (h2 : ln.length < f' + (p + 1)) :
    tokensF ln st f p toks = tokensF ln st f' (p + 1) toks := by
  obtain ⟨c, hc, hcb⟩ := drop_byte ln p hp
  have hb0 : blankZ (byteZ (ln.drop p) 0) = true := by rw [byteZ_drop]; exact hb
  have hcb' : blankZ c.toNat = true := by rw [hcb]; exact hb
  obtain ⟨f, rfl⟩ : ∃ g, f = g + 1 := ⟨f - 1, by omega⟩
  have hr := read_blank _ hb0
  rw [tokensF_go hp (by rw [hr]), hr]
  simp only [ne_eq, not_true_eq_false, if_false]
  rw [hc, spanZ_cons_pos _ _ _ hcb']
  by_cases hp1 : p + 1 < ln.length
  · cases hb1 : blankZ (byteZ ln (p + 1)) with
    | true =>
      obtain ⟨f', rfl⟩ : ∃ g, f' = g + 1 := ⟨f' - 1, by omega⟩
      have hr1 := read_blank (ln.drop (p + 1)) (by rw [byteZ_drop]; exact hb1)
      have hs1 : 1 ≤ spanZ blankZ (ln.drop (p + 1)) := spanZ_pos _ _ (drop_ne hp1) (by rw [byteZ_drop]; exact hb1)
      rw [tokensF_go hp1 (by rw [hr1]), hr1]
      simp only [ne_eq, not_true_eq_false, if_false]
      rw [show p + (spanZ blankZ (ln.drop (p + 1)) + 1) = p + 1 + spanZ blankZ (ln.drop (p + 1)) from by omega]
      exact tokensF_fuel _ _ _ _ _ _ (by omega) (by omega)
    | false =>
      have : spanZ blankZ (ln.drop (p + 1)) = 0 := spanZ_stop blankZ _ 0 (Nat.zero_le _) (by rw [List.length_drop]; omega) (by rw [byteZ_drop]; exact hb1)
      rw [this]
      exact tokensF_fuel _ _ _ _ _ _ (by omega) (by omega)
  · rw [tokensF_end (by omega), tokensF_end (by omega)]
theorem line_letter (ln : List UInt8) (k : Nat) (toks : List Tk) (o : Bool) (hi : idleB ln = false) (hl : letterZ (byteZ ln 0) = true) :
    lineP ln k toks o = ⟨(tokensP ln k (if o = true then toks ++ [endTok k] else toks)).1, true, (tokensP ln k (if o = true then toks ++ [endTok k] else toks)).2.1, (tokensP ln k (if o = true then toks ++ [endTok k] else toks)).2.2⟩ := by
  rw [lineP, if_neg (by simp [hi]), if_pos hl]
theorem idle_cons (c : UInt8) (r : List UInt8) : idleB (c :: r) = ((c.toNat : Int) == 59 || (blankZ c.toNat && idleB r)) := by
  unfold idleB
  rw [spanZ]
  by_cases hb : blankZ c.toNat = true
  · rw [if_pos hb, hb]
    have h59 : ((c.toNat : Int) == 59) = false := by
      rw [beq_eq_false_iff_ne]
      intro e
      rw [e] at hb
      revert hb
      decide
    have hby : byteZ (c :: r) (spanZ blankZ r + 1) = byteZ r (spanZ blankZ r) := rfl
    rw [h59, hby]
    simp
  · rw [if_neg hb]
    have hby : byteZ (c :: r) 0 = c.toNat := rfl
    rw [hby]
    simp [hb]
def Mid (ln : List UInt8) (ts : List Tk) : Prop := ∃ tk, tokensP ln 0 [] = (tk, 0, 0) ∧ tk.map bare = ts
theorem tokens_suffix (t x : List UInt8) (st : Nat) : ∀ (f p : Nat) (toks : List Tk), tokensF (t ++ x) st f (t.length + p) toks = tokensF x (st + t.length) f p toks := by
  intro f
  induction f with
  | zero => intro p toks; rfl
  | succ f ih =>
    intro p toks
    have hd : (t ++ x).drop (t.length + p) = x.drop p := by rw [← List.drop_drop, List.drop_left]
    by_cases h : x.length ≤ p
    · rw [tokensF_end h, tokensF_end (by rw [List.length_append]; omega)]
    · rw [tokensF, tokensF, if_neg h, if_neg (by rw [List.length_append]; omega), hd, Nat.add_assoc t.length, ih]
      have e : ((st : Int) + ((t.length + p : Nat) : Int)) = ((st + t.length : Nat) : Int) + (p : Int) := by omega
      rw [e, show st + (t.length + p) = st + t.length + p from by omega]
theorem mid_piece (t x : List UInt8) (tok : Tk) (ts : List Tk) (hr : readP (t ++ x) = { tok := tok, size := t.length }) (hk : tok.kind ≠ 0) (hp : tok.place = 0) (ht : t ≠ []) (h : Mid x ts) : Mid (t ++ x) (tok :: ts) := by
  obtain ⟨tk, h1, h2⟩ := h
  have hl : 0 < t.length := pos_of_ne ht
  have hne : 0 < (t ++ x).length := by rw [List.length_append]; omega
  refine ⟨{ tok with place := 0 } :: tk.map (sh t.length), ?_, ?_⟩
  · unfold tokensP
    rw [tokensF_go hne (by rw [List.drop_zero, hr]), List.drop_zero, hr, if_pos hk]
    simp only [Nat.zero_add, List.nil_append]
    have e := tokens_suffix t x 0 (t ++ x).length 0 ([{ tok with place := ((0 : Nat) : Int) + ((0 : Nat) : Int) }] ++ [].map (sh t.length))
    rw [Nat.add_zero] at e
    rw [show ([{ tok with place := ((0 : Nat) : Int) + ((0 : Nat) : Int) }] : List Tk) = [{ tok with place := ((0 : Nat) : Int) + ((0 : Nat) : Int) }] ++ ([] : List Tk).map (sh t.length) from rfl, e, tokens_app, tokens_shift,
      tokensF_fuel x 0 _ (x.length + 1) 0 [] (by rw [List.length_append]; omega) (by omega)]
    unfold tokensP at h1
    rw [h1]
    rfl
  · rw [List.map_cons, map_bare_sh, h2]
    have : bare { tok with place := 0 } = tok := by
      cases tok
      simp only at hp
      subst hp
      rfl
    rw [this]
theorem mid_nil : Mid [] [] := ⟨[], rfl, rfl⟩
theorem mid_blank (c : UInt8) (x : List UInt8) (ts : List Tk) (hb : blankZ c.toNat = true) (h : Mid x ts) : Mid (c :: x) ts := by
  obtain ⟨tk, h1, h2⟩ := h
  refine ⟨tk.map (sh 1), ?_, by rw [map_bare_sh, h2]⟩
  unfold tokensP
  rw [tok_blank (c :: x) 0 _ (x.length + 1) 0 [] (by simp) (by rw [byteZ_cons]; exact hb) (by simp) (by simp)]
  have e := tokens_suffix [c] x 0 (x.length + 1) 0 []
  have e2 := tokens_shift x 0 1 (x.length + 1) 0 []
  unfold tokensP at h1
  rw [h1] at e2
  simp only [List.length_singleton, List.singleton_append, Nat.zero_add, Nat.add_zero, List.map_nil] at e e2
  rw [Nat.zero_add, e, e2]
  rfl
def Rest (r : List UInt8) (ts : List Tk) : Prop := ∃ b, run r 0 [] true = .inl (b, true) ∧ b.map bare = ts
def Rest0 (r : List UInt8) (ts : List Tk) : Prop := ∃ b, run r 0 [] false = .inl (b, true) ∧ b.map bare = ts
theorem rest_nil : Rest [] [] := ⟨[], run_end (Nat.le_refl _), rfl⟩
theorem run_from (r : List UInt8) (nx : Nat) (hnx : nx ≤ r.length) (a : List Tk) (o : Bool) : run r nx a o =
    match run (r.drop nx) 0 [] o with
    | .inl (b', o') => .inl (a ++ b'.map (sh nx), o')
    | .inr e => .inr (e.1 + nx, e.2) := by
  have hl : (r.take nx).length = nx := by rw [List.length_take]; omega
  have h := run_behind (r.take nx) (r.drop nx) a (r.drop nx).length 0 [] o (Nat.le_refl _) (Nat.zero_le _)
  rw [List.take_append_drop, hl, Nat.zero_add, List.map_nil, List.append_nil] at h
  exact h
theorem rest_line {r : List UInt8} {tk : List Tk} {us : List Tk} {p : Nat} (hr : r ≠ []) (hl : lineP (cutP r 0).1 0 [] true = ⟨tk, true, p, 0⟩) (h : Rest (r.drop (cutP r 0).2) us) : Rest r (tk.map bare ++ us) := by
  obtain ⟨b, h1, h2⟩ := h
  have hb := cutP_bd r 0 (pos_of_ne hr)
  refine ⟨tk ++ b.map (sh (cutP r 0).2), ?_, by rw [List.map_append, map_bare_sh, h2]⟩
  rw [run_step (pos_of_ne hr), hl, if_neg (by simp), run_from r _ hb.2.2, h1]
theorem rest0_rule {r : List UInt8} {ts us : List Tk} (hr : r ≠ []) (hi : idleB (cutP r 0).1 = false) (hlet : letterZ (byteZ (cutP r 0).1 0) = true) (hm : Mid (cutP r 0).1 ts) (h : Rest (r.drop (cutP r 0).2) us) : Rest0 r (ts ++ us) := by
  obtain ⟨b, h1, h2⟩ := h
  obtain ⟨tk, h3, h4⟩ := hm
  have hb := cutP_bd r 0 (pos_of_ne hr)
  have hln := line_letter (cutP r 0).1 0 [] false hi hlet
  rw [if_neg (by simp), h3] at hln
  refine ⟨tk ++ b.map (sh (cutP r 0).2), ?_, by rw [List.map_append, map_bare_sh, h2, h4]⟩
  rw [run_step (pos_of_ne hr), hln, if_neg (by simp), run_from r _ hb.2.2, h1]
theorem rest0_lex {r : List UInt8} {ts : List Tk} (hl : r.length ≤ 65536) (h : Rest0 r ts) : (lexP r).2 = (0, 0) ∧ (lexP r).1.map bare = ts ++ [{ kind := 13 }] := by
  obtain ⟨b, h1, h2⟩ := h
  rw [lexP_run r hl, h1]
  refine ⟨rfl, ?_⟩
  show (closed r b true).map bare = _
  rw [closed, if_pos rfl, List.map_append, h2]
  rfl
end Go.Proofs.YtgbipbjpeecooaaGreatDoor

/-
  What a printed tree is read as, token by token, in plain terms. No conditions.
-/
namespace Go.Proofs.YtgbipbjpeecooaaGreatDoor
open Go.RowKit

/-- a text that stops a span -/
def Stops (p : Int → Bool) (y : List UInt8) : Prop := y = [] ∨ ∃ c r, y = c :: r ∧ p c.toNat = false
theorem span_app (p : Int → Bool) : ∀ (a y : List UInt8), (∀ c ∈ a, p c.toNat = true) → Stops p y → spanZ p (a ++ y) = a.length := by
  intro a
  induction a with
  | nil =>
    intro y _ hy
    rcases hy with rfl | ⟨c, r, rfl, hc⟩
    · rfl
    · rw [List.nil_append, spanZ, if_neg (by rw [hc]; exact Bool.false_ne_true)]
      rfl
  | cons c r ih =>
    intro y ha hy
    rw [List.cons_append, spanZ, if_pos (ha c (by simp)), ih y (fun d hd => ha d (by simp [hd])) hy]
    rfl
/-- what may stand behind a printed tree: nothing, a blank, a bracket -/
def Ends (y : List UInt8) : Prop := y = [] ∨ (∃ r, y = 32 :: r) ∨ ∃ r, y = 41 :: r
theorem Ends.stops {y : List UInt8} (h : Ends y) (p : Int → Bool) (h1 : p 32 = false) (h2 : p 41 = false) : Stops p y := by
  rcases h with rfl | ⟨r, rfl⟩ | ⟨r, rfl⟩
  · exact .inl rfl
  · exact .inr ⟨32, r, rfl, h1⟩
  · exact .inr ⟨41, r, rfl, h2⟩

/-! ### names -/
theorem named_of_tail (c : UInt8) : nameTailZ c.toNat = true → namedZ c.toNat = true := byte_all (p := fun c => nameTailZ c.toNat = true → namedZ c.toNat = true) (by decide +kernel) c
theorem letter_of_small (c : UInt8) : smallZ c.toNat = true → letterZ c.toNat = true ∧ nameTailZ c.toNat = true := byte_all (p := fun c => smallZ c.toNat = true → letterZ c.toNat = true ∧ nameTailZ c.toNat = true) (by decide +kernel) c
theorem name_parts {l : List UInt8} (h : nameB l = true) : ∃ c r, l = c :: r ∧ letterZ c.toNat = true ∧ ∀ d ∈ l, namedZ d.toNat = true := by
  cases l with
  | nil => cases h
  | cons a r =>
    have e : nameB (a :: r) = (smallZ a.toNat && r.all (fun c => nameTailZ c.toNat)) := rfl
    rw [e, Bool.and_eq_true, List.all_eq_true] at h
    have ha := letter_of_small a h.1
    refine ⟨a, r, rfl, ha.1, fun d hd => ?_⟩
    rcases List.mem_cons.1 hd with rfl | hd
    · exact named_of_tail _ ha.2
    · exact named_of_tail _ (h.2 d hd)
theorem read_word (n y : List UInt8) (hn : ∃ c r, n = c :: r ∧ letterZ c.toNat = true ∧ ∀ d ∈ n, namedZ d.toNat = true) (hy : Stops namedZ y) : readP (n ++ y) = { tok := { kind := 1, text := n }, size := n.length } := by
  obtain ⟨c, r, rfl, hc, hall⟩ := hn
  rw [read_letter _ (by simp) (by rw [List.cons_append, byteZ_cons]; exact hc)]
  unfold nameP
  rw [span_app namedZ _ _ hall hy, List.take_left]

/-! ### chars -/
theorem quote_app : ∀ (t y : List UInt8), charsB t = true → quoteAt (t ++ 34 :: y) = some t.length := by
  intro t
  induction t with
  | nil => intro y _; rfl
  | cons c r ih =>
    intro y h
    have e : charsB (c :: r) = (charZ c.toNat && charsB r) := rfl
    rw [e, Bool.and_eq_true] at h
    have hc := h.1
    simp only [charZ, Bool.and_eq_true, decide_eq_true_eq, Bool.not_eq_true', beq_eq_false_iff_ne] at hc
    rw [List.cons_append, quoteAt, if_neg hc.2, if_neg (by omega), ih y h.2]
    rfl
theorem read_34 (r : List UInt8) : readP (34 :: r) = charsP (34 :: r) := rfl
theorem read_quoted (t y : List UInt8) (h : charsB t = true) : readP ([34] ++ t ++ [34] ++ y) = { tok := { kind := 10, text := t }, size := ([34] ++ t ++ [34]).length } := by
  have e : [34] ++ t ++ [34] ++ y = 34 :: (t ++ 34 :: y) := by simp
  rw [e, read_34]
  unfold charsP
  rw [show (34 :: (t ++ 34 :: y)).drop 1 = t ++ 34 :: y from rfl, quote_app t y h]
  show ({ tok := { kind := 10, text := (t ++ 34 :: y).take t.length }, size := t.length + 2 } : Pc) = _
  rw [List.take_left]
  simp

/-! ### bytes -/
theorem pair_facts (x : UInt8) : digitBelow 16 (hexC (x.toNat / 16)).toNat = true ∧ digitBelow 16 (hexC (x.toNat % 16)).toNat = true ∧ numberZ 16 (pairP x) = x.toNat ∧ 0 ≤ (x.toNat : Int) ∧ (x.toNat : Int) ≤ 255 :=
  byte_all (p := fun x => digitBelow 16 (hexC (x.toNat / 16)).toNat = true ∧ digitBelow 16 (hexC (x.toNat % 16)).toNat = true ∧ numberZ 16 (pairP x) = x.toNat ∧ 0 ≤ (x.toNat : Int) ∧ (x.toNat : Int) ≤ 255) (by decide +kernel) x
theorem value_pair (pre z : List UInt8) (x : UInt8) (hz : Stops (digitBelow 16) z) : valueZ (pre ++ pairP x ++ z) pre.length 16 = some ((x.toNat : Int), pre.length + 2) := by
  obtain ⟨h1, h2, h3, h4, h5⟩ := pair_facts x
  have hd : (pre ++ pairP x ++ z).drop pre.length = pairP x ++ z := by rw [List.append_assoc, List.drop_left]
  have hsp : spanZ (digitBelow 16) (pairP x ++ z) = 2 := span_app (digitBelow 16) (pairP x) z (by
    intro c hc
    simp only [pairP, List.mem_cons, List.not_mem_nil, or_false] at hc
    rcases hc with rfl | rfl
    · exact h1
    · exact h2) hz
  have ht : (pairP x ++ z).take 2 = pairP x := List.take_left (l₁ := pairP x)
  unfold valueZ
  rw [hd, hsp, ht, h3, if_neg (by simp), if_neg (by omega), if_neg (by omega)]
theorem stands_app (pre : List UInt8) (c : UInt8) (r : List UInt8) (b : Int) : standsB (pre ++ c :: r) pre.length b = ((c.toNat : Int) == b) := by
  unfold standsB byteZ
  rw [List.getD_eq_getElem?_getD, List.getElem?_append_right (Nat.le_refl _), Nat.sub_self]
  simp
theorem stands_none (pre : List UInt8) (b : Int) : standsB pre pre.length b = false := by
  unfold standsB
  simp
theorem hexes_stop (b : UInt8) (hb : digitBelow 16 b.toNat = false) (r y : List UInt8) (hy : Stops (digitBelow 16) y) : Stops (digitBelow 16) (hexesP [b] [b] r ++ y) := by
  cases r with
  | nil => exact hy
  | cons x r => exact .inr ⟨b, pairP x ++ hexesP [b] [b] r ++ y, by simp [hexesP], hb⟩
theorem more_pairs (y : List UInt8) (hy : Ends y) : ∀ (r pre : List UInt8) (f : Nat) (nums : List Int), (pre ++ hexesP [46] [46] r ++ y).length < f + pre.length → moreVals (pre ++ hexesP [46] [46] r ++ y) 16 f pre.length nums = some (nums ++ r.map (fun x => (x.toNat : Int)), pre.length + (hexesP [46] [46] r).length) := by
  intro r
  induction r with
  | nil =>
    intro pre f nums hf
    obtain ⟨f, rfl⟩ : ∃ g, f = g + 1 := ⟨f - 1, by simp [hexesP] at hf; omega⟩
    have hs : standsB (pre ++ hexesP [46] [46] [] ++ y) pre.length 46 = false := by
      rw [show hexesP [46] [46] ([] : List UInt8) = [] from rfl, List.append_nil]
      rcases hy with rfl | ⟨r, rfl⟩ | ⟨r, rfl⟩
      · rw [List.append_nil]; exact stands_none _ _
      · rw [stands_app]; rfl
      · rw [stands_app]; rfl
    rw [moreVals, if_neg (by rw [hs]; exact Bool.false_ne_true)]
    simp [hexesP]
  | cons x r ih =>
    intro pre f nums hf
    obtain ⟨f, rfl⟩ : ∃ g, f = g + 1 := ⟨f - 1, by simp [hexesP] at hf; omega⟩
    have e : pre ++ hexesP [46] [46] (x :: r) ++ y = (pre ++ [46] ++ pairP x) ++ hexesP [46] [46] r ++ y := by simp [hexesP]
    have e1 : pre ++ hexesP [46] [46] (x :: r) ++ y = pre ++ 46 :: (pairP x ++ hexesP [46] [46] r ++ y) := by simp [hexesP]
    have hs : standsB (pre ++ hexesP [46] [46] (x :: r) ++ y) pre.length 46 = true := by rw [e1, stands_app]; rfl
    have hv : valueZ (pre ++ hexesP [46] [46] (x :: r) ++ y) (pre.length + 1) 16 = some ((x.toNat : Int), pre.length + 3) := by
      have := value_pair (pre ++ [46]) (hexesP [46] [46] r ++ y) x (hexes_stop 46 (by decide) r y (hy.stops _ (by decide) (by decide)))
      rw [show (pre ++ [46] : List UInt8).length = pre.length + 1 from by simp] at this
      rw [show pre ++ hexesP [46] [46] (x :: r) ++ y = pre ++ [46] ++ pairP x ++ (hexesP [46] [46] r ++ y) from by simp [hexesP]]
      exact this
    rw [moreVals, if_pos hs, hv]
    simp only
    have hl : (pre ++ [46] ++ pairP x).length = pre.length + 3 := by simp [pairP]
    rw [← hl, e, ih (pre ++ [46] ++ pairP x) f (nums ++ [(x.toNat : Int)]) (by rw [← e]; omega)]
    simp [hexesP, pairP]
    omega
theorem read_37 (r : List UInt8) : readP (37 :: r) = valuesP (37 :: r) := rfl
theorem base_120 (r : List UInt8) : baseZ (37 :: 120 :: r) = 16 := by
  unfold baseZ
  rw [if_neg (by simp), if_pos (.inl rfl)]
theorem nums_text (l : List UInt8) : numsText (l.map fun x => (x.toNat : Int)) = l := by
  unfold numsText
  rw [List.map_map]
  conv => rhs; rw [← List.map_id l]
  apply List.map_congr_left
  intro x _
  simp
theorem read_bytes (x : UInt8) (r y : List UInt8) (hy : Ends y) : readP (hexesP [37, 120] [46] (x :: r) ++ y) = { tok := { kind := 11, text := x :: r }, size := (hexesP [37, 120] [46] (x :: r)).length } := by
  have e0 : hexesP [37, 120] [46] (x :: r) = [37, 120] ++ pairP x ++ hexesP [46] [46] r := rfl
  have e1 : hexesP [37, 120] [46] (x :: r) ++ y = [37, 120] ++ pairP x ++ (hexesP [46] [46] r ++ y) := by rw [e0]; simp
  have e2 : hexesP [37, 120] [46] (x :: r) ++ y = 37 :: 120 :: (pairP x ++ (hexesP [46] [46] r ++ y)) := e1
  have hv : valueZ (hexesP [37, 120] [46] (x :: r) ++ y) 2 16 = some ((x.toNat : Int), 4) := by
    rw [e1]
    exact value_pair [37, 120] (hexesP [46] [46] r ++ y) x (hexes_stop 46 (by decide) r y (hy.stops _ (by decide) (by decide)))
  have hlen : (([37, 120] ++ pairP x : List UInt8)).length = 4 := by simp [pairP]
  have e3 : hexesP [37, 120] [46] (x :: r) ++ y = ([37, 120] ++ pairP x) ++ hexesP [46] [46] r ++ y := by rw [e0]
  have hst : standsB (hexesP [37, 120] [46] (x :: r) ++ y) 4 45 = false := by
    rw [e3, ← hlen]
    cases r with
    | nil =>
      rw [show hexesP [46] [46] ([] : List UInt8) = [] from rfl, List.append_nil]
      rcases hy with rfl | ⟨r, rfl⟩ | ⟨r, rfl⟩
      · rw [List.append_nil]; exact stands_none _ _
      · rw [stands_app]; rfl
      · rw [stands_app]; rfl
    | cons z r =>
      rw [show [37, 120] ++ pairP x ++ hexesP [46] [46] (z :: r) ++ y = ([37, 120] ++ pairP x) ++ 46 :: (pairP z ++ hexesP [46] [46] r ++ y) from by simp [hexesP], stands_app]
      rfl
  have hm : moreVals (hexesP [37, 120] [46] (x :: r) ++ y) 16 ((hexesP [37, 120] [46] (x :: r) ++ y).length + 1) 4 [(x.toNat : Int)] = some ([(x.toNat : Int)] ++ r.map (fun x => (x.toNat : Int)), 4 + (hexesP [46] [46] r).length) := by
    have := more_pairs y hy r ([37, 120] ++ pairP x) ((hexesP [37, 120] [46] (x :: r) ++ y).length + 1) [(x.toNat : Int)] (by rw [← e3]; omega)
    rw [hlen, ← e3] at this
    exact this
  have hb : baseZ (hexesP [37, 120] [46] (x :: r) ++ y) = 16 := by rw [e2]; exact base_120 _
  have hrd : readP (hexesP [37, 120] [46] (x :: r) ++ y) = valuesP (hexesP [37, 120] [46] (x :: r) ++ y) := by rw [e2]; exact read_37 _
  rw [hrd]
  unfold valuesP
  rw [hb, hv, valuesOf, if_neg (by rw [hst]; exact Bool.false_ne_true), hm]
  show ({ tok := { kind := 11, text := numsText ((x :: r).map fun x => (x.toNat : Int)) }, size := 4 + (hexesP [46] [46] r).length } : Pc) = _
  rw [nums_text, e0, List.length_append, hlen]
theorem read_range (a b : UInt8) (y : List UInt8) (hy : Ends y) (hab : (a.toNat : Int) ≤ b.toNat) : readP (hexesP [37, 120] [45] [a, b] ++ y) = { tok := { kind := 12, lo := a.toNat, hi := b.toNat }, size := (hexesP [37, 120] [45] [a, b]).length } := by
  have e1 : hexesP [37, 120] [45] [a, b] ++ y = [37, 120] ++ pairP a ++ (45 :: (pairP b ++ y)) := by simp [hexesP]
  have e2 : hexesP [37, 120] [45] [a, b] ++ y = 37 :: 120 :: (pairP a ++ (45 :: (pairP b ++ y))) := e1
  have hv : valueZ (hexesP [37, 120] [45] [a, b] ++ y) 2 16 = some ((a.toNat : Int), 4) := by
    rw [e1]
    exact value_pair [37, 120] _ a (.inr ⟨45, _, rfl, by decide⟩)
  have hlen : (([37, 120] ++ pairP a : List UInt8)).length = 4 := by simp [pairP]
  have hst : standsB (hexesP [37, 120] [45] [a, b] ++ y) 4 45 = true := by
    rw [e1, ← hlen, stands_app]
    rfl
  have hv2 : valueZ (hexesP [37, 120] [45] [a, b] ++ y) 5 16 = some ((b.toNat : Int), 7) := by
    have := value_pair ([37, 120] ++ pairP a ++ [45]) y b (hy.stops _ (by decide) (by decide))
    rw [show ([37, 120] ++ pairP a ++ [45] : List UInt8).length = 5 from by simp [pairP]] at this
    rw [show hexesP [37, 120] [45] [a, b] ++ y = [37, 120] ++ pairP a ++ [45] ++ pairP b ++ y from by simp [hexesP]]
    exact this
  have hb : baseZ (hexesP [37, 120] [45] [a, b] ++ y) = 16 := by rw [e2]; exact base_120 _
  have hrd : readP (hexesP [37, 120] [45] [a, b] ++ y) = valuesP (hexesP [37, 120] [45] [a, b] ++ y) := by rw [e2]; exact read_37 _
  rw [hrd]
  unfold valuesP
  rw [hb, hv, valuesOf, if_pos hst, hv2, rangeOf, if_neg (by omega)]
  simp [hexesP, pairP]

/-! ### how often -/
theorem number_snoc (b : Int) : ∀ (l : List UInt8) (a : Int) (c : UInt8), numberFrom b a (l ++ [c]) = numberFrom b a l * b + digitOfZ c.toNat := by
  intro l
  induction l with
  | nil => intro a c; rfl
  | cons d r ih => intro a c; exact ih _ c
theorem digit_facts (k : Nat) (h : k < 10) : digitZ (UInt8.ofNat (48 + k)).toNat = true ∧ digitOfZ (UInt8.ofNat (48 + k)).toNat = k := by
  have : ∀ k : Fin 10, digitZ (UInt8.ofNat (48 + k.val)).toNat = true ∧ digitOfZ (UInt8.ofNat (48 + k.val)).toNat = k.val := by decide
  exact this ⟨k, h⟩
theorem dec_facts : ∀ (n : Nat), (∀ c ∈ Lib.decDigits n, digitZ c.toNat = true) ∧ numberZ 10 (Lib.decDigits n) = n ∧ Lib.decDigits n ≠ [] := by
  intro n
  induction n using Nat.strongRecOn with
  | _ n ih =>
    by_cases h : n < 10
    · obtain ⟨h1, h2⟩ := digit_facts n h
      rw [Lib.decDigits, dif_pos h]
      refine ⟨fun c hc => ?_, ?_, by simp⟩
      · rw [List.mem_singleton] at hc; subst hc; exact h1
      · show (0 : Int) * 10 + digitOfZ _ = _
        rw [h2]
        omega
    · obtain ⟨i1, i2, i3⟩ := ih (n / 10) (by omega)
      obtain ⟨h1, h2⟩ := digit_facts (n % 10) (by omega)
      rw [Lib.decDigits, dif_neg h]
      refine ⟨fun c hc => ?_, ?_, by simp⟩
      · rcases List.mem_append.1 hc with hc | hc
        · exact i1 c hc
        · rw [List.mem_singleton] at hc; subst hc; exact h1
      · unfold numberZ at *
        rw [number_snoc, i2, h2]
        omega
theorem dec_len (n : Nat) (h : n ≤ 9999) : (Lib.decDigits n).length ≤ 4 := by
  rw [Lib.decDigits_length]
  by_cases h1 : n < 10
  · rw [Lib.nDigits_small h1]; omega
  rw [Lib.nDigits_big h1]
  by_cases h2 : n / 10 < 10
  · rw [Lib.nDigits_small h2]; omega
  rw [Lib.nDigits_big h2]
  by_cases h3 : n / 10 / 10 < 10
  · rw [Lib.nDigits_small h3]; omega
  rw [Lib.nDigits_big h3, Lib.nDigits_small (by omega)]
  omega
theorem itoa_facts (n : Int) (h0 : 0 ≤ n) (h1 : n ≤ 9999) : (∀ c ∈ Lib.itoa n, digitZ c.toNat = true) ∧ numberZ 10 (Lib.itoa n) = n ∧ 1 ≤ (Lib.itoa n).length ∧ (Lib.itoa n).length ≤ 4 := by
  obtain ⟨k, rfl⟩ : ∃ k : Nat, n = k := ⟨n.toNat, by omega⟩
  have e : Lib.itoa (k : Int) = Lib.decDigits k := by unfold Lib.itoa; rw [if_neg (by omega)]; simp
  obtain ⟨a, b, c⟩ := dec_facts k
  rw [e]
  exact ⟨a, b, List.length_pos_iff.2 c, dec_len k (by omega)⟩
theorem read_times (l : List UInt8) (c : UInt8) (r : List UInt8) (hl : l = c :: r) (h : timesZ c.toNat = true) : readP l = timesP l := by
  subst hl
  have hc : c = 42 ∨ c = 48 ∨ c = 49 ∨ c = 50 ∨ c = 51 ∨ c = 52 ∨ c = 53 ∨ c = 54 ∨ c = 55 ∨ c = 56 ∨ c = 57 := byte_all (p := fun c => timesZ c.toNat = true → (c = 42 ∨ c = 48 ∨ c = 49 ∨ c = 50 ∨ c = 51 ∨ c = 52 ∨ c = 53 ∨ c = 54 ∨ c = 55 ∨ c = 56 ∨ c = 57)) (by decide +kernel) c h
  rcases hc with rfl | rfl | rfl | rfl | rfl | rfl | rfl | rfl | rfl | rfl | rfl <;> rfl
theorem times_42 (d e y : List UInt8) (hd : ∀ c ∈ d, digitZ c.toNat = true) (he : ∀ c ∈ e, digitZ c.toNat = true) (h1 : d.length ≤ 4) (h2 : e.length ≤ 4) (hy : Stops digitZ y) (hle : 0 < e.length → numberZ 10 d ≤ numberZ 10 e) :
    timesP (d ++ [42] ++ e ++ y) = timesTok (numberZ 10 d) (if 0 < e.length then numberZ 10 e else -1) (d ++ [42] ++ e).length := by
  have e1 : d ++ [42] ++ e ++ y = d ++ (42 :: (e ++ y)) := by simp
  have hs : spanZ digitZ (d ++ (42 :: (e ++ y))) = d.length := span_app digitZ d _ hd (.inr ⟨42, _, rfl, by decide⟩)
  have hst : standsB (d ++ (42 :: (e ++ y))) d.length 42 = true := by rw [stands_app]; rfl
  have hdr : (d ++ (42 :: (e ++ y))).drop (d.length + 1) = e ++ y := by
    rw [← List.drop_drop, List.drop_left]
    rfl
  have hs2 : spanZ digitZ (e ++ y) = e.length := span_app digitZ e y he hy
  unfold timesP
  rw [e1, hs, hdr, hs2, if_neg (by omega), if_pos hst, if_neg (by omega), List.take_left, List.take_left]
  by_cases h0 : 0 < e.length
  · rw [if_pos h0, if_pos h0, if_neg (by have := hle h0; omega)]
    have hl : (d ++ [42] ++ e : List UInt8).length = d.length + 1 + e.length := by rw [List.length_append, List.length_append]; rfl
    rw [hl]
  · rw [if_neg h0, if_neg h0]
    have h3 : e.length = 0 := by omega
    have hl : (d ++ [42] ++ e : List UInt8).length = d.length + 1 := by rw [List.length_append, List.length_append, h3]; rfl
    rw [hl]
theorem times_plain (d y : List UInt8) (hd : ∀ c ∈ d, digitZ c.toNat = true) (h1 : d.length ≤ 4) (hy : Stops timesZ y) : timesP (d ++ y) = timesTok (numberZ 10 d) (numberZ 10 d) d.length := by
  have hy1 : Stops digitZ y := by
    rcases hy with rfl | ⟨c, r, rfl, hc⟩
    · exact .inl rfl
    · refine .inr ⟨c, r, rfl, ?_⟩
      unfold timesZ at hc
      rw [Bool.or_eq_false_iff] at hc
      exact hc.1
  have hs : spanZ digitZ (d ++ y) = d.length := span_app digitZ d y hd hy1
  have hst : standsB (d ++ y) d.length 42 = false := by
    rcases hy with rfl | ⟨c, r, rfl, hc⟩
    · rw [List.append_nil]; exact stands_none _ _
    · rw [stands_app]
      unfold timesZ at hc
      rw [Bool.or_eq_false_iff] at hc
      exact hc.2
  unfold timesP
  rw [hs, if_neg (by omega), if_neg (by rw [hst]; exact Bool.false_ne_true), List.take_left]
theorem read_often (mn mx : Int) (y : List UInt8) (ht : timesB mn mx = true) (hy : Stops timesZ y) : readP (timesTextP mn mx ++ y) = { tok := { kind := 9, mn := mn, mx := mx }, size := (timesTextP mn mx).length } ∧ timesTextP mn mx ≠ [] := by
  simp only [timesB, Bool.and_eq_true, Bool.or_eq_true, decide_eq_true_eq, beq_iff_eq] at ht
  obtain ⟨⟨h0, h1⟩, h2⟩ := ht
  obtain ⟨m1, m2, m3, m4⟩ := itoa_facts mn h0 h1
  have hy1 : Stops digitZ y := by
    rcases hy with rfl | ⟨c, r, rfl, hc⟩
    · exact .inl rfl
    · refine .inr ⟨c, r, rfl, ?_⟩
      unfold timesZ at hc
      rw [Bool.or_eq_false_iff] at hc
      exact hc.1
  by_cases he : mx = mn
  · subst he
    have e : timesTextP mx mx = Lib.itoa mx := by unfold timesTextP; rw [if_pos rfl]
    rw [e]
    obtain ⟨c, r, hcr⟩ : ∃ c r, Lib.itoa mx = c :: r := by
      cases hl : Lib.itoa mx with
      | nil => rw [hl] at m3; simp at m3
      | cons c r => exact ⟨c, r, rfl⟩
    refine ⟨?_, by rw [hcr]; simp⟩
    rw [read_times (Lib.itoa mx ++ y) c (r ++ y) (by rw [hcr]; rfl) (by unfold timesZ; rw [m1 c (by rw [hcr]; simp)]; rfl), times_plain _ _ m1 m4 hy, m2]
    rfl
  · have e : timesTextP mn mx = (if 0 < mn then Lib.itoa mn else []) ++ [42] ++ (if 0 ≤ mx then Lib.itoa mx else []) := by unfold timesTextP; rw [if_neg he]
    have hD : ∃ D : List UInt8, D = (if 0 < mn then Lib.itoa mn else []) ∧ (∀ c ∈ D, digitZ c.toNat = true) ∧ D.length ≤ 4 ∧ numberZ 10 D = mn := by
      by_cases hp : 0 < mn
      · exact ⟨_, by rw [if_pos hp], m1, m4, m2⟩
      · exact ⟨[], by rw [if_neg hp], (fun c hc => by cases hc), by simp, by show (0 : Int) = mn; omega⟩
    have hE : ∃ E : List UInt8, E = (if 0 ≤ mx then Lib.itoa mx else []) ∧ (∀ c ∈ E, digitZ c.toNat = true) ∧ E.length ≤ 4 ∧ (0 < E.length → mn ≤ numberZ 10 E) ∧ (if 0 < E.length then numberZ 10 E else -1) = mx := by
      by_cases hp : 0 ≤ mx
      · obtain ⟨x1, x2, x3, x4⟩ := itoa_facts mx hp (by omega)
        exact ⟨_, by rw [if_pos hp], x1, x4, fun _ => by rw [x2]; omega, by rw [if_pos (by omega), x2]⟩
      · exact ⟨[], by rw [if_neg hp], (fun c hc => by cases hc), by simp, (fun h => by simp at h), by simp; omega⟩
    obtain ⟨D, d1, d2, d3, d4⟩ := hD
    obtain ⟨E, e1, e2, e3, e4, e5⟩ := hE
    rw [e, ← d1, ← e1]
    refine ⟨?_, by simp⟩
    have hrd : readP (D ++ [42] ++ E ++ y) = timesP (D ++ [42] ++ E ++ y) := by
      cases D with
      | nil => exact read_times _ 42 (E ++ y) (by simp) (by decide)
      | cons c r => exact read_times _ c (r ++ [42] ++ E ++ y) (by simp) (by unfold timesZ; rw [d2 c (by simp)]; rfl)
    rw [hrd, times_42 D E y d2 e2 d3 e3 hy1 (fun h => by rw [d4]; exact e4 h), d4, e5]
    rfl
end Go.Proofs.YtgbipbjpeecooaaGreatDoor

/-
  The tokens of a printed tree and of a printed rule, in plain terms. No conditions.
-/
namespace Go.Proofs.YtgbipbjpeecooaaGreatDoor
open Go.RowKit

def tOpen : Tk := { kind := 5 }
def tShut : Tk := { kind := 6 }
def kidT (f : Tr → List Tk) (br : List Int) (k : Tr) : List Tk := if br.contains k.kind then [tOpen] ++ f k ++ [tShut] else f k
def kidsTF (f : Tr → List Tk) (ahead between : List Tk) (br : List Int) : List Tr → List Tk
  | [] => []
  | k :: r => ahead ++ kidT f br k ++ kidsTF f between between br r
def toksD : Nat → Tr → List Tk
  | 0, _ => []
  | d + 1, t =>
    if t.kind = 1 then [{ kind := 1, text := t.text }]
    else if t.kind = 2 then [{ kind := 10, text := t.text }]
    else if t.kind = 3 then [{ kind := 11, text := t.text }]
    else if t.kind = 4 then [{ kind := 12, lo := t.lo, hi := t.hi }]
    else if t.kind = 7 then [{ kind := 9, mn := t.mn, mx := t.mx }] ++ kidsTF (toksD d) [] [] [7, 5, 6] t.kids
    else if t.kind = 5 then kidsTF (toksD d) [] [] [5, 6] t.kids
    else if t.kind = 6 then kidsTF (toksD d) [] [{ kind := 4 }] [6] t.kids
    else []

/-- what is known of a tree by being right -/
theorem right_kinds {d : Nat} {t : Tr} (h : rightD d t = true) : ∃ e, d = e + 1 ∧ aloneB t = true ∧ (∀ k ∈ t.kids, rightD e k = true) := by
  cases d with
  | zero => cases h
  | succ e =>
    have e1 : rightD (e + 1) t = (aloneB t && t.kids.all (rightD e)) := rfl
    rw [e1, Bool.and_eq_true, List.all_eq_true] at h
    exact ⟨e, rfl, h.1, h.2⟩
theorem alone_1 {t : Tr} (h : aloneB t = true) (hk : t.kind = 1) : nameB t.text = true ∧ t = .mk 1 t.text 0 0 0 0 [] := by
  obtain ⟨k, tx, lo, hi, mn, mx, ks⟩ := t
  change k = 1 at hk
  subst hk
  have e : aloneB (.mk 1 tx lo hi mn mx ks) = (nameB tx && (lo == 0 && hi == 0) && (mn == 0 && mx == 0) && ks.length == 0) := rfl
  rw [e] at h
  simp only [Bool.and_eq_true, beq_iff_eq, List.length_eq_zero_iff] at h
  obtain ⟨⟨⟨h1, rfl, rfl⟩, rfl, rfl⟩, rfl⟩ := h
  exact ⟨h1, rfl⟩
theorem alone_2 {t : Tr} (h : aloneB t = true) (hk : t.kind = 2) : charsB t.text = true ∧ t = .mk 2 t.text 0 0 0 0 [] := by
  obtain ⟨k, tx, lo, hi, mn, mx, ks⟩ := t
  change k = 2 at hk
  subst hk
  have e : aloneB (.mk 2 tx lo hi mn mx ks) = (charsB tx && (lo == 0 && hi == 0) && (mn == 0 && mx == 0) && ks.length == 0) := rfl
  rw [e] at h
  simp only [Bool.and_eq_true, beq_iff_eq, List.length_eq_zero_iff] at h
  obtain ⟨⟨⟨h1, rfl, rfl⟩, rfl, rfl⟩, rfl⟩ := h
  exact ⟨h1, rfl⟩
theorem alone_3 {t : Tr} (h : aloneB t = true) (hk : t.kind = 3) : t.text ≠ [] ∧ t = .mk 3 t.text 0 0 0 0 [] := by
  obtain ⟨k, tx, lo, hi, mn, mx, ks⟩ := t
  change k = 3 at hk
  subst hk
  have e : aloneB (.mk 3 tx lo hi mn mx ks) = (!tx.isEmpty && (lo == 0 && hi == 0) && (mn == 0 && mx == 0) && ks.length == 0) := rfl
  rw [e] at h
  simp only [Bool.and_eq_true, beq_iff_eq, List.length_eq_zero_iff, Bool.not_eq_true', List.isEmpty_eq_false_iff] at h
  obtain ⟨⟨⟨h1, rfl, rfl⟩, rfl, rfl⟩, rfl⟩ := h
  exact ⟨h1, rfl⟩
theorem alone_4 {t : Tr} (h : aloneB t = true) (hk : t.kind = 4) : t.lo ≤ t.hi ∧ t = .mk 4 [] t.lo t.hi 0 0 [] := by
  obtain ⟨k, tx, lo, hi, mn, mx, ks⟩ := t
  change k = 4 at hk
  subst hk
  have e : aloneB (.mk 4 tx lo hi mn mx ks) = (tx.isEmpty && decide (lo ≤ hi) && (mn == 0 && mx == 0) && ks.length == 0) := rfl
  rw [e] at h
  simp only [Bool.and_eq_true, beq_iff_eq, List.length_eq_zero_iff, List.isEmpty_iff, decide_eq_true_eq] at h
  obtain ⟨⟨⟨rfl, h1⟩, rfl, rfl⟩, rfl⟩ := h
  exact ⟨h1, rfl⟩
theorem alone_56 {t : Tr} (h : aloneB t = true) (hk : t.kind = 5 ∨ t.kind = 6) : 2 ≤ t.kids.length ∧ t = .mk t.kind [] 0 0 0 0 t.kids := by
  obtain ⟨k, tx, lo, hi, mn, mx, ks⟩ := t
  change k = 5 ∨ k = 6 at hk
  have e : aloneB (.mk k tx lo hi mn mx ks) = (tx.isEmpty && (lo == 0 && hi == 0) && (mn == 0 && mx == 0) && decide (2 ≤ ks.length)) := by
    rcases hk with rfl | rfl <;> rfl
  rw [e] at h
  simp only [Bool.and_eq_true, beq_iff_eq, List.isEmpty_iff, decide_eq_true_eq] at h
  obtain ⟨⟨⟨rfl, rfl, rfl⟩, rfl, rfl⟩, h1⟩ := h
  exact ⟨h1, rfl⟩
theorem alone_7 {t : Tr} (h : aloneB t = true) (hk : t.kind = 7) : timesB t.mn t.mx = true ∧ ∃ k, t = .mk 7 [] 0 0 t.mn t.mx [k] := by
  obtain ⟨k, tx, lo, hi, mn, mx, ks⟩ := t
  change k = 7 at hk
  subst hk
  have e : aloneB (.mk 7 tx lo hi mn mx ks) = (tx.isEmpty && (lo == 0 && hi == 0) && timesB mn mx && ks.length == 1) := rfl
  rw [e] at h
  simp only [Bool.and_eq_true, beq_iff_eq, List.isEmpty_iff] at h
  obtain ⟨⟨⟨rfl, rfl, rfl⟩, h1⟩, h2⟩ := h
  match ks, h2 with
  | [x], _ => exact ⟨h1, x, rfl⟩
theorem alone_kind {t : Tr} (h : aloneB t = true) : t.kind = 1 ∨ t.kind = 2 ∨ t.kind = 3 ∨ t.kind = 4 ∨ t.kind = 5 ∨ t.kind = 6 ∨ t.kind = 7 := by
  unfold aloneB at h
  by_cases h1 : t.kind = 1
  · exact .inl h1
  rw [if_neg h1] at h
  by_cases h2 : t.kind = 2
  · exact .inr (.inl h2)
  rw [if_neg h2] at h
  by_cases h3 : t.kind = 3
  · exact .inr (.inr (.inl h3))
  rw [if_neg h3] at h
  by_cases h4 : t.kind = 4
  · exact .inr (.inr (.inr (.inl h4)))
  rw [if_neg h4] at h
  by_cases h5 : t.kind = 5 ∨ t.kind = 6
  · omega
  rw [if_neg h5] at h
  by_cases h7 : t.kind = 7
  · omega
  rw [if_neg h7] at h
  cases h

/-! ### single tokens -/
theorem mid_open (y : List UInt8) (ts : List Tk) (h : Mid y ts) : Mid ([40] ++ y) ([tOpen] ++ ts) := mid_piece [40] y tOpen ts rfl (by decide) rfl (by simp) h
theorem mid_shut (y : List UInt8) (ts : List Tk) (h : Mid y ts) : Mid ([41] ++ y) ([tShut] ++ ts) := mid_piece [41] y tShut ts rfl (by decide) rfl (by simp) h
theorem mid_slash (y : List UInt8) (ts : List Tk) (h : Mid y ts) : Mid ([47] ++ y) ([{ kind := 4 }] ++ ts) := mid_piece [47] y { kind := 4 } ts rfl (by decide) rfl (by simp) h
theorem mid_gap (y : List UInt8) (ts : List Tk) (h : Mid y ts) : Mid ([32] ++ y) ts := mid_blank 32 y ts rfl h
theorem mid_or (y : List UInt8) (ts : List Tk) (h : Mid y ts) : Mid ([32, 47, 32] ++ y) ([{ kind := 4 }] ++ ts) := mid_gap _ _ (mid_slash _ _ (mid_gap _ _ h))

/-- how a text is read that ends where it may -/
def Reads (x : List UInt8) (us : List Tk) : Prop := ∀ y ts, Ends y → Mid y ts → Mid (x ++ y) (us ++ ts)
theorem reads_bracket {x : List UInt8} {us : List Tk} (h : Reads x us) : Reads ([40] ++ x ++ [41]) ([tOpen] ++ us ++ [tShut]) := by
  intro y ts hy hm
  rw [show [40] ++ x ++ [41] ++ y = [40] ++ (x ++ ([41] ++ y)) from by simp, show [tOpen] ++ us ++ [tShut] ++ ts = [tOpen] ++ (us ++ ([tShut] ++ ts)) from by simp]
  exact mid_open _ _ (h _ _ (.inr (.inr ⟨y, rfl⟩)) (mid_shut _ _ hm))
theorem reads_kid {f : Tr → List UInt8} {g : Tr → List Tk} {br : List Int} {k : Tr} (h : Reads (f k) (g k)) : Reads (kidP f br k) (kidT g br k) := by
  unfold kidP kidT
  split
  · exact reads_bracket h
  · exact h
theorem ends_32 (y : List UInt8) : Ends (32 :: y) := .inr (.inl ⟨y, rfl⟩)
/-- kids with blanks between, and perhaps more than a blank -/
theorem reads_kids (f : Tr → List UInt8) (g : Tr → List Tk) (br : List Int) (bw : List UInt8) (tw : List Tk) (hbw : ∃ z, bw = 32 :: z) (hmid : ∀ y ts, Mid y ts → Mid (bw ++ y) (tw ++ ts)) : ∀ (ks : List Tr), (∀ k ∈ ks, Reads (f k) (g k)) →
    Reads (kidsF f bw bw br ks) (kidsTF g tw tw br ks) ∧ (ks ≠ [] → Reads (kidsF f [] bw br ks) (kidsTF g [] tw br ks)) := by
  intro ks
  induction ks with
  | nil => intro _; exact ⟨fun y ts _ hm => hm, fun h => absurd rfl h⟩
  | cons k r ih =>
    intro h
    have hk := reads_kid (br := br) (h k (by simp))
    have hr := (ih (fun x hx => h x (by simp [hx]))).1
    have key : ∀ y ts, Ends y → Mid y ts → Mid (kidP f br k ++ (kidsF f bw bw br r ++ y)) (kidT g br k ++ (kidsTF g tw tw br r ++ ts)) := by
      intro y ts hy hm
      refine hk _ _ ?_ (hr y ts hy hm)
      cases r with
      | nil => exact hy
      | cons k2 r =>
        obtain ⟨z, rfl⟩ := hbw
        exact .inr (.inl ⟨z ++ kidP f br k2 ++ kidsF f (32 :: z) (32 :: z) br r ++ y, by simp [kidsF]⟩)
    constructor
    · intro y ts hy hm
      have := hmid _ _ (key y ts hy hm)
      rw [show kidsF f bw bw br (k :: r) ++ y = bw ++ (kidP f br k ++ (kidsF f bw bw br r ++ y)) from by simp [kidsF], show kidsTF g tw tw br (k :: r) ++ ts = tw ++ (kidT g br k ++ (kidsTF g tw tw br r ++ ts)) from by simp [kidsTF]]
      exact this
    · intro _ y ts hy hm
      have := key y ts hy hm
      rw [show kidsF f [] bw br (k :: r) ++ y = kidP f br k ++ (kidsF f bw bw br r ++ y) from by simp [kidsF], show kidsTF g [] tw br (k :: r) ++ ts = kidT g br k ++ (kidsTF g tw tw br r ++ ts) from by simp [kidsTF]]
      exact this
/-- a printed tree's first byte, where it is no row of several -/
theorem first_kid {d : Nat} {k : Tr} (h : rightD d k = true) (y : List UInt8) : Stops timesZ (kidP (printD d) [7, 5, 6] k ++ y) := by
  obtain ⟨e, rfl, ha, _⟩ := right_kinds h
  unfold kidP
  split
  · exact .inr ⟨40, printD (e + 1) k ++ [41] ++ y, by simp, by decide⟩
  · rename_i hbr
    have hn : k.kind ≠ 7 ∧ k.kind ≠ 5 ∧ k.kind ≠ 6 := by
      simp only [List.contains_cons, List.contains_nil, Bool.or_false, Bool.or_eq_true, beq_iff_eq, not_or] at hbr
      exact hbr
    rcases alone_kind ha with h1 | h1 | h1 | h1 | h1 | h1 | h1
    · obtain ⟨hnm, _⟩ := alone_1 ha h1
      obtain ⟨c, r, hcr, hl, _⟩ := name_parts hnm
      refine .inr ⟨c, r ++ y, by rw [printD, if_pos h1, hcr]; rfl, ?_⟩
      exact byte_all (p := fun c => letterZ c.toNat = true → timesZ c.toNat = false) (by decide +kernel) c hl
    · exact .inr ⟨34, k.text ++ [34] ++ y, by rw [printD, if_neg (by omega), if_pos h1]; simp, by decide⟩
    · obtain ⟨hne, _⟩ := alone_3 ha h1
      cases htx : k.text with
      | nil => exact absurd htx hne
      | cons x r => exact .inr ⟨37, [120] ++ pairP x ++ hexesP [46] [46] r ++ y, by rw [printD, if_neg (by omega), if_neg (by omega), if_pos h1, htx]; simp [hexesP], by decide⟩
    · exact .inr ⟨37, _, by rw [printD, if_neg (by omega), if_neg (by omega), if_neg (by omega), if_pos h1]; simp only [hexesP]; rfl, by decide⟩
    · omega
    · omega
    · omega
/-- a printed tree is read as its tokens -/
theorem print_reads : ∀ (d : Nat) (t : Tr), rightD d t = true → byteD d t → Reads (printD d t) (toksD d t) := by
  intro d
  induction d with
  | zero => intro t h; cases h
  | succ d ih =>
    intro t h hy
    obtain ⟨e, he, ha, hkids⟩ := right_kinds h
    obtain rfl : d = e := by omega
    obtain ⟨hlo, hhi, hby⟩ := hy
    have hrec : ∀ k ∈ t.kids, Reads (printD d k) (toksD d k) := fun k hk => ih k (hkids k hk) (hby k hk)
    rcases alone_kind ha with h1 | h1 | h1 | h1 | h1 | h1 | h1
    · intro y ts hE hm
      rw [printD, toksD, if_pos h1, if_pos h1]
      exact mid_piece _ _ _ _ (read_word _ _ (name_parts (alone_1 ha h1).1) (hE.stops _ (by decide) (by decide))) (by show (1 : Int) ≠ 0; omega) rfl (by obtain ⟨c, r, hcr, _⟩ := name_parts (alone_1 ha h1).1; rw [hcr]; simp) hm
    · intro y ts hE hm
      rw [printD, toksD, if_neg (by omega), if_pos h1, if_neg (by omega), if_pos h1]
      exact mid_piece _ _ _ _ (read_quoted _ _ (alone_2 ha h1).1) (by show (10 : Int) ≠ 0; omega) rfl (by simp) hm
    · intro y ts hE hm
      rw [printD, toksD, if_neg (by omega), if_neg (by omega), if_pos h1, if_neg (by omega), if_neg (by omega), if_pos h1]
      obtain ⟨hne, _⟩ := alone_3 ha h1
      cases htx : t.text with
      | nil => exact absurd htx hne
      | cons x r => exact mid_piece _ _ _ _ (read_bytes x r y hE) (by show (11 : Int) ≠ 0; omega) rfl (by simp [hexesP]) hm
    · intro y ts hE hm
      rw [printD, toksD, if_neg (by omega), if_neg (by omega), if_neg (by omega), if_pos h1, if_neg (by omega), if_neg (by omega), if_neg (by omega), if_pos h1]
      obtain ⟨hle, _⟩ := alone_4 ha h1
      have e1 := byteOf_toNat t.lo hlo.1 hlo.2
      have e2 := byteOf_toNat t.hi hhi.1 hhi.2
      have := mid_piece _ _ _ _ (read_range (byteOf t.lo) (byteOf t.hi) y hE (by rw [e1, e2]; exact hle)) (by show (12 : Int) ≠ 0; omega) rfl (by simp [hexesP]) hm
      rw [e1, e2] at this
      exact this
    · rw [printD, toksD, if_neg (by omega), if_neg (by omega), if_neg (by omega), if_neg (by omega), if_neg (by omega), if_pos h1, if_neg (by omega), if_neg (by omega), if_neg (by omega), if_neg (by omega), if_neg (by omega), if_pos h1]
      have h2 := (alone_56 ha (.inl h1)).1
      exact (reads_kids (printD d) (toksD d) [5, 6] [32] [] ⟨[], rfl⟩ mid_gap t.kids hrec).2 (fun e => by rw [e] at h2; simp at h2)
    · rw [printD, toksD, if_neg (by omega), if_neg (by omega), if_neg (by omega), if_neg (by omega), if_neg (by omega), if_neg (by omega), if_pos h1, if_neg (by omega), if_neg (by omega), if_neg (by omega), if_neg (by omega), if_neg (by omega), if_neg (by omega), if_pos h1]
      have h2 := (alone_56 ha (.inr h1)).1
      exact (reads_kids (printD d) (toksD d) [6] [32, 47, 32] [{ kind := 4 }] ⟨[47, 32], rfl⟩ mid_or t.kids hrec).2 (fun e => by rw [e] at h2; simp at h2)
    · intro y ts hE hm
      obtain ⟨htm, k, hk⟩ := alone_7 ha h1
      have hks : t.kids = [k] := by rw [hk]; rfl
      rw [printD, toksD, if_neg (by omega), if_neg (by omega), if_neg (by omega), if_neg (by omega), if_pos h1, if_neg (by omega), if_neg (by omega), if_neg (by omega), if_neg (by omega), if_pos h1, hks]
      have hkk : k ∈ t.kids := by rw [hks]; simp
      have hm2 := reads_kid (br := [7, 5, 6]) (hrec k hkk) y ts hE hm
      rw [show timesTextP t.mn t.mx ++ kidsP (printD d) [] [7, 5, 6] [k] ++ y = timesTextP t.mn t.mx ++ (kidP (printD d) [7, 5, 6] k ++ y) from by simp [kidsP, kidsF], show [({ kind := 9, mn := t.mn, mx := t.mx } : Tk)] ++ kidsTF (toksD d) [] [] [7, 5, 6] [k] ++ ts = { kind := 9, mn := t.mn, mx := t.mx } :: (kidT (toksD d) [7, 5, 6] k ++ ts) from by simp [kidsTF]]
      obtain ⟨hr, hne⟩ := read_often t.mn t.mx (kidP (printD d) [7, 5, 6] k ++ y) htm (first_kid (hkids k hkk) y)
      exact mid_piece _ _ _ _ hr (by show (9 : Int) ≠ 0; omega) rfl hne hm2
end Go.Proofs.YtgbipbjpeecooaaGreatDoor

/-
  The tokens of a printed tree are parsed as that tree, in plain terms. No conditions.
-/
namespace Go.Proofs.YtgbipbjpeecooaaGreatDoor
open Go.RowKit

/-! ### fuel -/
theorem stands_lt {l : List Tk} {at_ : Nat} {ks : List Int} (h : standsP l at_ ks = true) : at_ < l.length := by
  unfold standsP at h
  cases ht : l[at_]? with
  | none => rw [ht] at h; cases h
  | some t => exact (List.getElem?_eq_some_iff.1 ht).1
theorem stands_past {l : List Tk} {at_ : Nat} (ks : List Int) (h : l.length ≤ at_) : standsP l at_ ks = false := by
  unfold standsP
  rw [List.getElem?_eq_none h]
theorem leaf_past {l : List Tk} {at_ : Nat} (ks : List Int) (h : l.length ≤ at_) : leafP l at_ ks = none := by
  unfold leafP
  rw [List.getElem?_eq_none h]
theorem part_past {l : List Tk} {f at_ : Nat} {tm : Tr} {st : List Grp} (h : l.length ≤ at_) : partF l f at_ tm st = (false, at_, st) := by
  cases f with
  | zero => rfl
  | succ f => rw [partF, if_neg (by rw [stands_past _ h]; exact Bool.false_ne_true), leaf_past _ h]
theorem part_fuel (l : List Tk) : ∀ (f f' at_ : Nat) (tm : Tr) (st : List Grp), l.length < f + at_ → l.length < f' + at_ → partF l f at_ tm st = partF l f' at_ tm st := by
  intro f
  induction f with
  | zero => intro f' at_ tm st h1 h2; rw [part_past (by omega), part_past (by omega)]
  | succ f ih =>
    intro f' at_ tm st h1 h2
    by_cases hp : l.length ≤ at_
    · rw [part_past hp, part_past hp]
    · obtain ⟨f', rfl⟩ : ∃ g, f' = g + 1 := ⟨f' - 1, by omega⟩
      have hh := (howP_tree l (at_ + 1)).2.2
      rw [partF, partF]
      split
      · exact ih _ _ _ _ (by omega) (by omega)
      · rfl
theorem part_adv (l : List Tk) : ∀ (f at_ : Nat) (tm : Tr) (st : List Grp), (partF l f at_ tm st).1 = true → at_ < (partF l f at_ tm st).2.1 := by
  intro f
  induction f with
  | zero => intro at_ tm st h; cases h
  | succ f ih =>
    intro at_ tm st h
    have hh := (howP_tree l (at_ + 1)).2.2
    rw [partF] at h ⊢
    split at h
    · rename_i hs
      rw [if_pos hs]
      have := ih _ _ _ h
      omega
    · rename_i hs
      rw [if_neg hs]
      cases hl : leafP l at_ [1, 10, 11, 12] with
      | none => rw [hl] at h; cases h
      | some t => exact Nat.lt_succ_self _
theorem shut_past {l : List Tk} {f at_ : Nat} {st : List Grp} (h : l.length ≤ at_) : shutF l f at_ st = (none, at_, st) := by
  cases f with
  | zero => rfl
  | succ f => rw [shutF, if_neg (by rw [stands_past _ h]; exact Bool.false_ne_true)]
theorem shut_fuel (l : List Tk) : ∀ (f f' at_ : Nat) (st : List Grp), l.length < f + at_ → l.length < f' + at_ → shutF l f at_ st = shutF l f' at_ st := by
  intro f
  induction f with
  | zero => intro f' at_ st h1 h2; rw [shut_past (by omega), shut_past (by omega)]
  | succ f ih =>
    intro f' at_ st h1 h2
    by_cases hp : l.length ≤ at_
    · rw [shut_past hp, shut_past hp]
    · obtain ⟨f', rfl⟩ : ∃ g, f' = g + 1 := ⟨f' - 1, by omega⟩
      rw [shutF, shutF]
      split
      · split
        · rfl
        · exact ih _ _ _ (by omega) (by omega)
      · rfl
theorem partP_past {l : List Tk} {at_ : Nat} {st : List Grp} (h : l.length ≤ at_) : partP l at_ st = (false, at_, st) := by
  have e : howP l at_ = (noTree, at_) := by unfold howP; rw [List.getElem?_eq_none h]
  unfold partP
  rw [e]
  exact part_past h
theorem partP_adv {l : List Tk} {at_ : Nat} {st : List Grp} (h : (partP l at_ st).1 = true) : at_ < (partP l at_ st).2.1 := by
  have h1 := part_adv l (l.length + 1) (howP l at_).2 (howP l at_).1 st h
  have h2 := (howP_tree l at_).2.2
  unfold partP
  omega
theorem choices_fuel (l : List Tk) : ∀ (f f' at_ : Nat) (st : List Grp), l.length < f + at_ → l.length < f' + at_ → choicesF l f at_ st = choicesF l f' at_ st := by
  intro f
  induction f with
  | zero =>
    intro f' at_ st h1 h2
    cases f' with
    | zero => rfl
    | succ f' =>
      rw [choicesF, choicesF, partP_past (by omega)]
      rfl
  | succ f ih =>
    intro f' at_ st h1 h2
    by_cases hp : l.length ≤ at_
    · cases f' with
      | zero =>
        rw [choicesF, choicesF, partP_past hp]
        rfl
      | succ f' => rw [choicesF, choicesF, partP_past hp]; rfl
    · obtain ⟨f', rfl⟩ : ∃ g, f' = g + 1 := ⟨f' - 1, by omega⟩
      rw [choicesF, choicesF]
      by_cases hpp : (partP l at_ st).1 = true
      · rw [if_pos hpp, if_pos hpp]
        have ha := partP_adv hpp
        have hs := shutF_ge l (l.length + 1) (partP l at_ st).2.1 (partP l at_ st).2.2
        change (partP l at_ st).2.1 ≤ (shutP l (partP l at_ st).2.1 (partP l at_ st).2.2).2.1 at hs
        generalize shutP l (partP l at_ st).2.1 (partP l at_ st).2.2 = SP at *
        obtain ⟨o, a, s⟩ := SP
        simp only at hs
        cases o with
        | some t => rfl
        | none =>
          simp only
          split
          · exact ih _ _ _ (by omega) (by omega)
          · exact ih _ _ _ (by omega) (by omega)
      · rw [if_neg hpp, if_neg hpp]

/-! ### the parser, without fuel -/
def CC (l : List Tk) (at_ : Nat) (st : List Grp) : Option Tr × Nat := choicesF l (l.length + 1) at_ st
def AA (l : List Tk) (at_ : Nat) (st : List Grp) : Option Tr × Nat :=
  match shutP l at_ st with
  | (some t, at2, _) => (some t, at2)
  | (none, at2, st2) => if standsP l at2 [4] = true then CC l (at2 + 1) (onTop endRowP st2) else CC l at2 st2
def DD (l : List Tk) (at_ : Nat) (tm : Tr) (st : List Grp) : Option Tr × Nat :=
  if (partF l (l.length + 1) at_ tm st).1 = true then AA l (partF l (l.length + 1) at_ tm st).2.1 (partF l (l.length + 1) at_ tm st).2.2 else (none, (partF l (l.length + 1) at_ tm st).2.1)
theorem CC_eq (l : List Tk) (at_ : Nat) (st : List Grp) : CC l at_ st = DD l (howP l at_).2 (howP l at_).1 st := by
  unfold CC DD
  rw [choicesF]
  show (if (partP l at_ st).1 = true then _ else (none, (partP l at_ st).2.1)) = if (partP l at_ st).1 = true then AA l (partP l at_ st).2.1 (partP l at_ st).2.2 else (none, (partP l at_ st).2.1)
  by_cases hpp : (partP l at_ st).1 = true
  · rw [if_pos hpp, if_pos hpp]
    have ha := partP_adv hpp
    have hs := shutF_ge l (l.length + 1) (partP l at_ st).2.1 (partP l at_ st).2.2
    change (partP l at_ st).2.1 ≤ (shutP l (partP l at_ st).2.1 (partP l at_ st).2.2).2.1 at hs
    unfold AA
    generalize shutP l (partP l at_ st).2.1 (partP l at_ st).2.2 = SP at *
    obtain ⟨o, a, s⟩ := SP
    simp only at hs
    cases o with
    | some t => rfl
    | none =>
      simp only
      unfold CC
      rw [choices_fuel l l.length (l.length + 1) (a + 1) _ (by omega) (by omega), choices_fuel l l.length (l.length + 1) a _ (by omega) (by omega)]
  · rw [if_neg hpp, if_neg hpp]

/-! ### what stands at a place -/
def restB (l : List Tk) (at_ : Nat) : List Tk := (l.drop at_).map bare
theorem rest_cons {l : List Tk} {at_ : Nat} {u : Tk} {r : List Tk} (h : restB l at_ = u :: r) : (∃ t, l[at_]? = some t ∧ bare t = u) ∧ restB l (at_ + 1) = r := by
  unfold restB at h ⊢
  cases hd : l.drop at_ with
  | nil => rw [hd] at h; cases h
  | cons t q =>
    rw [hd, List.map_cons] at h
    injection h with h1 h2
    refine ⟨⟨t, ?_, h1⟩, ?_⟩
    · have := List.getElem?_drop (xs := l) (i := at_) (j := 0)
      rw [hd] at this
      simpa using this.symm
    · rw [← List.drop_drop, hd]
      exact h2
theorem rest_drop {l : List Tk} {at_ : Nat} {a b : List Tk} (h : restB l at_ = a ++ b) : restB l (at_ + a.length) = b := by
  unfold restB at h ⊢
  rw [← List.drop_drop, List.map_drop, h, List.drop_left]
theorem stands_rest {l : List Tk} {at_ : Nat} {u : Tk} {r : List Tk} (h : restB l at_ = u :: r) (ks : List Int) : standsP l at_ ks = ks.contains u.kind := by
  obtain ⟨⟨t, ht, rfl⟩, _⟩ := rest_cons h
  unfold standsP
  rw [ht]
  rfl
theorem leaf_rest {l : List Tk} {at_ : Nat} {u : Tk} {r : List Tk} (h : restB l at_ = u :: r) (ks : List Int) : leafP l at_ ks = if ks.contains u.kind = true ∧ rightB (meaningP u) = true then some (meaningP u) else none := by
  obtain ⟨⟨t, ht, rfl⟩, _⟩ := rest_cons h
  unfold leafP
  rw [ht]
  rfl
theorem how_rest {l : List Tk} {at_ : Nat} {u : Tk} {r : List Tk} (h : restB l at_ = u :: r) : howP l at_ = if u.kind = 9 ∧ timesB u.mn u.mx = true then (timesT u.mn u.mx, at_ + 1) else (noTree, at_) := by
  obtain ⟨⟨t, ht, rfl⟩, _⟩ := rest_cons h
  unfold howP
  rw [ht]
  rfl
theorem onTop_last (f : Grp → Grp) : ∀ (st : List Grp) (g : Grp), onTop f (st ++ [g]) = st ++ [f g] := by
  intro st
  induction st with
  | nil => intro g; rfl
  | cons h r ih =>
    intro g
    cases r with
    | nil => rfl
    | cons k r =>
      have := ih g
      rw [List.cons_append] at this
      rw [List.cons_append, List.cons_append, onTop, this]
      rfl
theorem top_snoc (st : List Grp) (g : Grp) : topG (st ++ [g]) = g := by
  unfold topG
  simp
def newG (tm : Tr) : Grp := { shut := 6, times := tm, rows := [], parts := [] }

theorem D_leaf {l : List Tk} {at_ : Nat} {u : Tk} {r : List Tk} (h : restB l at_ = u :: r) (hk : [1, 10, 11, 12].contains u.kind = true) (hr : rightB (meaningP u) = true) (tm : Tr) (st : List Grp) (g : Grp) :
    DD l at_ tm (st ++ [g]) = AA l (at_ + 1) (st ++ [addG (repeatP tm (meaningP u)) g]) := by
  have h57 : ([5, 7] : List Int).contains u.kind = false := by
    simp only [List.contains_cons, List.contains_nil, Bool.or_false, Bool.or_eq_true, beq_iff_eq] at hk
    simp only [List.contains_cons, List.contains_nil, Bool.or_false, Bool.or_eq_false_iff, beq_eq_false_iff_ne]
    omega
  have e : partF l (l.length + 1) at_ tm (st ++ [g]) = (true, at_ + 1, st ++ [addG (repeatP tm (meaningP u)) g]) := by
    rw [partF, if_neg (by rw [stands_rest h, h57]; exact Bool.false_ne_true), leaf_rest h, if_pos ⟨hk, hr⟩]
    show (true, at_ + 1, onTop (addG (repeatP tm (meaningP u))) (st ++ [g])) = _
    rw [onTop_last]
  unfold DD
  rw [e]
  rfl
theorem D_open {l : List Tk} {at_ : Nat} {r : List Tk} (h : restB l at_ = tOpen :: r) (tm : Tr) (st : List Grp) : DD l at_ tm st = CC l (at_ + 1) (st ++ [newG tm]) := by
  have hg : openG l at_ tm = newG tm := by
    unfold openG newG
    rw [stands_rest h]
    rfl
  have hh := (howP_tree l (at_ + 1)).2.2
  have e : partF l (l.length + 1) at_ tm st = partF l (l.length + 1) (howP l (at_ + 1)).2 (howP l (at_ + 1)).1 (st ++ [newG tm]) := by
    rw [partF, if_pos (by rw [stands_rest h]; rfl), hg]
    exact part_fuel l _ _ _ _ _ (by omega) (by omega)
  rw [CC_eq]
  unfold DD
  rw [e]
theorem A_shut {l : List Tk} {at_ : Nat} {r : List Tk} (h : restB l at_ = tShut :: r) (st : List Grp) (k g : Grp) (hg : g.shut = 6) : AA l at_ (st ++ [k] ++ [g]) = AA l (at_ + 1) (st ++ [addG (wholeP g) k]) := by
  have e : shutP l at_ (st ++ [k] ++ [g]) = shutP l (at_ + 1) (st ++ [addG (wholeP g) k]) := by
    unfold shutP
    rw [shutF, top_snoc, if_pos (by rw [stands_rest h, hg]; rfl), List.dropLast_concat, if_neg (by simp), onTop_last]
    exact shut_fuel l _ _ _ _ (by omega) (by omega)
  unfold AA
  rw [e]
theorem A_end {l : List Tk} {at_ : Nat} {r : List Tk} {u : Tk} (h : restB l at_ = u :: r) (hu : u.kind = 13) (g : Grp) (hg : g.shut = 13) : AA l at_ [g] = (some (wholeP g), at_ + 1) := by
  have e : shutP l at_ [g] = (some (wholeP g), at_ + 1, []) := by
    unfold shutP
    rw [shutF, show topG [g] = g from rfl, if_pos (by rw [stands_rest h, hu, hg]; rfl), if_pos (by simp)]
  unfold AA
  rw [e]
theorem shut_not {l : List Tk} {at_ : Nat} {r : List Tk} {u : Tk} (h : restB l at_ = u :: r) (st : List Grp) (g : Grp) (hg : u.kind ≠ g.shut) : shutP l at_ (st ++ [g]) = (none, at_, st ++ [g]) := by
  unfold shutP
  rw [shutF, top_snoc, if_neg ?_]
  rw [stands_rest h]
  simp only [List.contains_cons, List.contains_nil, Bool.or_false, beq_iff_eq]
  exact hg
theorem A_or {l : List Tk} {at_ : Nat} {r : List Tk} {u : Tk} (h : restB l at_ = u :: r) (hu : u.kind = 4) (st : List Grp) (g : Grp) (hg : g.shut = 6 ∨ g.shut = 13) : AA l at_ (st ++ [g]) = CC l (at_ + 1) (st ++ [endRowP g]) := by
  unfold AA
  rw [shut_not h st g (by omega)]
  simp only
  rw [if_pos (by rw [stands_rest h, hu]; rfl), onTop_last]
theorem A_next {l : List Tk} {at_ : Nat} {r : List Tk} {u : Tk} (h : restB l at_ = u :: r) (h4 : u.kind ≠ 4) (st : List Grp) (g : Grp) (hg : u.kind ≠ g.shut) : AA l at_ (st ++ [g]) = CC l at_ (st ++ [g]) := by
  unfold AA
  rw [shut_not h st g hg]
  simp only
  rw [if_neg ?_]
  rw [stands_rest h]
  simp only [List.contains_cons, List.contains_nil, Bool.or_false, beq_iff_eq]
  exact h4

/-! ### leaves -/
theorem small_small (c : UInt8) : nameTailZ c.toNat = true → smallC c = c := byte_all (p := fun c => nameTailZ c.toNat = true → smallC c = c) (by decide +kernel) c
theorem name_small {l : List UInt8} (h : nameB l = true) : l.map smallC = l := by
  conv => rhs; rw [← List.map_id l]
  apply List.map_congr_left
  intro c hc
  cases l with
  | nil => cases hc
  | cons a r =>
    have e : nameB (a :: r) = (smallZ a.toNat && r.all (fun c => nameTailZ c.toNat)) := rfl
    rw [e, Bool.and_eq_true, List.all_eq_true] at h
    rcases List.mem_cons.1 hc with rfl | hc
    · exact small_small _ (letter_of_small _ h.1).2
    · exact small_small _ (h.2 c hc)
theorem right_leaf {t : Tr} (h : aloneB t = true) (hk : t.kids = []) : rightB t = true := by
  have e : rightB t = (aloneB t && t.kids.all (rightD 99)) := rfl
  rw [e, h, hk]
  rfl
/-- a leaf's one token -/
theorem leaf_tok {d : Nat} {t : Tr} (ha : aloneB t = true) (hk : t.kind = 1 ∨ t.kind = 2 ∨ t.kind = 3 ∨ t.kind = 4) : ∃ u, toksD (d + 1) t = [u] ∧ meaningP u = t ∧ [1, 10, 11, 12].contains u.kind = true ∧ rightB (meaningP u) = true := by
  rcases hk with h1 | h1 | h1 | h1
  · obtain ⟨hn, ht⟩ := alone_1 ha h1
    have hm : meaningP { kind := 1, text := t.text } = t := by
      show Tr.mk 1 (t.text.map smallC) 0 0 0 0 [] = t
      rw [name_small hn]
      exact ht.symm
    refine ⟨{ kind := 1, text := t.text }, by rw [toksD, if_pos h1], hm, rfl, ?_⟩
    rw [hm]
    exact right_leaf ha (by rw [ht]; rfl)
  · obtain ⟨hn, ht⟩ := alone_2 ha h1
    have hm : meaningP { kind := 10, text := t.text } = t := ht.symm
    refine ⟨{ kind := 10, text := t.text }, by rw [toksD, if_neg (by omega), if_pos h1], hm, rfl, ?_⟩
    rw [hm]
    exact right_leaf ha (by rw [ht]; rfl)
  · obtain ⟨hn, ht⟩ := alone_3 ha h1
    have hm : meaningP { kind := 11, text := t.text } = t := ht.symm
    refine ⟨{ kind := 11, text := t.text }, by rw [toksD, if_neg (by omega), if_neg (by omega), if_pos h1], hm, rfl, ?_⟩
    rw [hm]
    exact right_leaf ha (by rw [ht]; rfl)
  · obtain ⟨hn, ht⟩ := alone_4 ha h1
    have hm : meaningP { kind := 12, lo := t.lo, hi := t.hi } = t := ht.symm
    refine ⟨{ kind := 12, lo := t.lo, hi := t.hi }, by rw [toksD, if_neg (by omega), if_neg (by omega), if_neg (by omega), if_pos h1], hm, rfl, ?_⟩
    rw [hm]
    exact right_leaf ha (by rw [ht]; rfl)
def FirstK (k : Int) : Prop := k = 1 ∨ k = 10 ∨ k = 11 ∨ k = 12 ∨ k = 9 ∨ k = 5
theorem kid_first {f : Tr → List Tk} {br : List Int} {k : Tr} (h : ∃ u r, f k = u :: r ∧ FirstK u.kind) : ∃ u r, kidT f br k = u :: r ∧ FirstK u.kind := by
  unfold kidT
  split
  · exact ⟨tOpen, f k ++ [tShut], by simp, .inr (.inr (.inr (.inr (.inr rfl))))⟩
  · exact h
theorem toks_first : ∀ (d : Nat) (t : Tr), rightD d t = true → ∃ u r, toksD d t = u :: r ∧ FirstK u.kind := by
  intro d
  induction d with
  | zero => intro t h; cases h
  | succ d ih =>
    intro t h
    obtain ⟨e, he, ha, hkids⟩ := right_kinds h
    obtain rfl : d = e := by omega
    have hl : (t.kind = 1 ∨ t.kind = 2 ∨ t.kind = 3 ∨ t.kind = 4) → ∃ u r, toksD (d + 1) t = u :: r ∧ FirstK u.kind := by
      intro hk
      obtain ⟨u, h1, _, h3, _⟩ := leaf_tok (d := d) ha hk
      refine ⟨u, [], h1, ?_⟩
      simp only [List.contains_cons, List.contains_nil, Bool.or_false, Bool.or_eq_true, beq_iff_eq] at h3
      unfold FirstK
      omega
    have hks : ∀ (tw : List Tk) (br : List Int), t.kids ≠ [] → ∃ u r, kidsTF (toksD d) [] tw br t.kids = u :: r ∧ FirstK u.kind := by
      intro tw br hne
      cases hk : t.kids with
      | nil => exact absurd hk hne
      | cons k r =>
        obtain ⟨u, q, hq, hf⟩ := kid_first (br := br) (ih k (hkids k (by rw [hk]; simp)))
        exact ⟨u, q ++ kidsTF (toksD d) tw tw br r, by simp [kidsTF, hq], hf⟩
    rcases alone_kind ha with h1 | h1 | h1 | h1 | h1 | h1 | h1
    · exact hl (by omega)
    · exact hl (by omega)
    · exact hl (by omega)
    · exact hl (by omega)
    · have h2 := (alone_56 ha (.inl h1)).1
      rw [toksD, if_neg (by omega), if_neg (by omega), if_neg (by omega), if_neg (by omega), if_neg (by omega), if_pos h1]
      exact hks _ _ (fun e => by rw [e] at h2; simp at h2)
    · have h2 := (alone_56 ha (.inr h1)).1
      rw [toksD, if_neg (by omega), if_neg (by omega), if_neg (by omega), if_neg (by omega), if_neg (by omega), if_neg (by omega), if_pos h1]
      exact hks _ _ (fun e => by rw [e] at h2; simp at h2)
    · rw [toksD, if_neg (by omega), if_neg (by omega), if_neg (by omega), if_neg (by omega), if_pos h1]
      exact ⟨_, _, rfl, .inr (.inr (.inr (.inr (.inl rfl))))⟩

/-! ### parts, rows, choices -/
def PartOk (d : Nat) (t : Tr) : Prop := ∀ (l : List Tk) (at_ : Nat) (st : List Grp) (g : Grp) (rest : List Tk), restB l at_ = kidT (toksD d) [5, 6] t ++ rest → CC l at_ (st ++ [g]) = AA l (at_ + (kidT (toksD d) [5, 6] t).length) (st ++ [addG t g])
def RowOk (d : Nat) (t : Tr) : Prop := ∀ (l : List Tk) (at_ : Nat) (st : List Grp) (g : Grp) (rest : List Tk), g.parts = [] → (g.shut = 6 ∨ g.shut = 13) → restB l at_ = kidT (toksD d) [6] t ++ rest →
  ∃ ps, CC l at_ (st ++ [g]) = AA l (at_ + (kidT (toksD d) [6] t).length) (st ++ [{ g with parts := ps }]) ∧ togetherP 5 ps = t
def ContOk (d : Nat) (t : Tr) : Prop := ∀ (l : List Tk) (at_ : Nat) (st : List Grp) (g : Grp) (rest : List Tk), g.rows = [] → g.parts = [] → (g.shut = 6 ∨ g.shut = 13) → restB l at_ = toksD d t ++ rest →
  ∃ g', CC l at_ (st ++ [g]) = AA l (at_ + (toksD d t).length) (st ++ [g']) ∧ g'.shut = g.shut ∧ g'.times = g.times ∧ togetherP 6 (endRowP g').rows = t
theorem parts_many {d : Nat} : ∀ (ks : List Tr), ks ≠ [] → (∀ k ∈ ks, PartOk d k ∧ rightD d k = true) → ∀ (l : List Tk) (at_ : Nat) (st : List Grp) (g : Grp) (rest : List Tk), (g.shut = 6 ∨ g.shut = 13) → restB l at_ = kidsTF (toksD d) [] [] [5, 6] ks ++ rest →
    CC l at_ (st ++ [g]) = AA l (at_ + (kidsTF (toksD d) [] [] [5, 6] ks).length) (st ++ [{ g with parts := g.parts ++ ks }]) := by
  intro ks
  induction ks with
  | nil => intro h; exact absurd rfl h
  | cons k r ih =>
    intro _ hall l at_ st g rest hsh hR
    cases r with
    | nil =>
      have e : kidsTF (toksD d) [] [] [5, 6] [k] = kidT (toksD d) [5, 6] k := by simp [kidsTF]
      rw [e] at hR ⊢
      exact (hall k (by simp)).1 l at_ st g rest hR
    | cons k2 r =>
      have e : kidsTF (toksD d) [] [] [5, 6] (k :: k2 :: r) = kidT (toksD d) [5, 6] k ++ kidsTF (toksD d) [] [] [5, 6] (k2 :: r) := by simp [kidsTF]
      rw [e, List.append_assoc] at hR
      have h1 := (hall k (by simp)).1 l at_ st g _ hR
      have hR2 := rest_drop hR
      obtain ⟨u, q, hq, hf⟩ := kid_first (br := [5, 6]) (toks_first d k2 (hall k2 (by simp)).2)
      have hR3 : restB l (at_ + (kidT (toksD d) [5, 6] k).length) = u :: (q ++ kidsTF (toksD d) [] [] [5, 6] r ++ rest) := by
        rw [hR2]
        simp [kidsTF, hq]
      rw [h1, A_next hR3 (by unfold FirstK at hf; omega) st (addG k g) (by show u.kind ≠ g.shut; unfold FirstK at hf; omega), ih (by simp) (fun x hx => hall x (by simp [hx])) l _ st (addG k g) rest hsh hR2, e, List.length_append, ← Nat.add_assoc]
      congr 3
      show ({ g with parts := g.parts ++ [k] ++ (k2 :: r) } : Grp) = _
      rw [List.append_assoc]
      rfl
theorem rows_many {d : Nat} : ∀ (ks : List Tr), ks ≠ [] → (∀ k ∈ ks, RowOk d k) → ∀ (l : List Tk) (at_ : Nat) (st : List Grp) (g : Grp) (rest : List Tk), g.parts = [] → (g.shut = 6 ∨ g.shut = 13) → restB l at_ = kidsTF (toksD d) [] [{ kind := 4 }] [6] ks ++ rest →
    ∃ g', CC l at_ (st ++ [g]) = AA l (at_ + (kidsTF (toksD d) [] [{ kind := 4 }] [6] ks).length) (st ++ [g']) ∧ g'.shut = g.shut ∧ g'.times = g.times ∧ (endRowP g').rows = g.rows ++ ks := by
  intro ks
  induction ks with
  | nil => intro h; exact absurd rfl h
  | cons k r ih =>
    intro _ hall l at_ st g rest hp hsh hR
    cases r with
    | nil =>
      have e : kidsTF (toksD d) [] [{ kind := 4 }] [6] [k] = kidT (toksD d) [6] k := by simp [kidsTF]
      rw [e] at hR ⊢
      obtain ⟨ps, h1, h2⟩ := hall k (by simp) l at_ st g rest hp hsh hR
      exact ⟨_, h1, rfl, rfl, by show g.rows ++ [togetherP 5 ps] = _; rw [h2]⟩
    | cons k2 r =>
      have e : kidsTF (toksD d) [] [{ kind := 4 }] [6] (k :: k2 :: r) = kidT (toksD d) [6] k ++ ([{ kind := 4 }] ++ kidsTF (toksD d) [] [{ kind := 4 }] [6] (k2 :: r)) := by simp [kidsTF]
      rw [e, List.append_assoc] at hR
      obtain ⟨ps, h1, h2⟩ := hall k (by simp) l at_ st g _ hp hsh hR
      have hR2 := rest_drop hR
      have hR3 := (rest_cons (u := { kind := 4 }) (r := kidsTF (toksD d) [] [{ kind := 4 }] [6] (k2 :: r) ++ rest) (by rw [hR2]; rfl)).2
      obtain ⟨g', h3, h4, h5, h6⟩ := ih (by simp) (fun x hx => hall x (by simp [hx])) l _ st (endRowP { g with parts := ps }) rest rfl hsh hR3
      refine ⟨g', ?_, h4, h5, ?_⟩
      · rw [h1, A_or (u := { kind := 4 }) (r := kidsTF (toksD d) [] [{ kind := 4 }] [6] (k2 :: r) ++ rest) (by rw [hR2]; rfl) rfl st { g with parts := ps } hsh, h3, e]
        congr 1
        simp only [List.length_append, List.length_cons, List.length_nil]
        omega
      · rw [h6]
        show g.rows ++ [togetherP 5 ps] ++ (k2 :: r) = _
        rw [h2, List.append_assoc]
        rfl
theorem together_some (kind : Int) (ks : List Tr) (h : 2 ≤ ks.length) : togetherP kind ks = .mk kind [] 0 0 0 0 ks := by
  unfold togetherP
  rw [if_neg (by omega)]
theorem together_one (kind : Int) (k : Tr) : togetherP kind [k] = k := rfl
theorem whole_of {g g' : Grp} {t : Tr} (hs : g'.shut = g.shut) (hg : g.shut = 6 ∨ g.shut = 13) (ht : g'.times = g.times) (hw : togetherP 6 (endRowP g').rows = t) : wholeP g' = repeatP g.times t := by
  unfold wholeP mayP
  rw [hw, ht, if_neg (by omega)]
theorem repeat_no (t : Tr) : repeatP noTree t = t := rfl
theorem repeat_times (mn mx : Int) (t : Tr) : repeatP (timesT mn mx) t = .mk 7 [] 0 0 mn mx [t] := rfl

/-- a bracketed tree -/
theorem bracket_ok {d : Nat} {t : Tr} (hc : ContOk d t) (l : List Tk) (at_ : Nat) (tm : Tr) (st : List Grp) (g : Grp) (rest : List Tk) (hR : restB l at_ = [tOpen] ++ toksD d t ++ [tShut] ++ rest) :
    DD l at_ tm (st ++ [g]) = AA l (at_ + ([tOpen] ++ toksD d t ++ [tShut]).length) (st ++ [addG (repeatP tm t) g]) := by
  have hR1 : restB l at_ = tOpen :: (toksD d t ++ ([tShut] ++ rest)) := by rw [hR]; simp
  have hR2 := (rest_cons hR1).2
  obtain ⟨g', h1, h2, h3, h4⟩ := hc l (at_ + 1) (st ++ [g]) (newG tm) _ rfl rfl (.inl rfl) hR2
  have hR3 := rest_drop hR2
  rw [D_open hR1, h1, A_shut hR3 st g g' h2, whole_of h2 (.inl rfl) h3 h4]
  congr 1
  simp only [List.length_append, List.length_cons, List.length_nil]
  omega

theorem parse_ok : ∀ (d : Nat) (t : Tr), rightD d t = true → PartOk d t ∧ RowOk d t ∧ ContOk d t := by
  intro d
  induction d with
  | zero => intro t h; cases h
  | succ d ih =>
    intro t h
    obtain ⟨e, he, ha, hkids⟩ := right_kinds h
    obtain rfl : d = e := by omega
    have hpart : ∀ k ∈ t.kids, PartOk d k ∧ rightD d k = true := fun k hk => ⟨(ih k (hkids k hk)).1, hkids k hk⟩
    have hrow : ∀ k ∈ t.kids, RowOk d k := fun k hk => (ih k (hkids k hk)).2.1
    have nokid : ∀ br : List Int, br.contains t.kind = false → kidT (toksD (d + 1)) br t = toksD (d + 1) t := fun br hb => by
      unfold kidT
      rw [hb]
      rfl
    have brkid : ∀ br : List Int, br.contains t.kind = true → kidT (toksD (d + 1)) br t = [tOpen] ++ toksD (d + 1) t ++ [tShut] := fun br hb => by
      unfold kidT
      rw [hb]
      rfl
    -- a single part: a leaf, or what is repeated
    have single : PartOk (d + 1) t → (([6] : List Int).contains t.kind = false → kidT (toksD (d + 1)) [5, 6] t = kidT (toksD (d + 1)) [6] t) → kidT (toksD (d + 1)) [5, 6] t = kidT (toksD (d + 1)) [6] t → RowOk (d + 1) t := by
      intro hp _ heq l at_ st g rest hgp _ hR
      rw [← heq] at hR ⊢
      refine ⟨[t], ?_, rfl⟩
      rw [hp l at_ st g rest hR]
      unfold addG
      rw [hgp]
      rfl
    have contOfRow : RowOk (d + 1) t → kidT (toksD (d + 1)) [6] t = toksD (d + 1) t → ContOk (d + 1) t := by
      intro hr heq l at_ st g rest hgr hgp hsh hR
      rw [← heq] at hR ⊢
      obtain ⟨ps, h1, h2⟩ := hr l at_ st g rest hgp hsh hR
      refine ⟨_, h1, rfl, rfl, ?_⟩
      show togetherP 6 (g.rows ++ [togetherP 5 ps]) = t
      rw [hgr, h2]
      rfl
    have partOfCont : ([5, 6] : List Int).contains t.kind = true → ContOk (d + 1) t → PartOk (d + 1) t := by
      intro hb hc l at_ st g rest hR
      rw [brkid _ hb] at hR ⊢
      have hR1 : restB l at_ = tOpen :: (toksD (d + 1) t ++ ([tShut] ++ rest)) := by rw [hR]; simp
      have hh := how_rest hR1
      rw [if_neg (by intro hx; exact absurd hx.1 (by decide))] at hh
      rw [CC_eq, hh, bracket_ok hc l at_ noTree st g rest hR]
      rfl
    have leafPart : (t.kind = 1 ∨ t.kind = 2 ∨ t.kind = 3 ∨ t.kind = 4) → PartOk (d + 1) t := by
      intro hk l at_ st g rest hR
      rw [nokid _ (by simp only [List.contains_cons, List.contains_nil, Bool.or_false, Bool.or_eq_false_iff, beq_eq_false_iff_ne]; omega)] at hR ⊢
      obtain ⟨u, h1, h2, h3, h4⟩ := leaf_tok (d := d) ha hk
      rw [h1] at hR ⊢
      have hR1 : restB l at_ = u :: rest := by rw [hR]; rfl
      have hu9 : u.kind ≠ 9 := by
        simp only [List.contains_cons, List.contains_nil, Bool.or_false, Bool.or_eq_true, beq_iff_eq] at h3
        omega
      have hh := how_rest hR1
      rw [if_neg (by intro hx; exact hu9 hx.1)] at hh
      rw [CC_eq, hh, D_leaf hR1 h3 h4 noTree st g, h2]
      rfl
    have finish : PartOk (d + 1) t → t.kind ≠ 5 → t.kind ≠ 6 → PartOk (d + 1) t ∧ RowOk (d + 1) t ∧ ContOk (d + 1) t := by
      intro hp h5 h6
      have e1 : kidT (toksD (d + 1)) [5, 6] t = toksD (d + 1) t := nokid _ (by simp only [List.contains_cons, List.contains_nil, Bool.or_false, Bool.or_eq_false_iff, beq_eq_false_iff_ne]; omega)
      have e2 : kidT (toksD (d + 1)) [6] t = toksD (d + 1) t := nokid _ (by simp only [List.contains_cons, List.contains_nil, Bool.or_false, beq_eq_false_iff_ne]; omega)
      have hr := single hp (fun _ => by rw [e1, e2]) (by rw [e1, e2])
      exact ⟨hp, hr, contOfRow hr e2⟩
    rcases alone_kind ha with h1 | h1 | h1 | h1 | h1 | h1 | h1
    · exact finish (leafPart (by omega)) (by omega) (by omega)
    · exact finish (leafPart (by omega)) (by omega) (by omega)
    · exact finish (leafPart (by omega)) (by omega) (by omega)
    · exact finish (leafPart (by omega)) (by omega) (by omega)
    · obtain ⟨h2, ht⟩ := alone_56 ha (.inl h1)
      have hne : t.kids ≠ [] := fun e => by rw [e] at h2; simp at h2
      have et : toksD (d + 1) t = kidsTF (toksD d) [] [] [5, 6] t.kids := by rw [toksD, if_neg (by omega), if_neg (by omega), if_neg (by omega), if_neg (by omega), if_neg (by omega), if_pos h1]
      have e2 : kidT (toksD (d + 1)) [6] t = toksD (d + 1) t := nokid _ (by rw [h1]; rfl)
      have hr : RowOk (d + 1) t := by
        intro l at_ st g rest hgp hsh hR
        rw [e2, et] at hR ⊢
        refine ⟨t.kids, ?_, ?_⟩
        · rw [parts_many t.kids hne hpart l at_ st g rest hsh hR, hgp]
          rfl
        · rw [together_some 5 _ h2]
          conv => rhs; rw [ht, h1]
      have hc := contOfRow hr e2
      exact ⟨partOfCont (by rw [h1]; rfl) hc, hr, hc⟩
    · obtain ⟨h2, ht⟩ := alone_56 ha (.inr h1)
      have hne : t.kids ≠ [] := fun e => by rw [e] at h2; simp at h2
      have et : toksD (d + 1) t = kidsTF (toksD d) [] [{ kind := 4 }] [6] t.kids := by rw [toksD, if_neg (by omega), if_neg (by omega), if_neg (by omega), if_neg (by omega), if_neg (by omega), if_neg (by omega), if_pos h1]
      have hc : ContOk (d + 1) t := by
        intro l at_ st g rest hgr hgp hsh hR
        rw [et] at hR ⊢
        obtain ⟨g', h3, h4, h5, h6⟩ := rows_many t.kids hne hrow l at_ st g rest hgp hsh hR
        refine ⟨g', h3, h4, h5, ?_⟩
        rw [h6, hgr, List.nil_append, together_some 6 _ h2]
        conv => rhs; rw [ht, h1]
      have hp := partOfCont (by rw [h1]; rfl) hc
      refine ⟨hp, single hp (fun hx => by rw [h1] at hx; cases hx) ?_, hc⟩
      rw [brkid _ (by rw [h1]; rfl), brkid _ (by rw [h1]; rfl)]
    · obtain ⟨htm, k, hk⟩ := alone_7 ha h1
      have hks : t.kids = [k] := by rw [hk]; rfl
      have hkr := hkids k (by rw [hks]; simp)
      have et : toksD (d + 1) t = [{ kind := 9, mn := t.mn, mx := t.mx }] ++ kidT (toksD d) [7, 5, 6] k := by
        rw [toksD, if_neg (by omega), if_neg (by omega), if_neg (by omega), if_neg (by omega), if_pos h1, hks]
        simp [kidsTF]
      refine finish ?_ (by omega) (by omega)
      intro l at_ st g rest hR
      rw [nokid _ (by rw [h1]; rfl), et] at hR ⊢
      have hR1 : restB l at_ = { kind := 9, mn := t.mn, mx := t.mx } :: (kidT (toksD d) [7, 5, 6] k ++ rest) := by rw [hR]; rfl
      have hR2 := (rest_cons hR1).2
      have hh := how_rest hR1
      rw [if_pos ⟨rfl, htm⟩] at hh
      have hrep : repeatP (timesT t.mn t.mx) k = t := by rw [repeat_times]; exact hk.symm
      rw [CC_eq, hh]
      simp only
      by_cases hbr : ([7, 5, 6] : List Int).contains k.kind = true
      · have ek : kidT (toksD d) [7, 5, 6] k = [tOpen] ++ toksD d k ++ [tShut] := by
          unfold kidT
          rw [hbr]
          rfl
        rw [ek] at hR2 ⊢
        rw [bracket_ok (ih k hkr).2.2 l (at_ + 1) (timesT t.mn t.mx) st g rest hR2, hrep]
        congr 1
        simp only [List.length_append, List.length_cons, List.length_nil]
        omega
      · have ek : kidT (toksD d) [7, 5, 6] k = toksD d k := by
          unfold kidT
          rw [if_neg hbr]
        obtain ⟨e2, rfl, hak, _⟩ := right_kinds hkr
        have hk4 : k.kind = 1 ∨ k.kind = 2 ∨ k.kind = 3 ∨ k.kind = 4 := by
          simp only [List.contains_cons, List.contains_nil, Bool.or_false, Bool.or_eq_true, beq_iff_eq, not_or] at hbr
          have := alone_kind hak
          omega
        obtain ⟨u, u1, u2, u3, u4⟩ := leaf_tok (d := e2) hak hk4
        rw [ek, u1] at hR2 ⊢
        have hR3 : restB l (at_ + 1) = u :: rest := by rw [hR2]; rfl
        rw [D_leaf hR3 u3 u4 (timesT t.mn t.mx) st g, u2, hrep]
        rfl
/-- the tokens of a printed rule -/
theorem rule_back {l : List Tk} {at_ : Nat} {n : List UInt8} {more : Bool} {t : Tr} {rest : List Tk} (hR : restB l at_ = { kind := 1, text := n } :: { kind := if more = true then 3 else 2 } :: (toksD 100 t ++ { kind := 13 } :: rest)) (hn : nameB (n.map smallC) = true) (ht : rightB t = true) :
    ruleP l at_ = (some { name := n.map smallC, place := placeP l at_, more := more, tree := t }, at_ + 3 + (toksD 100 t).length) := by
  have hR2 := (rest_cons hR).2
  have hR3 := (rest_cons hR2).2
  have hm : meaningP { kind := 1, text := n } = .mk 1 (n.map smallC) 0 0 0 0 [] := rfl
  have hrl : rightB (meaningP { kind := 1, text := n }) = true := by
    rw [hm]
    refine right_leaf ?_ rfl
    have e : aloneB (.mk 1 (n.map smallC) 0 0 0 0 []) = (nameB (n.map smallC) && noRangeB (.mk 1 (n.map smallC) 0 0 0 0 []) && noTimesB (.mk 1 (n.map smallC) 0 0 0 0 []) && true) := rfl
    rw [e, hn]
    rfl
  have hl := leaf_rest hR [1]
  rw [if_pos ⟨rfl, hrl⟩, hm] at hl
  have hs23 : standsP l (at_ + 1) [2, 3] = true := by
    rw [stands_rest hR2]
    cases more <;> rfl
  have hs3 : standsP l (at_ + 1) [3] = more := by
    rw [stands_rest hR2]
    cases more <;> rfl
  obtain ⟨g', h1, h2, h3, h4⟩ := (parse_ok 100 t ht).2.2 l (at_ + 2) [] firstG _ rfl rfl (.inr rfl) hR3
  have hR4 := rest_drop hR3
  have hc : choicesP l (at_ + 2) = (some t, at_ + 2 + (toksD 100 t).length + 1) := by
    show CC l (at_ + 2) ([] ++ [firstG]) = _
    rw [h1, List.nil_append, A_end hR4 rfl g' h2, whole_of h2 (.inr rfl) h3 h4]
    rfl
  unfold ruleP
  rw [hl]
  simp only
  rw [if_pos hs23, hc, hs3]
  have e : at_ + 2 + (toksD 100 t).length + 1 = at_ + 3 + (toksD 100 t).length := by omega
  rw [← e]
  rfl
end Go.Proofs.YtgbipbjpeecooaaGreatDoor

/-
  What frankinglow's Grown makes of numbers, in plain terms: a right tree. No conditions.
-/
namespace Go.Proofs.YtgbipbjpeecooaaGreatDoor
open Go.RowKit

def nextP (u : List Nat) (at_ below : Nat) : Nat × Nat := if u.length ≤ at_ then (0, at_) else (u.getD at_ 0 % below, at_ + 1)
def charWords : List (List UInt8) := [[97], [97, 98], [], [98, 32, 99], [65, 45, 98], [43]]
def byteWords : List (List UInt8) := [[97], [13, 10], [65], [0, 255], [128]]
def leafG (names : List (List UInt8)) (u : List Nat) (n at_ : Nat) : Tr × Nat :=
  if n = 0 then (if names.length = 0 then (.mk 2 [98] 0 0 0 0 [], at_) else (.mk 1 (names.getD (nextP u at_ names.length).1 []) 0 0 0 0 [], (nextP u at_ names.length).2))
  else if n = 1 then (.mk 2 (charWords.getD (nextP u at_ 6).1 []) 0 0 0 0 [], (nextP u at_ 6).2)
  else if n = 2 then (.mk 3 (byteWords.getD (nextP u at_ 5).1 []) 0 0 0 0 [], (nextP u at_ 5).2)
  else (.mk 4 [] ((nextP u at_ 256).1 : Nat) (((nextP u at_ 256).1 + (nextP u (nextP u at_ 256).2 (256 - (nextP u at_ 256).1)).1 : Nat) : Int) 0 0 [], (nextP u (nextP u at_ 256).2 (256 - (nextP u at_ 256).1)).2)
def kidsG (f : Nat → Tr × Nat) : Nat → Nat → List Tr × Nat
  | 0, at_ => ([], at_)
  | m + 1, at_ => ((kidsG f m at_).1 ++ [(f (kidsG f m at_).2).1], (f (kidsG f m at_).2).2)
def someG (f : Nat → Tr × Nat) (u : List Nat) (kind : Int) (at_ : Nat) : Tr × Nat :=
  (.mk kind [] 0 0 0 0 (kidsG f (2 + (nextP u at_ 2).1) (nextP u at_ 2).2).1, (kidsG f (2 + (nextP u at_ 2).1) (nextP u at_ 2).2).2)
/-- least, most, and the place behind -/
def oftenG (u : List Nat) (at_ : Nat) : Int × Int × Nat :=
  if (nextP u at_ 5).1 = 1 then (0, 1, (nextP u at_ 5).2)
  else if (nextP u at_ 5).1 = 2 then (1, -1, (nextP u at_ 5).2)
  else if (nextP u at_ 5).1 = 3 then (2, 2, (nextP u at_ 5).2)
  else if (nextP u at_ 5).1 = 4 then (((nextP u (nextP u at_ 5).2 3).1 : Nat), (((nextP u (nextP u at_ 5).2 3).1 : Nat) : Int) + ((nextP u (nextP u (nextP u at_ 5).2 3).2 3).1 : Nat), (nextP u (nextP u (nextP u at_ 5).2 3).2 3).2)
  else (0, -1, (nextP u at_ 5).2)
def timesG (f : Nat → Tr × Nat) (u : List Nat) (at_ : Nat) : Tr × Nat := (.mk 7 [] 0 0 (oftenG u at_).1 (oftenG u at_).2.1 [(f (oftenG u at_).2.2).1], (f (oftenG u at_).2.2).2)
def pickG (f : Nat → Tr × Nat) (names : List (List UInt8)) (u : List Nat) (n at_ : Nat) : Tr × Nat :=
  if n < 4 then leafG names u n at_ else if n ≤ 6 then someG f u 5 at_ else if n ≤ 8 then someG f u 6 at_ else timesG f u at_
def growT (names : List (List UInt8)) (u : List Nat) : Nat → Nat → Tr × Nat
  | 0, at_ => leafG names u (nextP u at_ 4).1 (nextP u at_ 4).2
  | r + 1, at_ => if u.length ≤ at_ then leafG names u (nextP u at_ 4).1 (nextP u at_ 4).2 else pickG (growT names u r) names u (nextP u at_ 10).1 (nextP u at_ 10).2

theorem nextP_lt (u : List Nat) (at_ below : Nat) (h : 0 < below) : (nextP u at_ below).1 < below := by
  unfold nextP
  split
  · exact h
  · exact Nat.mod_lt _ h
theorem nextP_le (u : List Nat) (at_ below : Nat) (h : at_ ≤ u.length) : (nextP u at_ below).2 ≤ u.length ∧ at_ ≤ (nextP u at_ below).2 := by
  unfold nextP
  split <;> simp only <;> omega
/-- names that may be -/
def NamesOk (names : List (List UInt8)) : Prop := names.length ≤ 100 ∧ ∀ n ∈ names, nameB n = true ∧ n.length ≤ 1000
def texts (t : Tr) : Prop := t.text.length ≤ 1000
/-- what a grown tree is -/
structure GrownOk (d : Nat) (len : Nat) (t : Tr) : Prop where
  right : rightD d t = true
  byte : byteD d t
  text : textD d t
  long : (printD d t).length ≤ len
theorem getD_mem {α : Type} (l : List α) (i : Nat) (d : α) (h : i < l.length) : l.getD i d ∈ l := by
  rw [List.getD_eq_getElem?_getD, List.getElem?_eq_getElem h]
  exact List.getElem_mem h
theorem leaf_one {d : Nat} {t : Tr} (h1 : aloneB t = true) (h2 : t.kids = []) (h3 : 0 ≤ t.lo ∧ t.lo ≤ 255) (h4 : 0 ≤ t.hi ∧ t.hi ≤ 255) (h5 : t.text.length ≤ maxLen) (h6 : (printD (d + 1) t).length ≤ 2000) : GrownOk (d + 1) 2000 t := by
  refine ⟨?_, ⟨h3, h4, fun k hk => by rw [h2] at hk; cases hk⟩, ⟨h5, fun k hk => by rw [h2] at hk; cases hk⟩, h6⟩
  show (aloneB t && t.kids.all (rightD d)) = true
  rw [h1, h2]
  rfl
theorem leafG_ok (names : List (List UInt8)) (hn : NamesOk names) (u : List Nat) (n at_ d : Nat) : GrownOk (d + 1) 2000 (leafG names u n at_).1 := by
  have hmax : (2000 : Nat) ≤ maxLen := by unfold maxLen; omega
  have hd : ∀ (k : Int) (tx : List UInt8), (printD (d + 1) (.mk k tx 0 0 0 0 [])).length ≤ 2000 → True := fun _ _ _ => trivial
  unfold leafG
  by_cases h0 : n = 0
  · rw [if_pos h0]
    by_cases hl : names.length = 0
    · rw [if_pos hl]
      show GrownOk (d + 1) 2000 (.mk 2 [98] 0 0 0 0 [])
      exact leaf_one (by decide) rfl ⟨by decide, by decide⟩ ⟨by decide, by decide⟩ (by show 1 ≤ maxLen; omega) (by show ([34] ++ [98] ++ [34] : List UInt8).length ≤ 2000; decide)
    · rw [if_neg hl]
      have hm := hn.2 _ (getD_mem names (nextP u at_ names.length).1 [] (nextP_lt _ _ _ (by omega)))
      generalize names.getD (nextP u at_ names.length).1 [] = nm at *
      refine leaf_one ?_ rfl ⟨by show (0 : Int) ≤ 0; omega, by show (0 : Int) ≤ 255; omega⟩ ⟨by show (0 : Int) ≤ 0; omega, by show (0 : Int) ≤ 255; omega⟩ (by show nm.length ≤ maxLen; omega) (by show nm.length ≤ 2000; omega)
      show (nameB nm && true && true && true) = true
      rw [hm.1]
      rfl
  rw [if_neg h0]
  by_cases h1 : n = 1
  · rw [if_pos h1]
    have hall : ∀ x ∈ charWords, GrownOk (d + 1) 2000 (.mk 2 x 0 0 0 0 []) := by
      intro x hx
      have hb : charsB x = true ∧ x.length ≤ 100 := by
        simp only [charWords, List.mem_cons, List.not_mem_nil, or_false] at hx
        rcases hx with rfl | rfl | rfl | rfl | rfl | rfl <;> exact ⟨by decide, by decide⟩
      refine leaf_one ?_ rfl ⟨by show (0 : Int) ≤ 0; omega, by show (0 : Int) ≤ 255; omega⟩ ⟨by show (0 : Int) ≤ 0; omega, by show (0 : Int) ≤ 255; omega⟩ (by show x.length ≤ maxLen; omega) (by show ([34] ++ x ++ [34]).length ≤ 2000; simp; omega)
      show (charsB x && true && true && true) = true
      rw [hb.1]
      rfl
    exact hall _ (getD_mem charWords _ [] (nextP_lt u at_ 6 (by omega)))
  rw [if_neg h1]
  by_cases h2 : n = 2
  · rw [if_pos h2]
    have hall : ∀ x ∈ byteWords, GrownOk (d + 1) 2000 (.mk 3 x 0 0 0 0 []) := by
      intro x hx
      have hb : x ≠ [] ∧ x.length ≤ 100 ∧ (hexesP [37, 120] [46] x).length ≤ 2000 := by
        simp only [byteWords, List.mem_cons, List.not_mem_nil, or_false] at hx
        rcases hx with rfl | rfl | rfl | rfl | rfl <;> exact ⟨by decide, by decide, by decide⟩
      refine leaf_one ?_ rfl ⟨by show (0 : Int) ≤ 0; omega, by show (0 : Int) ≤ 255; omega⟩ ⟨by show (0 : Int) ≤ 0; omega, by show (0 : Int) ≤ 255; omega⟩ (by show x.length ≤ maxLen; omega) hb.2.2
      show (!x.isEmpty && true && true && true) = true
      cases x with
      | nil => exact absurd rfl hb.1
      | cons a r => rfl
    exact hall _ (getD_mem byteWords _ [] (nextP_lt u at_ 5 (by omega)))
  rw [if_neg h2]
  have hlo := nextP_lt u at_ 256 (by omega)
  have hhi := nextP_lt u (nextP u at_ 256).2 (256 - (nextP u at_ 256).1) (by omega)
  generalize (nextP u at_ 256).1 = lo at *
  generalize (nextP u (nextP u at_ 256).2 (256 - lo)).1 = hi at *
  refine leaf_one ?_ rfl ⟨by show (0 : Int) ≤ (lo : Int); omega, by show (lo : Int) ≤ 255; omega⟩ ⟨by show (0 : Int) ≤ ((lo + hi : Nat) : Int); omega, by show ((lo + hi : Nat) : Int) ≤ 255; omega⟩ (Nat.zero_le _) (by show (hexesP [37, 120] [45] [byteOf (lo : Int), byteOf ((lo + hi : Nat) : Int)]).length ≤ 2000; simp [hexesP, pairP])
  show (true && decide ((lo : Int) ≤ ((lo + hi : Nat) : Int)) && true && true) = true
  simp
  omega
theorem kidsG_len (f : Nat → Tr × Nat) : ∀ (m at_ : Nat), (kidsG f m at_).1.length = m := by
  intro m
  induction m with
  | zero => intro at_; rfl
  | succ m ih => intro at_; show ((kidsG f m at_).1 ++ [_]).length = _; rw [List.length_append, ih]; rfl
theorem kidsG_all (f : Nat → Tr × Nat) (P : Tr → Prop) (hf : ∀ a, P (f a).1) : ∀ (m at_ : Nat), ∀ k ∈ (kidsG f m at_).1, P k := by
  intro m
  induction m with
  | zero => intro at_ k hk; cases hk
  | succ m ih =>
    intro at_ k hk
    change k ∈ (kidsG f m at_).1 ++ [(f (kidsG f m at_).2).1] at hk
    rcases List.mem_append.1 hk with hk | hk
    · exact ih at_ k hk
    · rw [List.mem_singleton] at hk; subst hk; exact hf _
theorem kidsF_len (g : Tr → List UInt8) (br : List Int) (bw : List UInt8) (L : Nat) (hbw : bw.length ≤ 3) : ∀ (ks : List Tr) (a : List UInt8), a.length ≤ 3 → (∀ k ∈ ks, (g k).length ≤ L) → (kidsF g a bw br ks).length ≤ ks.length * (L + 5) := by
  intro ks
  induction ks with
  | nil => intro a _ _; simp [kidsF]
  | cons k r ih =>
    intro a ha h
    have h1 := h k (by simp)
    have h2 := ih bw hbw (fun x hx => h x (by simp [hx]))
    have h3 : (kidP g br k).length ≤ L + 2 := by
      unfold kidP
      split
      · simp; omega
      · omega
    show (a ++ kidP g br k ++ kidsF g bw bw br r).length ≤ (r.length + 1) * (L + 5)
    rw [List.length_append, List.length_append, Nat.add_mul]
    omega
def lenG : Nat → Nat
  | 0 => 2000
  | r + 1 => 3 * (lenG r + 5) + 20
theorem lenG_ge (r : Nat) : 2000 ≤ lenG r := by
  induction r with
  | zero => exact Nat.le_refl _
  | succ r ih => show 2000 ≤ 3 * (lenG r + 5) + 20; omega
theorem someG_ok (f : Nat → Tr × Nat) (r : Nat) (hf : ∀ a, GrownOk (r + 1) (lenG r) (f a).1) (u : List Nat) (kind : Int) (hk : kind = 5 ∨ kind = 6) (at_ : Nat) : GrownOk (r + 2) (lenG (r + 1)) (someG f u kind at_).1 := by
  have hm := nextP_lt u at_ 2 (by omega)
  unfold someG
  generalize nextP u at_ 2 = p at *
  have hlen := kidsG_len f (2 + p.1) p.2
  have hall := kidsG_all f (fun k => GrownOk (r + 1) (lenG r) k) hf (2 + p.1) p.2
  generalize (kidsG f (2 + p.1) p.2).1 = ks at *
  have hlong : (printD (r + 2) (.mk kind [] 0 0 0 0 ks)).length ≤ lenG (r + 1) := by
    have h5 : (printD (r + 2) (.mk 5 [] 0 0 0 0 ks)) = kidsF (printD (r + 1)) [] [32] [5, 6] ks := rfl
    have h6 : (printD (r + 2) (.mk 6 [] 0 0 0 0 ks)) = kidsF (printD (r + 1)) [] [32, 47, 32] [6] ks := rfl
    have key : ∀ br bw, bw.length ≤ 3 → (kidsF (printD (r + 1)) [] bw br ks).length ≤ lenG (r + 1) := by
      intro br bw hbw
      have := kidsF_len (printD (r + 1)) br bw (lenG r) hbw ks [] (by simp) (fun k hk => (hall k hk).long)
      have h3 : ks.length * (lenG r + 5) ≤ 3 * (lenG r + 5) := Nat.mul_le_mul_right _ (by omega)
      show _ ≤ 3 * (lenG r + 5) + 20
      omega
    rcases hk with rfl | rfl
    · rw [h5]; exact key _ _ (by simp)
    · rw [h6]; exact key _ _ (by simp)
  refine ⟨?_, ⟨⟨by show (0 : Int) ≤ 0; omega, by show (0 : Int) ≤ 255; omega⟩, ⟨by show (0 : Int) ≤ 0; omega, by show (0 : Int) ≤ 255; omega⟩, fun k hk => (hall k hk).byte⟩, ⟨Nat.zero_le _, fun k hk => (hall k hk).text⟩, hlong⟩
  show (aloneB (.mk kind [] 0 0 0 0 ks) && ks.all (rightD (r + 1))) = true
  rw [Bool.and_eq_true, List.all_eq_true]
  refine ⟨?_, fun k hk => (hall k hk).right⟩
  have e : aloneB (.mk kind [] 0 0 0 0 ks) = decide (2 ≤ ks.length) := by rcases hk with rfl | rfl <;> rfl
  rw [e, hlen]
  simp
theorem often_ok (u : List Nat) (at_ : Nat) : timesB (oftenG u at_).1 (oftenG u at_).2.1 = true ∧ 0 ≤ (oftenG u at_).1 ∧ (oftenG u at_).1 ≤ 2 ∧ -1 ≤ (oftenG u at_).2.1 ∧ (oftenG u at_).2.1 ≤ 4 := by
  unfold oftenG
  split
  · simp only; decide
  · split
    · simp only; decide
    · split
      · simp only; decide
      · split
        · have h1 := nextP_lt u (nextP u at_ 5).2 3 (by omega)
          have h2 := nextP_lt u (nextP u (nextP u at_ 5).2 3).2 3 (by omega)
          generalize (nextP u (nextP u at_ 5).2 3).1 = a at *
          generalize (nextP u (nextP u (nextP u at_ 5).2 3).2 3).1 = b at *
          simp only [timesB, Bool.and_eq_true, Bool.or_eq_true, decide_eq_true_eq, beq_iff_eq]
          omega
        · simp only; decide
theorem itoa_short (n : Int) (h0 : 0 ≤ n) (h1 : n ≤ 4) : (Lib.itoa n).length ≤ 4 := by
  obtain ⟨k, rfl⟩ : ∃ k : Nat, n = k := ⟨n.toNat, by omega⟩
  have e : Lib.itoa (k : Int) = Lib.decDigits k := by unfold Lib.itoa; rw [if_neg (by omega)]; simp
  rw [e, Lib.decDigits_one (by omega)]
  simp
theorem timesG_ok (f : Nat → Tr × Nat) (r : Nat) (hf : ∀ a, GrownOk (r + 1) (lenG r) (f a).1) (u : List Nat) (at_ : Nat) : GrownOk (r + 2) (lenG (r + 1)) (timesG f u at_).1 := by
  obtain ⟨h1, h2, h3, h4, h5⟩ := often_ok u at_
  unfold timesG
  generalize oftenG u at_ = o at *
  obtain ⟨mn, mx, a⟩ := o
  simp only at h1 h2 h3 h4 h5 ⊢
  have hk := hf a
  generalize (f a).1 = k at *
  have ht : (timesTextP mn mx).length ≤ 9 := by
    unfold timesTextP
    have i1 := itoa_short mn h2 (by omega)
    split
    · omega
    · by_cases hx : 0 ≤ mx
      · have i2 := itoa_short mx hx h5
        rw [if_pos hx]
        split
        · simp; omega
        · simp; omega
      · rw [if_neg hx]
        split
        · simp; omega
        · simp
  have hlong : (printD (r + 2) (.mk 7 [] 0 0 mn mx [k])).length ≤ lenG (r + 1) := by
    have e : printD (r + 2) (.mk 7 [] 0 0 mn mx [k]) = timesTextP mn mx ++ kidsF (printD (r + 1)) [] [] [7, 5, 6] [k] := rfl
    have := kidsF_len (printD (r + 1)) [7, 5, 6] [] (lenG r) (by simp) [k] [] (by simp) (fun x hx => by rw [List.mem_singleton] at hx; subst hx; exact hk.long)
    rw [e, List.length_append]
    show _ ≤ 3 * (lenG r + 5) + 20
    simp only [List.length_cons, List.length_nil] at this
    omega
  refine ⟨?_, ⟨⟨by show (0 : Int) ≤ 0; omega, by show (0 : Int) ≤ 255; omega⟩, ⟨by show (0 : Int) ≤ 0; omega, by show (0 : Int) ≤ 255; omega⟩, fun x hx => ?_⟩, ⟨Nat.zero_le _, fun x hx => ?_⟩, hlong⟩
  · show (aloneB (.mk 7 [] 0 0 mn mx [k]) && [k].all (rightD (r + 1))) = true
    have e : aloneB (.mk 7 [] 0 0 mn mx [k]) = (timesB mn mx && true) := rfl
    rw [e, h1]
    simp [hk.right]
  · change x ∈ [k] at hx
    rw [List.mem_singleton] at hx; subst hx; exact hk.byte
  · change x ∈ [k] at hx
    rw [List.mem_singleton] at hx; subst hx; exact hk.text
theorem grow_ok (names : List (List UInt8)) (hn : NamesOk names) (u : List Nat) : ∀ (r at_ : Nat), GrownOk (r + 1) (lenG r) (growT names u r at_).1 := by
  have up : ∀ {d : Nat} {t : Tr} (r : Nat), GrownOk d 2000 t → GrownOk d (lenG r) t := fun r h => ⟨h.right, h.byte, h.text, Nat.le_trans h.long (lenG_ge r)⟩
  intro r
  induction r with
  | zero => intro at_; exact leafG_ok names hn u _ _ 0
  | succ r ih =>
    intro at_
    rw [growT]
    split
    · exact up _ (leafG_ok names hn u _ _ _)
    · unfold pickG
      split
      · exact up _ (leafG_ok names hn u _ _ _)
      · split
        · exact someG_ok _ r ih u 5 (.inl rfl) _
        · split
          · exact someG_ok _ r ih u 6 (.inr rfl) _
          · exact timesG_ok _ r ih u _

/-! ### deeper is no other -/
theorem right_deeper : ∀ (d e : Nat) (t : Tr), d ≤ e → rightD d t = true → rightD e t = true := by
  intro d
  induction d with
  | zero => intro e t _ h; cases h
  | succ d ih =>
    intro e t he h
    obtain ⟨e, rfl⟩ : ∃ g, e = g + 1 := ⟨e - 1, by omega⟩
    have e1 : rightD (d + 1) t = (aloneB t && t.kids.all (rightD d)) := rfl
    rw [e1, Bool.and_eq_true, List.all_eq_true] at h
    show (aloneB t && t.kids.all (rightD e)) = true
    rw [Bool.and_eq_true, List.all_eq_true]
    exact ⟨h.1, fun k hk => ih e k (by omega) (h.2 k hk)⟩
theorem byte_deeper : ∀ (d e : Nat) (t : Tr), d ≤ e → rightD d t = true → byteD d t → byteD e t := by
  intro d
  induction d with
  | zero => intro e t _ h; cases h
  | succ d ih =>
    intro e t he h hb
    obtain ⟨e, rfl⟩ : ∃ g, e = g + 1 := ⟨e - 1, by omega⟩
    have e1 : rightD (d + 1) t = (aloneB t && t.kids.all (rightD d)) := rfl
    rw [e1, Bool.and_eq_true, List.all_eq_true] at h
    exact ⟨hb.1, hb.2.1, fun k hk => ih e k (by omega) (h.2 k hk) (hb.2.2 k hk)⟩
theorem text_deeper : ∀ (d e : Nat) (t : Tr), d ≤ e → rightD d t = true → textD d t → textD e t := by
  intro d
  induction d with
  | zero => intro e t _ h; cases h
  | succ d ih =>
    intro e t he h hb
    obtain ⟨e, rfl⟩ : ∃ g, e = g + 1 := ⟨e - 1, by omega⟩
    have e1 : rightD (d + 1) t = (aloneB t && t.kids.all (rightD d)) := rfl
    rw [e1, Bool.and_eq_true, List.all_eq_true] at h
    exact ⟨hb.1, fun k hk => ih e k (by omega) (h.2 k hk) (hb.2 k hk)⟩
theorem kidsF_congr (f g : Tr → List UInt8) (br : List Int) (bw : List UInt8) : ∀ (ks : List Tr) (a : List UInt8), (∀ k ∈ ks, f k = g k) → kidsF f a bw br ks = kidsF g a bw br ks := by
  intro ks
  induction ks with
  | nil => intro a _; rfl
  | cons k r ih =>
    intro a h
    show a ++ kidP f br k ++ kidsF f bw bw br r = a ++ kidP g br k ++ kidsF g bw bw br r
    rw [ih bw (fun x hx => h x (by simp [hx]))]
    unfold kidP
    rw [h k (by simp)]
theorem print_deeper : ∀ (d e : Nat) (t : Tr), d ≤ e → rightD d t = true → printD e t = printD d t := by
  intro d
  induction d with
  | zero => intro e t _ h; cases h
  | succ d ih =>
    intro e t he h
    obtain ⟨e, rfl⟩ : ∃ g, e = g + 1 := ⟨e - 1, by omega⟩
    have e1 : rightD (d + 1) t = (aloneB t && t.kids.all (rightD d)) := rfl
    rw [e1, Bool.and_eq_true, List.all_eq_true] at h
    have hk : ∀ k ∈ t.kids, printD e k = printD d k := fun k hk => ih e k (by omega) (h.2 k hk)
    rw [printD, printD]
    unfold kidsP
    rw [kidsF_congr _ _ _ _ _ _ hk, kidsF_congr _ _ _ _ _ _ hk, kidsF_congr _ _ _ _ _ _ hk]
/-- a grown tree, at the depth that is asked -/
theorem grown_whole (names : List (List UInt8)) (hn : NamesOk names) (u : List Nat) : rightB (growT names u 6 0).1 = true ∧ byteD 100 (growT names u 6 0).1 ∧ textD 100 (growT names u 6 0).1 ∧ (printD 100 (growT names u 6 0).1).length ≤ 2000000 := by
  have h := grow_ok names hn u 6 0
  refine ⟨right_deeper 7 100 _ (by omega) h.right, byte_deeper 7 100 _ (by omega) h.right h.byte, text_deeper 7 100 _ (by omega) h.right h.text, ?_⟩
  rw [print_deeper 7 100 _ (by omega) h.right]
  exact Nat.le_trans h.long (by decide)
end Go.Proofs.YtgbipbjpeecooaaGreatDoor
