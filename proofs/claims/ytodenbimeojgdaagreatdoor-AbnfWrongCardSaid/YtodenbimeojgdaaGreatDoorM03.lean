/-
  Merged texts (TailQ, CatQ, Mid, LvL, Tree, Right, RightB, PrA, PrB, PrC, PrP, PrD, PrE, ParseP), each under a head of its own that says what it proves and under which conditions.
-/
import Derived.Test.YtodenbimeojgdaaGreatDoorM02
import Derived.Deep.DeepCutAuto
import Derived.Lib.Builder
import Derived.Lib.AppendStr
import Derived.Lib.UnsafeStr
import Derived.Shelf.Strings.Builder1
import Derived.Shelf.Strings.BuilderF
import Derived.Shelf.Strconv.Itoa4
import Derived.StillTailTactics
import Derived.Deep.RegionHeld3
/-
  Plain facts: a byte 13 at the end of a line that has no error stands in a remark. No conditions.
-/
namespace Go.Proofs.YtodenbimeojgdaaGreatDoor

theorem byteZ_snoc (r : List UInt8) (c : UInt8) (k : Nat) (h : k < r.length) : byteZ (r ++ [c]) k = byteZ r k := by
  unfold byteZ
  rw [List.getD_eq_getElem?_getD, List.getD_eq_getElem?_getD, List.getElem?_append_left h]
theorem byteZ_last (r : List UInt8) (c : UInt8) : byteZ (r ++ [c]) r.length = c.toNat := by
  unfold byteZ
  rw [List.getD_eq_getElem?_getD, List.getElem?_append_right (Nat.le_refl _), Nat.sub_self]
  rfl
theorem spanZ_snoc (p : Int → Bool) (h : p 13 = false) : ∀ r : List UInt8, spanZ p (r ++ [13]) = spanZ p r := by
  intro r
  induction r with
  | nil =>
    have h' : p ((13 : UInt8).toNat : Int) = false := h
    simp only [List.nil_append, spanZ]
    rw [if_neg (by rw [h']; simp)]
  | cons c r ih => rw [List.cons_append, spanZ, spanZ, ih]
theorem standsB_snoc (r : List UInt8) (k : Nat) (b : Int) (hb : b ≠ 13) : standsB (r ++ [13]) k b = standsB r k b := by
  unfold standsB
  rw [List.length_append, List.length_singleton]
  rcases Nat.lt_trichotomy k r.length with h | h | h
  · rw [byteZ_snoc r 13 k h]
    simp [h, Nat.lt_succ_of_lt h]
  · subst h
    rw [byteZ_last]
    have : (((13 : UInt8).toNat : Int) == b) = false := by
      rw [beq_eq_false_iff_ne]
      intro e
      exact hb e.symm
    rw [this]
    simp
  · have h1 : ¬ k < r.length + 1 := by omega
    have h2 : ¬ k < r.length := by omega
    simp [h1, h2]
theorem drop_snoc (r : List UInt8) (c : UInt8) (k : Nat) (h : k ≤ r.length) : (r ++ [c]).drop k = r.drop k ++ [c] := List.drop_append_of_le_length h
theorem take_span_snoc (p : Int → Bool) (r : List UInt8) : (r ++ [13]).take (spanZ p r) = r.take (spanZ p r) := List.take_append_of_le_length (spanZ_le p r)
theorem digitBelow_13 (base : Int) (h : base ≤ 16) : digitBelow base 13 = false := by
  unfold digitBelow
  have : digitOfZ 13 = 16 := by decide
  rw [this]
  simp
  omega
theorem valueZ_snoc (r : List UInt8) (at_ : Nat) (base : Int) (hb : base ≤ 16) : valueZ (r ++ [13]) at_ base = valueZ r at_ base := by
  unfold valueZ
  rw [List.length_append, List.length_singleton]
  by_cases h : at_ ≤ r.length
  · rw [if_neg (show ¬ r.length + 1 < at_ by omega), if_neg (show ¬ r.length < at_ by omega), drop_snoc r 13 at_ h, spanZ_snoc _ (digitBelow_13 base hb), take_span_snoc]
  · rw [if_pos (show r.length < at_ by omega)]
    by_cases h2 : r.length + 1 < at_
    · rw [if_pos h2]
    · have e : at_ = r.length + 1 := by omega
      subst e
      rw [if_neg (by omega), List.drop_eq_nil_of_le (by simp), if_pos (by left; simp [spanZ])]
theorem baseZ_snoc (r : List UInt8) (h : r ≠ []) : baseZ (r ++ [13]) = baseZ r := by
  have hp := pos_of_ne h
  unfold baseZ
  rw [List.length_append, List.length_singleton]
  by_cases h2 : r.length < 2
  · have e : r.length = 1 := by omega
    have hb : byteZ (r ++ [13]) 1 = 13 := by
      have := byteZ_last r 13
      rw [e] at this
      exact this
    rw [if_pos h2, if_neg (by omega), hb]
    decide
  · rw [if_neg h2, if_neg (by omega), byteZ_snoc r 13 1 (by omega)]
theorem moreVals_fuel {l : List UInt8} {base : Int} (hb0 : 0 ≤ base) (hb1 : base ≤ 16) : ∀ (f f' k : Nat) (nums : List Int), l.length < f + k → l.length < f' + k → k ≤ l.length → moreVals l base f k nums = moreVals l base f' k nums := by
  intro f
  induction f with
  | zero => intro f' k nums h _ hk; omega
  | succ f ih =>
    intro f' k nums h h' hk
    cases f' with
    | zero => omega
    | succ f' =>
      rw [moreVals, moreVals]
      split
      · cases hv : valueZ l (k + 1) base with
        | none => rfl
        | some vk =>
          obtain ⟨v, k2⟩ := vk
          have hb := valueZ_bd hb0 hb1 hv
          exact ih f' k2 _ (by omega) (by omega) (by omega)
      · rfl
theorem moreVals_snoc (r : List UInt8) (base : Int) (hb : base ≤ 16) : ∀ (f k : Nat) (nums : List Int), moreVals (r ++ [13]) base f k nums = moreVals r base f k nums := by
  intro f
  induction f with
  | zero => intro k nums; rfl
  | succ f ih =>
    intro k nums
    rw [moreVals, moreVals, standsB_snoc r k 46 (by decide), valueZ_snoc r _ base hb]
    split
    · split
      · rfl
      · exact ih _ _
    · rfl
theorem valuesP_snoc (r : List UInt8) (h : r ≠ []) : valuesP (r ++ [13]) = valuesP r := by
  obtain ⟨hb0, hb1⟩ := baseZ_bd r
  unfold valuesP
  rw [baseZ_snoc r h, valueZ_snoc r _ _ hb1]
  cases hv : valueZ r 2 (baseZ r) with
  | none => rfl
  | some ak =>
    obtain ⟨a, k⟩ := ak
    have hk := valueZ_bd hb0 hb1 hv
    rw [valuesOf, valuesOf, standsB_snoc r k 45 (by decide), valueZ_snoc r _ _ hb1, moreVals_snoc r _ hb1, List.length_append, List.length_singleton,
      moreVals_fuel hb0 hb1 (r.length + 1 + 1) (r.length + 1) k [a] (by omega) (by omega) hk.2.2.2]
theorem timesP_snoc (r : List UInt8) : timesP (r ++ [13]) = timesP r := by
  have h13 : digitZ 13 = false := by decide
  have hle := spanZ_le digitZ r
  unfold timesP
  rw [spanZ_snoc digitZ h13, take_span_snoc, standsB_snoc r _ 42 (by decide)]
  by_cases hst : standsB r (spanZ digitZ r) 42 = true
  · have hlt := standsB_lt hst
    rw [drop_snoc r 13 _ (by omega), spanZ_snoc digitZ h13, take_span_snoc]
  · rw [if_neg hst, if_neg hst]
theorem quoteAt_snoc : ∀ (y : List UInt8) (i : Nat), quoteAt (y ++ [13]) = some i → quoteAt y = some i ∧ i < y.length := by
  intro y
  induction y with
  | nil => intro i h; revert h; simp [quoteAt]
  | cons c y ih =>
    intro i h
    rw [List.cons_append, quoteAt] at h
    rw [quoteAt]
    split at h
    · rename_i hc
      rw [if_pos hc]
      have : 0 = i := Option.some.inj h
      subst this
      exact ⟨rfl, by simp⟩
    · rename_i hc
      split at h
      · cases h
      · rename_i hc2
        rw [if_neg hc, if_neg hc2]
        cases hq : quoteAt (y ++ [13]) with
        | none => rw [hq] at h; cases h
        | some j =>
          rw [hq] at h
          obtain ⟨h1, h2⟩ := ih j hq
          have : j + 1 = i := Option.some.inj h
          subst this
          rw [h1]
          exact ⟨rfl, by simp only [List.length_cons]; omega⟩
theorem charsP_snoc (r : List UInt8) (h : r ≠ []) (he : (charsP (r ++ [13])).err = 0) : charsP (r ++ [13]) = charsP r := by
  have hp := pos_of_ne h
  unfold charsP at he ⊢
  rw [drop_snoc r 13 1 hp] at he ⊢
  cases hq : quoteAt (r.drop 1 ++ [13]) with
  | none => rw [hq] at he; cases he
  | some i =>
    obtain ⟨h1, h2⟩ := quoteAt_snoc _ i hq
    rw [h1]
    show charsOf _ (some i) = charsOf _ (some i)
    rw [charsOf, charsOf, List.take_append_of_le_length (by omega)]
theorem prefix_snoc (r t : List UInt8) (ht : (13 : UInt8) ∉ t) : Lib.hasPrefix (r ++ [13]) t = Lib.hasPrefix r t := by
  unfold Lib.hasPrefix
  rw [Bool.eq_iff_iff, List.isPrefixOf_iff_prefix, List.isPrefixOf_iff_prefix]
  constructor
  · intro h
    rcases List.prefix_concat_iff.1 h with h1 | h1
    · exfalso
      apply ht
      rw [h1]
      simp
    · exact h1
  · intro h
    exact h.trans (List.prefix_append _ _)
theorem byteZ0_snoc (r : List UInt8) (h : r ≠ []) : byteZ (r ++ [13]) 0 = byteZ r 0 := byteZ_snoc r 13 0 (pos_of_ne h)

/-- a row of the table tells the same with a byte 13 at the end, if there is no error, or it is a remark -/
def SnocAs (a b : Pc) (r : List UInt8) : Prop := a = b ∨ (Lib.hasPrefix r [59] = true ∧ a = { size := r.length + 1 } ∧ b = { size := r.length })
def Snoc (row : Row) : Prop := ∀ r, r ≠ [] → row.1 (r ++ [13]) = row.1 r ∧ (row.1 r = true → (row.2 (r ++ [13])).err = 0 → SnocAs (row.2 (r ++ [13])) (row.2 r) r)
theorem snoc_text (t : List UInt8) (p : List UInt8 → Pc) (ht : (13 : UInt8) ∉ t) (hp : ∀ r, r ≠ [] → (p (r ++ [13])).err = 0 → p (r ++ [13]) = p r) : Snoc (fun l => Lib.hasPrefix l t, p) :=
  fun r hr => ⟨prefix_snoc r t ht, fun _ he => .inl (hp r hr he)⟩
theorem snoc_byte (q : Int → Bool) (p : List UInt8 → Pc) (hp : ∀ r, r ≠ [] → p (r ++ [13]) = p r) : Snoc (fun l => q (byteZ l 0), p) :=
  fun r hr => ⟨congrArg q (byteZ0_snoc r hr), fun _ _ => .inl (hp r hr)⟩
theorem snoc_table : ∀ row ∈ table, Snoc row := by
  intro row h
  simp only [table, List.mem_cons, List.not_mem_nil, or_false] at h
  rcases h with rfl | rfl | rfl | rfl | rfl | rfl | rfl | rfl | rfl | rfl | rfl | rfl | rfl | rfl | rfl
  · exact snoc_byte blankZ _ (fun r _ => by rw [spanZ_snoc blankZ (by decide)])
  · exact fun r _ => ⟨prefix_snoc r [59] (by decide), fun h _ => .inr ⟨h, by simp, rfl⟩⟩
  · exact snoc_byte letterZ nameP (fun r _ => by rw [nameP, nameP, spanZ_snoc namedZ (by decide), take_span_snoc])
  · exact snoc_text _ _ (by decide) (fun _ _ _ => rfl)
  · exact snoc_text _ _ (by decide) (fun _ _ _ => rfl)
  · exact snoc_text _ _ (by decide) (fun _ _ _ => rfl)
  · exact snoc_text _ _ (by decide) (fun _ _ _ => rfl)
  · exact snoc_text _ _ (by decide) (fun _ _ _ => rfl)
  · exact snoc_text _ _ (by decide) (fun _ _ _ => rfl)
  · exact snoc_text _ _ (by decide) (fun _ _ _ => rfl)
  · exact snoc_byte timesZ timesP (fun r _ => timesP_snoc r)
  · exact snoc_text _ charsP (by decide) (fun r h he => charsP_snoc r h he)
  · exact snoc_text _ valuesP (by decide) (fun r h _ => valuesP_snoc r h)
  · exact snoc_text _ _ (by decide) (fun _ _ _ => rfl)
  · exact snoc_text _ _ (by decide) (fun _ _ _ => rfl)
theorem pick_snoc (rows : List Row) (hr : ∀ row ∈ rows, Snoc row) (r : List UInt8) (h : r ≠ []) (he : (pick rows (r ++ [13])).err = 0) : SnocAs (pick rows (r ++ [13])) (pick rows r) r := by
  induction rows with
  | nil => exact .inl rfl
  | cons row rows ih =>
    obtain ⟨p, q⟩ := row
    obtain ⟨h1, h2⟩ := hr (p, q) (by simp) r h
    rw [pick] at he
    rw [pick, pick]
    by_cases hp : p r = true
    · have hp' : p (r ++ [13]) = true := h1.trans hp
      rw [if_pos hp'] at he
      rw [if_pos hp, if_pos hp']
      exact h2 hp he
    · have hp' : ¬ p (r ++ [13]) = true := fun e => hp (h1.symm.trans e)
      rw [if_neg hp'] at he
      rw [if_neg hp, if_neg hp']
      exact ih (fun row h => hr row (by simp [h])) he
theorem read_snoc (r : List UInt8) (h : r ≠ []) (he : (readP (r ++ [13])).err = 0) : SnocAs (readP (r ++ [13])) (readP r) r := pick_snoc table snoc_table r h he

theorem read_13 : (readP [13]).err = 11 := by decide
/-- a line's tokens without a byte 13 at its end -/
theorem tokens_snoc (x : List UInt8) (start : Nat) : ∀ (f at_ : Nat) (toks : List Tk), (x ++ [13]).length < f + at_ → at_ ≤ x.length → (tokensF (x ++ [13]) start f at_ toks).2.2 = 0 →
    ∀ f', x.length < f' + at_ → tokensF x start f' at_ toks = tokensF (x ++ [13]) start f at_ toks := by
  intro f
  induction f with
  | zero => intro at_ toks h hat; rw [List.length_append, List.length_singleton] at h; omega
  | succ f ih =>
    intro at_ toks hf hat he f' hf'
    rw [List.length_append, List.length_singleton] at hf
    have hlt : at_ < (x ++ [13]).length := by rw [List.length_append, List.length_singleton]; omega
    have hd := drop_snoc x 13 at_ hat
    by_cases hend : at_ = x.length
    · exfalso
      rw [hend, List.drop_length, List.nil_append] at hd
      have hne : (readP ((x ++ [13]).drop at_)).err ≠ 0 := by rw [hend, hd, read_13]; decide
      rw [tokensF_err (by rw [List.length_append, List.length_singleton]; omega) hlt hne] at he
      exact hne he
    · have hlt' : at_ < x.length := by omega
      have hne := drop_ne hlt'
      by_cases he1 : (readP ((x ++ [13]).drop at_)).err = 0
      · rw [tokensF_go hlt he1] at he ⊢
        rw [hd] at he he1 ⊢
        cases f' with
        | zero => omega
        | succ f' =>
          rcases read_snoc _ hne he1 with h1 | ⟨_, h1, h2⟩
          · have he2 : (readP (x.drop at_)).err = 0 := by rw [← h1]; exact he1
            rw [tokensF_go hlt' he2]
            rw [h1] at he ⊢
            have hfit := fits_read _ hne
            rw [Fits, List.length_drop] at hfit
            have hsz := hfit.2.1 he2
            exact ih _ _ (by rw [List.length_append, List.length_singleton]; omega) (by omega) he f' (by omega)
          · have he2 : (readP (x.drop at_)).err = 0 := by rw [h2]
            rw [tokensF_go hlt' he2, h1, h2, List.length_drop]
            rw [tokensF_end (by simp; omega), tokensF_end (by simp; omega)]
      · exfalso
        rw [tokensF_err (by rw [List.length_append, List.length_singleton]; omega) hlt he1] at he
        exact he1 he
theorem tokensP_snoc (x : List UInt8) (start : Nat) (toks : List Tk) (he : (tokensP (x ++ [13]) start toks).2.2 = 0) : tokensP x start toks = tokensP (x ++ [13]) start toks :=
  tokens_snoc x start _ 0 toks (by omega) (Nat.zero_le _) he _ (by omega)
theorem idle_snoc (x : List UInt8) (h : spanZ blankZ x ≠ x.length) : idleB (x ++ [13]) = idleB x := by
  have hle := spanZ_le blankZ x
  unfold idleB
  rw [spanZ_snoc blankZ (by decide), List.length_append, List.length_singleton, byteZ_snoc x 13 _ (by omega)]
  simp [h]
  intro h2
  omega
theorem line_snoc (x : List UInt8) (k : Nat) (toks : List Tk) (o : Bool) (he : (lineP (x ++ [13]) k toks o).err = 0) : lineP x k toks o = lineP (x ++ [13]) k toks o := by
  by_cases hall : spanZ blankZ x = x.length
  · exfalso
    have hid : idleB (x ++ [13]) = false := by
      unfold idleB
      rw [spanZ_snoc blankZ (by decide), hall, byteZ_last, List.length_append, List.length_singleton]
      simp
    unfold lineP at he
    rw [if_neg (by simp [hid])] at he
    have htok : ∀ tk, (tokensP (x ++ [13]) k tk).2.2 = 0 → False := by
      intro tk h
      have h1 := tokensP_snoc x k tk h
      rcases List.eq_nil_or_concat x with hx | ⟨y, c, hx⟩
      · subst hx
        revert h
        unfold tokensP
        rw [List.nil_append, tokensF_err (by simp) (by simp) (by rw [List.drop_zero, read_13]; decide), List.drop_zero]
        show ¬ (readP [13]).err = 0
        rw [read_13]
        decide
      · have hne : x ≠ [] := by rw [hx]; simp
        have hb : blankZ (byteZ x 0) = true := by
          cases x with
          | nil => exact absurd rfl hne
          | cons c r =>
            rw [byteZ_cons]
            rw [spanZ] at hall
            split at hall
            · assumption
            · simp at hall
        have hr : readP (x ++ [13]) = { size := spanZ blankZ (x ++ [13]) } := by
          unfold readP table
          rw [pick, if_pos (by rw [byteZ0_snoc x hne]; exact hb)]
        unfold tokensP at h
        have hpos := pos_of_ne hne
        rw [tokensF_go (by rw [List.length_append, List.length_singleton]; omega) (by rw [List.drop_zero, hr]), List.drop_zero, hr, spanZ_snoc blankZ (by decide), hall] at h
        have hd : (x ++ [13]).drop (0 + x.length) = [13] := by simp
        have hne2 : (readP ((x ++ [13]).drop (0 + x.length))).err ≠ 0 := by rw [hd, read_13]; decide
        rw [tokensF_err (by rw [List.length_append, List.length_singleton]; omega) (by rw [List.length_append, List.length_singleton]; omega) hne2] at h
        exact hne2 h
    split at he
    · exact htok _ he
    · split at he
      · exact htok _ he
      · cases he
  · have hne : x ≠ [] := by
      intro e
      subst e
      exact hall rfl
    unfold lineP at he ⊢
    rw [idle_snoc x hall, byteZ0_snoc x hne] at he ⊢
    split
    · rfl
    · rename_i h1
      rw [if_neg h1] at he
      split
      · rename_i h2
        rw [if_pos h2] at he
        rw [tokensP_snoc x k _ he]
      · rename_i h2
        rw [if_neg h2] at he
        split
        · rename_i h3
          rw [if_pos h3] at he
          rw [tokensP_snoc x k _ he]
        · rfl
end Go.Proofs.YtodenbimeojgdaaGreatDoor

/-
  Plain facts: a text, a byte 10 and another text are read one behind the other. No conditions.
-/
namespace Go.Proofs.YtodenbimeojgdaaGreatDoor

/-- so many places on -/
def sh (d : Nat) (t : Tk) : Tk := { t with place := t.place + d }
theorem sh_end (d k : Nat) : sh d (endTok k) = endTok (k + d) := by simp [sh, endTok]

theorem tokens_app (ln : List UInt8) (start : Nat) (a : List Tk) : ∀ (f at_ : Nat) (b : List Tk), tokensF ln start f at_ (a ++ b) = (a ++ (tokensF ln start f at_ b).1, (tokensF ln start f at_ b).2) := by
  intro f
  induction f with
  | zero => intro at_ b; rfl
  | succ f ih =>
    intro at_ b
    rw [tokensF, tokensF]
    split
    · rfl
    · split
      · rfl
      · rw [← ih]
        congr 1
        split
        · rw [List.append_assoc]
        · rfl
def shPlace (d : Nat) (r : Nat × Nat) : Nat × Nat := (if r.2 = 0 then r.1 else r.1 + d, r.2)
theorem tokens_shift (ln : List UInt8) (start d : Nat) : ∀ (f at_ : Nat) (b : List Tk), tokensF ln (start + d) f at_ (b.map (sh d)) = ((tokensF ln start f at_ b).1.map (sh d), shPlace d (tokensF ln start f at_ b).2) := by
  intro f
  induction f with
  | zero => intro at_ b; rfl
  | succ f ih =>
    intro at_ b
    rw [tokensF, tokensF]
    split
    · rfl
    · split
      · rename_i he
        simp only [shPlace, if_neg he]
        rw [show start + d + at_ + (readP (ln.drop at_)).bad = start + at_ + (readP (ln.drop at_)).bad + d from by omega]
      · rw [← ih]
        congr 1
        split
        · rw [List.map_append, List.map_singleton]
          congr 2
          simp only [sh]
          congr 1
          push_cast
          omega
        · rfl
theorem line_shift (ln : List UInt8) (k d : Nat) (a b : List Tk) (o : Bool) : lineP ln (k + d) (a ++ b.map (sh d)) o =
    ⟨a ++ (lineP ln k b o).toks.map (sh d), (lineP ln k b o).opened, (shPlace d ((lineP ln k b o).place, (lineP ln k b o).err)).1, (lineP ln k b o).err⟩ := by
  have key : ∀ c : List Tk, tokensP ln (k + d) (a ++ c.map (sh d)) = (a ++ (tokensP ln k c).1.map (sh d), shPlace d (tokensP ln k c).2) := by
    intro c
    unfold tokensP
    rw [tokens_app, tokens_shift]
  unfold lineP
  split
  · rfl
  · split
    · have e : (if o = true then a ++ b.map (sh d) ++ [endTok (k + d)] else a ++ b.map (sh d)) = a ++ (if o = true then b ++ [endTok k] else b).map (sh d) := by
        split
        · rw [List.map_append, List.map_singleton, sh_end, List.append_assoc]
        · rfl
      rw [e, key]
      rfl
    · split
      · rw [key]
        rfl
      · rfl

/-- the lines from a place on: the tokens, and whether a rule is open; or the place and the number of an error -/
def runF (l : List UInt8) : Nat → Nat → List Tk → Bool → (List Tk × Bool) ⊕ (Nat × Nat)
  | 0, _, toks, o => .inl (toks, o)
  | f + 1, k, toks, o =>
    if l.length ≤ k then .inl (toks, o)
    else if (lineP (cutP l k).1 k toks o).err ≠ 0 then .inr ((lineP (cutP l k).1 k toks o).place, (lineP (cutP l k).1 k toks o).err)
    else runF l f (cutP l k).2 (lineP (cutP l k).1 k toks o).toks (lineP (cutP l k).1 k toks o).opened
def closeR (l : List UInt8) : (List Tk × Bool) ⊕ (Nat × Nat) → List Tk × Nat × Nat
  | .inl (toks, o) => (closed l toks o, 0, 0)
  | .inr (p, e) => ([], p, e)
theorem lexF_run (l : List UInt8) : ∀ (f k : Nat) (toks : List Tk) (o : Bool), lexF l f k toks o = closeR l (runF l f k toks o) := by
  intro f
  induction f with
  | zero => intro k toks o; rfl
  | succ f ih =>
    intro k toks o
    rw [lexF, runF]
    split
    · rfl
    · split
      · rfl
      · exact ih _ _ _
theorem runF_fuel (l : List UInt8) : ∀ (f f' k : Nat) (toks : List Tk) (o : Bool), l.length < f + k → l.length < f' + k → k ≤ l.length → runF l f k toks o = runF l f' k toks o := by
  intro f
  induction f with
  | zero => intro f' k toks o h _ hk; omega
  | succ f ih =>
    intro f' k toks o h h' hk
    cases f' with
    | zero => omega
    | succ f' =>
      rw [runF, runF]
      split
      · rfl
      · have hcb := cutP_bd l k (by omega)
        split
        · rfl
        · exact ih f' _ _ _ (by omega) (by omega) (by omega)
def run (l : List UInt8) (k : Nat) (toks : List Tk) (o : Bool) : (List Tk × Bool) ⊕ (Nat × Nat) := runF l (l.length + 1) k toks o
theorem lexP_run (l : List UInt8) (h : l.length ≤ 65536) : lexP l = closeR l (run l 0 [] false) := by
  unfold lexP
  rw [if_neg (by omega), lexF_run]
  rfl
theorem run_end {l : List UInt8} {k : Nat} {toks : List Tk} {o : Bool} (h : l.length ≤ k) : run l k toks o = .inl (toks, o) := by
  unfold run
  rw [runF, if_pos h]
theorem run_step {l : List UInt8} {k : Nat} {toks : List Tk} {o : Bool} (h : k < l.length) : run l k toks o =
    if (lineP (cutP l k).1 k toks o).err ≠ 0 then .inr ((lineP (cutP l k).1 k toks o).place, (lineP (cutP l k).1 k toks o).err)
    else run l (cutP l k).2 (lineP (cutP l k).1 k toks o).toks (lineP (cutP l k).1 k toks o).opened := by
  have hcb := cutP_bd l k h
  unfold run
  rw [runF, if_neg (by omega)]
  split
  · rfl
  · exact runF_fuel l _ _ _ _ _ (by omega) (by omega) (by omega)

theorem indexByte_append (x t : List UInt8) (c : UInt8) (h : 0 ≤ Lib.indexByte x c) : Lib.indexByte (x ++ t) c = Lib.indexByte x c := by
  induction x with
  | nil => simp [Lib.indexByte] at h
  | cons b x ih =>
    rw [List.cons_append]
    simp only [Lib.indexByte] at h ⊢
    split
    · rfl
    · rename_i hb
      rw [if_neg hb] at h
      by_cases h1 : (Lib.indexByte x c == -1) = true
      · rw [if_pos h1] at h
        omega
      · have hb1 := indexByte_bd x c
        have h0 : 0 ≤ Lib.indexByte x c := by
          have : Lib.indexByte x c ≠ -1 := by simpa using h1
          omega
        rw [ih h0]
theorem indexByte_none (x : List UInt8) (c : UInt8) (h : Lib.indexByte x c < 0) : Lib.indexByte (x ++ [c]) c = x.length := by
  induction x with
  | nil => simp [Lib.indexByte]
  | cons b x ih =>
    rw [List.cons_append]
    simp only [Lib.indexByte, List.length_cons] at h ⊢
    by_cases hb : (b == c) = true
    · rw [if_pos hb] at h
      omega
    · rw [if_neg hb] at h
      rw [if_neg hb]
      have hb1 := indexByte_bd x c
      have h0 : Lib.indexByte x c < 0 := by
        by_cases h1 : (Lib.indexByte x c == -1) = true
        · have : Lib.indexByte x c = -1 := by simpa using h1
          omega
        · rw [if_neg h1] at h
          omega
      rw [ih h0, if_neg (by
        simp only [beq_iff_eq]
        omega)]
      push_cast
      rfl
theorem drop_append_lt (x t : List UInt8) (k : Nat) (h : k ≤ x.length) : (x ++ t).drop k = x.drop k ++ t := List.drop_append_of_le_length h
/-- a line that ends within a text is the same with more behind -/
theorem cut_left (x t : List UInt8) (k : Nat) (h : k < x.length) (hi : 0 ≤ Lib.indexByte (x.drop k) 10) : cutP (x ++ t) k = cutP x k := by
  have hb := indexByte_bd (x.drop k) 10
  rw [List.length_drop] at hb
  unfold cutP
  rw [drop_append_lt x t k (by omega), indexByte_append _ _ _ hi, if_neg (by omega), if_neg (by omega), List.take_append_of_le_length (by rw [List.length_drop]; omega)]
theorem index_nl (x : List UInt8) (k : Nat) (h : k ≤ x.length) : 0 ≤ Lib.indexByte ((x ++ [10]).drop k) 10 := by
  rw [drop_append_lt x [10] k h]
  by_cases hi : 0 ≤ Lib.indexByte (x.drop k) 10
  · rw [indexByte_append _ _ _ hi]; exact hi
  · rw [indexByte_none _ _ (by omega)]
    omega
theorem cut_nl (x t : List UInt8) (k : Nat) (h : k ≤ x.length) : cutP (x ++ [10] ++ t) k = cutP (x ++ [10]) k :=
  cut_left (x ++ [10]) t k (by rw [List.length_append, List.length_singleton]; omega) (index_nl x k h)
theorem cut_right (x t : List UInt8) (j : Nat) : cutP (x ++ t) (j + x.length) = ((cutP t j).1, (cutP t j).2 + x.length) := by
  have hd : (x ++ t).drop (j + x.length) = t.drop j := by
    rw [Nat.add_comm, ← List.drop_drop, List.drop_left]
  unfold cutP
  rw [hd, List.length_append]
  split
  · simp only [Prod.mk.injEq, true_and]
    omega
  · simp only [Prod.mk.injEq, true_and]
    omega

/-- what stands ahead, with an end of a line, is read first -/
theorem run_first (x t : List UInt8) : ∀ (n k : Nat) (toks : List Tk) (o : Bool), x.length + 1 ≤ n + k → k ≤ x.length + 1 → run (x ++ [10] ++ t) k toks o =
    match run (x ++ [10]) k toks o with
    | .inl (a, o') => run (x ++ [10] ++ t) (x.length + 1) a o'
    | .inr e => .inr e := by
  have hlen : (x ++ [10]).length = x.length + 1 := by simp
  have stop : ∀ (toks : List Tk) (o : Bool), run (x ++ [10] ++ t) (x.length + 1) toks o =
      match run (x ++ [10]) (x.length + 1) toks o with
      | .inl (a, o') => run (x ++ [10] ++ t) (x.length + 1) a o'
      | .inr e => .inr e := by
    intro toks o
    rw [run_end (l := x ++ [10]) (by omega)]
  intro n
  induction n with
  | zero =>
    intro k toks o h hk
    obtain rfl : k = x.length + 1 := by omega
    exact stop toks o
  | succ n ih =>
    intro k toks o h hk
    by_cases he : k = x.length + 1
    · subst he
      exact stop toks o
    · have hcb := cutP_bd (x ++ [10]) k (by omega)
      rw [run_step (l := x ++ [10] ++ t) (by rw [List.length_append]; omega), run_step (l := x ++ [10]) (by omega), cut_nl x t k (by omega)]
      split
      · rfl
      · exact ih _ _ _ (by omega) (by omega)
/-- what stands behind is read as it is by itself, so many places on -/
theorem run_behind (x t : List UInt8) (a : List Tk) : ∀ (n j : Nat) (b : List Tk) (o : Bool), t.length ≤ n + j → j ≤ t.length → run (x ++ t) (j + x.length) (a ++ b.map (sh x.length)) o =
    match run t j b o with
    | .inl (b', o') => .inl (a ++ b'.map (sh x.length), o')
    | .inr e => .inr (e.1 + x.length, e.2) := by
  have stop : ∀ (b : List Tk) (o : Bool), run (x ++ t) (t.length + x.length) (a ++ b.map (sh x.length)) o =
      match run t t.length b o with
      | .inl (b', o') => .inl (a ++ b'.map (sh x.length), o')
      | .inr e => .inr (e.1 + x.length, e.2) := by
    intro b o
    rw [run_end (l := t) (Nat.le_refl _), run_end (by rw [List.length_append]; omega)]
  intro n
  induction n with
  | zero =>
    intro j b o h hj
    obtain rfl : j = t.length := by omega
    exact stop b o
  | succ n ih =>
    intro j b o h hj
    by_cases he : j = t.length
    · subst he
      exact stop b o
    · have hcb := cutP_bd t j (by omega)
      rw [run_step (l := x ++ t) (by rw [List.length_append]; omega), run_step (l := t) (by omega), cut_right, line_shift]
      simp only
      split
      · rename_i hne
        simp only [shPlace, if_neg hne]
      · exact ih _ _ _ (by omega) (by omega)
theorem line_nil (k : Nat) (toks : List Tk) (o : Bool) : lineP [] k toks o = ⟨toks, o, 0, 0⟩ := by
  unfold lineP
  rw [if_pos idle_nil]
/-- an end of a line more changes nothing -/
theorem run_nl (s : List UInt8) : ∀ (n k : Nat) (toks : List Tk) (o : Bool) (R : List Tk × Bool), s.length ≤ n + k → k ≤ s.length → run s k toks o = .inl R → run (s ++ [10]) k toks o = .inl R := by
  have hlen : (s ++ [10]).length = s.length + 1 := by simp
  have stop : ∀ (toks : List Tk) (o : Bool), run (s ++ [10]) s.length toks o = .inl (toks, o) := by
    intro toks o
    have hc : cutP (s ++ [10]) s.length = ([], s.length + 1) := by
      unfold cutP
      rw [List.drop_left]
      have : Lib.indexByte [10] 10 = 0 := rfl
      rw [this, if_neg (by omega)]
      simp [Lib.trimSuffix, Lib.hasSuffix]
    rw [run_step (by omega), hc]
    simp only [line_nil]
    rw [if_neg (by simp), run_end (by omega)]
  intro n
  induction n with
  | zero =>
    intro k toks o R h hk hr
    obtain rfl : k = s.length := by omega
    rw [run_end (Nat.le_refl _)] at hr
    rw [stop, hr]
  | succ n ih =>
    intro k toks o R h hk hr
    by_cases he : k = s.length
    · subst he
      rw [run_end (Nat.le_refl _)] at hr
      rw [stop, hr]
    · have hlt : k < s.length := by omega
      have hcb := cutP_bd s k hlt
      by_cases hi : 0 ≤ Lib.indexByte (s.drop k) 10
      · rw [run_step hlt] at hr
        rw [run_step (by omega), cut_left s [10] k hlt hi]
        split at hr
        · cases hr
        · rename_i hne
          rw [if_neg hne]
          exact ih _ _ _ R (by omega) (by omega) hr
      · have hc : cutP s k = (s.drop k, s.length) := by
          unfold cutP
          rw [if_pos (by omega)]
        have hc2 : cutP (s ++ [10]) k = (Lib.trimSuffix (s.drop k) [13], s.length + 1) := by
          unfold cutP
          rw [drop_append_lt s [10] k (by omega), indexByte_none _ _ (by omega), if_neg (by omega)]
          simp only [Int.toNat_natCast]
          rw [List.take_left' rfl, List.length_drop]
          congr 1
          omega
        rw [run_step hlt, hc] at hr
        rw [run_step (by omega), hc2]
        simp only at hr ⊢
        split at hr
        · cases hr
        · rename_i hne
          have herr : (lineP (s.drop k) k toks o).err = 0 := by
            cases hh : (lineP (s.drop k) k toks o).err with
            | zero => rfl
            | succ m => exact absurd (by rw [hh]; simp) hne
          have hsame : lineP (Lib.trimSuffix (s.drop k) [13]) k toks o = lineP (s.drop k) k toks o := by
            unfold Lib.trimSuffix
            split
            · rename_i hsuf
              obtain ⟨y, hy⟩ := List.isSuffixOf_iff_suffix.1 hsuf
              have hy' : (s.drop k).take ((s.drop k).length - ([13] : List UInt8).length) = y := by
                rw [← hy]
                simp
              rw [hy', ← hy]
              exact line_snoc y k toks o (by rw [hy]; exact herr)
            · rfl
          rw [hsame, if_neg hne, run_end (by omega)]
          rw [run_end (Nat.le_refl _)] at hr
          exact hr
theorem run_stays (l : List UInt8) : ∀ (n k : Nat) (toks : List Tk) (R : List Tk × Bool), l.length ≤ n + k → k ≤ l.length → run l k toks true = .inl R → R.2 = true := by
  intro n
  induction n with
  | zero =>
    intro k toks R h hk hr
    obtain rfl : k = l.length := by omega
    rw [run_end (Nat.le_refl _)] at hr
    cases hr
    rfl
  | succ n ih =>
    intro k toks R h hk hr
    by_cases he : k = l.length
    · subst he
      rw [run_end (Nat.le_refl _)] at hr
      cases hr
      rfl
    · have hcb := cutP_bd l k (by omega)
      rw [run_step (by omega)] at hr
      split at hr
      · cases hr
      · have ho : (lineP (cutP l k).1 k toks true).opened = true := by
          unfold lineP
          split
          · rfl
          · split
            · rfl
            · split
              · rfl
              · rfl
        rw [ho] at hr
        exact ih _ _ R (by omega) (by omega) hr
theorem run_app (t : List UInt8) (a b : List Tk) (j : Nat) (o : Bool) (hj : j ≤ t.length) : run t j (a ++ b) o =
    match run t j b o with
    | .inl (b', o') => .inl (a ++ b', o')
    | .inr e => .inr e := by
  have h := run_behind [] t a t.length j b o (by omega) hj
  have hid : ∀ l : List Tk, l.map (sh 0) = l := by
    intro l
    have : sh 0 = id := by funext t; simp [sh]
    rw [this, List.map_id]
  simp only [List.nil_append, List.length_nil, Nat.add_zero, hid] at h
  rw [h]
/-- with a rule open ahead of it a text's tokens are the same, with that rule's end, unless there is no rule -/
theorem run_opened (t : List UInt8) : ∀ (n j : Nat) (b : List Tk) (ob : Bool), t.length ≤ n + j → j ≤ t.length → run t j [] false = .inl (b, ob) →
    (ob = false ∧ b = [] ∧ run t j [] true = .inl ([], true)) ∨ (ob = true ∧ ∃ q, run t j [] true = .inl (endTok q :: b, true)) := by
  intro n
  induction n with
  | zero =>
    intro j b ob h hj hr
    obtain rfl : j = t.length := by omega
    rw [run_end (Nat.le_refl _)] at hr ⊢
    cases hr
    exact .inl ⟨rfl, rfl, rfl⟩
  | succ n ih =>
    intro j b ob h hj hr
    by_cases he : j = t.length
    · subst he
      rw [run_end (Nat.le_refl _)] at hr ⊢
      cases hr
      exact .inl ⟨rfl, rfl, rfl⟩
    · have hcb := cutP_bd t j (by omega)
      rw [run_step (by omega)] at hr ⊢
      generalize (cutP t j).1 = ln at *
      generalize (cutP t j).2 = nx at *
      by_cases hid : idleB ln = true
      · have e1 : ∀ o, lineP ln j [] o = ⟨[], o, 0, 0⟩ := by
          intro o
          unfold lineP
          rw [if_pos hid]
        rw [e1] at hr ⊢
        rw [if_neg (by simp)] at hr ⊢
        exact ih nx b ob (by omega) (by omega) hr
      · by_cases hlet : letterZ (byteZ ln 0) = true
        · have e1 : lineP ln j [] false = ⟨(tokensP ln j []).1, true, (tokensP ln j []).2.1, (tokensP ln j []).2.2⟩ := by
            unfold lineP
            rw [if_neg hid, if_pos hlet, if_neg (by simp)]
          have e2 : lineP ln j [] true = ⟨endTok j :: (tokensP ln j []).1, true, (tokensP ln j []).2.1, (tokensP ln j []).2.2⟩ := by
            have := tokens_app ln j [endTok j] (ln.length + 1) 0 []
            unfold lineP
            rw [if_neg hid, if_pos hlet, if_pos rfl]
            unfold tokensP
            rw [List.nil_append]
            rw [List.append_nil] at this
            rw [this]
            rfl
          rw [e1] at hr
          rw [e2]
          simp only at hr ⊢
          split at hr
          · cases hr
          · rename_i hne
            rw [if_neg hne]
            have hst := run_stays t t.length nx _ _ (by omega) (by omega) hr
            simp only at hst
            subst hst
            refine .inr ⟨rfl, j, ?_⟩
            have := run_app t [endTok j] (tokensP ln j []).1 nx true (by omega)
            rw [hr] at this
            exact this
        · exfalso
          have e1 : lineP ln j [] false = ⟨[], false, j, 10⟩ := by
            unfold lineP
            rw [if_neg hid, if_neg hlet, if_neg (by simp)]
          rw [e1] at hr
          simp at hr
end Go.Proofs.YtodenbimeojgdaaGreatDoor

/-
  How a line's rest is read as tokens, but for their places: plain facts. No conditions.
-/
namespace Go.Proofs.YtodenbimeojgdaaGreatDoor
open Go.RowKit

def bare (t : Tk) : Tk := { t with place := 0 }
theorem byteZ_drop (l : List UInt8) (a k : Nat) : byteZ (l.drop a) k = byteZ l (a + k) := by
  unfold byteZ
  rw [List.getD_eq_getElem?_getD, List.getD_eq_getElem?_getD, List.getElem?_drop]
theorem bare_sh (d : Nat) (t : Tk) : bare (sh d t) = bare t := rfl
theorem map_bare_sh (d : Nat) (l : List Tk) : (l.map (sh d)).map bare = l.map bare := by
  rw [List.map_map]
  rfl
theorem tokensF_fuel (ln : List UInt8) (st : Nat) : ∀ (f f' p : Nat) (toks : List Tk), ln.length < f + p → ln.length < f' + p → tokensF ln st f p toks = tokensF ln st f' p toks := by
  intro f
  induction f with
  | zero =>
    intro f' p toks h1 h2
    rw [tokensF_end (by omega), tokensF_end (by omega)]
  | succ f ih =>
    intro f' p toks h1 h2
    by_cases hp : ln.length ≤ p
    · rw [tokensF_end hp, tokensF_end hp]
    · obtain ⟨f', rfl⟩ : ∃ g, f' = g + 1 := ⟨f' - 1, by omega⟩
      have hne : ln.drop p ≠ [] := drop_ne (by omega)
      by_cases he : (readP (ln.drop p)).err = 0
      · have hs := ((fits_read _ hne).2.1 he).1
        rw [tokensF_go (by omega) he, tokensF_go (by omega) he]
        exact ih _ _ _ (by omega) (by omega)
      · rw [tokensF_err h1 (by omega) he, tokensF_err h2 (by omega) he]
theorem spanZ_cons_pos (p : Int → Bool) (c : UInt8) (r : List UInt8) (h : p c.toNat = true) : spanZ p (c :: r) = spanZ p r + 1 := by
  rw [spanZ, if_pos h]
  try omega
theorem read_blank (l : List UInt8) (hb : blankZ (byteZ l 0) = true) : readP l = { size := spanZ blankZ l } := by
  unfold readP table
  rw [pick, if_pos hb]
theorem tok_blank (ln : List UInt8) (st f f' p : Nat) (toks : List Tk) (hp : p < ln.length) (hb : blankZ (byteZ ln p) = true) (h1 : ln.length < f + p) (h2 : ln.length < f' + (p + 1)) :
    tokensF ln st f p toks = tokensF ln st f' (p + 1) toks := by
  obtain ⟨c, hc, hcb⟩ := drop_byte ln p hp
  have hb0 : blankZ (byteZ (ln.drop p) 0) = true := by rw [byteZ_drop]; exact hb
  have hcb' : blankZ c.toNat = true := by rw [hcb]; exact hb
  obtain ⟨f, rfl⟩ : ∃ g, f = g + 1 := ⟨f - 1, by omega⟩
  have hr := read_blank _ hb0
  rw [tokensF_go hp (by rw [hr]), hr]
  simp only [ne_eq, not_true_eq_false, if_false]
  rw [hc, spanZ_cons_pos _ _ _ hcb']
  by_cases hp1 : p + 1 < ln.length
  · cases hb1 : blankZ (byteZ ln (p + 1)) with
    | true =>
      obtain ⟨f', rfl⟩ : ∃ g, f' = g + 1 := ⟨f' - 1, by omega⟩
      have hr1 := read_blank (ln.drop (p + 1)) (by rw [byteZ_drop]; exact hb1)
      have hs1 : 1 ≤ spanZ blankZ (ln.drop (p + 1)) := spanZ_pos _ _ (drop_ne hp1) (by rw [byteZ_drop]; exact hb1)
      rw [tokensF_go hp1 (by rw [hr1]), hr1]
      simp only [ne_eq, not_true_eq_false, if_false]
      rw [show p + (spanZ blankZ (ln.drop (p + 1)) + 1) = p + 1 + spanZ blankZ (ln.drop (p + 1)) from by omega]
      exact tokensF_fuel _ _ _ _ _ _ (by omega) (by omega)
    | false =>
      have : spanZ blankZ (ln.drop (p + 1)) = 0 := spanZ_stop blankZ _ 0 (Nat.zero_le _) (by rw [List.length_drop]; omega) (by rw [byteZ_drop]; exact hb1)
      rw [this]
      exact tokensF_fuel _ _ _ _ _ _ (by omega) (by omega)
  · rw [tokensF_end (by omega), tokensF_end (by omega)]
theorem line_letter (ln : List UInt8) (k : Nat) (toks : List Tk) (o : Bool) (hi : idleB ln = false) (hl : letterZ (byteZ ln 0) = true) :
    lineP ln k toks o = ⟨(tokensP ln k (if o = true then toks ++ [endTok k] else toks)).1, true, (tokensP ln k (if o = true then toks ++ [endTok k] else toks)).2.1, (tokensP ln k (if o = true then toks ++ [endTok k] else toks)).2.2⟩ := by
  rw [lineP, if_neg (by simp [hi]), if_pos hl]
theorem idle_cons (c : UInt8) (r : List UInt8) : idleB (c :: r) = ((c.toNat : Int) == 59 || (blankZ c.toNat && idleB r)) := by
  unfold idleB
  rw [spanZ]
  by_cases hb : blankZ c.toNat = true
  · rw [if_pos hb, hb]
    have h59 : ((c.toNat : Int) == 59) = false := by
      rw [beq_eq_false_iff_ne]
      intro e
      rw [e] at hb
      revert hb
      decide
    have hby : byteZ (c :: r) (spanZ blankZ r + 1) = byteZ r (spanZ blankZ r) := rfl
    rw [h59, hby]
    simp
  · rw [if_neg hb]
    have hby : byteZ (c :: r) 0 = c.toNat := rfl
    rw [hby]
    simp [hb]
def Mid (ln : List UInt8) (ts : List Tk) : Prop := ∃ tk, tokensP ln 0 [] = (tk, 0, 0) ∧ tk.map bare = ts
theorem tokens_suffix (t x : List UInt8) (st : Nat) : ∀ (f p : Nat) (toks : List Tk), tokensF (t ++ x) st f (t.length + p) toks = tokensF x (st + t.length) f p toks := by
  intro f
  induction f with
  | zero => intro p toks; rfl
  | succ f ih =>
    intro p toks
    have hd : (t ++ x).drop (t.length + p) = x.drop p := by rw [← List.drop_drop, List.drop_left]
    by_cases h : x.length ≤ p
    · rw [tokensF_end h, tokensF_end (by rw [List.length_append]; omega)]
    · rw [tokensF, tokensF, if_neg h, if_neg (by rw [List.length_append]; omega), hd, Nat.add_assoc t.length, ih]
      have e : ((st : Int) + ((t.length + p : Nat) : Int)) = ((st + t.length : Nat) : Int) + (p : Int) := by omega
      rw [e, show st + (t.length + p) = st + t.length + p from by omega]
theorem mid_piece (t x : List UInt8) (tok : Tk) (ts : List Tk) (hr : readP (t ++ x) = { tok := tok, size := t.length }) (hk : tok.kind ≠ 0) (hp : tok.place = 0) (ht : t ≠ []) (h : Mid x ts) : Mid (t ++ x) (tok :: ts) := by
  obtain ⟨tk, h1, h2⟩ := h
  have hl : 0 < t.length := pos_of_ne ht
  have hne : 0 < (t ++ x).length := by rw [List.length_append]; omega
  refine ⟨{ tok with place := 0 } :: tk.map (sh t.length), ?_, ?_⟩
  · unfold tokensP
    rw [tokensF_go hne (by rw [List.drop_zero, hr]), List.drop_zero, hr, if_pos hk]
    simp only [Nat.zero_add, List.nil_append]
    have e := tokens_suffix t x 0 (t ++ x).length 0 ([{ tok with place := ((0 : Nat) : Int) + ((0 : Nat) : Int) }] ++ [].map (sh t.length))
    rw [Nat.add_zero] at e
    rw [show ([{ tok with place := ((0 : Nat) : Int) + ((0 : Nat) : Int) }] : List Tk) = [{ tok with place := ((0 : Nat) : Int) + ((0 : Nat) : Int) }] ++ ([] : List Tk).map (sh t.length) from rfl, e, tokens_app, tokens_shift,
      tokensF_fuel x 0 _ (x.length + 1) 0 [] (by rw [List.length_append]; omega) (by omega)]
    unfold tokensP at h1
    rw [h1]
    rfl
  · rw [List.map_cons, map_bare_sh, h2]
    have : bare { tok with place := 0 } = tok := by
      cases tok
      simp only at hp
      subst hp
      rfl
    rw [this]
theorem mid_nil : Mid [] [] := ⟨[], rfl, rfl⟩
theorem mid_blank (c : UInt8) (x : List UInt8) (ts : List Tk) (hb : blankZ c.toNat = true) (h : Mid x ts) : Mid (c :: x) ts := by
  obtain ⟨tk, h1, h2⟩ := h
  refine ⟨tk.map (sh 1), ?_, by rw [map_bare_sh, h2]⟩
  unfold tokensP
  rw [tok_blank (c :: x) 0 _ (x.length + 1) 0 [] (by simp) (by rw [byteZ_cons]; exact hb) (by simp) (by simp)]
  have e := tokens_suffix [c] x 0 (x.length + 1) 0 []
  have e2 := tokens_shift x 0 1 (x.length + 1) 0 []
  unfold tokensP at h1
  rw [h1] at e2
  simp only [List.length_singleton, List.singleton_append, Nat.zero_add, Nat.add_zero, List.map_nil] at e e2
  rw [Nat.zero_add, e, e2]
  rfl
def Rest (r : List UInt8) (ts : List Tk) : Prop := ∃ b, run r 0 [] true = .inl (b, true) ∧ b.map bare = ts
def Rest0 (r : List UInt8) (ts : List Tk) : Prop := ∃ b, run r 0 [] false = .inl (b, true) ∧ b.map bare = ts
theorem rest_nil : Rest [] [] := ⟨[], run_end (Nat.le_refl _), rfl⟩
theorem run_from (r : List UInt8) (nx : Nat) (hnx : nx ≤ r.length) (a : List Tk) (o : Bool) : run r nx a o =
    match run (r.drop nx) 0 [] o with
    | .inl (b', o') => .inl (a ++ b'.map (sh nx), o')
    | .inr e => .inr (e.1 + nx, e.2) := by
  have hl : (r.take nx).length = nx := by rw [List.length_take]; omega
  have h := run_behind (r.take nx) (r.drop nx) a (r.drop nx).length 0 [] o (Nat.le_refl _) (Nat.zero_le _)
  rw [List.take_append_drop, hl, Nat.zero_add, List.map_nil, List.append_nil] at h
  exact h
theorem rest_line {r : List UInt8} {tk : List Tk} {us : List Tk} {p : Nat} (hr : r ≠ []) (hl : lineP (cutP r 0).1 0 [] true = ⟨tk, true, p, 0⟩) (h : Rest (r.drop (cutP r 0).2) us) : Rest r (tk.map bare ++ us) := by
  obtain ⟨b, h1, h2⟩ := h
  have hb := cutP_bd r 0 (pos_of_ne hr)
  refine ⟨tk ++ b.map (sh (cutP r 0).2), ?_, by rw [List.map_append, map_bare_sh, h2]⟩
  rw [run_step (pos_of_ne hr), hl, if_neg (by simp), run_from r _ hb.2.2, h1]
theorem rest0_rule {r : List UInt8} {ts us : List Tk} (hr : r ≠ []) (hi : idleB (cutP r 0).1 = false) (hlet : letterZ (byteZ (cutP r 0).1 0) = true) (hm : Mid (cutP r 0).1 ts) (h : Rest (r.drop (cutP r 0).2) us) : Rest0 r (ts ++ us) := by
  obtain ⟨b, h1, h2⟩ := h
  obtain ⟨tk, h3, h4⟩ := hm
  have hb := cutP_bd r 0 (pos_of_ne hr)
  have hln := line_letter (cutP r 0).1 0 [] false hi hlet
  rw [if_neg (by simp), h3] at hln
  refine ⟨tk ++ b.map (sh (cutP r 0).2), ?_, by rw [List.map_append, map_bare_sh, h2, h4]⟩
  rw [run_step (pos_of_ne hr), hln, if_neg (by simp), run_from r _ hb.2.2, h1]
theorem rest0_lex {r : List UInt8} {ts : List Tk} (hl : r.length ≤ 65536) (h : Rest0 r ts) : (lexP r).2 = (0, 0) ∧ (lexP r).1.map bare = ts ++ [{ kind := 13 }] := by
  obtain ⟨b, h1, h2⟩ := h
  rw [lexP_run r hl, h1]
  refine ⟨rfl, ?_⟩
  show (closed r b true).map bare = _
  rw [closed, if_pos rfl, List.map_append, h2]
  rfl
end Go.Proofs.YtodenbimeojgdaaGreatDoor

/-
  Plain facts on the tokens of a text: fields that a token's kind does not name are zero, and texts are no longer than the text. No conditions.
-/
namespace Go.Proofs.YtodenbimeojgdaaGreatDoor

def Ascii (l : List UInt8) : Prop := ∀ c ∈ l, c.toNat < 128
def Clean (t : Tk) : Prop := ((t.kind = 1 ∨ t.kind = 10 ∨ t.kind = 11) → t.mn = 0 ∧ t.mx = 0 ∧ t.lo = 0 ∧ t.hi = 0) ∧ (t.kind = 12 → t.text = [] ∧ t.mn = 0 ∧ t.mx = 0) ∧ (t.kind = 1 → Ascii t.text)
/-- clean, and no longer than so -/
def Fine (m : Nat) (t : Tk) : Prop := Clean t ∧ t.text.length ≤ m
theorem clean_sign {t : Tk} (h1 : t.kind ≠ 1) (h2 : t.kind ≠ 10) (h3 : t.kind ≠ 11) (h4 : t.kind ≠ 12) : Clean t :=
  ⟨fun h => by omega, fun h => absurd h h4, fun h => absurd h h1⟩
theorem fine_none (m : Nat) (p : Pc) (h : p.tok = {}) : Fine m p.tok := by
  rw [h]
  exact ⟨clean_sign (by decide) (by decide) (by decide) (by decide), Nat.zero_le _⟩
theorem span_all (p : Int → Bool) : ∀ (l : List UInt8), ∀ c ∈ l.take (spanZ p l), p c.toNat = true := by
  intro l
  induction l with
  | nil => intro c hc; simp at hc
  | cons a r ih =>
    intro c hc
    rw [spanZ] at hc
    split at hc
    · rename_i ha
      rw [List.take_succ_cons] at hc
      rcases List.mem_cons.1 hc with rfl | hc
      · exact ha
      · exact ih c hc
    · simp at hc
theorem byte_all {p : UInt8 → Prop} (h : ∀ n : Fin 256, p (UInt8.ofNat n.val)) (c : UInt8) : p c := by
  have := h ⟨c.toNat, c.toNat_lt⟩
  rw [UInt8.ofNat_toNat] at this
  exact this
theorem named_ascii (c : UInt8) : namedZ c.toNat = true → c.toNat < 128 := byte_all (p := fun c => namedZ c.toNat = true → c.toNat < 128) (by decide +kernel) c
theorem moreVals_len {l : List UInt8} {base : Int} (hb0 : 0 ≤ base) (hb1 : base ≤ 16) : ∀ (f k : Nat) (nums : List Int) (out : List Int) (k2 : Nat), moreVals l base f k nums = some (out, k2) → out.length + k ≤ nums.length + k2 := by
  intro f
  induction f with
  | zero => intro k nums out k2 h; cases h
  | succ f ih =>
    intro k nums out k2 h
    rw [moreVals] at h
    split at h
    · cases hv : valueZ l (k + 1) base with
      | none => rw [hv] at h; cases h
      | some vk =>
        obtain ⟨v, k3⟩ := vk
        rw [hv] at h
        have hb := valueZ_bd hb0 hb1 hv
        have := ih k3 _ out k2 h
        rw [List.length_append, List.length_singleton] at this
        omega
    · injection h with h
      injection h with h1 h2
      subst h1
      omega
theorem fine_times (l : List UInt8) : Fine l.length (timesP l).tok := by
  unfold timesP
  have ht : ∀ a b k, Fine l.length (timesTok a b k).tok := fun a b k => ⟨clean_sign (by simp [timesTok]) (by simp [timesTok]) (by simp [timesTok]) (by simp [timesTok]), Nat.zero_le _⟩
  split
  · exact fine_none _ _ rfl
  · split
    · split
      · exact fine_none _ _ rfl
      · split
        · split
          · exact fine_none _ _ rfl
          · exact ht _ _ _
        · exact ht _ _ _
    · exact ht _ _ _
theorem fine_chars (l : List UInt8) : Fine l.length (charsP l).tok := by
  unfold charsP
  cases quoteAt (l.drop 1) with
  | none => exact fine_none _ _ rfl
  | some i =>
    refine ⟨⟨fun _ => ⟨rfl, rfl, rfl, rfl⟩, fun h => absurd h (by show ¬ (10 : Int) = 12; omega), fun h => absurd h (by show ¬ (10 : Int) = 1; omega)⟩, ?_⟩
    show ((l.drop 1).take i).length ≤ _
    rw [List.length_take, List.length_drop]
    omega
theorem fine_values (l : List UInt8) : Fine l.length (valuesP l).tok := by
  obtain ⟨hb0, hb1⟩ := baseZ_bd l
  unfold valuesP
  cases hv : valueZ l 2 (baseZ l) with
  | none => exact fine_none _ _ rfl
  | some ak =>
    obtain ⟨a, k⟩ := ak
    have hb := valueZ_bd hb0 hb1 hv
    rw [valuesOf]
    split
    · cases hv2 : valueZ l (k + 1) (baseZ l) with
      | none => exact fine_none _ _ rfl
      | some bk =>
        obtain ⟨b, k2⟩ := bk
        rw [rangeOf]
        split
        · exact fine_none _ _ rfl
        · exact ⟨⟨fun h => absurd h (by show ¬ ((12 : Int) = 1 ∨ (12 : Int) = 10 ∨ (12 : Int) = 11); omega), fun _ => ⟨rfl, rfl, rfl⟩, fun h => absurd h (by show ¬ (12 : Int) = 1; omega)⟩, Nat.zero_le _⟩
    · cases hm : moreVals l (baseZ l) (l.length + 1) k [a] with
      | none => exact fine_none _ _ rfl
      | some nk =>
        obtain ⟨nums, k2⟩ := nk
        have hm1 := moreVals_len hb0 hb1 _ _ _ _ _ hm
        have hm2 := moreVals_bd hb0 hb1 _ _ _ _ _ hb.2.2.2 hm
        refine ⟨⟨fun _ => ⟨rfl, rfl, rfl, rfl⟩, fun h => absurd h (by show ¬ (11 : Int) = 12; omega), fun h => absurd h (by show ¬ (11 : Int) = 1; omega)⟩, ?_⟩
        show (numsText nums).length ≤ _
        rw [numsText, List.length_map]
        rw [List.length_singleton] at hm1
        omega
theorem fine_sign (kind : Int) (t : List UInt8) (l : List UInt8) (h1 : kind ≠ 1) (h2 : kind ≠ 10) (h3 : kind ≠ 11) (h4 : kind ≠ 12) : Fine l.length ((signRow kind t).2 l).tok := ⟨clean_sign h1 h2 h3 h4, Nat.zero_le _⟩
theorem fine_table (l : List UInt8) : ∀ row ∈ table, Fine l.length (row.2 l).tok := by
  intro row h
  simp only [table, List.mem_cons, List.not_mem_nil, or_false] at h
  rcases h with rfl | rfl | rfl | rfl | rfl | rfl | rfl | rfl | rfl | rfl | rfl | rfl | rfl | rfl | rfl
  · exact fine_none _ _ rfl
  · exact fine_none _ _ rfl
  · refine ⟨⟨fun _ => ⟨rfl, rfl, rfl, rfl⟩, fun h => absurd h (by show ¬ (1 : Int) = 12; omega), fun _ => fun c hc => named_ascii c (span_all namedZ l c hc)⟩, ?_⟩
    show (l.take _).length ≤ _
    rw [List.length_take]
    omega
  · exact fine_sign _ _ l (by decide) (by decide) (by decide) (by decide)
  · exact fine_sign _ _ l (by decide) (by decide) (by decide) (by decide)
  · exact fine_sign _ _ l (by decide) (by decide) (by decide) (by decide)
  · exact fine_sign _ _ l (by decide) (by decide) (by decide) (by decide)
  · exact fine_sign _ _ l (by decide) (by decide) (by decide) (by decide)
  · exact fine_sign _ _ l (by decide) (by decide) (by decide) (by decide)
  · exact fine_sign _ _ l (by decide) (by decide) (by decide) (by decide)
  · exact fine_times l
  · exact fine_chars l
  · exact fine_values l
  · exact fine_none _ _ rfl
  · exact fine_none _ _ rfl
theorem fine_pick (l : List UInt8) (rows : List Row) (hr : ∀ row ∈ rows, Fine l.length (row.2 l).tok) : Fine l.length (pick rows l).tok := by
  induction rows with
  | nil => exact fine_none _ _ rfl
  | cons row rows ih =>
    obtain ⟨p, r⟩ := row
    rw [pick]
    split
    · exact hr (p, r) (by simp)
    · exact ih fun row h => hr row (by simp [h])
theorem fine_read (l : List UInt8) : Fine l.length (readP l).tok := fine_pick l table (fine_table l)

theorem Fine.mono {m n : Nat} {t : Tk} (h : Fine m t) (hm : m ≤ n) : Fine n t := ⟨h.1, Nat.le_trans h.2 hm⟩
def AllFine (m : Nat) (toks : List Tk) : Prop := ∀ t ∈ toks, Fine m t
theorem AllFine.snoc {m : Nat} {toks : List Tk} {t : Tk} (h : AllFine m toks) (ht : Fine m t) : AllFine m (toks ++ [t]) := fun x hx => by
  rcases List.mem_append.1 hx with hx | hx
  · exact h x hx
  · rw [List.mem_singleton] at hx; subst hx; exact ht
theorem fine_end (m k : Nat) : Fine m (endTok k) := ⟨clean_sign (by simp [endTok]) (by simp [endTok]) (by simp [endTok]) (by simp [endTok]), Nat.zero_le _⟩
theorem tokens_fine (ln : List UInt8) (start m : Nat) (hm : ln.length ≤ m) : ∀ (f at_ : Nat) (toks : List Tk), AllFine m toks → AllFine m (tokensF ln start f at_ toks).1 := by
  intro f
  induction f with
  | zero => intro at_ toks h; exact h
  | succ f ih =>
    intro at_ toks h
    rw [tokensF]
    split
    · exact h
    · split
      · exact h
      · refine ih _ _ ?_
        have hr : Fine m (readP (ln.drop at_)).tok := (fine_read (ln.drop at_)).mono (by rw [List.length_drop]; omega)
        split
        · exact h.snoc hr
        · exact h
theorem line_fine (ln : List UInt8) (k m : Nat) (hm : ln.length ≤ m) (toks : List Tk) (o : Bool) (h : AllFine m toks) : AllFine m (lineP ln k toks o).toks := by
  unfold lineP
  split
  · exact h
  · split
    · refine tokens_fine ln k m hm _ _ _ ?_
      split
      · exact h.snoc (fine_end _ _)
      · exact h
    · split
      · exact tokens_fine ln k m hm _ _ _ h
      · exact h
theorem closed_fine (l : List UInt8) (m : Nat) (toks : List Tk) (o : Bool) (h : AllFine m toks) : AllFine m (closed l toks o) := by
  unfold closed
  split
  · exact h.snoc (fine_end _ _)
  · exact h
theorem lexF_fine (l : List UInt8) : ∀ (f k : Nat) (toks : List Tk) (o : Bool), AllFine l.length toks → AllFine l.length (lexF l f k toks o).1 := by
  intro f
  induction f with
  | zero => intro k toks o h; exact closed_fine l _ _ _ h
  | succ f ih =>
    intro k toks o h
    rw [lexF]
    split
    · exact closed_fine l _ _ _ h
    · rename_i hk
      split
      · exact fun t ht => by cases ht
      · have := cutP_bd l k (by omega)
        exact ih _ _ _ (line_fine _ _ _ (by omega) _ _ h)
theorem lex_fine (l : List UInt8) : AllFine l.length (lexP l).1 := by
  unfold lexP
  split
  · exact fun t ht => by cases ht
  · exact lexF_fine l _ _ _ _ (fun t ht => by cases ht)
end Go.Proofs.YtodenbimeojgdaaGreatDoor

/-
  Trees, as plain data, and how they lie in memory. No conditions.
-/
namespace Go.Proofs.YtodenbimeojgdaaGreatDoor
open Go.RowKit

/-- a tree -/
inductive Tr where
  | mk (kind : Int) (text : List UInt8) (lo hi mn mx : Int) (kids : List Tr)
namespace Tr
def kind : Tr → Int | mk k _ _ _ _ _ _ => k
def text : Tr → List UInt8 | mk _ t _ _ _ _ _ => t
def lo : Tr → Int | mk _ _ l _ _ _ _ => l
def hi : Tr → Int | mk _ _ _ h _ _ _ => h
def mn : Tr → Int | mk _ _ _ _ m _ _ => m
def mx : Tr → Int | mk _ _ _ _ _ m _ => m
def kids : Tr → List Tr | mk _ _ _ _ _ _ k => k
end Tr

/-- the cells of a tree whose kids are that slice -/
def headCells (t : Tr) (sl : Value) : List Value := [.int .u8 t.kind, .string (bs t.text), .int .u8 t.lo, .int .u8 t.hi, .int .i64 t.mn, .int .i64 t.mx, sl]
theorem headCells_len (t : Tr) (sl : Value) : (headCells t sl).length = 7 := rfl

/-- kids in memory, in blocks of some kind -/
inductive KidsAt (w : World) (S : Nat → Prop) : List Tr → Value → Prop
  | nil (p : Option Addr) (cap : Nat) : KidsAt w S [] (.slice p 0 cap)
  | row (kids : List Tr) (b off cap : Nat) (sls : Nat → Value) (hS : S b) (hlt : b < w.heap.size) (hn : 0 < kids.length) (hcap : kids.length ≤ cap) (hm : kids.length ≤ maxLen) (ht : ∀ i (h : i < kids.length), kids[i].text.length ≤ maxLen)
      (hc : ∀ i (h : i < kids.length) j u, (headCells kids[i] (sls i))[j]? = some u → w.cell? ⟨b, off + i * 7 + j, none⟩ = some u)
      (hk : ∀ i (h : i < kids.length), KidsAt w S kids[i].kids (sls i)) : KidsAt w S kids (.slice (some ⟨b, off, none⟩) kids.length cap)

theorem KidsAt.later {w w' : World} {S S' : Nat → Prop} {ks : List Tr} {sl : Value} (h : KidsAt w S ks sl) (hs : w.heap.size ≤ w'.heap.size) (hf : ∀ b, b < w.heap.size → S b → S' b ∧ w'.heap[b]? = w.heap[b]?) : KidsAt w' S' ks sl := by
  induction h with
  | nil p cap => exact .nil p cap
  | row kids b off cap sls hS hlt hn hcap hm ht hc hk ih =>
    exact .row kids b off cap sls (hf b hlt hS).1 (by omega) hn hcap hm ht (fun i h j u hu => by rw [World.cell?_of_block (w := w) (hf b hlt hS).2]; exact hc i h j u hu) ih

/-- a tree in old memory stays -/
theorem KidsAt.under {w w' : World} {B : Nat} {ks : List Tr} {sl : Value} (h : KidsAt w (· < B) ks sl) (hb : Below B w w') : KidsAt w' (· < B) ks sl :=
  h.later hb.size (fun b _ hB => ⟨hB, hb.block b hB⟩)
theorem KidsAt.mono {w : World} {S S' : Nat → Prop} {ks : List Tr} {sl : Value} (h : KidsAt w S ks sl) (hf : ∀ b, b < w.heap.size → S b → S' b) : KidsAt w S' ks sl :=
  h.later (Nat.le_refl _) (fun b hl hB => ⟨hf b hl hB, rfl⟩)
/-- what a kids' slice looks like -/
theorem KidsAt.form {w : World} {S : Nat → Prop} {ks : List Tr} {sl : Value} (h : KidsAt w S ks sl) : ∃ p cap, sl = .slice p ks.length cap ∧ ks.length ≤ maxLen := by
  cases h with
  | nil p cap => exact ⟨p, cap, rfl, Nat.zero_le _⟩
  | row _ b off cap sls hS hlt hn hcap hm ht hc hk => exact ⟨_, cap, rfl, hm⟩

/-- one kid's cells -/
theorem KidsAt.at_ {w : World} {S : Nat → Prop} {ks : List Tr} {A : Option Addr} {n c : Nat} (h : KidsAt w S ks (.slice A n c)) {k : Nat} {t : Tr} (ht : ks[k]? = some t) :
    ∃ g off sl, A = some ⟨g, off, none⟩ ∧ g < w.heap.size ∧ S g ∧ w.cell? ⟨g, off + k * 7, none⟩ = some (.int .u8 t.kind) ∧ w.cell? ⟨g, off + k * 7 + 1, none⟩ = some (.string (bs t.text)) ∧ w.cell? ⟨g, off + k * 7 + 2, none⟩ = some (.int .u8 t.lo) ∧
      w.cell? ⟨g, off + k * 7 + 3, none⟩ = some (.int .u8 t.hi) ∧ w.cell? ⟨g, off + k * 7 + 4, none⟩ = some (.int .i64 t.mn) ∧ w.cell? ⟨g, off + k * 7 + 5, none⟩ = some (.int .i64 t.mx) ∧ w.cell? ⟨g, off + k * 7 + 6, none⟩ = some sl ∧ KidsAt w S t.kids sl ∧ t.text.length ≤ maxLen := by
  obtain ⟨hk, he⟩ := List.getElem?_eq_some_iff.1 ht
  cases h with
  | nil => simp at hk
  | row _ b off cap sls hS hlt hn hcap hm htx hc hkk =>
    subst he
    have key := hc k hk
    exact ⟨b, off, sls k, rfl, hlt, hS, key 0 _ rfl, key 1 _ rfl, key 2 _ rfl, key 3 _ rfl, key 4 _ rfl, key 5 _ rfl, key 6 _ rfl, hkk k hk, htx k hk⟩

/-! ### which trees are right -/
def smallZ (n : Int) : Bool := decide (97 ≤ n) && decide (n ≤ 122)
def nameTailZ (n : Int) : Bool := smallZ n || digitZ n || n == 45
def nameB : List UInt8 → Bool
  | [] => false
  | c :: r => smallZ c.toNat && r.all (fun c => nameTailZ c.toNat)
def charZ (n : Int) : Bool := decide (32 ≤ n) && decide (n ≤ 126) && !(n == 34)
def charsB (l : List UInt8) : Bool := l.all (fun c => charZ c.toNat)
def timesB (mn mx : Int) : Bool := decide (0 ≤ mn) && decide (mn ≤ 9999) && (mx == -1 || (decide (mn ≤ mx) && decide (mx ≤ 9999)))
def noTextB (t : Tr) : Bool := t.text.isEmpty
def noRangeB (t : Tr) : Bool := t.lo == 0 && t.hi == 0
def noTimesB (t : Tr) : Bool := t.mn == 0 && t.mx == 0
/-- right but for its kids' own -/
def aloneB (t : Tr) : Bool :=
  if t.kind = 1 then nameB t.text && noRangeB t && noTimesB t && t.kids.length == 0
  else if t.kind = 2 then charsB t.text && noRangeB t && noTimesB t && t.kids.length == 0
  else if t.kind = 3 then !noTextB t && noRangeB t && noTimesB t && t.kids.length == 0
  else if t.kind = 4 then noTextB t && decide (t.lo ≤ t.hi) && noTimesB t && t.kids.length == 0
  else if t.kind = 5 ∨ t.kind = 6 then noTextB t && noRangeB t && noTimesB t && decide (2 ≤ t.kids.length)
  else if t.kind = 7 then noTextB t && noRangeB t && timesB t.mn t.mx && t.kids.length == 1
  else false
def rightD : Nat → Tr → Bool
  | 0, _ => false
  | d + 1, t => aloneB t && t.kids.all (rightD d)
def rightB (t : Tr) : Bool := rightD 100 t
end Go.Proofs.YtodenbimeojgdaaGreatDoor

/-
  The contracts of abnf/right.go: which trees are right. Conditions: the tree lies in memory; texts and kids within Go's own bounds.
-/
namespace Go.Proofs.YtodenbimeojgdaaGreatDoor
open Go.RowKit

set_option maxHeartbeats 400000 in
theorem abSmall_any (n : Int) (w : World) :
    Calls Tryz.prog 75 #[.int .u8 n] w fun e w' => e = .returned (.bool (smallZ n)) ∧ w = w' := by
  go_enter Tryz.func75, Tryz.ntmps75
  go_wp2
  all_goals go_ret
  all_goals exact ⟨ret_bool (by rw [Bool.eq_iff_iff]; simp [smallZ]; omega), rfl⟩
set_option maxHeartbeats 400000 in
theorem abDigit_any (n : Int) (w : World) :
    Calls Tryz.prog 76 #[.int .u8 n] w fun e w' => e = .returned (.bool (digitZ n)) ∧ w = w' := by
  go_enter Tryz.func76, Tryz.ntmps76
  go_wp2
  all_goals go_ret
  all_goals exact ⟨ret_bool (by rw [Bool.eq_iff_iff]; simp [digitZ]; omega), rfl⟩
set_option maxHeartbeats 400000 in
theorem abTimes_any (a b : Int) (w : World) :
    Calls Tryz.prog 120 #[.int .i64 a, .int .i64 b] w fun e w' => e = .returned (.bool (timesB a b)) ∧ w = w' := by
  go_enter Tryz.func120, Tryz.ntmps120
  go_wp2
  all_goals go_ret
  all_goals exact ⟨ret_bool (by rw [Bool.eq_iff_iff]; simp [timesB]; (try simp only [beq_iff_eq, beq_eq_false_iff_ne, ne_eq] at *); omega), rfl⟩

/-- whether all bytes from a place on are such ones, the first one by a rule of its own -/
def allFrom (p : Int → Bool) (l : List UInt8) : Bool := l.all (fun c => p c.toNat)
theorem allFrom_step (p : Int → Bool) (l : List UInt8) (k : Nat) (h : k < l.length) : allFrom p (l.take (k + 1)) = (allFrom p (l.take k) && p (byteZ l k)) := by
  unfold allFrom byteZ
  rw [List.take_succ_eq_append_getElem h, List.all_append]
  simp [h]
theorem allFrom_no (p : Int → Bool) (l : List UInt8) (k : Nat) (h : k < l.length) (hp : p (byteZ l k) = false) : allFrom p l = false := by
  rw [← Bool.not_eq_true]
  unfold allFrom
  rw [List.all_eq_true]
  intro hh
  have := hh _ (List.getElem_mem h)
  unfold byteZ at hp
  rw [List.getD_eq_getElem?_getD, List.getElem?_eq_getElem h] at hp
  simp only [Option.getD_some] at hp
  rw [hp] at this
  cases this

set_option maxHeartbeats 400000 in
theorem abChars_any (s : ByteArray) (hs : s.size ≤ maxLen) (w : World) :
    Calls Tryz.prog 119 #[.string s] w fun e w' => e = .returned (.bool (charsB s.data.toList)) ∧ w = w' := by
  unfold maxLen at hs
  have HL := Lib.hid (listLen s)
  have HS := Lib.hid (fun k => allFrom_step charZ s.data.toList k)
  have HN := Lib.hid (fun k => allFrom_no charZ s.data.toList k)
  have HE : Hid (charsB s.data.toList = allFrom charZ s.data.toList) := show _ = _ from rfl
  generalize charsB s.data.toList = R at *
  go_enter Tryz.func119, Tryz.ntmps119
  go_wp2
  go_loop [3, 6] (fun _ i => ∃ k : Nat, k ≤ s.size ∧ i = .int .i64 k ∧ Hid (allFrom charZ (s.data.toList.take k) = true)) (fun _ i => s.size - (intOf i).toNat)
  case atStart => exact ⟨0, Nat.zero_le _, rfl, show _ = _ from rfl⟩
  case round =>
    obtain ⟨k, hk, rfl, HK⟩ := hrel
    by_cases hlt : k < s.size
    · have HB := Lib.hid (byteZ_at s k hlt)
      have HST := Lib.hid (HS.out k (by rw [HL.out]; exact hlt))
      have HNO := Lib.hid (HN.out k (by rw [HL.out]; exact hlt))
      go_wp2
      all_goals first
        | (go_ret
           refine ⟨ret_bool ?_, rfl⟩
           rw [HE.out, HNO.out]
           rw [← HB.out]
           simp only [charZ, beq_iff_eq] at *
           simp
           omega)
        | (go_round
           case rel =>
             refine ⟨k + 1, by omega, by go_num, ?_⟩
             show _ = _
             rw [HST.out, HK.out, ← HB.out]
             simp only [charZ, beq_eq_false_iff_ne] at *
             simp
             omega
           case measure => simp [intOf]; omega)
    · have hkk : k = s.size := by omega
      subst hkk
      go_wp2
      go_ret
      refine ⟨ret_bool ?_, rfl⟩
      rw [HE.out, ← HK.out, List.take_of_length_le (by rw [HL.out]; omega)]

theorem str_empty (s : ByteArray) : s.toList.isEmpty = decide (s.size = 0) := by
  rw [ByteArray.toList_eq, Bool.eq_iff_iff, List.isEmpty_iff, decide_eq_true_eq, ← listLen]
  exact ⟨fun h => by rw [h]; rfl, List.eq_nil_of_length_eq_zero⟩
/-- a name's byte, at a place -/
def nameAtB (k : Nat) (n : Int) : Bool := smallZ n || (!(k == 0) && (digitZ n || n == 45))
def namedTo (l : List UInt8) : Nat → Bool
  | 0 => true
  | k + 1 => namedTo l k && nameAtB k (byteZ l k)
theorem namedTo_tail (c : UInt8) (r : List UInt8) : ∀ k, k ≤ r.length → namedTo (c :: r) (k + 1) = (smallZ c.toNat && (r.take k).all (fun c => nameTailZ c.toNat)) := by
  intro k
  induction k with
  | zero => intro _; simp [namedTo, nameAtB, byteZ]
  | succ k ih =>
    intro hk
    rw [namedTo, ih (by omega), List.take_succ_eq_append_getElem (by omega), List.all_append]
    have e : byteZ (c :: r) (k + 1) = ((r[k]'(by omega)).toNat : Int) := by
      unfold byteZ
      rw [List.getD_cons_succ, List.getD_eq_getElem?_getD, List.getElem?_eq_getElem (by omega)]
      rfl
    rw [e]
    simp [nameAtB, nameTailZ, Bool.and_assoc, Bool.or_assoc]
theorem namedTo_all (l : List UInt8) (h : l ≠ []) : namedTo l l.length = nameB l := by
  cases l with
  | nil => exact absurd rfl h
  | cons c r =>
    rw [List.length_cons, namedTo_tail c r r.length (Nat.le_refl _), List.take_length]
    rfl
theorem namedTo_no (l : List UInt8) (k : Nat) (h : k < l.length) (hp : nameAtB k (byteZ l k) = false) : nameB l = false := by
  have : ∀ j, k + 1 ≤ j → namedTo l j = false := by
    intro j
    induction j with
    | zero => intro h; omega
    | succ j ih =>
      intro hj
      by_cases hjk : j = k
      · subst hjk; simp [namedTo, hp]
      · simp [namedTo, ih (by omega)]
  rw [← namedTo_all l (by intro e; subst e; simp at h)]
  exact this _ (by omega)

set_option maxHeartbeats 1000000 in
theorem abName_any (s : ByteArray) (hs : s.size ≤ maxLen) (w : World) :
    Calls Tryz.prog 35 #[.string s] w fun e w' => e = .returned (.bool (nameB s.data.toList)) ∧ w = w' := by
  unfold maxLen at hs
  have HL := Lib.hid (listLen s)
  have HN := Lib.hid (fun k => namedTo_no s.data.toList k)
  have HE : Hid (0 < s.size → nameB s.data.toList = namedTo s.data.toList s.size) := by
    intro h
    rw [← listLen s, namedTo_all]
    intro e
    rw [← listLen s, e] at h
    simp at h
  have HZ : Hid (s.size = 0 → nameB s.data.toList = false) := by
    intro h
    rw [← listLen s] at h
    rw [List.eq_nil_of_length_eq_zero h]
    rfl
  generalize nameB s.data.toList = R at *
  go_enter Tryz.func35, Tryz.ntmps35
  go_wp2
  go_loop [3, 6] (fun _ i => ∃ k : Nat, k ≤ s.size ∧ i = .int .i64 k ∧ Hid (namedTo s.data.toList k = true)) (fun _ i => s.size - (intOf i).toNat)
  case atStart => exact ⟨0, Nat.zero_le _, rfl, show _ = _ from rfl⟩
  case round =>
    obtain ⟨k, hk, rfl, HK⟩ := hrel
    by_cases hlt : k < s.size
    · have HB := Lib.hid (byteZ_at s k hlt)
      have HST : Hid (nameAtB k (byteZ s.data.toList k) = true → namedTo s.data.toList (k + 1) = true) := by
        intro h
        rw [namedTo, HK.out, h]
        rfl
      have HNO := Lib.hid (HN.out k (by rw [HL.out]; exact hlt))
      have hkz : (((k : Int) == 0) = true ∧ Hid (k = 0)) ∨ (((k : Int) == 0) = false ∧ Hid (¬ k = 0)) := by
        by_cases hz : k = 0
        · exact .inl ⟨by rw [hz]; rfl, hz⟩
        · exact .inr ⟨by rw [beq_eq_false_iff_ne]; omega, hz⟩
      rcases hkz with ⟨hk0, HZ0⟩ | ⟨hk0, HZ0⟩
      all_goals
        go_wp2_with (first | (go_at_call 75; refine (abSmall_any _ _).mono ?_; rintro e w' ⟨rfl, rfl⟩) | (go_at_call 76; refine (abDigit_any _ _).mono ?_; rintro e w' ⟨rfl, rfl⟩))
        all_goals first
          | (go_ret
             refine ⟨ret_bool ?_, rfl⟩
             refine (HNO.out ?_).symm
             rw [← HB.out]
             have hz := HZ0.out
             unfold nameAtB
             simp_all)
          | (go_round
             case rel =>
               refine ⟨k + 1, by omega, by go_num, HST.out ?_⟩
               rw [← HB.out]
               have hz := HZ0.out
               unfold nameAtB
               simp_all
             case measure => simp [intOf]; omega)
    · have hkk : k = s.size := by omega
      subst hkk
      by_cases h0 : s.size = 0
      · have hR := HZ.out h0
        have HR := Lib.hid hR
        clear hR
        go_wp2
        all_goals go_ret
        all_goals refine ⟨ret_bool ?_, rfl⟩
        all_goals rw [HR.out, str_empty]
        all_goals simp [h0]
      · have HR := Lib.hid (HE.out (by omega))
        go_wp2
        all_goals go_ret
        all_goals refine ⟨ret_bool ?_, rfl⟩
        all_goals rw [HR.out, HK.out, str_empty]
        all_goals simp [h0]

def treeV (t : Tr) (sl : Value) : Value := .agg #[.int .u8 t.kind, .string (bs t.text), .int .u8 t.lo, .int .u8 t.hi, .int .i64 t.mn, .int .i64 t.mx, sl]
def treeO (t : Tr) (sl : Value) : Obj := .cells #[.int .u8 t.kind, .string (bs t.text), .int .u8 t.lo, .int .u8 t.hi, .int .i64 t.mn, .int .i64 t.mx, sl] 25
theorem bs_len (l : List UInt8) : (bs l).size = l.length := by show (l.toArray).size = _; simp
theorem abName_bs (l : List UInt8) (hs : l.length ≤ maxLen) (w : World) : Calls Tryz.prog 35 #[.string (bs l)] w fun e w' => e = .returned (.bool (nameB l)) ∧ w = w' := by
  have h := abName_any (bs l) (by rw [bs_len]; exact hs) w
  rw [bs_toList] at h
  exact h
theorem abChars_bs (l : List UInt8) (hs : l.length ≤ maxLen) (w : World) : Calls Tryz.prog 119 #[.string (bs l)] w fun e w' => e = .returned (.bool (charsB l)) ∧ w = w' := by
  have h := abChars_any (bs l) (by rw [bs_len]; exact hs) w
  rw [bs_toList] at h
  exact h
theorem bs_empty (l : List UInt8) : (bs l).toList.isEmpty = l.isEmpty := by rw [ByteArray.toList_eq, bs_toList]

set_option maxRecDepth 100000 in
set_option maxHeartbeats 2000000 in
theorem abAlone_any (t : Tr) (p : Option Addr) (n cap : Nat) (hn : t.kids.length = n) (hm : n ≤ maxLen) (ht : t.text.length ≤ maxLen) (w : World) :
    Calls Tryz.prog 73 #[treeV t (.slice p n cap)] w fun e w' => e = .returned (.bool (aloneB t)) ∧ Below w.heap.size w w' := by
  unfold maxLen at hm
  have HA := Lib.hid (aloneB.eq_1 t)
  have HN := Lib.hid (fun W => abName_bs t.text ht W)
  have HC := Lib.hid (fun W => abChars_bs t.text ht W)
  have HEM := Lib.hid (bs_empty t.text)
  have HT : Hid (noTextB t = t.text.isEmpty) := show _ = _ from rfl
  have HR : Hid (noRangeB t = (t.lo == 0 && t.hi == 0)) := show _ = _ from rfl
  have HM : Hid (noTimesB t = (t.mn == 0 && t.mx == 0)) := show _ = _ from rfl
  have HK := Lib.hid hn
  unfold treeV
  clear hn ht
  have HW : Hid (treeO t (.slice p n cap) = treeO t (.slice p n cap)) := show _ = _ from rfl
  generalize noTextB t = bt at *
  generalize noRangeB t = br at *
  generalize noTimesB t = bm at *
  generalize aloneB t = R at *
  generalize nameB t.text = nb at *
  generalize charsB t.text = cb at *
  generalize t.kind = k at *
  go_enter Tryz.func73, Tryz.ntmps73
  go_upto_region 1 with fail
  go_cut [3] (fun b wx => b = .bool bt ∧ wx = w.alloc (.cells #[.int .u8 k, .string (bs t.text), .int .u8 t.lo, .int .u8 t.hi, .int .i64 t.mn, .int .i64 t.mx, .slice p n cap] 25))
  case first =>
    go_wp2
    all_goals go_meet
    all_goals refine ⟨?_, rfl⟩
    all_goals rw [HT.out, HEM.out]
  case rest =>
    obtain ⟨rfl, rfl⟩ := hcut
    go_upto_region 2 with fail
    go_cut [4] (fun b wx => b = .bool br ∧ wx = w.alloc (.cells #[.int .u8 k, .string (bs t.text), .int .u8 t.lo, .int .u8 t.hi, .int .i64 t.mn, .int .i64 t.mx, .slice p n cap] 25))
    case first =>
      cases hlo : (t.lo == 0)
      all_goals
        go_wp2
        go_meet
        refine ⟨?_, rfl⟩
        rw [HR.out, hlo]
        rfl
    case rest =>
      obtain ⟨rfl, rfl⟩ := hcut
      go_upto_region 3 with fail
      go_cut [5] (fun b wx => b = .bool bm ∧ wx = w.alloc (.cells #[.int .u8 k, .string (bs t.text), .int .u8 t.lo, .int .u8 t.hi, .int .i64 t.mn, .int .i64 t.mx, .slice p n cap] 25))
      case first =>
        cases hmn : (t.mn == 0)
        all_goals
          go_wp2
          go_meet
          refine ⟨?_, rfl⟩
          rw [HM.out, hmn]
          rfl
      case rest =>
        obtain ⟨rfl, rfl⟩ := hcut
        have hbel : Below w.heap.size w (w.alloc (.cells #[.int .u8 k, .string (bs t.text), .int .u8 t.lo, .int .u8 t.hi, .int .i64 t.mn, .int .i64 t.mx, .slice p n cap] 25)) := (Below.refl _ _).alloc (Nat.le_refl _) _
        have hk7 : (k = 1 ∨ k = 2 ∨ k = 3 ∨ k = 4 ∨ k = 5 ∨ k = 6 ∨ k = 7) ∨ ((k == 1) = false ∧ (k == 2) = false ∧ (k == 3) = false ∧ (k == 4) = false ∧ (k == 5) = false ∧ (k == 6) = false ∧ (k == 7) = false) := by
          simp only [beq_eq_false_iff_ne, ne_eq]
          omega
        rcases hk7 with (rfl | rfl | rfl | rfl | rfl | rfl | rfl) | ⟨h1, h2, h3, h4, h5, h6, h7⟩
        all_goals
          go_wp2_with (first | (go_at_call 35; refine (HN.out _).mono ?_; rintro e w' ⟨rfl, rfl⟩) | (go_at_call 119; refine (HC.out _).mono ?_; rintro e w' ⟨rfl, rfl⟩) | (go_at_call 120; refine (abTimes_any _ _ _).mono ?_; rintro e w' ⟨rfl, rfl⟩))
          all_goals go_ret
          all_goals refine ⟨ret_bool ?_, hbel⟩
          all_goals rw [HA.out, HK.out]
          all_goals simp_all
          all_goals first
            | (rw [Bool.eq_iff_iff]; simp only [beq_iff_eq]; omega)
            | omega
            | (intro h; omega)

end Go.Proofs.YtodenbimeojgdaaGreatDoor

/-
  The contracts of abnf.rightWithin and abnf.Right. Conditions: the tree lies in memory; texts and kids within Go's own bounds.
-/
namespace Go.Proofs.YtodenbimeojgdaaGreatDoor
open Go.RowKit

theorem all_take (f : Tr → Bool) (ks : List Tr) (k : Nat) (t : Tr) (h : ks[k]? = some t) : (ks.take (k + 1)).all f = ((ks.take k).all f && f t) := by
  obtain ⟨hk, he⟩ := List.getElem?_eq_some_iff.1 h
  rw [List.take_succ_eq_append_getElem hk, List.all_append, he]
  simp
theorem all_no (f : Tr → Bool) (ks : List Tr) (k : Nat) (t : Tr) (h : ks[k]? = some t) (hf : f t = false) : ks.all f = false := by
  rw [← Bool.not_eq_true, List.all_eq_true]
  intro hh
  have := hh t (List.mem_of_getElem? h)
  rw [hf] at this
  cases this

set_option maxHeartbeats 2000000 in
theorem abWithin_any : ∀ (d : Nat) (t : Tr) (sl : Value) (w : World), d ≤ 100 → KidsAt w (· < w.heap.size) t.kids sl → t.text.length ≤ maxLen →
    Calls Tryz.prog 33 #[treeV t sl, .int .i64 d] w fun e w' => e = .returned (.bool (rightD d t)) ∧ Below w.heap.size w w' := by
  intro d
  induction d with
  | zero =>
    intro t sl w _ _ _
    unfold treeV
    go_enter Tryz.func33, Tryz.ntmps33
    go_wp2
    go_ret
    exact ⟨rfl, (Below.refl _ _).alloc (Nat.le_refl _) _⟩
  | succ d ih =>
    intro t sl w hd hk ht
    obtain ⟨p, cap, rfl, hm⟩ := hk.form
    have HK := Lib.hid hk
    have HI := Lib.hid ih
    have HR : Hid (rightD (d + 1) t = (aloneB t && t.kids.all (rightD d))) := show _ = _ from rfl
    have HAL := Lib.hid (fun W => abAlone_any t p t.kids.length cap rfl hm ht W)
    have HTV : Hid (treeV t (.slice p t.kids.length cap) = .agg #[.int .u8 t.kind, .string (bs t.text), .int .u8 t.lo, .int .u8 t.hi, .int .i64 t.mn, .int .i64 t.mx, .slice p t.kids.length cap]) := show _ = _ from rfl
    have hm' := hm
    unfold maxLen at hm'
    clear hk ih hm
    rw [HTV.out] at HAL ⊢
    generalize rightD (d + 1) t = R at *
    have hd1 : ((d + 1 : Nat) : Int) = (d : Int) + 1 := by omega
    rw [hd1]
    have HD1 := Lib.hid hd1
    clear hd1
    cases hal : aloneB t with
    | false =>
      rw [hal] at HAL HR
      go_enter Tryz.func33, Tryz.ntmps33
      go_wp2_with (go_at_call 73; refine (HAL.out _).mono ?_; rintro e w1 ⟨rfl, hb1⟩)
      go_ret
      exact ⟨ret_bool (by rw [HR.out]; rfl), ((Below.refl _ _).alloc (Nat.le_refl _) _).trans (hb1.mono (by simp))⟩
    | true =>
      rw [hal] at HAL HR
      generalize hn : t.kids.length = n at *
      have HN := Lib.hid hn
      clear hn
      go_enter Tryz.func33, Tryz.ntmps33
      go_wp2_with fail
      refine (HAL.out _).mono ?_
      rintro e w1 ⟨rfl, hb1⟩
      obtain ⟨hc1, hf1⟩ := bcell hb1
      have hB1 : Below w.heap.size w w1 := ((Below.refl _ _).alloc (Nat.le_refl _) _).trans (hb1.mono (by simp))
      have HB1 := Lib.hid hB1
      clear hB1 hb1
      go_wp2
      clear hc1 hf1
      go_loopw [6, 17] (fun _ i wr => ∃ k : Nat, k ≤ n ∧ i = .int .i64 k ∧ Below w.heap.size w wr ∧ Hid ((t.kids.take k).all (rightD d) = true)) (fun _ i _ => n - (intOf i).toNat)
      case atStart => exact ⟨0, Nat.zero_le _, rfl, HB1.out, show _ = _ from rfl⟩
      case round =>
        clear HB1
        obtain ⟨k, hk, rfl, hbel, HKK⟩ := hrel
        by_cases hlt : k < n
        · obtain ⟨x, hx⟩ : ∃ x, t.kids[k]? = some x := ⟨_, List.getElem?_eq_getElem (by rw [HN.out]; exact hlt)⟩
          have HX := Lib.hid hx
          obtain ⟨g, off, ksl, rfl, hg, _, a0, a1, a2, a3, a4, a5, a6, hkk, htx⟩ := (HK.out.under hbel).at_ hx
          clear hx
          obtain ⟨kp, kc, rfl, _⟩ := hkk.form
          have hlt' : (k : Int) < n := by omega
          have h0' : (0 : Int) ≤ k := by omega
          have hz := hbel.size
          have HC := Lib.hid (fun (W : World) (hW : Below wr.heap.size wr W) => HI.out x _ W (by omega) ((hkk.under (hW.mono hz)).mono (fun b hl _ => hl)) htx)
          clear hkk
          cases hr : rightD d x with
          | true =>
            rw [hr] at HC
            have HKK' : Hid ((t.kids.take (k + 1)).all (rightD d) = true) := by
              show _ = _
              rw [all_take _ _ _ _ HX.out, HKK.out, hr]
              rfl
            unfold treeV at HC
            clear hr HKK
            go_wp2_with fail
            refine (HC.out _ ((Below.refl _ _).alloc (Nat.le_refl _) _)).mono ?_
            rintro e w2 ⟨rfl, hb2⟩
            have hbel2 : Below w.heap.size w w2 := (hbel.alloc hz _).trans (hb2.mono (by simp; omega))
            clear hbel HC
            go_wp2
            go_roundw
            case rel => exact ⟨k + 1, by omega, by go_num, hbel2, HKK'⟩
            case measure => simp [intOf]; omega
          | false =>
            rw [hr] at HC
            have HNO := Lib.hid (all_no _ _ _ _ HX.out hr)
            unfold treeV at HC
            clear hr HKK
            go_wp2_with fail
            refine (HC.out _ ((Below.refl _ _).alloc (Nat.le_refl _) _)).mono ?_
            rintro e w2 ⟨rfl, hb2⟩
            have hbel2 : Below w.heap.size w w2 := (hbel.alloc hz _).trans (hb2.mono (by simp; omega))
            clear hbel HC
            go_wp2
            go_ret
            exact ⟨ret_bool (by rw [HR.out, HNO.out]; rfl), hbel2⟩
        · have hkn : k = n := by omega
          subst hkn
          go_wp2
          go_ret
          refine ⟨ret_bool ?_, hbel⟩
          rw [HR.out, ← HKK.out, List.take_of_length_le (by rw [HN.out]; exact Nat.le_refl _)]
          simp

set_option maxHeartbeats 400000 in
theorem abRight_any (t : Tr) (sl : Value) (w : World) (hk : KidsAt w (· < w.heap.size) t.kids sl) (ht : t.text.length ≤ maxLen) :
    Calls Tryz.prog 13 #[treeV t sl] w fun e w' => e = .returned (.bool (rightB t)) ∧ Below w.heap.size w w' := by
  have HW := Lib.hid (fun W h => abWithin_any 100 t sl W (by omega) h ht)
  have HK := Lib.hid hk
  have HR : Hid (rightB t = rightD 100 t) := show _ = _ from rfl
  clear hk
  generalize rightB t = R at *
  unfold treeV at HW ⊢
  go_enter Tryz.func13, Tryz.ntmps13
  go_wp2_with fail
  refine (HW.out _ ((HK.out.under ((Below.refl _ _).alloc (Nat.le_refl _) _)).mono (fun b hl _ => hl))).mono ?_
  rintro e w1 ⟨rfl, hb1⟩
  go_wp2
  go_ret
  exact ⟨ret_bool HR.out.symm, ((Below.refl _ _).alloc (Nat.le_refl _) _).trans (hb1.mono (by simp))⟩
end Go.Proofs.YtodenbimeojgdaaGreatDoor

/-
  The printer's builder: it lies in a block of its own, as an abnf.printer; the contracts of copyCheck, WriteString and String over such a block. No conditions but Go's own limit on lengths.
-/
namespace Go.Proofs.YtodenbimeojgdaaGreatDoor
open Go.RowKit

/-- where the bytes are, behind an append of a string: in the row that was there, or in a new one -/
theorem append_where {P : Program} (w : World) (base : Nat) (t u ty e : TypeId) (i : TypeInfo) (ht : P.underlying t = some (.slice e)) (hu : P.underlying u = some .string) (hi : P.info? e = some i) (hz : i.zero = some (.int .u8 0)) (hsize : i.size = 1) (hby : i.bytes = 1)
    (v : Value) (n : Nat) (xs : List Value) (hown : w.ownsRow base e 1 v n xs) (s : ByteArray) (h63 : n + s.size ≤ maxLen) (hbytes : n + s.size ≤ 140737488355328) (hbase : base ≤ w.heap.size) :
    ∃ v' w', (Builtin.append_ #[t, u] ty #[v, .string s]).run P w = .ok v' w' ∧ w'.ownsRow base e 1 v' (n + s.size) (xs ++ Lib.strCells s) ∧ w.grownBy w' v.ownBlock ∧ (v'.ownBlock = v.ownBlock ∨ v'.ownBlock = some w.heap.size) := by
  obtain ⟨v', w', hr, h2, h3, h4⟩ := Lib.run_append_own_string (P := P) w base t u ty e i ht hu hi hz hsize hby v n xs hown s h63 hbytes hbase
  refine ⟨v', w', hr, h2, h3, ?_⟩
  have hxl : xs.length = n := by simpa using hown.1
  have hsmall : n + s.size ≤ 9223372036854775807 := by simp only [maxLen] at h63; omega
  rcases hown.2 with ⟨rfl, rfl⟩ | ⟨g, cap, cur, rfl, hbg, hg, hnc, hcm, hcs, htake⟩
  · by_cases hm : s.size = 0
    · left
      rw [h4.2 ⟨rfl, hm⟩]
    · right
      have hr2 := run_append_nil_string (P := P) w t u ty e i (.int .u8 0) ht hu hi hz s (by omega) (by omega) (by rw [hby]; omega)
      rw [hr] at hr2
      injection hr2 with e1 e2
      rw [e1]
      rfl
  · by_cases hroom : n + s.size ≤ cap
    · left
      have hcs' : cur.size = cap := by simpa using hcs
      have hr2 := Lib.run_append_room_string (P := P) w t u ty e i ht hu hi hsize g n cap cur hg s hroom (by omega)
      rw [hr] at hr2
      injection hr2 with e1 e2
      rw [e1]
      rfl
    · right
      have holds : ∀ j u, xs[j]? = some u → w.cell? ((⟨g, 0, none⟩ : Addr).add j) = some u := hown.cells (g := g) rfl
      have hr2 := Lib.run_append_grow_string (P := P) w t u ty e i (.int .u8 0) ht hu hi hz ⟨g, 0, none⟩ n cap xs (by rw [hsize]; simpa using hxl) holds s (by omega) (by omega) (by rw [hby]; exact growslice_fits (by omega) (by omega))
      rw [hr] at hr2
      injection hr2 with e1 e2
      rw [e1]
      rfl
theorem wpList_append_where {P : Program} {w : World} {ops : Array Oper} {rest : List Oper} {o : Oper} {a : Act} {Q : Exit → Act → World → Prop} (hgd : o.guard = none) (sl x : Operand) (t u : TypeId)
    (ho : o.op = .call { callee := .builtin .append, args := #[sl, x], argTypes := #[t, u] })
    (base : Nat) (e : TypeId) (i : TypeInfo) (ht : P.underlying t = some (.slice e)) (hu : P.underlying u = some .string) (hi : P.info? e = some i) (hz : i.zero = some (.int .u8 0))
    (hsize : i.size = 1) (hby : i.bytes = 1)
    (v : Value) (n : Nat) (xs : List Value) (hs : a.eval sl = v) (hown : w.ownsRow base e 1 v n xs) (s : ByteArray) (hx : a.eval x = .string s)
    (h63 : n + s.size ≤ maxLen) (hbytes : n + s.size ≤ 140737488355328) (hbase : base ≤ w.heap.size)
    (h : ∀ v' w', w'.ownsRow base e 1 v' (n + s.size) (xs ++ Lib.strCells s) → w.grownBy w' v.ownBlock → (v'.ownBlock = v.ownBlock ∨ v'.ownBlock = some w.heap.size) → wpList P ops Q rest (a.put o.dst v') w') : wpList P ops Q (o :: rest) a w := by
  refine wpList_plain hgd fun K hK => ?_
  obtain ⟨v', w', hr, h2, h3, h4⟩ := append_where (P := P) w base t u o.type e i ht hu hi hz hsize hby v n xs hown s h63 hbytes hbase
  unfold Oper.wp execOp
  simp only [ho, resolve, invoke, builtin, Sem.run_bind, Sem.run_pure, Result.andThen_ok, List.map_toArray, List.map_cons, List.map_nil, hs, hx, hr]
  exact hK _ _ (h v' w' h2 h3 h4)

theorem Tryz.sizeBd : (Tryz.prog.info? 84).map (·.size) = some 2 := by kernel_rfl
theorem Tryz.liesPr : liesAt Tryz.prog Tryz.prog.depth 86 (2 / Tryz.prog.cellsOf 86) 0 84 1 = true := by kernel_rfl

set_option maxHeartbeats 1000000 in
set_option maxRecDepth 100000 in
theorem bdCheck_used (b : Nat) (w : World) (h0 : w.cell? ⟨b, 0, none⟩ = some (.pointer (some ⟨b, 0, none⟩))) :
    Calls Tryz.prog 88 #[.pointer (some ⟨b, 0, none⟩)] w fun e w' => e = .returned (.tuple #[]) ∧ w' = w := by
  obtain ⟨j, hj, _⟩ := Option.map_eq_some_iff.1 Tryz.sizeBd
  go_enter Tryz.func88, Tryz.ntmps88
  go_wp2
  rw [Lib.run_neq_ptr_same w _ Tryz.underlying81 hj]
  go_wp2
  go_end0
  exact ⟨rfl, rfl⟩

set_option maxHeartbeats 1000000 in
set_option maxRecDepth 100000 in
theorem bdCheck_fresh (b : Nat) (w : World) (h0 : w.cell? ⟨b, 0, none⟩ = some (.pointer none)) (hsh : w.shape? b = some (86, 2)) (hfz : w.frozen? ⟨b, 0, none⟩ = false) :
    Calls Tryz.prog 88 #[.pointer (some ⟨b, 0, none⟩)] w fun e w' => e = .returned (.tuple #[]) ∧ w' = w.setCell ⟨b, 0, none⟩ (.pointer (some ⟨b, 0, none⟩)) := by
  obtain ⟨j, hj, hjs⟩ := Option.map_eq_some_iff.1 Tryz.sizeBd
  go_enter Tryz.func88, Tryz.ntmps88
  go_wp2
  rw [Lib.run_to_unsafe w ⟨b, 0, none⟩ Tryz.underlying81 Tryz.underlying160 hj (by rw [hjs]; decide) hsh (Nat.zero_lt_succ 1)]
  simp only [Result.andThen]
  rw [Oper.upon_value]
  go_wp2
  rw [run_callFunc_extern Tryz.func122 (by kernel_rfl) (by kernel_rfl) (by kernel_rfl) (e := Extern.AbiNoEscape.same) (by kernel_rfl)]
  rw [Lib.run_noEscape]
  simp only [Result.andThen]
  rw [Oper.upon_value]
  go_wp2
  rw [Lib.run_from_unsafe w ⟨b, 0, none⟩ Tryz.underlying160 Tryz.underlying81 hj hsh Tryz.liesPr]
  simp only [Result.andThen]
  rw [Oper.upon_value]
  go_wp2
  go_end0
  exact ⟨rfl, rfl⟩
end Go.Proofs.YtodenbimeojgdaaGreatDoor

/-
  The printer's block, what a call leaves of it and of the others, and the contracts of WriteString, String and (*printer).put. No conditions but Go's own limit on lengths.
-/
namespace Go.Proofs.YtodenbimeojgdaaGreatDoor
open Go.RowKit

/-- the printer's block: its builder holds these bytes, in a row of its own -/
def Pr (B b : Nat) (l : List UInt8) (buf : Option Nat) (w : World) : Prop :=
  B ≤ b ∧ ∃ p v, (p = .pointer none ∨ p = .pointer (some ⟨b, 0, none⟩)) ∧ w.heap[b]? = some (.cells #[p, v] 86 (0, 0)) ∧ w.ownsRow B 5 1 v l.length (Lib.byteCells l) ∧ v.ownBlock = buf ∧ buf ≠ some b

/-- what was put down: all blocks but the printer's own are as they were -/
structure Wr (B b : Nat) (buf : Option Nat) (w : World) (l' : List UInt8) (w' : World) : Prop where
  pr : ∃ buf', Pr B b l' buf' w' ∧ (buf' = buf ∨ ∀ g, buf' = some g → w.heap.size ≤ g)
  below : Below B w w'
  kept : ∀ k, k < w.heap.size → k ≠ b → some k ≠ buf → w'.heap[k]? = w.heap[k]?

theorem Pr.lt {B b : Nat} {l : List UInt8} {buf : Option Nat} {w : World} (h : Pr B b l buf w) : b < w.heap.size := by
  obtain ⟨_, p, v, _, hb, _⟩ := h
  exact (Array.getElem?_eq_some_iff.1 hb).1
theorem Pr.room {B b : Nat} {l : List UInt8} {buf : Option Nat} {w : World} (h : Pr B b l buf w) : B ≤ w.heap.size := by
  have h1 := h.lt
  have h2 := h.1
  omega
theorem Pr.buf_lt {B b : Nat} {l : List UInt8} {buf : Option Nat} {w : World} (h : Pr B b l buf w) {g : Nat} (hg : buf = some g) : B ≤ g ∧ g < w.heap.size := by
  obtain ⟨_, p, v, _, _, ho, hv, _⟩ := h
  exact ho.lt g (hv.trans hg)
theorem Pr.alloc {B b : Nat} {l : List UInt8} {buf : Option Nat} {w : World} (h : Pr B b l buf w) (o : Obj) : Pr B b l buf (w.alloc o) := by
  have hlt := h.lt
  obtain ⟨hB, p, v, hp, hb, ho, hv, hne⟩ := h
  exact ⟨hB, p, v, hp, (Below.heap_alloc w o b hlt).trans hb, ho.alloc o, hv, hne⟩
theorem Pr.drew {B b : Nat} {l : List UInt8} {buf : Option Nat} {w : World} (h : Pr B b l buf w) : Pr B b l buf w.drew := h
theorem Pr.later {B b : Nat} {l : List UInt8} {buf : Option Nat} {w w' : World} (h : Pr B b l buf w) (hb : Below w.heap.size w w') : Pr B b l buf w' := by
  have hlt := h.lt
  obtain ⟨hB, p, v, hp, hk, ho, hv, hne⟩ := h
  refine ⟨hB, p, v, hp, (hb.block b hlt).trans hk, ?_, hv, hne⟩
  exact ho.kept (row := none) ⟨hb.os, hb.tape, hb.output, hb.size, fun k hk _ => hb.block k hk⟩ (by cases v.ownBlock <;> simp)
/-- a new printer -/
theorem Pr.new (w : World) : Pr w.heap.size w.heap.size [] none (w.alloc (.cells #[.pointer none, .slice none 0 0] 86)) :=
  ⟨Nat.le_refl _, .pointer none, .slice none 0 0, .inl rfl, heap_alloc_new w _, World.ownsRow_nil _ _ _ _, rfl, by simp⟩

theorem Wr.refl {B b : Nat} {l : List UInt8} {buf : Option Nat} {w : World} (h : Pr B b l buf w) : Wr B b buf w l w := ⟨⟨buf, h, .inl rfl⟩, Below.refl _ _, fun _ _ _ _ => rfl⟩
theorem Wr.trans {B b : Nat} {buf buf1 : Option Nat} {w w1 w2 : World} {l2 : List UInt8} (hb1 : buf1 = buf ∨ ∀ g, buf1 = some g → w.heap.size ≤ g) (hbel : Below B w w1) (hk : ∀ k, k < w.heap.size → k ≠ b → some k ≠ buf → w1.heap[k]? = w.heap[k]?) (h2 : Wr B b buf1 w1 l2 w2) : Wr B b buf w l2 w2 := by
  obtain ⟨⟨buf2, hp2, hc2⟩, hbel2, hk2⟩ := h2
  refine ⟨⟨buf2, hp2, ?_⟩, hbel.trans hbel2, fun k h1 h2 h3 => (hk2 k (Nat.lt_of_lt_of_le h1 hbel.size) h2 ?_).trans (hk k h1 h2 h3)⟩
  · rcases hc2 with rfl | hc2
    · exact hb1
    · exact .inr fun g hg => Nat.le_trans hbel.size (hc2 g hg)
  · rcases hb1 with rfl | hb1
    · exact h3
    · intro he
      have := hb1 k he.symm
      omega
theorem Wr.then_ {B b : Nat} {buf : Option Nat} {w w1 : World} {l1 : List UInt8} (h1 : Wr B b buf w l1 w1) {w2 : World} {l2 : List UInt8} (h2 : ∀ buf1, Pr B b l1 buf1 w1 → Wr B b buf1 w1 l2 w2) : Wr B b buf w l2 w2 := by
  obtain ⟨⟨buf1, hp1, hc1⟩, hbel, hk⟩ := h1
  exact Wr.trans hc1 hbel hk (h2 buf1 hp1)
/-- from a world that has blocks more -/
theorem Wr.from_later {B b : Nat} {buf : Option Nat} {w w1 w2 : World} {l : List UInt8} (hB : B ≤ w.heap.size) (hb : Below w.heap.size w w1) (h : Wr B b buf w1 l w2) : Wr B b buf w l w2 :=
  Wr.trans (.inl rfl) (hb.mono hB) (fun k hk _ _ => hb.block k hk) h
theorem Wr.blk {B b : Nat} {buf : Option Nat} {w w' : World} {l : List UInt8} (h : Wr B b buf w l w') {g : Nat} {t : TypeId} {cs : Array Value} (hg : Blk w g t cs) (h1 : g ≠ b) (h2 : some g ≠ buf) : Blk w' g t cs := (h.kept g hg.lt h1 h2).trans hg

set_option maxHeartbeats 1000000 in
theorem bdCheck_any (B b : Nat) (p v : Value) (n : Nat) (xs : List Value) (w : World) (hB : B ≤ b) (hp : p = .pointer none ∨ p = .pointer (some ⟨b, 0, none⟩)) (hbk : w.heap[b]? = some (.cells #[p, v] 86 (0, 0))) (hown : w.ownsRow B 5 1 v n xs) (hne : v.ownBlock ≠ some b) :
    Calls Tryz.prog 88 #[.pointer (some ⟨b, 0, none⟩)] w fun e w1 => e = .returned (.tuple #[]) ∧ w1.heap[b]? = some (.cells #[.pointer (some ⟨b, 0, none⟩), v] 86 (0, 0)) ∧ w1.ownsRow B 5 1 v n xs ∧ Below B w w1 ∧ w1.heap.size = w.heap.size ∧ ∀ k, k ≠ b → w1.heap[k]? = w.heap[k]? := by
  have c0 : w.cell? ⟨b, 0, none⟩ = some p := by rw [Lib.cell_of_heap hbk]; rfl
  rcases hp with rfl | rfl
  · refine (bdCheck_fresh b w c0 (by simp [World.shape?, hbk]) (Lib.frozen_of_heap hbk 0)).mono ?_
    rintro e w1 ⟨rfl, rfl⟩
    refine ⟨rfl, by simp [World.setCell, Array.getElem?_modify, hbk], ?_, (Below.refl B w).setCell (p := ⟨b, 0, none⟩) hB _, by simp [World.setCell], fun k hk => Below.heap_setCell _ _ _ _ hk⟩
    exact hown.kept (row := some b) ⟨rfl, rfl, rfl, by simp [World.setCell], fun k _ hk => Below.heap_setCell _ _ _ _ (fun e => hk (by simp [e]))⟩ (Or.inr hne)
  · refine (bdCheck_used b w c0).mono ?_
    rintro e w1 ⟨rfl, rfl⟩
    exact ⟨rfl, hbk, hown, Below.refl _ _, rfl, fun _ _ => rfl⟩

/-- the end of a WriteString -/
theorem wr_store {B b : Nat} {buf : Option Nat} {l s : List UInt8} {v v' : Value} {w w1 w2 : World} (hB : B ≤ b) (hlt : b < w.heap.size) (hv : v.ownBlock = buf) (hne : buf ≠ some b) (hbel : Below B w w1) (hsz : w1.heap.size = w.heap.size) (hk1 : ∀ k, k ≠ b → w1.heap[k]? = w.heap[k]?)
    (hb2 : w2.heap[b]? = some (.cells #[.pointer (some ⟨b, 0, none⟩), v] 86 (0, 0))) (hlo : ∀ k, buf = some k → B ≤ k)
    (hown : w2.ownsRow B 5 1 v' (l.length + (bs s).size) (Lib.byteCells l ++ Lib.strCells (bs s))) (hg : w1.grownBy w2 v.ownBlock) (hw : v'.ownBlock = v.ownBlock ∨ v'.ownBlock = some w.heap.size) :
    Wr B b buf w (l ++ s) (w2.setCell ⟨b, 1, none⟩ v') := by
  have hne' : v'.ownBlock ≠ some b := by
    rcases hw with h | h
    · rw [h, hv]; exact hne
    · rw [h]; intro e; injection e with e; omega
  have hcells : Lib.byteCells l ++ Lib.strCells (bs s) = Lib.byteCells (l ++ s) := by simp [Lib.byteCells, Lib.strCells, bs_toList]
  have hlen : l.length + (bs s).size = (l ++ s).length := by rw [bs_len, List.length_append]
  rw [hcells, hlen] at hown
  refine ⟨⟨v'.ownBlock, ⟨hB, .pointer (some ⟨b, 0, none⟩), v', .inr rfl, by simp [World.setCell, Array.getElem?_modify, hb2], ?_, rfl, hne'⟩, ?_⟩, ?_, ?_⟩
  · exact hown.kept (row := some b) ⟨rfl, rfl, rfl, by simp [World.setCell], fun k _ hk => Below.heap_setCell _ _ _ _ (fun e => hk (by simp [e]))⟩ (Or.inr hne')
  · rcases hw with h | h
    · left; rw [h, hv]
    · right; intro g he; rw [h] at he; injection he with he; omega
  · exact (hbel.grown hg (by omega) (fun k hk => hlo k (hv.symm.trans hk))).setCell (p := ⟨b, 1, none⟩) hB _
  · intro k h1 h2 h3
    rw [Below.heap_setCell _ _ _ _ h2, hg.block k (by omega) (by rw [hv]; exact h3), hk1 k h2]

set_option maxHeartbeats 2000000 in
set_option maxRecDepth 100000 in
theorem bdWrite_any (B b : Nat) (l s : List UInt8) (buf : Option Nat) (w : World) (h : Pr B b l buf w) (hlen : l.length + s.length ≤ 140737488355328) :
    Calls Tryz.prog 45 #[.pointer (some ⟨b, 0, none⟩), .string (bs s)] w fun e w' => e = .returned (.tuple #[.int .i64 (bs s).size, .nilIface]) ∧ Wr B b buf w (l ++ s) w' := by
  have hlt := h.lt
  have hbl := fun g hg => h.buf_lt (g := g) hg
  obtain ⟨hB, p, v, hp, hbk, hown, rfl, hne⟩ := h
  obtain ⟨i0, hi0, hz0, hz1, hz2⟩ := info_parts Tryz.infoU8
  have hsz := bs_len s
  have HC := Lib.hid (bdCheck_any B b p v l.length (Lib.byteCells l) w hB hp hbk hown hne)
  clear hp hbk hown
  go_enter Tryz.func45, Tryz.ntmps45
  go_wp2_with (go_at_call 88; refine HC.out.mono ?_)
  rintro e w1 ⟨rfl, hbk, hown, hb1, hs1, hk1⟩
  have c0 : w1.cell? ⟨b, 0, none⟩ = some (.pointer (some ⟨b, 0, none⟩)) := by rw [Lib.cell_of_heap hbk]; rfl
  have c1 : w1.cell? ⟨b, 1, none⟩ = some v := by rw [Lib.cell_of_heap hbk]; rfl
  go_wp2_with (at_builtin; refine wpList_append_where rfl _ _ 82 9 rfl B 5 i0 Tryz.underlying82 Tryz.underlying9 hi0 hz0 hz1 hz2 _ _ _ rfl hown (bs s) rfl ?c3 ?c4 ?c5 ?_)
  case c3 => unfold maxLen; omega
  case c4 => omega
  case c5 => omega
  intro v' w2 hown' hgrow hwhere
  have hb2 : w2.heap[b]? = some (.cells #[.pointer (some ⟨b, 0, none⟩), v] 86 (0, 0)) := by
    rw [hgrow.block b (by omega) (fun e => hne e.symm)]
    exact hbk
  have d0 : w2.cell? ⟨b, 0, none⟩ = some (.pointer (some ⟨b, 0, none⟩)) := by rw [Lib.cell_of_heap hb2]; rfl
  have d1 : w2.cell? ⟨b, 1, none⟩ = some v := by rw [Lib.cell_of_heap hb2]; rfl
  have f1 : w2.frozen? ⟨b, 1, none⟩ = false := Lib.frozen_of_heap hb2 1
  have HEND := Lib.hid (wr_store hB hlt rfl hne hb1 hs1 hk1 hb2 (fun k hk => (hbl k hk).1) hown' hgrow hwhere)
  obtain ⟨ao, n', cap, rfl⟩ : ∃ ao n' cap, v' = .slice ao n' cap := by
    rcases hown'.2 with ⟨hv, _⟩ | ⟨g, cap, cur, hv, _⟩
    · exact ⟨_, _, _, hv⟩
    · exact ⟨_, _, _, hv⟩
  clear hown' hgrow hwhere hown hbk hk1 hb1
  go_wp2
  go_ret2
  exact ⟨rfl, HEND.out⟩
end Go.Proofs.YtodenbimeojgdaaGreatDoor

/-
  The contracts of (*printer).put and of the builder's String over the printer's block. No conditions but Go's own limit on lengths.
-/
namespace Go.Proofs.YtodenbimeojgdaaGreatDoor
open Go.RowKit

def strRow (ts : List (List UInt8)) : Array Value := (ts.map fun t => Value.string (bs t)).toArray

set_option maxHeartbeats 2000000 in
set_option maxRecDepth 100000 in
theorem put_any (B b g c : Nat) (l : List UInt8) (ts : List (List UInt8)) (buf : Option Nat) (w : World) (h : Pr B b l buf w) (hlen : l.length + ts.flatten.length ≤ 140737488355328) (hn : ts.length ≤ 100) (hrow : Blk w g 9 (strRow ts)) (hgb : g ≠ b) (hgf : some g ≠ buf) :
    Calls Tryz.prog 36 #[.pointer (some ⟨b, 0, none⟩), .slice (some ⟨g, 0, none⟩) ts.length c] w fun e w' => e = .returned (.tuple #[]) ∧ Wr B b buf w (l ++ ts.flatten) w' := by
  have HP := Lib.hid h
  have HR := Lib.hid hrow
  have HL := Lib.hid hlen
  clear h hrow hlen
  generalize hlen : ts.length = n at *
  have HN := Lib.hid hlen
  clear hlen
  go_enter Tryz.func36, Tryz.ntmps36
  go_wp2
  go_loopw [5, 8] (fun _ i wr => ∃ k : Nat, k ≤ n ∧ i = .int .i64 k ∧ Wr B b buf w (l ++ (ts.take k).flatten) wr) (fun _ i _ => n - (intOf i).toNat)
  case atStart => exact ⟨0, Nat.zero_le _, rfl, by simpa using Wr.refl HP.out⟩
  case round =>
    obtain ⟨k, hk, rfl, hwr⟩ := hrel
    by_cases hlt : k < n
    · obtain ⟨t, ht⟩ : ∃ t, ts[k]? = some t := ⟨_, List.getElem?_eq_getElem (by rw [HN.out]; exact hlt)⟩
      have hB2 := hwr.blk HR.out hgb hgf
      have hck : wr.cell? ⟨g, k, none⟩ = some (.string (bs t)) := by
        rw [hB2.cell k]
        simp [strRow, ht]
      have htake : (ts.take (k + 1)).flatten = (ts.take k).flatten ++ t := by
        rw [List.take_add_one, ht]; simp
      have hpart : l.length + ((ts.take k).flatten.length + t.length) ≤ 140737488355328 := by
        have h1 := HL.out
        have h2 : (ts.take (k + 1)).flatten.length ≤ ts.flatten.length := by
          have : ts.flatten = (ts.take (k + 1)).flatten ++ (ts.drop (k + 1)).flatten := by rw [← List.flatten_append, List.take_append_drop]
          rw [this, List.length_append]; omega
        rw [htake, List.length_append] at h2
        omega
      have HW := Lib.hid hwr
      obtain ⟨⟨buf1, hp1, hc1⟩, hbel, hkk⟩ := hwr
      have HB := Lib.hid (bdWrite_any B b (l ++ (ts.take k).flatten) t buf1 wr hp1 (by rw [List.length_append]; omega))
      have HE := Lib.hid (fun (w2 : World) (hx : Wr B b buf1 wr (l ++ (ts.take k).flatten ++ t) w2) => Wr.trans hc1 hbel hkk hx)
      have hlt' : (k : Int) < n := by omega
      have h0' : (0 : Int) ≤ k := by omega
      clear hp1 hc1 hbel hkk hB2
      go_wp2_with (go_at_call 45; refine HB.out.mono ?_)
      rintro e w2 ⟨rfl, hw2⟩
      have hE2 := HE.out w2 hw2
      rw [List.append_assoc, ← htake] at hE2
      clear hw2
      go_wp2
      go_roundw
      case rel => exact ⟨k + 1, by omega, by go_num, hE2⟩
      case measure => simp [intOf]; omega
    · have : k = n := by omega
      subst this
      rw [List.take_of_length_le (by rw [HN.out]; omega)] at hwr
      go_wp2
      go_end0
      exact ⟨rfl, hwr⟩

/-- of a new row of texts -/
theorem put_new (B b : Nat) (l : List UInt8) (buf : Option Nat) (w : World) (h : Pr B b l buf w) (ts : List (List UInt8)) (hlen : l.length + ts.flatten.length ≤ 140737488355328) (hn : ts.length ≤ 100) (c : Nat) (W : World) (hW : Below w.heap.size w W) (hB : Blk W w.heap.size 9 (strRow ts)) :
    Calls Tryz.prog 36 #[.pointer (some ⟨b, 0, none⟩), .slice (some ⟨w.heap.size, 0, none⟩) ts.length c] W fun e w' => e = .returned (.tuple #[]) ∧ Wr B b buf w (l ++ ts.flatten) w' := by
  have hlt := h.lt
  refine (put_any B b w.heap.size c l ts buf W (h.later hW) hlen hn hB (by omega) ?_).mono ?_
  · intro he
    have := (h.buf_lt he.symm).2
    omega
  · rintro e w' ⟨he, hw⟩
    exact ⟨he, hw.from_later h.room hW⟩
theorem put_at (B b : Nat) (l : List UInt8) (buf : Option Nat) (w : World) (h : Pr B b l buf w) (ts : List (List UInt8)) (hlen : l.length + ts.flatten.length ≤ 140737488355328) (hn : ts.length ≤ 100) (g m c : Nat) (W : World) (hg : g = w.heap.size) (hm : m = ts.length) (hW : Below w.heap.size w W) (hB : Blk W g 9 (strRow ts)) :
    Calls Tryz.prog 36 #[.pointer (some ⟨b, 0, none⟩), .slice (some ⟨g, 0, none⟩) m c] W fun e w' => e = .returned (.tuple #[]) ∧ Wr B b buf w (l ++ ts.flatten) w' := by
  subst hg hm
  exact put_new B b l buf w h ts hlen hn c W hW hB

set_option maxHeartbeats 2000000 in
set_option maxRecDepth 100000 in
theorem bdString_any (B b : Nat) (l : List UInt8) (buf : Option Nat) (w : World) (h : Pr B b l buf w) (h0 : l ≠ []) :
    Calls Tryz.prog 38 #[.pointer (some ⟨b, 0, none⟩)] w fun e w' => e = .returned (.string (bs l)) ∧ Below B w w' := by
  obtain ⟨hB, p, v, hp, hbk, hown, hv, hne⟩ := h
  have hl0 : l.length ≠ 0 := by simpa using h0
  obtain ⟨g, cap, cur, rfl, hbg, hg, hnc, hcm, hcs, htake⟩ : ∃ g cap cur, v = .slice (some ⟨g, 0, none⟩) l.length cap ∧ B ≤ g ∧ w.heap[g]? = some (.cells cur 5 (0, 0)) ∧ l.length ≤ cap ∧ cap ≤ maxLen ∧ cur.size = cap * 1 ∧ cur.toList.take (l.length * 1) = Lib.byteCells l := by
    rcases hown.2 with ⟨_, hz⟩ | ⟨g, cap, cur, hv, r⟩
    · exact absurd hz hl0
    · exact ⟨g, cap, cur, hv, r⟩
  have c1 : w.drew.cell? ⟨b, 1, none⟩ = some (.slice (some ⟨g, 0, none⟩) l.length cap) := by
    have : w.drew.heap[b]? = some (.cells #[p, .slice (some ⟨g, 0, none⟩) l.length cap] 86 (0, 0)) := hbk
    rw [Lib.cell_of_heap this]; rfl
  have hSD : (Builtin.unsafeSliceData_ #[82] 129 #[.slice (some ⟨g, 0, none⟩) l.length cap]).run Tryz.prog w.drew = .ok (.pointer (some ⟨g, 0, none⟩)) w.drew :=
    Lib.run_unsafeSliceData_row _ _ _ _ _ _ (by omega)
  have hUS : (Builtin.unsafeString_ #[129, 3] 9 #[.pointer (some ⟨g, 0, none⟩), .int .i64 l.length]).run Tryz.prog w.drew = .ok (.string (bs l)) (w.drew.freeze ⟨g, 0, none⟩ l.length) := by
    refine Lib.run_unsafeString_row w.drew 129 3 9 5 Tryz.underlying129 (by kernel_rfl) g cur.size (by have hg' : w.drew.heap[g]? = some (.cells cur 5 (0, 0)) := hg; simp [World.shape?, hg']) l h0 (by omega) (by unfold maxLen at hcm; omega) ?_
    intro j x hx
    have := hown.cells (g := g) rfl j (.int .u8 x.toNat) (by simp [Lib.byteCells, hx])
    exact this
  have mixed : Tryz.prog.follows .mixedOrders = true := by kernel_rfl
  go_enter Tryz.func38, Tryz.ntmps38
  go_wp2
  go_region_o
  all_goals (go_wp2; go_ret; exact ⟨rfl, Lib.below_freeze (Below.drew (Below.refl B w)) (p := ⟨g, 0, none⟩) hbg _⟩)
end Go.Proofs.YtodenbimeojgdaaGreatDoor

/-
  A tree's text in plain terms: the code's own way. No conditions.
-/
namespace Go.Proofs.YtodenbimeojgdaaGreatDoor
open Go.RowKit

def hexDigits : List UInt8 := [48, 49, 50, 51, 52, 53, 54, 55, 56, 57, 65, 66, 67, 68, 69, 70]
def hexC (n : Nat) : UInt8 := hexDigits.getD n 0
def pairP (x : UInt8) : List UInt8 := [hexC (x.toNat / 16), hexC (x.toNat % 16)]
def hexesP (ahead between : List UInt8) : List UInt8 → List UInt8
  | [] => []
  | x :: r => ahead ++ pairP x ++ hexesP between between r
def timesTextP (mn mx : Int) : List UInt8 := if mx = mn then Lib.itoa mn else (if 0 < mn then Lib.itoa mn else []) ++ [42] ++ (if 0 ≤ mx then Lib.itoa mx else [])
def kidP (f : Tr → List UInt8) (br : List Int) (k : Tr) : List UInt8 := if br.contains k.kind then [40] ++ f k ++ [41] else f k
def kidsF (f : Tr → List UInt8) (ahead between : List UInt8) (br : List Int) : List Tr → List UInt8
  | [] => []
  | k :: r => ahead ++ kidP f br k ++ kidsF f between between br r
def kidsP (f : Tr → List UInt8) (between : List UInt8) (br : List Int) (ks : List Tr) : List UInt8 := kidsF f [] between br ks
def byteOf (z : Int) : UInt8 := UInt8.ofNat z.toNat
def printD : Nat → Tr → List UInt8
  | 0, _ => []
  | d + 1, t =>
    if t.kind = 1 then t.text
    else if t.kind = 2 then [34] ++ t.text ++ [34]
    else if t.kind = 3 then hexesP [37, 120] [46] t.text
    else if t.kind = 4 then hexesP [37, 120] [45] [byteOf t.lo, byteOf t.hi]
    else if t.kind = 7 then timesTextP t.mn t.mx ++ kidsP (printD d) [] [7, 5, 6] t.kids
    else if t.kind = 5 then kidsP (printD d) [32] [5, 6] t.kids
    else if t.kind = 6 then kidsP (printD d) [32, 47, 32] [6] t.kids
    else []
/-- bytes that are bytes, in a tree so deep -/
def byteD : Nat → Tr → Prop
  | 0, _ => True
  | d + 1, t => (0 ≤ t.lo ∧ t.lo ≤ 255) ∧ (0 ≤ t.hi ∧ t.hi ≤ 255) ∧ (∀ k ∈ t.kids, byteD d k)

theorem hexesP_snoc (a b : List UInt8) (xs : List UInt8) (x : UInt8) : hexesP a b (xs ++ [x]) = hexesP a b xs ++ (if xs.length = 0 then a else b) ++ pairP x := by
  induction xs generalizing a with
  | nil => simp [hexesP]
  | cons y r ih =>
    show a ++ pairP y ++ hexesP b b (r ++ [x]) = _
    rw [ih b]
    simp [hexesP]
theorem kidsF_snoc (f : Tr → List UInt8) (a b : List UInt8) (br : List Int) (xs : List Tr) (x : Tr) : kidsF f a b br (xs ++ [x]) = kidsF f a b br xs ++ (if xs.length = 0 then a else b) ++ kidP f br x := by
  induction xs generalizing a with
  | nil => simp [kidsF]
  | cons y r ih =>
    show a ++ kidP f br y ++ kidsF f b b br (r ++ [x]) = _
    rw [ih b]
    simp [kidsF]
theorem hexesP_append (a b : List UInt8) (xs ys : List UInt8) : hexesP a b (xs ++ ys) = hexesP a b xs ++ hexesP (if xs.length = 0 then a else b) b ys := by
  induction xs generalizing a with
  | nil => simp [hexesP]
  | cons y r ih =>
    show a ++ pairP y ++ hexesP b b (r ++ ys) = _
    rw [ih b]
    simp [hexesP]
theorem hexesP_take (a b : List UInt8) (xs : List UInt8) (k : Nat) : (hexesP a b (xs.take k)).length ≤ (hexesP a b xs).length := by
  have h := hexesP_append a b (xs.take k) (xs.drop k)
  rw [List.take_append_drop] at h
  rw [h, List.length_append]
  omega
theorem kidsF_append (f : Tr → List UInt8) (a b : List UInt8) (br : List Int) (xs ys : List Tr) : kidsF f a b br (xs ++ ys) = kidsF f a b br xs ++ kidsF f (if xs.length = 0 then a else b) b br ys := by
  induction xs generalizing a with
  | nil => simp [kidsF]
  | cons y r ih =>
    show a ++ kidP f br y ++ kidsF f b b br (r ++ ys) = _
    rw [ih b]
    simp [kidsF]
theorem kidsF_take (f : Tr → List UInt8) (a b : List UInt8) (br : List Int) (xs : List Tr) (k : Nat) : (kidsF f a b br (xs.take k)).length ≤ (kidsF f a b br xs).length := by
  have h := kidsF_append f a b br (xs.take k) (xs.drop k)
  rw [List.take_append_drop] at h
  rw [h, List.length_append]
  omega
theorem hexC_at (n : Nat) (h : n < 16) : (⟨hexDigits.toArray⟩ : ByteArray).extract n (n + 1) = bs [hexC n] := by
  have : ∀ n : Fin 16, (⟨hexDigits.toArray⟩ : ByteArray).extract n.1 (n.1 + 1) = bs [hexC n.1] := by decide
  exact this ⟨n, h⟩
theorem byteOf_toNat (z : Int) (h0 : 0 ≤ z) (h1 : z ≤ 255) : ((byteOf z).toNat : Int) = z := by
  have h2 : z.toNat < 256 := by omega
  have h3 : (byteOf z).toNat = z.toNat % 256 := by unfold byteOf; simp
  omega
end Go.Proofs.YtodenbimeojgdaaGreatDoor

/-
  The contract of (*printer).values. No conditions but Go's own limit on lengths.
-/
namespace Go.Proofs.YtodenbimeojgdaaGreatDoor
open Go.RowKit

set_option maxHeartbeats 2000000 in
set_option maxRecDepth 100000 in
theorem values_any (B b g c : Nat) (l between vs : List UInt8) (buf : Option Nat) (w : World) (h : Pr B b l buf w) (hlen : l.length + (hexesP [37, 120] between vs).length ≤ 140737488355328) (hn : vs.length ≤ maxLen) (hg : g < w.heap.size) (hrow : ∀ j x, vs[j]? = some x → w.cell? ⟨g, j, none⟩ = some (.int .u8 x.toNat)) (hgb : g ≠ b) (hgf : some g ≠ buf) :
    Calls Tryz.prog 77 #[.pointer (some ⟨b, 0, none⟩), .string (bs between), .slice (some ⟨g, 0, none⟩) vs.length c] w fun e w' => e = .returned (.tuple #[]) ∧ Wr B b buf w (l ++ hexesP [37, 120] between vs) w' := by
  have HP := Lib.hid h
  have HR := Lib.hid hrow
  have HL := Lib.hid hlen
  clear h hrow hlen
  generalize hlen : vs.length = n at *
  unfold maxLen at hn
  have HN := Lib.hid hlen
  clear hlen
  go_enter Tryz.func77, Tryz.ntmps77
  go_wp2
  go_loopw [6, 8, 11] (fun a _ i wr => ∃ k : Nat, k ≤ n ∧ i = .int .i64 k ∧ a = .string (bs (if k = 0 then [37, 120] else between)) ∧ Wr B b buf w (l ++ hexesP [37, 120] between (vs.take k)) wr) (fun _ _ i _ => n - (intOf i).toNat)
  case atStart => exact ⟨0, Nat.zero_le _, rfl, rfl, by simpa [hexesP] using Wr.refl HP.out⟩
  case round =>
    obtain ⟨k, hk, rfl, rfl, hwr⟩ := hrel
    by_cases hlt : k < n
    · obtain ⟨x, hx⟩ : ∃ x, vs[k]? = some x := ⟨_, List.getElem?_eq_getElem (by rw [HN.out]; exact hlt)⟩
      have hck : wr.cell? ⟨g, k, none⟩ = some (.int .u8 x.toNat) := by
        rw [World.cell?_of_block (w := w) (a := ⟨g, k, none⟩) (hwr.kept g hg hgb hgf)]
        exact HR.out k x hx
      have htk : vs.take (k + 1) = vs.take k ++ [x] := by rw [List.take_add_one, hx]; rfl
      have hlk : (vs.take k).length = k := by rw [List.length_take, HN.out]; omega
      have hsn := hexesP_snoc [37, 120] between (vs.take k) x
      rw [← htk, hlk] at hsn
      generalize hah : (if k = 0 then [37, 120] else between) = ah at *
      have hpart : l.length + (hexesP [37, 120] between (vs.take k)).length + (ah.length + 2) ≤ 140737488355328 := by
        have h1 := HL.out
        have h2 : (hexesP [37, 120] between (vs.take (k + 1))).length ≤ (hexesP [37, 120] between vs).length := hexesP_take _ _ _ _
        rw [hsn] at h2
        simp [pairP] at h2
        omega
      have hx0 : (x.toNat : Int) < 256 := by have := x.toNat_lt; omega
      obtain ⟨hi, lo, hhi, hlo, e1, e2, ehi, elo⟩ : ∃ hi lo : Nat, hi < 16 ∧ lo < 16 ∧ (x.toNat : Int) / 16 = hi ∧ bits .and .u8 (x.toNat : Int) 15 = lo ∧ hi = x.toNat / 16 ∧ lo = x.toNat % 16 := by
        refine ⟨x.toNat / 16, x.toNat % 16, by have := x.toNat_lt; omega, by omega, by omega, ?_, rfl, rfl⟩
        have h15 := u8_and15 (x := (x.toNat : Int)) (by omega) hx0
        exact h15.trans (by omega)
      have HPX : Hid (pairP x = [hexC hi, hexC lo]) := by show _ = _; rw [ehi, elo]; rfl
      have w1 : IntKind.u8.wrap ((hi : Int) + 1) = (hi : Int) + 1 := IntWalk.u8_in _ (by omega)
      have w2 : IntKind.u8.wrap ((lo : Int) + 1) = (lo : Int) + 1 := IntWalk.u8_in _ (by omega)
      have s1 := hexC_at hi hhi
      have s2 := hexC_at lo hlo
      obtain ⟨⟨buf1, hp1, hc1⟩, hbel, hkk⟩ := hwr
      have HPUT := Lib.hid (fun (W : World) (hW : Below wr.heap.size wr W) (hB : Blk W wr.heap.size 9 (strRow [ah, [hexC hi], [hexC lo]])) => put_new B b _ buf1 wr hp1 [ah, [hexC hi], [hexC lo]] (by simp; omega) (by simp) 3 W hW hB)
      have HE := Lib.hid (fun (w2 : World) (hx : Wr B b buf1 wr (l ++ hexesP [37, 120] between (vs.take k) ++ [ah, [hexC hi], [hexC lo]].flatten) w2) => Wr.trans hc1 hbel hkk hx)
      have HSN := Lib.hid hsn
      have hlt' : (k : Int) < n := by omega
      have h0' : (0 : Int) ≤ k := by omega
      clear hp1 hc1 hbel hkk ehi elo hsn hpart
      generalize (x.toNat : Int) = X at *
      have hi0 : (0 : Int) ≤ (hi : Int) := by omega
      have hi1 : (hi : Int) ≤ (hi : Int) + 1 := by omega
      have hi2 : (hi : Int) + 1 ≤ 16 := by omega
      have lo0 : (0 : Int) ≤ (lo : Int) := by omega
      have lo1 : (lo : Int) ≤ (lo : Int) + 1 := by omega
      have lo2 : (lo : Int) + 1 ≤ 16 := by omega
      have hsz : (⟨#[48, 49, 50, 51, 52, 53, 54, 55, 56, 57, 65, 66, 67, 68, 69, 70]⟩ : ByteArray).size = 16 := rfl
      have t1 : ((hi : Int) + 1).toNat = hi + 1 := by omega
      have t2 : ((lo : Int) + 1).toNat = lo + 1 := by omega
      unfold hexDigits at s1 s2
      go_wp2
      go_region_held3 (fun _ => True) (trivial)
        (first | (go_at_call 36; refine (HPUT.out _ (by first | exact ((Below.refl _ _).alloc (Nat.le_refl _) _).drew | exact ((Below.refl _ _).drew).alloc (Nat.le_refl _) _) (by first | exact Blk.new _ _ _ | exact Blk.new wr _ _)).mono ?_; rintro e w2 ⟨rfl, hw2⟩))
      have hE2 := HE.out w2 hw2
      have heq : l ++ hexesP [37, 120] between (vs.take k) ++ [ah, [hexC hi], [hexC lo]].flatten = l ++ hexesP [37, 120] between (vs.take (k + 1)) := by
        rw [HSN.out, HPX.out]
        simp
      rw [heq] at hE2
      clear hw2 heq HPUT HE HSN HPX s1 s2 e1 e2 hck
      go_wp2
      go_roundw
      case rel => exact ⟨k + 1, by omega, by go_num, by simp, hE2⟩
      case measure => simp [intOf]; omega
    · have : k = n := by omega
      subst this
      rw [List.take_of_length_le (by rw [HN.out]; omega)] at hwr
      generalize (if k = 0 then [37, 120] else between) = ah
      go_wp2
      go_end0
      exact ⟨rfl, hwr⟩
end Go.Proofs.YtodenbimeojgdaaGreatDoor

/-
  The contract of (*printer).times. Conditions: the numbers are such as a right tree has; the library's table of powers of ten lies where it does.
-/
namespace Go.Proofs.YtodenbimeojgdaaGreatDoor
open Go.RowKit

def PowAt (w : World) : Prop := Lib.TabIs Tryz.prog w "internal/strconv.uint64pow10" .u64 Lib.pow10Tab
theorem PowAt.below {w w' : World} {B : Nat} (h : PowAt w) (hb : Below B w w') (hB : 4 < B) : PowAt w' := by
  unfold PowAt Lib.TabIs World.var? at *
  rw [show Tryz.prog.globalNamed "internal/strconv.uint64pow10" = some 4 from by kernel_rfl] at *
  simp only [Option.bind_some] at *
  rw [hb.block _ hB]
  exact h
theorem PowAt.lt {w : World} (h : PowAt w) : 4 < w.heap.size := by
  unfold PowAt Lib.TabIs World.var? at h
  rw [show Tryz.prog.globalNamed "internal/strconv.uint64pow10" = some 4 from by kernel_rfl] at h
  simp only [Option.bind_some] at h
  rcases Nat.lt_or_ge 4 w.heap.size with h' | h'
  · exact h'
  · rw [Array.getElem?_eq_none h'] at h
    cases h
theorem itoa_any (n : Int) (h0 : 0 ≤ n) (h1 : n ≤ 9999) (w : World) (hp : PowAt w) :
    Calls Tryz.prog 121 #[.int .i64 n] w fun e w' => e = .returned (.string (bs (Lib.itoa n))) ∧ Below w.heap.size w w' := by
  refine (Tryz.strconv_Itoa n (by omega) (by omega) w hp).mono ?_
  rintro e w' ⟨he, k, os, rfl⟩
  refine ⟨he, rfl, rfl, rfl, by show w.heap.size ≤ ((w.drewN k).heap ++ os).size; rw [Array.size_append]; exact Nat.le_add_right _ _, fun i hi => ?_⟩
  show ((w.drewN k).heap ++ os)[i]? = _
  rw [Array.getElem?_append_left (by show i < w.heap.size; omega)]
  rfl
/-- what goes on behind a put -/
theorem Wr.on {B b : Nat} {buf : Option Nat} {w w1 : World} {l1 : List UInt8} (h : Wr B b buf w l1 w1) : ∃ buf1, Pr B b l1 buf1 w1 ∧ Below B w w1 ∧ ∀ l2 w2, Wr B b buf1 w1 l2 w2 → Wr B b buf w l2 w2 := by
  obtain ⟨⟨buf1, hp1, hc1⟩, hbel, hk⟩ := h
  exact ⟨buf1, hp1, hbel, fun _ _ hx => Wr.trans hc1 hbel hk hx⟩

set_option maxHeartbeats 4000000 in
set_option maxRecDepth 100000 in
theorem prTimes_any (B b : Nat) (l : List UInt8) (mn mx : Int) (buf : Option Nat) (w : World) (h : Pr B b l buf w) (ht : timesB mn mx = true) (hp : PowAt w) (hB5 : 4 < B) (hlen : l.length + (timesTextP mn mx).length ≤ 140737488355328) :
    Calls Tryz.prog 78 #[.pointer (some ⟨b, 0, none⟩), .int .i64 mn, .int .i64 mx] w fun e w' => e = .returned (.tuple #[]) ∧ Wr B b buf w (l ++ timesTextP mn mx) w' := by
  have hB := h.room
  have HP := Lib.hid h
  have HPW := Lib.hid hp
  have HL := Lib.hid hlen
  have HI : Hid (∀ (n : Int) (W : World), 0 ≤ n → n ≤ 9999 → Below B w W → Calls Tryz.prog 121 #[.int .i64 n] W fun e w' => e = .returned (.string (bs (Lib.itoa n))) ∧ Below W.heap.size W w') := fun n W h0 h1 hW => itoa_any n h0 h1 W (hp.below hW hB5)
  have hmn : 0 ≤ mn ∧ mn ≤ 9999 := by unfold timesB at ht; simp at ht; omega
  have hmx : mx = -1 ∨ (mn ≤ mx ∧ mx ≤ 9999) := by unfold timesB at ht; simp at ht; omega
  obtain ⟨hm0, hm1⟩ := hmn
  have HT : Hid (timesTextP mn mx = if mx = mn then Lib.itoa mn else (if 0 < mn then Lib.itoa mn else []) ++ [42] ++ (if 0 ≤ mx then Lib.itoa mx else [])) := show _ = _ from rfl
  generalize timesTextP mn mx = R at *
  clear h hp hlen ht
  by_cases heq : mx = mn
  · subst heq
    have HR : Hid (R = Lib.itoa mx) := by show _ = _; rw [HT.out, if_pos rfl]
    clear HT hmx
    go_enter Tryz.func78, Tryz.ntmps78
    go_wp2_with (go_at_call 121; refine (HI.out _ _ hm0 hm1 (Below.refl _ _)).mono ?_)
    rintro e w1 ⟨rfl, hb1⟩
    have HB1 := Lib.hid hb1
    clear hb1
    go_wp2_with (go_at_call 36; refine (put_new B b l buf w1 (HP.out.later HB1.out) [Lib.itoa mx] (by have := HL.out; rw [HR.out] at this; simpa using this) (by simp) 1 _ ((Below.refl _ _).alloc (Nat.le_refl _) _) (Blk.new _ _ _)).mono ?_)
    rintro e w2 ⟨rfl, hw2⟩
    have HE := Lib.hid (hw2.from_later hB HB1.out)
    clear hw2
    go_wp2
    (try simp only [Exit.inBlock, Exit.then]); refine bodyPost_ret (results_none rfl _ _ _) rfl ?_
    refine ⟨rfl, ?_⟩
    rw [HR.out]
    simpa using HE.out
  · have HR : Hid (R = (if 0 < mn then Lib.itoa mn else []) ++ [42] ++ (if 0 ≤ mx then Lib.itoa mx else [])) := by show _ = _; rw [HT.out, if_neg heq]
    clear HT
    by_cases hmp : 0 < mn
    · by_cases hxp : 0 ≤ mx
      · have hx9 : mx ≤ 9999 := by omega
        clear hmx
        have HR2 : Hid (R = Lib.itoa mn ++ [42] ++ Lib.itoa mx) := by show _ = _; rw [HR.out]; first | rfl | simp [hmp, hxp]
        have hlen := HL.out
        rw [HR2.out] at hlen
        simp at hlen
        clear HR
        have hd1 : decide (mx = mn) = false := by simp; omega
        go_enter Tryz.func78, Tryz.ntmps78
        go_wp2_with (go_at_call 121; refine (HI.out _ _ hm0 hm1 (Below.refl _ _)).mono ?_)
        rintro e w1 ⟨rfl, hb1⟩
        have HB1 := Lib.hid hb1
        clear hb1
        go_wp2_with (go_at_call 36; refine (put_new B b l buf w1 (HP.out.later HB1.out) [Lib.itoa mn] (by simp; omega) (by simp) 1 _ ((Below.refl _ _).alloc (Nat.le_refl _) _) (Blk.new _ _ _)).mono ?_)
        rintro e w2 ⟨rfl, hw2⟩
        obtain ⟨buf2, hp2, hbel2, hE2⟩ := (hw2.from_later hB HB1.out).on
        have HP2 := Lib.hid hp2
        have HBE2 := Lib.hid hbel2
        have HE2 := Lib.hid hE2
        clear hw2 hp2 hbel2 hE2 HB1
        go_wp2_with (go_at_call 36; refine (put_new B b (l ++ [Lib.itoa mn].flatten) buf2 w2 HP2.out [[42]] (by simp; omega) (by simp) 1 _ ((Below.refl _ _).alloc (Nat.le_refl _) _) (Blk.new _ _ _)).mono ?_)
        rintro e w3 ⟨rfl, hw3⟩
        obtain ⟨buf3, hp3, hbel3, hE3⟩ := (HE2.out _ _ hw3).on
        have HP3 := Lib.hid hp3
        have HBE3 := Lib.hid hbel3
        have HE3 := Lib.hid hE3
        clear hw3 hp3 hbel3 hE3 HP2 HBE2 HE2
        go_wp2_with (go_at_call 121; refine (HI.out _ _ hxp hx9 HBE3.out).mono ?_)
        rintro e w4 ⟨rfl, hb4⟩
        have HB4 := Lib.hid hb4
        clear hb4
        go_wp2_with (go_at_call 36; refine (put_new B b ((l ++ [Lib.itoa mn].flatten) ++ [[42]].flatten) buf3 w4 (HP3.out.later HB4.out) [Lib.itoa mx] (by simp; omega) (by simp) 1 _ ((Below.refl _ _).alloc (Nat.le_refl _) _) (Blk.new _ _ _)).mono ?_)
        rintro e w5 ⟨rfl, hw5⟩
        have HEND := Lib.hid (HE3.out _ _ (hw5.from_later HP3.out.room HB4.out))
        clear hw5
        go_wp2
        go_end0
        refine ⟨rfl, ?_⟩
        rw [HR2.out]
        simpa using HEND.out
      · have hxe : mx = -1 := by omega
        clear hmx
        subst hxe
        have HR2 : Hid (R = Lib.itoa mn ++ [42]) := by show _ = _; rw [HR.out]; first | rfl | simp [hmp]
        have hlen := HL.out
        rw [HR2.out] at hlen
        simp at hlen
        clear HR hxp
        have hd1 : decide ((-1 : Int) = mn) = false := by simp; omega
        go_enter Tryz.func78, Tryz.ntmps78
        go_wp2_with (go_at_call 121; refine (HI.out _ _ hm0 hm1 (Below.refl _ _)).mono ?_)
        rintro e w1 ⟨rfl, hb1⟩
        have HB1 := Lib.hid hb1
        clear hb1
        go_wp2_with (go_at_call 36; refine (put_new B b l buf w1 (HP.out.later HB1.out) [Lib.itoa mn] (by simp; omega) (by simp) 1 _ ((Below.refl _ _).alloc (Nat.le_refl _) _) (Blk.new _ _ _)).mono ?_)
        rintro e w2 ⟨rfl, hw2⟩
        obtain ⟨buf2, hp2, hbel2, hE2⟩ := (hw2.from_later hB HB1.out).on
        have HP2 := Lib.hid hp2
        have HBE2 := Lib.hid hbel2
        have HE2 := Lib.hid hE2
        clear hw2 hp2 hbel2 hE2 HB1
        go_wp2_with (go_at_call 36; refine (put_new B b (l ++ [Lib.itoa mn].flatten) buf2 w2 HP2.out [[42]] (by simp; omega) (by simp) 1 _ ((Below.refl _ _).alloc (Nat.le_refl _) _) (Blk.new _ _ _)).mono ?_)
        rintro e w3 ⟨rfl, hw3⟩
        obtain ⟨buf3, hp3, hbel3, hE3⟩ := (HE2.out _ _ hw3).on
        have HEND := Lib.hid (HE2.out _ _ hw3)
        clear hw3 hp3 hbel3 hE3
        go_wp2
        go_end0
        refine ⟨rfl, ?_⟩
        rw [HR2.out]
        simpa using HEND.out
    · by_cases hxp : 0 ≤ mx
      · have hme : mn = 0 := by omega
        subst hme
        have hx9 : mx ≤ 9999 := by omega
        clear hmx
        have HR2 : Hid (R = [42] ++ Lib.itoa mx) := by show _ = _; rw [HR.out]; first | rfl | simp [hxp]
        have hlen := HL.out
        rw [HR2.out] at hlen
        simp at hlen
        clear HR hmp
        have hd1 : decide (mx = (0 : Int)) = false := by simp; omega
        go_enter Tryz.func78, Tryz.ntmps78
        have HP2 := Lib.hid HP.out
        have HBE2 : Hid (Below B w w) := Below.refl _ _
        have HE2 : Hid (∀ l2 w2, Wr B b buf w l2 w2 → Wr B b buf w l2 w2) := fun _ _ h => h
        go_wp2_with (go_at_call 36; refine (put_new B b l buf w HP2.out [[42]] (by simp; omega) (by simp) 1 _ ((Below.refl _ _).alloc (Nat.le_refl _) _) (Blk.new _ _ _)).mono ?_)
        rintro e w3 ⟨rfl, hw3⟩
        obtain ⟨buf3, hp3, hbel3, hE3⟩ := (HE2.out _ _ hw3).on
        have HP3 := Lib.hid hp3
        have HBE3 := Lib.hid hbel3
        have HE3 := Lib.hid hE3
        clear hw3 hp3 hbel3 hE3 HP2 HBE2 HE2
        go_wp2_with (go_at_call 121; refine (HI.out _ _ hxp hx9 HBE3.out).mono ?_)
        rintro e w4 ⟨rfl, hb4⟩
        have HB4 := Lib.hid hb4
        clear hb4
        go_wp2_with (go_at_call 36; refine (put_new B b (l ++ [[42]].flatten) buf3 w4 (HP3.out.later HB4.out) [Lib.itoa mx] (by simp; omega) (by simp) 1 _ ((Below.refl _ _).alloc (Nat.le_refl _) _) (Blk.new _ _ _)).mono ?_)
        rintro e w5 ⟨rfl, hw5⟩
        have HEND := Lib.hid (HE3.out _ _ (hw5.from_later HP3.out.room HB4.out))
        clear hw5
        go_wp2
        go_end0
        refine ⟨rfl, ?_⟩
        rw [HR2.out]
        simpa using HEND.out
      · have hme : mn = 0 := by omega
        subst hme
        have hxe : mx = -1 := by omega
        clear hmx
        subst hxe
        have HR2 : Hid (R = [42]) := by show _ = _; rw [HR.out]; first | rfl | simp [hxp]
        have hlen := HL.out
        rw [HR2.out] at hlen
        simp at hlen
        clear HR hxp hmp
        go_enter Tryz.func78, Tryz.ntmps78
        have HP2 := Lib.hid HP.out
        have HBE2 : Hid (Below B w w) := Below.refl _ _
        have HE2 : Hid (∀ l2 w2, Wr B b buf w l2 w2 → Wr B b buf w l2 w2) := fun _ _ h => h
        go_wp2_with (go_at_call 36; refine (put_new B b l buf w HP2.out [[42]] (by simp; omega) (by simp) 1 _ ((Below.refl _ _).alloc (Nat.le_refl _) _) (Blk.new _ _ _)).mono ?_)
        rintro e w3 ⟨rfl, hw3⟩
        obtain ⟨buf3, hp3, hbel3, hE3⟩ := (HE2.out _ _ hw3).on
        have HEND := Lib.hid (HE2.out _ _ hw3)
        clear hw3 hp3 hbel3 hE3
        go_wp2
        go_end0
        refine ⟨rfl, ?_⟩
        rw [HR2.out]
        simpa using HEND.out
end Go.Proofs.YtodenbimeojgdaaGreatDoor

/-
  What tokens are as rules, in plain terms: the way that the parser goes, with its groups in a list. No conditions.
-/
namespace Go.Proofs.YtodenbimeojgdaaGreatDoor

structure Grp where
  shut : Int
  times : Tr
  rows : List Tr
  parts : List Tr

def noTree : Tr := .mk 0 [] 0 0 0 0 []
def timesT (mn mx : Int) : Tr := .mk 7 [] 0 0 mn mx []
def repeatP (times kid : Tr) : Tr := if times.kind = 7 then .mk 7 times.text times.lo times.hi times.mn times.mx [kid] else kid
def togetherP (kind : Int) (kids : List Tr) : Tr := if kids.length = 1 then kids.getD 0 noTree else .mk kind [] 0 0 0 0 kids
def endRowP (g : Grp) : Grp := { g with rows := g.rows ++ [togetherP 5 g.parts], parts := [] }
def mayP (g : Grp) (t : Tr) : Tr := if g.shut = 8 then repeatP (timesT 0 1) t else t
def wholeP (g : Grp) : Tr := repeatP g.times (mayP g (togetherP 6 (endRowP g).rows))

def smallC (c : UInt8) : UInt8 := if 65 ≤ c ∧ c ≤ 90 then c + 32 else c
def leafKind (k : Int) : Int := if k = 1 then 1 else if k = 10 then 2 else if k = 11 then 3 else if k = 12 then 4 else 0
def meaningP (t : Tk) : Tr :=
  if leafKind t.kind = 1 then .mk 1 (t.text.map smallC) 0 0 0 0 []
  else if leafKind t.kind = 4 then .mk 4 [] t.lo t.hi 0 0 []
  else .mk (leafKind t.kind) t.text 0 0 0 0 []

def standsP (l : List Tk) (at_ : Nat) (ks : List Int) : Bool := match l[at_]? with | none => false | some t => ks.contains t.kind
def leafP (l : List Tk) (at_ : Nat) (ks : List Int) : Option Tr := match l[at_]? with | none => none | some t => if ks.contains t.kind = true ∧ rightB (meaningP t) = true then some (meaningP t) else none
def howP (l : List Tk) (at_ : Nat) : Tr × Nat := match l[at_]? with | none => (noTree, at_) | some t => if t.kind = 9 ∧ timesB t.mn t.mx = true then (timesT t.mn t.mx, at_ + 1) else (noTree, at_)

/-- the innermost group turned -/
def onTop (f : Grp → Grp) : List Grp → List Grp
  | [] => []
  | [g] => [f g]
  | g :: h :: r => g :: onTop f (h :: r)
def addG (t : Tr) (g : Grp) : Grp := { g with parts := g.parts ++ [t] }
def topG (st : List Grp) : Grp := st.getLastD { shut := 0, times := noTree, rows := [], parts := [] }
def openG (l : List Tk) (at_ : Nat) (times : Tr) : Grp := { shut := if standsP l at_ [7] = true then 8 else 6, times := times, rows := [], parts := [] }

def partF (l : List Tk) : Nat → Nat → Tr → List Grp → Bool × Nat × List Grp
  | 0, at_, _, st => (false, at_, st)
  | f + 1, at_, tm, st =>
    if standsP l at_ [5, 7] = true then partF l f (howP l (at_ + 1)).2 (howP l (at_ + 1)).1 (st ++ [openG l at_ tm])
    else match leafP l at_ [1, 10, 11, 12] with
      | none => (false, at_, st)
      | some t => (true, at_ + 1, onTop (addG (repeatP tm t)) st)
def partP (l : List Tk) (at_ : Nat) (st : List Grp) : Bool × Nat × List Grp := partF l (l.length + 1) (howP l at_).2 (howP l at_).1 st

/-- groups that end: all of them, with the tree, or those that are left -/
def shutF (l : List Tk) : Nat → Nat → List Grp → Option Tr × Nat × List Grp
  | 0, at_, st => (none, at_, st)
  | f + 1, at_, st =>
    if standsP l at_ [(topG st).shut] = true then
      if st.dropLast.length = 0 then (some (wholeP (topG st)), at_ + 1, [])
      else shutF l f (at_ + 1) (onTop (addG (wholeP (topG st))) st.dropLast)
    else (none, at_, st)
def shutP (l : List Tk) (at_ : Nat) (st : List Grp) : Option Tr × Nat × List Grp := shutF l (l.length + 1) at_ st

def choicesF (l : List Tk) : Nat → Nat → List Grp → Option Tr × Nat
  | 0, at_, _ => (none, at_)
  | f + 1, at_, st =>
    if (partP l at_ st).1 = true then
      match (shutP l (partP l at_ st).2.1 (partP l at_ st).2.2) with
      | (some t, at2, _) => (some t, at2)
      | (none, at2, st2) => if standsP l at2 [4] = true then choicesF l f (at2 + 1) (onTop endRowP st2) else choicesF l f at2 st2
    else (none, (partP l at_ st).2.1)
def firstG : Grp := { shut := 13, times := noTree, rows := [], parts := [] }
def choicesP (l : List Tk) (at_ : Nat) : Option Tr × Nat := choicesF l (l.length + 1) at_ [firstG]

structure Rl where
  name : List UInt8
  place : Int
  more : Bool
  tree : Tr

def placeP (l : List Tk) (at_ : Nat) : Int := (l.getD (min at_ (l.length - 1)) {}).place
def ruleP (l : List Tk) (at_ : Nat) : Option Rl × Nat :=
  match leafP l at_ [1] with
  | none => (none, at_)
  | some n =>
    if standsP l (at_ + 1) [2, 3] = true then
      match choicesP l (at_ + 2) with
      | (none, at2) => (none, at2)
      | (some t, at2) => (some { name := n.text, place := placeP l at_, more := standsP l (at_ + 1) [3], tree := t }, at2)
    else (none, at_ + 1)
def parseF (l : List Tk) : Nat → Nat → List Rl → List Rl × Int × Int
  | 0, _, acc => (acc, 0, 0)
  | f + 1, at_, acc =>
    if l.length ≤ at_ then (acc, 0, 0)
    else match ruleP l at_ with
      | (none, at2) => ([], placeP l at2, 20)
      | (some r, at2) => if rightB r.tree = true then parseF l f at2 (acc ++ [r]) else ([], r.place, 21)
/-- what tokens are -/
def parseP (l : List Tk) : List Rl × Int × Int := parseF l (l.length + 1) 0 []
end Go.Proofs.YtodenbimeojgdaaGreatDoor
