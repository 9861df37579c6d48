/-
  Plain facts on tokens: of a text's tokens places rise, and what they are stands there. No conditions.
-/
import Derived.Test.YtciabhboiomehaaDoorLow
namespace Go.Proofs.YtciabhboiomehaaDoor

def signs : List (Int × List UInt8) := [(2, [61]), (3, [61, 47]), (4, [47]), (5, [40]), (6, [41]), (7, [91]), (8, [93]), (11, [37]), (12, [37])]
/-- what stands at a token's place -/
def KindOk (t : Tk) (sg : List UInt8) : Prop :=
  (t.kind = 1 ∧ sg = t.text) ∨ (t.kind = 10 ∧ sg = 34 :: (t.text ++ [34])) ∨
  (t.kind = 9 ∧ (∃ c : UInt8, sg = [c] ∧ timesZ c.toNat = true) ∧ 0 ≤ t.mn ∧ t.mn ≤ 9999 ∧ -1 ≤ t.mx ∧ t.mx ≤ 9999 ∧ (0 ≤ t.mx → t.mn ≤ t.mx)) ∨ (t.kind, sg) ∈ signs
def PieceOk (p : Pc) (r : List UInt8) : Prop := (p.err = 0 → p.tok.kind ≠ 0 → ∃ sg, sg ≠ [] ∧ sg <+: r ∧ KindOk p.tok sg) ∧ (p.err ≠ 0 → p.bad < r.length)

theorem hasPrefix_iff {l t : List UInt8} (h : Lib.hasPrefix l t = true) : t <+: l := List.isPrefixOf_iff_prefix.1 h

theorem digit_bd {n : Int} (h : digitZ n = true) : 0 ≤ digitOfZ n ∧ digitOfZ n ≤ 9 := by
  unfold digitOfZ
  rw [if_pos h]
  simp only [digitZ, Bool.and_eq_true, decide_eq_true_eq] at h
  omega
def pow10 : Nat → Int
  | 0 => 1
  | k + 1 => pow10 k * 10
theorem number_digits : ∀ (l : List UInt8) (a : Int) (k : Nat), k ≤ spanZ digitZ l → 0 ≤ a → 0 ≤ numberFrom 10 a (l.take k) ∧ numberFrom 10 a (l.take k) + 1 ≤ (a + 1) * pow10 k := by
  intro l
  induction l with
  | nil => intro a k hk h0; have : k = 0 := by simpa [spanZ] using hk
           subst this; simp [numberFrom, pow10]; exact h0
  | cons c r ih =>
    intro a k hk h0
    cases k with
    | zero => simp [numberFrom, pow10]; exact h0
    | succ k =>
      simp only [spanZ] at hk
      by_cases hc : digitZ c.toNat = true
      · rw [if_pos hc] at hk
        have hd := digit_bd hc
        have := ih (a * 10 + digitOfZ c.toNat) k (by omega) (by omega)
        simp only [List.take_succ_cons, numberFrom, pow10]
        refine ⟨this.1, Int.le_trans this.2 ?_⟩
        have h10 : 0 ≤ pow10 k := by
          clear this hk ih
          induction k with
          | zero => decide
          | succ k ih => simp only [pow10]; omega
        have hx : a * 10 + digitOfZ c.toNat + 1 ≤ (a + 1) * 10 := by omega
        calc (a * 10 + digitOfZ c.toNat + 1) * pow10 k ≤ ((a + 1) * 10) * pow10 k := Int.mul_le_mul_of_nonneg_right hx h10
          _ = (a + 1) * (pow10 k * 10) := by rw [Int.mul_assoc, Int.mul_comm 10]
      · rw [if_neg hc] at hk; omega
theorem number4 (l : List UInt8) (k : Nat) (hk : k ≤ spanZ digitZ l) (h4 : k ≤ 4) : 0 ≤ numberZ 10 (l.take k) ∧ numberZ 10 (l.take k) ≤ 9999 := by
  have h := number_digits l 0 k hk (by omega)
  have hp : pow10 k ≤ 10000 := by
    clear h hk
    match k, h4 with
    | 0, _ => decide
    | 1, _ => decide
    | 2, _ => decide
    | 3, _ => decide
    | 4, _ => decide
  unfold numberZ
  omega

theorem pos_of_ne {l : List UInt8} (h : l ≠ []) : 0 < l.length := List.length_pos_iff.2 h
theorem first_prefix {l : List UInt8} (h : l ≠ []) : ∃ c : UInt8, [c] <+: l ∧ (c.toNat : Int) = byteZ l 0 := by
  cases l with
  | nil => exact absurd rfl h
  | cons c r => exact ⟨c, ⟨r, rfl⟩, rfl⟩
theorem times_bits (l : List UInt8) (hl : l ≠ []) (h : timesZ (byteZ l 0) = true) (least most : Int) (size : Nat) (h1 : 0 ≤ least) (h2 : least ≤ 9999) (h3 : -1 ≤ most) (h4 : most ≤ 9999) (h5 : 0 ≤ most → least ≤ most) : PieceOk (timesTok least most size) l := by
  obtain ⟨c, hc, hb⟩ := first_prefix hl
  exact ⟨fun _ _ => ⟨[c], by simp, hc, .inr (.inr (.inl ⟨rfl, ⟨c, rfl, by rw [hb]; exact h⟩, h1, h2, h3, h4, h5⟩))⟩, fun h => absurd rfl h⟩
theorem piece_err {p : Pc} {l : List UInt8} (he : p.err ≠ 0) (hb : p.bad < l.length) : PieceOk p l := ⟨fun h => absurd h he, fun _ => hb⟩
theorem piece_times (l : List UInt8) (hl : l ≠ []) (h : timesZ (byteZ l 0) = true) : PieceOk (timesP l) l := by
  have hle := spanZ_le digitZ l
  have hp := pos_of_ne hl
  unfold timesP
  split
  · exact piece_err (by decide) hp
  · rename_i h4
    have hn := number4 l (spanZ digitZ l) (Nat.le_refl _) (by omega)
    split
    · rename_i hst
      have hlt := standsB_lt hst
      have hle2 := spanZ_le digitZ (l.drop (spanZ digitZ l + 1))
      rw [List.length_drop] at hle2
      split
      · rename_i hm
        exact piece_err (by simp) (by show spanZ digitZ l + 1 < l.length; omega)
      · rename_i hm
        have hn2 := number4 (l.drop (spanZ digitZ l + 1)) _ (Nat.le_refl _) (by omega)
        split
        · split
          · exact piece_err (by decide) hp
          · exact times_bits l hl h _ _ _ (by omega) (by omega) (by omega) (by omega) (by omega)
        · exact times_bits l hl h _ _ _ (by omega) (by omega) (by omega) (by omega) (by omega)
    · exact times_bits l hl h _ _ _ (by omega) (by omega) (by omega) (by omega) (by omega)

theorem quote_prefix : ∀ (l : List UInt8) (i : Nat), quoteAt l = some i → (l.take i ++ [34]) <+: l := by
  intro l
  induction l with
  | nil => intro i h; cases h
  | cons c r ih =>
    intro i h
    rw [quoteAt] at h
    split at h
    · rename_i hc
      have hi : 0 = i := Option.some.inj h
      subst hi
      have : c = 34 := by
        have h2 : c.toNat = 34 := by omega
        exact UInt8.toNat_inj.1 h2
      subst this
      exact ⟨r, rfl⟩
    · split at h
      · cases h
      · cases hq : quoteAt r with
        | none => rw [hq] at h; cases h
        | some j =>
          rw [hq] at h
          have hi : j + 1 = i := Option.some.inj h
          subst hi
          obtain ⟨z, hz⟩ := ih j hq
          exact ⟨z, by simp only [List.take_succ_cons, List.cons_append]; rw [hz]⟩
theorem piece_chars (l : List UInt8) (h : Lib.hasPrefix l [34] = true) : PieceOk (charsP l) l := by
  obtain ⟨r, rfl⟩ := hasPrefix_iff h
  simp only [List.cons_append, List.nil_append]
  unfold charsP
  have hd : (34 :: r : List UInt8).drop 1 = r := rfl
  rw [hd]
  cases hq : quoteAt r with
  | none => exact piece_err (by simp [charsOf]) (by simp [charsOf])
  | some i =>
    refine ⟨fun _ _ => ⟨34 :: (r.take i ++ [34]), by simp, ?_, .inr (.inl ⟨rfl, rfl⟩)⟩, fun h => absurd rfl h⟩
    obtain ⟨z, hz⟩ := quote_prefix r i hq
    exact ⟨z, by simp only [List.cons_append]; rw [hz]⟩
theorem piece_values (l : List UInt8) (h : Lib.hasPrefix l [37] = true) : PieceOk (valuesP l) l := by
  have hpre := hasPrefix_iff h
  have hp : 0 < l.length := prefix_le h
  have hw : PieceOk wrongP l := piece_err (by decide) hp
  unfold valuesP
  cases hv : valueZ l 2 (baseZ l) with
  | none => exact hw
  | some ak =>
    obtain ⟨a, k⟩ := ak
    rw [valuesOf]
    split
    · cases hv2 : valueZ l (k + 1) (baseZ l) with
      | none => exact hw
      | some bk =>
        obtain ⟨b, k2⟩ := bk
        rw [rangeOf]
        split
        · exact hw
        · exact ⟨fun _ _ => ⟨[37], by simp, hpre, .inr (.inr (.inr (by simp [signs])))⟩, fun h => absurd rfl h⟩
    · cases hm : moreVals l (baseZ l) (l.length + 1) k [a] with
      | none => exact hw
      | some nk =>
        exact ⟨fun _ _ => ⟨[37], by simp, hpre, .inr (.inr (.inr (by simp [signs, bytesOf])))⟩, fun h => absurd rfl h⟩
def Tells (row : Row) : Prop := ∀ l, l ≠ [] → row.1 l = true → PieceOk (row.2 l) l
theorem tells_sign (kind : Int) (t : List UInt8) (ht : t ≠ []) (hs : (kind, t) ∈ signs) : Tells (signRow kind t) := fun _ _ h =>
  ⟨fun _ _ => ⟨t, ht, hasPrefix_iff h, .inr (.inr (.inr hs))⟩, fun h => absurd rfl h⟩
theorem tells_err (p : List UInt8 → Bool) (er : Nat) (h1 : er ≠ 0) : Tells (p, fun _ => { bad := 0, err := er }) := fun _ hl _ => piece_err h1 (pos_of_ne hl)
theorem tells_table : ∀ row ∈ table, Tells row := by
  intro row h
  simp only [table, List.mem_cons, List.not_mem_nil, or_false] at h
  rcases h with rfl | rfl | rfl | rfl | rfl | rfl | rfl | rfl | rfl | rfl | rfl | rfl | rfl | rfl | rfl
  · exact fun l _ _ => ⟨fun _ h => absurd rfl h, fun h => absurd rfl h⟩
  · exact fun l _ _ => ⟨fun _ h => absurd rfl h, fun h => absurd rfl h⟩
  · intro l hl h
    have hs := spanZ_pos namedZ l hl (named_of_letter h)
    refine ⟨fun _ _ => ⟨l.take (spanZ namedZ l), ?_, List.take_prefix _ _, .inl ⟨rfl, rfl⟩⟩, fun h => absurd rfl h⟩
    intro e
    have := congrArg List.length e
    rw [List.length_take, List.length_nil] at this
    have := pos_of_ne hl
    omega
  · exact tells_sign _ _ (by simp) (by simp [signs])
  · exact tells_sign _ _ (by simp) (by simp [signs])
  · exact tells_sign _ _ (by simp) (by simp [signs])
  · exact tells_sign _ _ (by simp) (by simp [signs])
  · exact tells_sign _ _ (by simp) (by simp [signs])
  · exact tells_sign _ _ (by simp) (by simp [signs])
  · exact tells_sign _ _ (by simp) (by simp [signs])
  · exact fun l hl h => piece_times l hl h
  · exact fun l _ h => piece_chars l h
  · exact fun l _ h => piece_values l h
  · exact tells_err _ _ (by decide)
  · exact tells_err _ _ (by decide)
theorem piece_pick (rows : List Row) (hr : ∀ row ∈ rows, Tells row) (l : List UInt8) (hl : l ≠ []) : PieceOk (pick rows l) l := by
  induction rows with
  | nil => exact piece_err (by simp [pick]) (pos_of_ne hl)
  | cons row rows ih =>
    obtain ⟨p, r⟩ := row
    rw [pick]
    split
    · exact hr (p, r) (by simp) l hl (by assumption)
    · exact ih fun row h => hr row (by simp [h])
theorem piece_read (l : List UInt8) (hl : l ≠ []) : PieceOk (readP l) l := piece_pick table tells_table l hl
theorem read_letter (l : List UInt8) (hl : l ≠ []) (h : letterZ (byteZ l 0) = true) : readP l = nameP l := by
  cases l with
  | nil => exact absurd rfl hl
  | cons c r =>
    rw [byteZ_cons] at h
    have hb : blankZ c.toNat = false := by
      simp only [letterZ, Bool.or_eq_true, Bool.and_eq_true, decide_eq_true_eq] at h
      simp only [blankZ, Bool.or_eq_false_iff, beq_eq_false_iff_ne]
      omega
    have hr : Lib.hasPrefix (c :: r) [59] = false := by
      simp only [Lib.hasPrefix, List.isPrefixOf, Bool.and_eq_false_iff, beq_eq_false_iff_ne]
      left
      intro e
      rw [← e] at h
      revert h
      decide
    unfold readP table
    rw [pick, if_neg (by rw [byteZ_cons, hb]; simp), pick, if_neg (by rw [hr]; simp), pick, if_pos (by rw [byteZ_cons]; exact h)]

/-- where the next token may be at the earliest, and whether it must be a name -/
def after (toks : List Tk) : Int × Bool :=
  match toks.getLast? with
  | none => (0, true)
  | some t => if t.kind = 13 then (t.place, true) else (t.place + 1, false)
def TokOk (l : List UInt8) (t : Tk) : Prop := ∃ p : Nat, t.place = p ∧ p ≤ l.length ∧ (t.kind = 13 ∨ ∃ sg, sg ≠ [] ∧ sg <+: l.drop p ∧ KindOk t sg)
def Rises (l : List UInt8) (toks : List Tk) : Prop := ∀ (i : Nat) (t : Tk), toks[i]? = some t → (after (toks.take i)).1 ≤ t.place ∧ ((after (toks.take i)).2 = true → t.kind = 1) ∧ TokOk l t

theorem after_snoc (toks : List Tk) (t : Tk) : after (toks ++ [t]) = if t.kind = 13 then (t.place, true) else (t.place + 1, false) := by simp [after]
theorem rises_nil (l : List UInt8) : Rises l [] := fun i t h => by simp at h
theorem rises_snoc {l : List UInt8} {toks : List Tk} {t : Tk} (h : Rises l toks) (h1 : (after toks).1 ≤ t.place) (h2 : (after toks).2 = true → t.kind = 1) (h3 : TokOk l t) : Rises l (toks ++ [t]) := by
  intro i u hu
  rcases Nat.lt_trichotomy i toks.length with hi | hi | hi
  · rw [List.getElem?_append_left hi] at hu
    rw [List.take_append_of_le_length (by omega)]
    exact h i u hu
  · subst hi
    rw [List.getElem?_append_right (Nat.le_refl _), Nat.sub_self] at hu
    have : t = u := by simpa using hu
    subst this
    rw [List.take_append_of_le_length (Nat.le_refl _), List.take_length]
    exact ⟨h1, h2, h3⟩
  · rw [List.getElem?_append_right (by omega)] at hu
    have : i - toks.length ≠ 0 := by omega
    obtain ⟨n, hn⟩ := Nat.exists_eq_succ_of_ne_zero this
    rw [hn] at hu
    simp at hu

theorem prefix_drop {x ln m : List UInt8} {a : Nat} (h1 : x <+: ln.drop a) (h2 : ln <+: m) (ha : a ≤ ln.length) : x <+: m.drop a := by
  obtain ⟨z, rfl⟩ := h2
  rw [List.drop_append_of_le_length ha]
  exact h1.trans (List.prefix_append _ _)

theorem tokens_rise (l ln : List UInt8) (start : Nat) (hln : ln <+: l.drop start) (hst : start ≤ l.length) : ∀ (f at_ : Nat) (toks : List Tk), ln.length < f + at_ → at_ ≤ ln.length → Rises l toks → (after toks).1 ≤ (start : Int) + at_ →
    ((after toks).2 = true → at_ = 0 ∧ ln ≠ [] ∧ letterZ (byteZ ln 0) = true) →
    ((tokensF ln start f at_ toks).2.2 = 0 → (tokensF ln start f at_ toks).2.1 = 0 ∧ Rises l (tokensF ln start f at_ toks).1 ∧ (after (tokensF ln start f at_ toks).1).1 ≤ (start : Int) + ln.length ∧ (after (tokensF ln start f at_ toks).1).2 = false) ∧
    ((tokensF ln start f at_ toks).2.2 ≠ 0 → (tokensF ln start f at_ toks).2.1 < start + ln.length) := by
  intro f
  induction f with
  | zero => intro at_ toks hf hat; omega
  | succ f ih =>
    intro at_ toks hf hat hR ha hnm
    by_cases hend : ln.length ≤ at_
    · rw [tokensF_end hend]
      refine ⟨fun _ => ⟨rfl, hR, by show (after toks).1 ≤ _; omega, ?_⟩, fun h => absurd rfl h⟩
      show (after toks).2 = false
      cases hb : (after toks).2 with
      | false => rfl
      | true =>
        obtain ⟨h0, hne, _⟩ := hnm hb
        have := pos_of_ne hne
        omega
    · have hlt : at_ < ln.length := by omega
      have hne := drop_ne hlt
      have hfit := fits_read _ hne
      have hpo := piece_read _ hne
      rw [Fits, List.length_drop] at hfit
      by_cases he : (readP (ln.drop at_)).err = 0
      · rw [tokensF_go hlt he]
        have hsz := hfit.2.1 he
        by_cases hk : (readP (ln.drop at_)).tok.kind ≠ 0
        · rw [if_pos hk]
          obtain ⟨sg, hsg, hpre, hkd⟩ := hpo.1 he hk
          have hkind13 : ({ (readP (ln.drop at_)).tok with place := (start : Int) + at_ } : Tk).kind ≠ 13 := by
            show (readP (ln.drop at_)).tok.kind ≠ 13
            rcases hkd with h | h | h | h
            · omega
            · omega
            · omega
            · simp only [signs, List.mem_cons, Prod.mk.injEq, List.not_mem_nil, or_false] at h
              omega
          refine ih _ _ (by omega) (by omega) (rises_snoc hR (by show (after toks).1 ≤ (start : Int) + at_; exact ha) ?_ ?_) ?_ ?_
          · intro hb
            obtain ⟨h0, hne2, hlet⟩ := hnm hb
            subst h0
            show (readP (ln.drop 0)).tok.kind = 1
            rw [List.drop_zero, read_letter ln hne2 hlet]
            rfl
          · refine ⟨start + at_, by simp, ?_, .inr ⟨sg, hsg, ?_, hkd⟩⟩
            · obtain ⟨z, hz⟩ := hln
              have := congrArg List.length hz
              rw [List.length_append, List.length_drop] at this
              omega
            · have := prefix_drop hpre hln (by omega)
              rwa [List.drop_drop] at this
          · rw [after_snoc, if_neg hkind13]
            show (start : Int) + at_ + 1 ≤ _
            omega
          · rw [after_snoc, if_neg hkind13]
            intro h
            cases h
        · rw [if_neg hk]
          refine ih _ _ (by omega) (by omega) hR (by omega) ?_
          intro hb
          obtain ⟨h0, hne2, hlet⟩ := hnm hb
          subst h0
          exfalso
          apply hk
          rw [List.drop_zero, read_letter ln hne2 hlet]
          simp [nameP]
      · rw [tokensF_err (by omega) hlt he]
        refine ⟨fun h => absurd h he, fun _ => ?_⟩
        have := hpo.2 he
        rw [List.length_drop] at this
        show start + at_ + _ < _
        omega

theorem cut_prefix (l : List UInt8) (k : Nat) : (cutP l k).1 <+: l.drop k := by
  unfold cutP
  split
  · exact List.prefix_refl _
  · unfold Lib.trimSuffix
    split
    · exact (List.take_prefix _ _).trans (List.take_prefix _ _)
    · exact List.take_prefix _ _

theorem idle_ne {l : List UInt8} (h : idleB l = false) : l ≠ [] := by
  intro e
  rw [e] at h
  cases h

theorem lex_rises (l : List UInt8) : ∀ (f k : Nat) (toks : List Tk) (o : Bool), l.length < f + k → k ≤ l.length → Rises l toks → (after toks).1 ≤ k → (o = false → toks = []) → (o = true → (after toks).2 = false) →
    ((lexF l f k toks o).2.2 = 0 → (lexF l f k toks o).2.1 = 0 ∧ Rises l (lexF l f k toks o).1 ∧ ((lexF l f k toks o).1 = [] ∨ ∃ ts, (lexF l f k toks o).1 = ts ++ [endTok l.length])) ∧
    ((lexF l f k toks o).2.2 ≠ 0 → (lexF l f k toks o).1 = [] ∧ (lexF l f k toks o).2.1 < l.length) := by
  intro f
  induction f with
  | zero => intro k toks o hf hk; omega
  | succ f ih =>
    intro k toks o hf hk hR ha ho1 ho2
    by_cases hend : l.length ≤ k
    · rw [lexF_end hend]
      refine ⟨fun _ => ⟨rfl, ?_⟩, fun h => absurd rfl h⟩
      unfold closed
      cases o with
      | false =>
        have := ho1 rfl
        subst this
        exact ⟨rises_nil l, .inl rfl⟩
      | true =>
        rw [if_pos rfl]
        refine ⟨rises_snoc hR (by show (after toks).1 ≤ (l.length : Int); omega) (fun h => by rw [ho2 rfl] at h; cases h) ⟨l.length, rfl, Nat.le_refl _, .inl rfl⟩, .inr ⟨toks, rfl⟩⟩
    · have hlt : k < l.length := by omega
      have hcb := cutP_bd l k hlt
      have hpre := cut_prefix l k
      have key : ∀ (L : Ln), lineP (cutP l k).1 k toks o = L → (L.err = 0 → Rises l L.toks ∧ (after L.toks).1 ≤ ((cutP l k).2 : Int) ∧ (L.opened = false → L.toks = []) ∧ (L.opened = true → (after L.toks).2 = false)) ∧ (L.err ≠ 0 → L.place < l.length) := by
        intro L hL
        generalize (cutP l k).1 = ln at *
        generalize (cutP l k).2 = nx at *
        unfold lineP at hL
        cases hid : idleB ln with
        | true =>
          rw [if_pos hid] at hL
          subst hL
          exact ⟨fun _ => ⟨hR, by show (after toks).1 ≤ _; omega, ho1, ho2⟩, fun h => absurd rfl h⟩
        | false =>
          have hne := idle_ne hid
          rw [if_neg (by simp [hid])] at hL
          cases hlet : letterZ (byteZ ln 0) with
          | true =>
            rw [if_pos hlet] at hL
            have hT := tokens_rise l ln k hpre (by omega) (ln.length + 1) 0 (if o = true then toks ++ [endTok k] else toks) (by omega) (by omega)
              (by
                cases o with
                | true => exact rises_snoc hR (by show (after toks).1 ≤ (k : Int); exact ha) (fun h => by rw [ho2 rfl] at h; cases h) ⟨k, rfl, by omega, .inl rfl⟩
                | false => exact hR)
              (by
                cases o with
                | true => rw [if_pos rfl, after_snoc, if_pos (by rfl)]; show (k : Int) ≤ _; omega
                | false => rw [if_neg (by simp)]; omega)
              (fun _ => ⟨rfl, hne, hlet⟩)
            subst hL
            refine ⟨fun he => ?_, fun he => ?_⟩
            · obtain ⟨_, h2, h3, h4⟩ := hT.1 he
              exact ⟨h2, (by show (after (tokensF ln k (ln.length + 1) 0 _).1).1 ≤ _; omega), (fun h => by cases h), fun _ => h4⟩
            · have := hT.2 he
              show (tokensP ln k _).2.1 < _
              unfold tokensP
              omega
          | false =>
            rw [if_neg (by simp [hlet])] at hL
            cases hbo : (blankZ (byteZ ln 0) && o) with
            | false =>
              rw [if_neg (by simp [hbo])] at hL
              subst hL
              exact ⟨(fun h => by cases h), fun _ => hlt⟩
            | true =>
              rw [if_pos hbo] at hL
              have hot : o = true := by
                cases o with
                | true => rfl
                | false => simp at hbo
              subst hot
              have hT := tokens_rise l ln k hpre (by omega) (ln.length + 1) 0 toks (by omega) (by omega) hR (by omega) (fun h => by rw [ho2 rfl] at h; cases h)
              subst hL
              refine ⟨fun he => ?_, fun he => ?_⟩
              · obtain ⟨_, h2, h3, h4⟩ := hT.1 he
                exact ⟨h2, (by show (after (tokensF ln k (ln.length + 1) 0 _).1).1 ≤ _; omega), (fun h => by cases h), fun _ => h4⟩
              · have := hT.2 he
                show (tokensP ln k _).2.1 < _
                unfold tokensP
                omega
      obtain ⟨k1, k2⟩ := key _ rfl
      by_cases he : (lineP (cutP l k).1 k toks o).err = 0
      · rw [lexF_go hlt he]
        obtain ⟨a1, a2, a3, a4⟩ := k1 he
        exact ih _ _ _ (by omega) (by omega) a1 a2 a3 a4
      · rw [lexF_err (by omega) hlt he]
        exact ⟨fun h => absurd h he, fun _ => ⟨rfl, k2 he⟩⟩

theorem tokens_len (ln : List UInt8) (start : Nat) : ∀ (f at_ : Nat) (toks : List Tk), at_ ≤ ln.length → (tokensF ln start f at_ toks).1.length ≤ toks.length + (ln.length - at_) := by
  intro f
  induction f with
  | zero => intro at_ toks _; show toks.length ≤ _; omega
  | succ f ih =>
    intro at_ toks hat
    by_cases hend : ln.length ≤ at_
    · rw [tokensF_end hend]; show toks.length ≤ _; omega
    · have hlt : at_ < ln.length := by omega
      have hfit := fits_read _ (drop_ne hlt)
      rw [Fits, List.length_drop] at hfit
      by_cases he : (readP (ln.drop at_)).err = 0
      · rw [tokensF_go hlt he]
        have hsz := hfit.2.1 he
        split
        · refine Nat.le_trans (ih _ _ (by omega)) ?_
          rw [List.length_append, List.length_singleton]
          omega
        · refine Nat.le_trans (ih _ _ (by omega)) ?_
          omega
      · rw [tokensF, if_neg (by omega), if_pos he]
        show toks.length ≤ _
        omega
theorem line_len (ln : List UInt8) (k : Nat) (toks : List Tk) (o : Bool) : (lineP ln k toks o).toks.length ≤ toks.length + 1 + ln.length := by
  have h := fun tk => tokens_len ln k (ln.length + 1) 0 tk (Nat.zero_le _)
  unfold lineP
  split
  · show toks.length ≤ _; omega
  · split
    · have := h (if o = true then toks ++ [endTok k] else toks)
      have e : (if o = true then toks ++ [endTok k] else toks).length ≤ toks.length + 1 := by
        split
        · simp
        · omega
      show (tokensF ln k (ln.length + 1) 0 _).1.length ≤ _
      omega
    · split
      · have := h toks
        show (tokensF ln k (ln.length + 1) 0 _).1.length ≤ _
        omega
      · show toks.length ≤ _; omega
theorem lexF_len (l : List UInt8) : ∀ (f k : Nat) (toks : List Tk) (o : Bool), k ≤ l.length → (lexF l f k toks o).1.length ≤ toks.length + 2 * (l.length - k) + 1 := by
  intro f
  have hcl : ∀ (toks : List Tk) (o : Bool), (closed l toks o).length ≤ toks.length + 1 := by
    intro toks o
    unfold closed
    split
    · simp
    · omega
  induction f with
  | zero => intro k toks o _; have := hcl toks o; show (closed l toks o).length ≤ _; omega
  | succ f ih =>
    intro k toks o hk
    by_cases hend : l.length ≤ k
    · rw [lexF_end hend]; have := hcl toks o; show (closed l toks o).length ≤ _; omega
    · have hlt : k < l.length := by omega
      have hcb := cutP_bd l k hlt
      have hl := line_len (cutP l k).1 k toks o
      by_cases he : (lineP (cutP l k).1 k toks o).err = 0
      · rw [lexF_go hlt he]
        have := ih (cutP l k).2 (lineP (cutP l k).1 k toks o).toks (lineP (cutP l k).1 k toks o).opened (by omega)
        omega
      · rw [lexF, if_neg (by omega), if_pos he]
        show 0 ≤ _
        omega
theorem lexP_len (l : List UInt8) : (lexP l).1.length ≤ 2 * l.length + 1 := by
  unfold lexP
  split
  · show 0 ≤ _; omega
  · have := lexF_len l (l.length + 1) 0 [] false (Nat.zero_le _)
    simpa using this

theorem lex_whole (l : List UInt8) (h : l.length ≤ 65536) :
    ((lexP l).2.2 = 0 → (lexP l).2.1 = 0 ∧ Rises l (lexP l).1 ∧ ((lexP l).1 = [] ∨ ∃ ts, (lexP l).1 = ts ++ [endTok l.length])) ∧ ((lexP l).2.2 ≠ 0 → (lexP l).1 = [] ∧ (lexP l).2.1 < l.length) := by
  unfold lexP
  rw [if_neg (by omega)]
  exact lex_rises l (l.length + 1) 0 [] false (by omega) (by omega) (rises_nil l) (by decide) (fun _ => rfl) (fun h => by cases h)
end Go.Proofs.YtciabhboiomehaaDoor
