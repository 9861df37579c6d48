/-
  Plain facts: a text, a byte 10 and another text are read one behind the other. No conditions.
-/
import Derived.Test.YtciabhboiomehaaDoorTailQ
namespace Go.Proofs.YtciabhboiomehaaDoor

/-- so many places on -/
def sh (d : Nat) (t : Tk) : Tk := { t with place := t.place + d }
theorem sh_end (d k : Nat) : sh d (endTok k) = endTok (k + d) := by simp [sh, endTok]

theorem tokens_app (ln : List UInt8) (start : Nat) (a : List Tk) : ∀ (f at_ : Nat) (b : List Tk), tokensF ln start f at_ (a ++ b) = (a ++ (tokensF ln start f at_ b).1, (tokensF ln start f at_ b).2) := by
  intro f
  induction f with
  | zero => intro at_ b; rfl
  | succ f ih =>
    intro at_ b
    rw [tokensF, tokensF]
    split
    · rfl
    · split
      · rfl
      · rw [← ih]
        congr 1
        split
        · rw [List.append_assoc]
        · rfl
def shPlace (d : Nat) (r : Nat × Nat) : Nat × Nat := (if r.2 = 0 then r.1 else r.1 + d, r.2)
theorem tokens_shift (ln : List UInt8) (start d : Nat) : ∀ (f at_ : Nat) (b : List Tk), tokensF ln (start + d) f at_ (b.map (sh d)) = ((tokensF ln start f at_ b).1.map (sh d), shPlace d (tokensF ln start f at_ b).2) := by
  intro f
  induction f with
  | zero => intro at_ b; rfl
  | succ f ih =>
    intro at_ b
    rw [tokensF, tokensF]
    split
    · rfl
    · split
      · rename_i he
        simp only [shPlace, if_neg he]
        rw [show start + d + at_ + (readP (ln.drop at_)).bad = start + at_ + (readP (ln.drop at_)).bad + d from by omega]
      · rw [← ih]
        congr 1
        split
        · rw [List.map_append, List.map_singleton]
          congr 2
          simp only [sh]
          congr 1
          push_cast
          omega
        · rfl
theorem line_shift (ln : List UInt8) (k d : Nat) (a b : List Tk) (o : Bool) : lineP ln (k + d) (a ++ b.map (sh d)) o =
    ⟨a ++ (lineP ln k b o).toks.map (sh d), (lineP ln k b o).opened, (shPlace d ((lineP ln k b o).place, (lineP ln k b o).err)).1, (lineP ln k b o).err⟩ := by
  have key : ∀ c : List Tk, tokensP ln (k + d) (a ++ c.map (sh d)) = (a ++ (tokensP ln k c).1.map (sh d), shPlace d (tokensP ln k c).2) := by
    intro c
    unfold tokensP
    rw [tokens_app, tokens_shift]
  unfold lineP
  split
  · rfl
  · split
    · have e : (if o = true then a ++ b.map (sh d) ++ [endTok (k + d)] else a ++ b.map (sh d)) = a ++ (if o = true then b ++ [endTok k] else b).map (sh d) := by
        split
        · rw [List.map_append, List.map_singleton, sh_end, List.append_assoc]
        · rfl
      rw [e, key]
      rfl
    · split
      · rw [key]
        rfl
      · rfl

/-- the lines from a place on: the tokens, and whether a rule is open; or the place and the number of an error -/
def runF (l : List UInt8) : Nat → Nat → List Tk → Bool → (List Tk × Bool) ⊕ (Nat × Nat)
  | 0, _, toks, o => .inl (toks, o)
  | f + 1, k, toks, o =>
    if l.length ≤ k then .inl (toks, o)
    else if (lineP (cutP l k).1 k toks o).err ≠ 0 then .inr ((lineP (cutP l k).1 k toks o).place, (lineP (cutP l k).1 k toks o).err)
    else runF l f (cutP l k).2 (lineP (cutP l k).1 k toks o).toks (lineP (cutP l k).1 k toks o).opened
def closeR (l : List UInt8) : (List Tk × Bool) ⊕ (Nat × Nat) → List Tk × Nat × Nat
  | .inl (toks, o) => (closed l toks o, 0, 0)
  | .inr (p, e) => ([], p, e)
theorem lexF_run (l : List UInt8) : ∀ (f k : Nat) (toks : List Tk) (o : Bool), lexF l f k toks o = closeR l (runF l f k toks o) := by
  intro f
  induction f with
  | zero => intro k toks o; rfl
  | succ f ih =>
    intro k toks o
    rw [lexF, runF]
    split
    · rfl
    · split
      · rfl
      · exact ih _ _ _
theorem runF_fuel (l : List UInt8) : ∀ (f f' k : Nat) (toks : List Tk) (o : Bool), l.length < f + k → l.length < f' + k → k ≤ l.length → runF l f k toks o = runF l f' k toks o := by
  intro f
  induction f with
  | zero => intro f' k toks o h _ hk; omega
  | succ f ih =>
    intro f' k toks o h h' hk
    cases f' with
    | zero => omega
    | succ f' =>
      rw [runF, runF]
      split
      · rfl
      · have hcb := cutP_bd l k (by omega)
        split
        · rfl
        · exact ih f' _ _ _ (by omega) (by omega) (by omega)
def run (l : List UInt8) (k : Nat) (toks : List Tk) (o : Bool) : (List Tk × Bool) ⊕ (Nat × Nat) := runF l (l.length + 1) k toks o
theorem lexP_run (l : List UInt8) (h : l.length ≤ 65536) : lexP l = closeR l (run l 0 [] false) := by
  unfold lexP
  rw [if_neg (by omega), lexF_run]
  rfl
theorem run_end {l : List UInt8} {k : Nat} {toks : List Tk} {o : Bool} (h : l.length ≤ k) : run l k toks o = .inl (toks, o) := by
  unfold run
  rw [runF, if_pos h]
theorem run_step {l : List UInt8} {k : Nat} {toks : List Tk} {o : Bool} (h : k < l.length) : run l k toks o =
    if (lineP (cutP l k).1 k toks o).err ≠ 0 then .inr ((lineP (cutP l k).1 k toks o).place, (lineP (cutP l k).1 k toks o).err)
    else run l (cutP l k).2 (lineP (cutP l k).1 k toks o).toks (lineP (cutP l k).1 k toks o).opened := by
  have hcb := cutP_bd l k h
  unfold run
  rw [runF, if_neg (by omega)]
  split
  · rfl
  · exact runF_fuel l _ _ _ _ _ (by omega) (by omega) (by omega)

theorem indexByte_append (x t : List UInt8) (c : UInt8) (h : 0 ≤ Lib.indexByte x c) : Lib.indexByte (x ++ t) c = Lib.indexByte x c := by
  induction x with
  | nil => simp [Lib.indexByte] at h
  | cons b x ih =>
    rw [List.cons_append]
    simp only [Lib.indexByte] at h ⊢
    split
    · rfl
    · rename_i hb
      rw [if_neg hb] at h
      by_cases h1 : (Lib.indexByte x c == -1) = true
      · rw [if_pos h1] at h
        omega
      · have hb1 := indexByte_bd x c
        have h0 : 0 ≤ Lib.indexByte x c := by
          have : Lib.indexByte x c ≠ -1 := by simpa using h1
          omega
        rw [ih h0]
theorem indexByte_none (x : List UInt8) (c : UInt8) (h : Lib.indexByte x c < 0) : Lib.indexByte (x ++ [c]) c = x.length := by
  induction x with
  | nil => simp [Lib.indexByte]
  | cons b x ih =>
    rw [List.cons_append]
    simp only [Lib.indexByte, List.length_cons] at h ⊢
    by_cases hb : (b == c) = true
    · rw [if_pos hb] at h
      omega
    · rw [if_neg hb] at h
      rw [if_neg hb]
      have hb1 := indexByte_bd x c
      have h0 : Lib.indexByte x c < 0 := by
        by_cases h1 : (Lib.indexByte x c == -1) = true
        · have : Lib.indexByte x c = -1 := by simpa using h1
          omega
        · rw [if_neg h1] at h
          omega
      rw [ih h0, if_neg (by
        simp only [beq_iff_eq]
        omega)]
      push_cast
      rfl
theorem drop_append_lt (x t : List UInt8) (k : Nat) (h : k ≤ x.length) : (x ++ t).drop k = x.drop k ++ t := List.drop_append_of_le_length h
/-- a line that ends within a text is the same with more behind -/
theorem cut_left (x t : List UInt8) (k : Nat) (h : k < x.length) (hi : 0 ≤ Lib.indexByte (x.drop k) 10) : cutP (x ++ t) k = cutP x k := by
  have hb := indexByte_bd (x.drop k) 10
  rw [List.length_drop] at hb
  unfold cutP
  rw [drop_append_lt x t k (by omega), indexByte_append _ _ _ hi, if_neg (by omega), if_neg (by omega), List.take_append_of_le_length (by rw [List.length_drop]; omega)]
theorem index_nl (x : List UInt8) (k : Nat) (h : k ≤ x.length) : 0 ≤ Lib.indexByte ((x ++ [10]).drop k) 10 := by
  rw [drop_append_lt x [10] k h]
  by_cases hi : 0 ≤ Lib.indexByte (x.drop k) 10
  · rw [indexByte_append _ _ _ hi]; exact hi
  · rw [indexByte_none _ _ (by omega)]
    omega
theorem cut_nl (x t : List UInt8) (k : Nat) (h : k ≤ x.length) : cutP (x ++ [10] ++ t) k = cutP (x ++ [10]) k :=
  cut_left (x ++ [10]) t k (by rw [List.length_append, List.length_singleton]; omega) (index_nl x k h)
theorem cut_right (x t : List UInt8) (j : Nat) : cutP (x ++ t) (j + x.length) = ((cutP t j).1, (cutP t j).2 + x.length) := by
  have hd : (x ++ t).drop (j + x.length) = t.drop j := by
    rw [Nat.add_comm, ← List.drop_drop, List.drop_left]
  unfold cutP
  rw [hd, List.length_append]
  split
  · simp only [Prod.mk.injEq, true_and]
    omega
  · simp only [Prod.mk.injEq, true_and]
    omega

/-- what stands ahead, with an end of a line, is read first -/
theorem run_first (x t : List UInt8) : ∀ (n k : Nat) (toks : List Tk) (o : Bool), x.length + 1 ≤ n + k → k ≤ x.length + 1 → run (x ++ [10] ++ t) k toks o =
    match run (x ++ [10]) k toks o with
    | .inl (a, o') => run (x ++ [10] ++ t) (x.length + 1) a o'
    | .inr e => .inr e := by
  have hlen : (x ++ [10]).length = x.length + 1 := by simp
  have stop : ∀ (toks : List Tk) (o : Bool), run (x ++ [10] ++ t) (x.length + 1) toks o =
      match run (x ++ [10]) (x.length + 1) toks o with
      | .inl (a, o') => run (x ++ [10] ++ t) (x.length + 1) a o'
      | .inr e => .inr e := by
    intro toks o
    rw [run_end (l := x ++ [10]) (by omega)]
  intro n
  induction n with
  | zero =>
    intro k toks o h hk
    obtain rfl : k = x.length + 1 := by omega
    exact stop toks o
  | succ n ih =>
    intro k toks o h hk
    by_cases he : k = x.length + 1
    · subst he
      exact stop toks o
    · have hcb := cutP_bd (x ++ [10]) k (by omega)
      rw [run_step (l := x ++ [10] ++ t) (by rw [List.length_append]; omega), run_step (l := x ++ [10]) (by omega), cut_nl x t k (by omega)]
      split
      · rfl
      · exact ih _ _ _ (by omega) (by omega)
/-- what stands behind is read as it is by itself, so many places on -/
theorem run_behind (x t : List UInt8) (a : List Tk) : ∀ (n j : Nat) (b : List Tk) (o : Bool), t.length ≤ n + j → j ≤ t.length → run (x ++ t) (j + x.length) (a ++ b.map (sh x.length)) o =
    match run t j b o with
    | .inl (b', o') => .inl (a ++ b'.map (sh x.length), o')
    | .inr e => .inr (e.1 + x.length, e.2) := by
  have stop : ∀ (b : List Tk) (o : Bool), run (x ++ t) (t.length + x.length) (a ++ b.map (sh x.length)) o =
      match run t t.length b o with
      | .inl (b', o') => .inl (a ++ b'.map (sh x.length), o')
      | .inr e => .inr (e.1 + x.length, e.2) := by
    intro b o
    rw [run_end (l := t) (Nat.le_refl _), run_end (by rw [List.length_append]; omega)]
  intro n
  induction n with
  | zero =>
    intro j b o h hj
    obtain rfl : j = t.length := by omega
    exact stop b o
  | succ n ih =>
    intro j b o h hj
    by_cases he : j = t.length
    · subst he
      exact stop b o
    · have hcb := cutP_bd t j (by omega)
      rw [run_step (l := x ++ t) (by rw [List.length_append]; omega), run_step (l := t) (by omega), cut_right, line_shift]
      simp only
      split
      · rename_i hne
        simp only [shPlace, if_neg hne]
      · exact ih _ _ _ (by omega) (by omega)
theorem line_nil (k : Nat) (toks : List Tk) (o : Bool) : lineP [] k toks o = ⟨toks, o, 0, 0⟩ := by
  unfold lineP
  rw [if_pos idle_nil]
/-- an end of a line more changes nothing -/
theorem run_nl (s : List UInt8) : ∀ (n k : Nat) (toks : List Tk) (o : Bool) (R : List Tk × Bool), s.length ≤ n + k → k ≤ s.length → run s k toks o = .inl R → run (s ++ [10]) k toks o = .inl R := by
  have hlen : (s ++ [10]).length = s.length + 1 := by simp
  have stop : ∀ (toks : List Tk) (o : Bool), run (s ++ [10]) s.length toks o = .inl (toks, o) := by
    intro toks o
    have hc : cutP (s ++ [10]) s.length = ([], s.length + 1) := by
      unfold cutP
      rw [List.drop_left]
      have : Lib.indexByte [10] 10 = 0 := rfl
      rw [this, if_neg (by omega)]
      simp [Lib.trimSuffix, Lib.hasSuffix]
    rw [run_step (by omega), hc]
    simp only [line_nil]
    rw [if_neg (by simp), run_end (by omega)]
  intro n
  induction n with
  | zero =>
    intro k toks o R h hk hr
    obtain rfl : k = s.length := by omega
    rw [run_end (Nat.le_refl _)] at hr
    rw [stop, hr]
  | succ n ih =>
    intro k toks o R h hk hr
    by_cases he : k = s.length
    · subst he
      rw [run_end (Nat.le_refl _)] at hr
      rw [stop, hr]
    · have hlt : k < s.length := by omega
      have hcb := cutP_bd s k hlt
      by_cases hi : 0 ≤ Lib.indexByte (s.drop k) 10
      · rw [run_step hlt] at hr
        rw [run_step (by omega), cut_left s [10] k hlt hi]
        split at hr
        · cases hr
        · rename_i hne
          rw [if_neg hne]
          exact ih _ _ _ R (by omega) (by omega) hr
      · have hc : cutP s k = (s.drop k, s.length) := by
          unfold cutP
          rw [if_pos (by omega)]
        have hc2 : cutP (s ++ [10]) k = (Lib.trimSuffix (s.drop k) [13], s.length + 1) := by
          unfold cutP
          rw [drop_append_lt s [10] k (by omega), indexByte_none _ _ (by omega), if_neg (by omega)]
          simp only [Int.toNat_natCast]
          rw [List.take_left' rfl, List.length_drop]
          congr 1
          omega
        rw [run_step hlt, hc] at hr
        rw [run_step (by omega), hc2]
        simp only at hr ⊢
        split at hr
        · cases hr
        · rename_i hne
          have herr : (lineP (s.drop k) k toks o).err = 0 := by
            cases hh : (lineP (s.drop k) k toks o).err with
            | zero => rfl
            | succ m => exact absurd (by rw [hh]; simp) hne
          have hsame : lineP (Lib.trimSuffix (s.drop k) [13]) k toks o = lineP (s.drop k) k toks o := by
            unfold Lib.trimSuffix
            split
            · rename_i hsuf
              obtain ⟨y, hy⟩ := List.isSuffixOf_iff_suffix.1 hsuf
              have hy' : (s.drop k).take ((s.drop k).length - ([13] : List UInt8).length) = y := by
                rw [← hy]
                simp
              rw [hy', ← hy]
              exact line_snoc y k toks o (by rw [hy]; exact herr)
            · rfl
          rw [hsame, if_neg hne, run_end (by omega)]
          rw [run_end (Nat.le_refl _)] at hr
          exact hr
theorem run_stays (l : List UInt8) : ∀ (n k : Nat) (toks : List Tk) (R : List Tk × Bool), l.length ≤ n + k → k ≤ l.length → run l k toks true = .inl R → R.2 = true := by
  intro n
  induction n with
  | zero =>
    intro k toks R h hk hr
    obtain rfl : k = l.length := by omega
    rw [run_end (Nat.le_refl _)] at hr
    cases hr
    rfl
  | succ n ih =>
    intro k toks R h hk hr
    by_cases he : k = l.length
    · subst he
      rw [run_end (Nat.le_refl _)] at hr
      cases hr
      rfl
    · have hcb := cutP_bd l k (by omega)
      rw [run_step (by omega)] at hr
      split at hr
      · cases hr
      · have ho : (lineP (cutP l k).1 k toks true).opened = true := by
          unfold lineP
          split
          · rfl
          · split
            · rfl
            · split
              · rfl
              · rfl
        rw [ho] at hr
        exact ih _ _ R (by omega) (by omega) hr
theorem run_app (t : List UInt8) (a b : List Tk) (j : Nat) (o : Bool) (hj : j ≤ t.length) : run t j (a ++ b) o =
    match run t j b o with
    | .inl (b', o') => .inl (a ++ b', o')
    | .inr e => .inr e := by
  have h := run_behind [] t a t.length j b o (by omega) hj
  have hid : ∀ l : List Tk, l.map (sh 0) = l := by
    intro l
    have : sh 0 = id := by funext t; simp [sh]
    rw [this, List.map_id]
  simp only [List.nil_append, List.length_nil, Nat.add_zero, hid] at h
  rw [h]
/-- with a rule open ahead of it a text's tokens are the same, with that rule's end, unless there is no rule -/
theorem run_opened (t : List UInt8) : ∀ (n j : Nat) (b : List Tk) (ob : Bool), t.length ≤ n + j → j ≤ t.length → run t j [] false = .inl (b, ob) →
    (ob = false ∧ b = [] ∧ run t j [] true = .inl ([], true)) ∨ (ob = true ∧ ∃ q, run t j [] true = .inl (endTok q :: b, true)) := by
  intro n
  induction n with
  | zero =>
    intro j b ob h hj hr
    obtain rfl : j = t.length := by omega
    rw [run_end (Nat.le_refl _)] at hr ⊢
    cases hr
    exact .inl ⟨rfl, rfl, rfl⟩
  | succ n ih =>
    intro j b ob h hj hr
    by_cases he : j = t.length
    · subst he
      rw [run_end (Nat.le_refl _)] at hr ⊢
      cases hr
      exact .inl ⟨rfl, rfl, rfl⟩
    · have hcb := cutP_bd t j (by omega)
      rw [run_step (by omega)] at hr ⊢
      generalize (cutP t j).1 = ln at *
      generalize (cutP t j).2 = nx at *
      by_cases hid : idleB ln = true
      · have e1 : ∀ o, lineP ln j [] o = ⟨[], o, 0, 0⟩ := by
          intro o
          unfold lineP
          rw [if_pos hid]
        rw [e1] at hr ⊢
        rw [if_neg (by simp)] at hr ⊢
        exact ih nx b ob (by omega) (by omega) hr
      · by_cases hlet : letterZ (byteZ ln 0) = true
        · have e1 : lineP ln j [] false = ⟨(tokensP ln j []).1, true, (tokensP ln j []).2.1, (tokensP ln j []).2.2⟩ := by
            unfold lineP
            rw [if_neg hid, if_pos hlet, if_neg (by simp)]
          have e2 : lineP ln j [] true = ⟨endTok j :: (tokensP ln j []).1, true, (tokensP ln j []).2.1, (tokensP ln j []).2.2⟩ := by
            have := tokens_app ln j [endTok j] (ln.length + 1) 0 []
            unfold lineP
            rw [if_neg hid, if_pos hlet, if_pos rfl]
            unfold tokensP
            rw [List.nil_append]
            rw [List.append_nil] at this
            rw [this]
            rfl
          rw [e1] at hr
          rw [e2]
          simp only at hr ⊢
          split at hr
          · cases hr
          · rename_i hne
            rw [if_neg hne]
            have hst := run_stays t t.length nx _ _ (by omega) (by omega) hr
            simp only at hst
            subst hst
            refine .inr ⟨rfl, j, ?_⟩
            have := run_app t [endTok j] (tokensP ln j []).1 nx true (by omega)
            rw [hr] at this
            exact this
        · exfalso
          have e1 : lineP ln j [] false = ⟨[], false, j, 10⟩ := by
            unfold lineP
            rw [if_neg hid, if_neg hlet, if_neg (by simp)]
          rw [e1] at hr
          simp at hr
end Go.Proofs.YtciabhboiomehaaDoor
