/-
  Plain facts: a rule's text, folded into lines with blanks and remarks between its tokens, has the tokens of its pieces. No conditions.
-/
import Derived.Test.YtkidhffloaonaaaRefK
import Derived.Test.YtkidhffloaonaaaCat
import Derived.Test.YtkidhffloaonaaaLow
namespace Go.Proofs.Ytkidhffloaonaaa
open Go.RowKit

theorem bare_sh (d : Nat) (t : Tk) : bare (sh d t) = bare t := rfl
theorem map_bare_sh (d : Nat) (l : List Tk) : (l.map (sh d)).map bare = l.map bare := by
  rw [List.map_map]
  rfl
/-- a line's rest is read as these tokens, but for their places -/
def Mid (ln : List UInt8) (ts : List Tk) : Prop := ∃ tk, tokensP ln 0 [] = (tk, 0, 0) ∧ tk.map bare = ts
theorem tokens_suffix (t x : List UInt8) (st : Nat) : ∀ (f p : Nat) (toks : List Tk), tokensF (t ++ x) st f (t.length + p) toks = tokensF x (st + t.length) f p toks := by
  intro f
  induction f with
  | zero => intro p toks; rfl
  | succ f ih =>
    intro p toks
    have hd : (t ++ x).drop (t.length + p) = x.drop p := by rw [← List.drop_drop, List.drop_left]
    by_cases h : x.length ≤ p
    · rw [tokensF_end h, tokensF_end (by rw [List.length_append]; omega)]
    · rw [tokensF, tokensF, if_neg h, if_neg (by rw [List.length_append]; omega), hd, Nat.add_assoc t.length, ih]
      have e : ((st : Int) + ((t.length + p : Nat) : Int)) = ((st + t.length : Nat) : Int) + (p : Int) := by omega
      rw [e, show st + (t.length + p) = st + t.length + p from by omega]
/-- behind a token -/
theorem mid_piece (t x : List UInt8) (tok : Tk) (ts : List Tk) (hr : readP (t ++ x) = { tok := tok, size := t.length }) (hk : tok.kind ≠ 0) (hp : tok.place = 0) (ht : t ≠ []) (h : Mid x ts) : Mid (t ++ x) (tok :: ts) := by
  obtain ⟨tk, h1, h2⟩ := h
  have hl : 0 < t.length := pos_of_ne ht
  have hne : 0 < (t ++ x).length := by rw [List.length_append]; omega
  refine ⟨{ tok with place := 0 } :: tk.map (sh t.length), ?_, ?_⟩
  · unfold tokensP
    rw [tokensF_go hne (by rw [List.drop_zero, hr]), List.drop_zero, hr, if_pos hk]
    simp only [Nat.zero_add, List.nil_append]
    have e := tokens_suffix t x 0 (t ++ x).length 0 ([{ tok with place := ((0 : Nat) : Int) + ((0 : Nat) : Int) }] ++ [].map (sh t.length))
    rw [Nat.add_zero] at e
    rw [show ([{ tok with place := ((0 : Nat) : Int) + ((0 : Nat) : Int) }] : List Tk) = [{ tok with place := ((0 : Nat) : Int) + ((0 : Nat) : Int) }] ++ ([] : List Tk).map (sh t.length) from rfl, e, tokens_app, tokens_shift,
      tokensF_fuel x 0 _ (x.length + 1) 0 [] (by rw [List.length_append]; omega) (by omega)]
    unfold tokensP at h1
    rw [h1]
    rfl
  · rw [List.map_cons, map_bare_sh, h2]
    have : bare { tok with place := 0 } = tok := by
      cases tok
      simp only at hp
      subst hp
      rfl
    rw [this]
theorem mid_nil : Mid [] [] := ⟨[], rfl, rfl⟩
theorem mid_blank (c : UInt8) (x : List UInt8) (ts : List Tk) (hb : blankZ c.toNat = true) (h : Mid x ts) : Mid (c :: x) ts := by
  obtain ⟨tk, h1, h2⟩ := h
  refine ⟨tk.map (sh 1), ?_, by rw [map_bare_sh, h2]⟩
  unfold tokensP
  rw [tok_blank (c :: x) 0 _ (x.length + 1) 0 [] (by simp) (by rw [byteZ_cons]; exact hb) (by simp) (by simp)]
  have e := tokens_suffix [c] x 0 (x.length + 1) 0 []
  have e2 := tokens_shift x 0 1 (x.length + 1) 0 []
  unfold tokensP at h1
  rw [h1] at e2
  simp only [List.length_singleton, List.singleton_append, Nat.zero_add, Nat.add_zero, List.map_nil] at e e2
  rw [Nat.zero_add, e, e2]
  rfl
theorem mid_semi (x : List UInt8) : Mid (59 :: x) [] := ⟨[], tok_semi (59 :: x) 0 _ 0 [] (by simp) rfl, rfl⟩
theorem mid_idle : ∀ ln : List UInt8, idleB ln = true → Mid ln [] := by
  intro ln
  induction ln with
  | nil => intro _; exact mid_nil
  | cons c r ih =>
    intro h
    rw [idle_cons] at h
    by_cases hc : (c.toNat : Int) = 59
    · have : c = 59 := u8_of (k := 59) hc (by omega)
      subst this
      exact mid_semi r
    · have hcb : ((c.toNat : Int) == 59) = false := by rw [beq_eq_false_iff_ne]; exact hc
      rw [hcb, Bool.false_or, Bool.and_eq_true] at h
      exact mid_blank c r [] h.1 (ih h.2)
theorem mid_uniq {ln : List UInt8} {a b : List Tk} (ha : Mid ln a) (hb : Mid ln b) : a = b := by
  obtain ⟨t, h1, h2⟩ := ha
  obtain ⟨u, h3, h4⟩ := hb
  rw [h1] at h3
  injection h3 with h5
  rw [← h2, ← h4, h5]

/-- from a line's beginning on, within a rule -/
def Rest (r : List UInt8) (ts : List Tk) : Prop := ∃ b, run r 0 [] true = .inl (b, true) ∧ b.map bare = ts
/-- from a line's beginning on, ahead of a rule -/
def Rest0 (r : List UInt8) (ts : List Tk) : Prop := ∃ b, run r 0 [] false = .inl (b, true) ∧ b.map bare = ts
theorem rest_nil : Rest [] [] := ⟨[], run_end (Nat.le_refl _), rfl⟩
theorem run_from (r : List UInt8) (nx : Nat) (hnx : nx ≤ r.length) (a : List Tk) (o : Bool) : run r nx a o =
    match run (r.drop nx) 0 [] o with
    | .inl (b', o') => .inl (a ++ b'.map (sh nx), o')
    | .inr e => .inr (e.1 + nx, e.2) := by
  have hl : (r.take nx).length = nx := by rw [List.length_take]; omega
  have h := run_behind (r.take nx) (r.drop nx) a (r.drop nx).length 0 [] o (Nat.le_refl _) (Nat.zero_le _)
  rw [List.take_append_drop, hl, Nat.zero_add, List.map_nil, List.append_nil] at h
  exact h
theorem rest_line {r : List UInt8} {tk : List Tk} {us : List Tk} {p : Nat} (hr : r ≠ []) (hl : lineP (cutP r 0).1 0 [] true = ⟨tk, true, p, 0⟩) (h : Rest (r.drop (cutP r 0).2) us) : Rest r (tk.map bare ++ us) := by
  obtain ⟨b, h1, h2⟩ := h
  have hb := cutP_bd r 0 (pos_of_ne hr)
  refine ⟨tk ++ b.map (sh (cutP r 0).2), ?_, by rw [List.map_append, map_bare_sh, h2]⟩
  rw [run_step (pos_of_ne hr), hl, if_neg (by simp), run_from r _ hb.2.2, h1]
theorem rest0_idle {r : List UInt8} {us : List Tk} (hr : r ≠ []) (hl : idleB (cutP r 0).1 = true) (h : Rest0 (r.drop (cutP r 0).2) us) : Rest0 r us := by
  obtain ⟨b, h1, h2⟩ := h
  have hb := cutP_bd r 0 (pos_of_ne hr)
  have hln : lineP (cutP r 0).1 0 [] false = ⟨[], false, 0, 0⟩ := by rw [lineP, if_pos hl]
  refine ⟨b.map (sh (cutP r 0).2), ?_, by rw [map_bare_sh, h2]⟩
  rw [run_step (pos_of_ne hr), hln, if_neg (by simp), run_from r _ hb.2.2, h1]
  rfl
theorem rest0_rule {r : List UInt8} {ts us : List Tk} (hr : r ≠ []) (hi : idleB (cutP r 0).1 = false) (hlet : letterZ (byteZ (cutP r 0).1 0) = true) (hm : Mid (cutP r 0).1 ts) (h : Rest (r.drop (cutP r 0).2) us) : Rest0 r (ts ++ us) := by
  obtain ⟨b, h1, h2⟩ := h
  obtain ⟨tk, h3, h4⟩ := hm
  have hb := cutP_bd r 0 (pos_of_ne hr)
  have hln := line_letter (cutP r 0).1 0 [] false hi hlet
  rw [if_neg (by simp), h3] at hln
  refine ⟨tk ++ b.map (sh (cutP r 0).2), ?_, by rw [List.map_append, map_bare_sh, h2, h4]⟩
  rw [run_step (pos_of_ne hr), hln, if_neg (by simp), run_from r _ hb.2.2, h1]
theorem rest0_lex {r : List UInt8} {ts : List Tk} (hl : r.length ≤ 65536) (h : Rest0 r ts) : (lexP r).2 = (0, 0) ∧ (lexP r).1.map bare = ts ++ [{ kind := 13 }] := by
  obtain ⟨b, h1, h2⟩ := h
  rw [lexP_run r hl, h1]
  refine ⟨rfl, ?_⟩
  show (closed r b true).map bare = _
  rw [closed, if_pos rfl, List.map_append, h2]
  rfl

/-- in the midst of a line -/
def GMid (r : List UInt8) (ts : List Tk) : Prop := ∃ t1 us, Mid (cutP r 0).1 t1 ∧ Rest (r.drop (cutP r 0).2) us ∧ ts = t1 ++ us
theorem cut_nil : cutP [] 0 = ([], 0) := rfl
theorem g_nil : GMid [] [] := ⟨[], [], mid_nil, rest_nil, rfl⟩
theorem index_pre (t r : List UInt8) (h : ∀ c ∈ t, c ≠ 10) : Lib.indexByte (t ++ r) 10 = if Lib.indexByte r 10 < 0 then -1 else Lib.indexByte r 10 + t.length := by
  have hb := indexByte_bd r 10
  induction t with
  | nil =>
    simp only [List.nil_append, List.length_nil]
    split <;> omega
  | cons c t ih =>
    have h1 : (c == 10) = false := by rw [beq_eq_false_iff_ne]; exact h c (by simp)
    have ih := ih (fun c hc => h c (by simp [hc]))
    rw [List.cons_append, Lib.indexByte, ih]
    simp only [h1, List.length_cons]
    by_cases hn : Lib.indexByte r 10 < 0
    · simp [hn]
    · rw [if_neg hn, if_neg hn, if_neg (by simp), if_neg (by rw [beq_iff_eq]; omega)]
      omega
theorem trim_pre (t x : List UInt8) (h : t.getLast? ≠ some 13) : Lib.trimSuffix (t ++ x) [13] = t ++ Lib.trimSuffix x [13] := by
  rcases List.eq_nil_or_concat x with rfl | ⟨q, c, rfl⟩
  · rw [List.append_nil]
    have e : Lib.trimSuffix ([] : List UInt8) [13] = [] := rfl
    rw [e, List.append_nil]
    unfold Lib.trimSuffix Lib.hasSuffix
    rw [if_neg]
    intro hs
    rw [List.isSuffixOf_iff_suffix] at hs
    obtain ⟨q, hq⟩ := hs
    apply h
    rw [← hq]
    simp
  · rw [List.concat_eq_append, ← List.append_assoc]
    have key : ∀ q : List UInt8, Lib.trimSuffix (q ++ [c]) [13] = if c = 13 then q else q ++ [c] := by
      intro q
      unfold Lib.trimSuffix Lib.hasSuffix
      have e1 : [13].isSuffixOf (q ++ [c]) = decide (c = 13) := by
        rw [Bool.eq_iff_iff, List.isSuffixOf_iff_suffix, decide_eq_true_eq]
        constructor
        · rintro ⟨t, ht⟩
          have := (List.append_inj' ht rfl).2
          simpa using this.symm
        · rintro rfl
          exact ⟨q, rfl⟩
      rw [e1]
      by_cases hc : c = 13
      · rw [if_pos (by simpa using hc), if_pos hc]; simp
      · rw [if_neg (by simpa using hc), if_neg hc]
    rw [key, key]
    split
    · rfl
    · rw [List.append_assoc]
/-- a text without an end of a line, ahead of another one -/
theorem cut_pre (t r : List UInt8) (h : ∀ c ∈ t, c ≠ 10) (hl : t.getLast? ≠ some 13) : (cutP (t ++ r) 0).1 = t ++ (cutP r 0).1 ∧ (t ++ r).drop (cutP (t ++ r) 0).2 = r.drop (cutP r 0).2 := by
  have hi := index_pre t r h
  have hb := indexByte_bd r 10
  unfold cutP
  simp only [List.drop_zero, Nat.zero_add]
  rw [hi]
  by_cases hn : Lib.indexByte r 10 < 0
  · rw [if_pos hn, if_pos (by omega), if_pos hn]
    exact ⟨rfl, by simp⟩
  · obtain ⟨n, hn2⟩ : ∃ n : Nat, Lib.indexByte r 10 = n := ⟨(Lib.indexByte r 10).toNat, by omega⟩
    rw [if_neg hn, if_neg (by omega), if_neg hn, hn2]
    have e : ((n : Int) + (t.length : Int)).toNat = t.length + n := by omega
    rw [e, Int.toNat_natCast]
    constructor
    · rw [List.take_length_add_append, trim_pre t _ hl]
    · simp only []
      rw [show t.length + n + 1 = t.length + (n + 1) from by omega, ← List.drop_drop, List.drop_left]
theorem g_pre (t r : List UInt8) (t1 ts : List Tk) (h : ∀ c ∈ t, c ≠ 10) (hl : t.getLast? ≠ some 13) (hm : ∀ us, Mid (cutP r 0).1 us → Mid (t ++ (cutP r 0).1) (t1 ++ us)) (hg : GMid r ts) : GMid (t ++ r) (t1 ++ ts) := by
  obtain ⟨a, us, h1, h2, rfl⟩ := hg
  obtain ⟨e1, e2⟩ := cut_pre t r h hl
  exact ⟨t1 ++ a, us, by rw [e1]; exact hm a h1, by rw [e2]; exact h2, by rw [List.append_assoc]⟩
theorem g_blank (c : UInt8) (r : List UInt8) (ts : List Tk) (hc : c = 32 ∨ c = 9) (h : GMid r ts) : GMid (c :: r) ts := by
  have := g_pre [c] r [] ts (by rcases hc with rfl | rfl <;> simp) (by rcases hc with rfl | rfl <;> simp) (fun us hu => mid_blank c _ us (by rcases hc with rfl | rfl <;> rfl) hu) h
  exact this
theorem cut_10 (r : List UInt8) : cutP (10 :: r) 0 = ([], 1) := rfl
theorem cut_1310 (r : List UInt8) : cutP (13 :: 10 :: r) 0 = ([], 2) := rfl
theorem g_nl (r : List UInt8) (ts : List Tk) (h : Rest r ts) : GMid (10 :: r) ts := ⟨[], ts, mid_nil, h, rfl⟩
theorem g_crnl (r : List UInt8) (ts : List Tk) (h : Rest r ts) : GMid (13 :: 10 :: r) ts := ⟨[], ts, mid_nil, h, rfl⟩
theorem rest_nl (r : List UInt8) (ts : List Tk) (h : Rest r ts) : Rest (10 :: r) ts := by
  have := rest_line (r := 10 :: r) (tk := []) (us := ts) (p := 0) (by simp) (line_nil 0 [] true) h
  exact this
theorem rest_mid (c : UInt8) (r : List UInt8) (ts : List Tk) (hc : c = 32 ∨ c = 9) (h : GMid (c :: r) ts) : Rest (c :: r) ts := by
  obtain ⟨a, us, h1, h2, rfl⟩ := h
  obtain ⟨e1, _⟩ := cut_pre [c] r (by rcases hc with rfl | rfl <;> simp) (by rcases hc with rfl | rfl <;> simp)
  have e1' : (cutP (c :: r) 0).1 = c :: (cutP r 0).1 := e1
  cases hi : idleB (cutP (c :: r) 0).1 with
  | true =>
    obtain rfl := mid_uniq h1 (mid_idle _ hi)
    exact rest_line (tk := []) (p := 0) (by simp) (by rw [lineP, if_pos hi]) h2
  | false =>
    have hb : byteZ (cutP (c :: r) 0).1 0 = c.toNat := by rw [e1']; rfl
    obtain ⟨tk, h3, rfl⟩ := h1
    have hln := line_blank (cutP (c :: r) 0).1 0 [] hi (by rw [hb]; rcases hc with rfl | rfl <;> rfl) (by rw [hb]; rcases hc with rfl | rfl <;> rfl)
    rw [h3] at hln
    exact rest_line (by simp) hln h2
theorem index_rem (m r : List UInt8) (h : ∀ c ∈ m, c ≠ 10) : Lib.indexByte (m ++ 10 :: r) 10 = m.length := by
  rw [index_pre m _ h]
  have : Lib.indexByte (10 :: r) 10 = 0 := rfl
  rw [this, if_neg (by omega)]
  omega
theorem semi_trim (m : List UInt8) : ∃ y, Lib.trimSuffix (59 :: m) [13] = 59 :: y :=
  ⟨Lib.trimSuffix m [13], trim_pre [59] m (by simp)⟩
theorem cut_rem (m r : List UInt8) (h : ∀ c ∈ m, c ≠ 10) : (∃ y, (cutP (59 :: (m ++ 10 :: r)) 0).1 = 59 :: y) ∧ (59 :: (m ++ 10 :: r)).drop (cutP (59 :: (m ++ 10 :: r)) 0).2 = r := by
  have hi := index_rem (59 :: m) r (fun c hc => by
    rcases List.mem_cons.1 hc with rfl | hc
    · decide
    · exact h c hc)
  rw [List.cons_append] at hi
  unfold cutP
  simp only [List.drop_zero, Nat.zero_add]
  rw [hi, if_neg (by omega), Int.toNat_natCast]
  constructor
  · rw [show (59 :: (m ++ 10 :: r)) = (59 :: m) ++ 10 :: r from rfl, List.take_left]
    exact semi_trim m
  · simp only []
    rw [show (59 :: (m ++ 10 :: r)) = (59 :: m) ++ 10 :: r from rfl, ← List.drop_drop, List.drop_left]
    rfl
theorem g_remark (m r : List UInt8) (ts : List Tk) (h : ∀ c ∈ m, c ≠ 10) (hr : Rest r ts) : GMid (59 :: (m ++ 10 :: r)) ts := by
  obtain ⟨⟨y, hy⟩, hd⟩ := cut_rem m r h
  exact ⟨[], ts, by rw [hy]; exact mid_semi y, by rw [hd]; exact hr, rfl⟩
theorem idle_semi (y : List UInt8) : idleB (59 :: y) = true := by rw [idle_cons]; rfl
theorem rest_remark (m r : List UInt8) (ts : List Tk) (h : ∀ c ∈ m, c ≠ 10) (hr : Rest r ts) : Rest (59 :: (m ++ 10 :: r)) ts := by
  obtain ⟨⟨y, hy⟩, hd⟩ := cut_rem m r h
  exact rest_line (tk := []) (p := 0) (by simp) (by rw [hy, lineP, if_pos (idle_semi y)]) (by rw [hd]; exact hr)
theorem rest0_remark (m r : List UInt8) (ts : List Tk) (h : ∀ c ∈ m, c ≠ 10) (hr : Rest0 r ts) : Rest0 (59 :: (m ++ 10 :: r)) ts := by
  obtain ⟨⟨y, hy⟩, hd⟩ := cut_rem m r h
  exact rest0_idle (by simp) (by rw [hy]; exact idle_semi y) (by rw [hd]; exact hr)
theorem rest0_crnl (r : List UInt8) (ts : List Tk) (hr : Rest0 r ts) : Rest0 (13 :: 10 :: r) ts := rest0_idle (by simp) (by rw [cut_1310]; exact idle_nil) hr
theorem g_end_remark (m : List UInt8) (h : ∀ c ∈ m, c ≠ 10) : GMid (59 :: m) [] := by
  have hi := index_pre (59 :: m) [] (fun c hc => by
    rcases List.mem_cons.1 hc with rfl | hc
    · decide
    · exact h c hc)
  rw [List.append_nil, if_pos (by decide)] at hi
  have hc : cutP (59 :: m) 0 = (59 :: m, (59 :: m).length) := by
    unfold cutP
    rw [List.drop_zero, hi, if_pos (by omega)]
  refine ⟨[], [], by rw [hc]; exact mid_semi m, ?_, rfl⟩
  rw [hc]
  simp only [List.drop_length]
  exact rest_nil

/-- what may stand behind a piece -/
def Soft (r : List UInt8) : Prop := r = [] ∨ (∃ x, r = 32 :: x) ∨ (∃ x, r = 9 :: x) ∨ (∃ x, r = 10 :: x) ∨ ∃ x, r = 13 :: 10 :: x
def SoftLn (ln : List UInt8) : Prop := ln = [] ∨ (∃ x, ln = 32 :: x) ∨ ∃ x, ln = 9 :: x
theorem soft_ln {r : List UInt8} (h : Soft r) : SoftLn (cutP r 0).1 := by
  rcases h with rfl | ⟨x, rfl⟩ | ⟨x, rfl⟩ | ⟨x, rfl⟩ | ⟨x, rfl⟩
  · exact Or.inl rfl
  · exact Or.inr (Or.inl ⟨_, (cut_pre [32] x (by simp) (by simp)).1⟩)
  · exact Or.inr (Or.inr ⟨_, (cut_pre [9] x (by simp) (by simp)).1⟩)
  · exact Or.inl rfl
  · exact Or.inl rfl
/-- a piece of a rule's text, and its token -/
def PieceIs (t : List UInt8) (tok : Tk) : Prop := t ≠ [] ∧ tok.kind ≠ 0 ∧ tok.place = 0 ∧ (∀ c ∈ t, c ≠ 10) ∧ t.getLast? ≠ some 13 ∧ ∀ x, SoftLn x → readP (t ++ x) = { tok := tok, size := t.length }
theorem g_piece {t r : List UInt8} {tok : Tk} {ts : List Tk} (hp : PieceIs t tok) (hs : Soft r) (h : GMid r ts) : GMid (t ++ r) (tok :: ts) :=
  g_pre t r [tok] ts hp.2.2.2.1 hp.2.2.2.2.1 (fun us hu => mid_piece t _ tok us (hp.2.2.2.2.2 _ (soft_ln hs)) hp.2.1 hp.2.2.1 hp.1 hu) h

/-- the pieces -/
def pieceTexts : List (List UInt8) := [[110, 97, 109, 101], [97, 49, 45, 98], [61, 47], [47], [40], [41], [91], [93], [42], [51, 42, 55], [50, 42], [42, 53], [49, 50], [34, 97, 32, 98, 59, 34], [34, 34], [37, 120, 48, 68, 46, 48, 97], [37, 100, 54, 53, 45, 57, 48], [37, 98, 49, 48, 49], [37, 88, 102, 70]]
def pieceToks : List Tk := [{ kind := 1, text := [110, 97, 109, 101] }, { kind := 1, text := [97, 49, 45, 98] }, { kind := 3 }, { kind := 4 }, { kind := 5 }, { kind := 6 }, { kind := 7 }, { kind := 8 }, { kind := 9, mx := -1 }, { kind := 9, mn := 3, mx := 7 }, { kind := 9, mn := 2, mx := -1 }, { kind := 9, mx := 5 }, { kind := 9, mn := 12, mx := 12 }, { kind := 10, text := [97, 32, 98, 59] }, { kind := 10 }, { kind := 11, text := [13, 10] }, { kind := 12, lo := 65, hi := 90 }, { kind := 11, text := [5] }, { kind := 11, text := [255] }]
theorem piece_mk (t : List UInt8) (tok : Tk) (h1 : (t ≠ [] ∧ tok.kind ≠ 0 ∧ tok.place = 0 ∧ (∀ c ∈ t, c ≠ 10) ∧ t.getLast? ≠ some 13)) (h2 : readP t = { tok := tok, size := t.length }) (h3 : ∀ x, readP (t ++ 32 :: x) = { tok := tok, size := t.length }) (h4 : ∀ x, readP (t ++ 9 :: x) = { tok := tok, size := t.length }) : PieceIs t tok :=
  ⟨h1.1, h1.2.1, h1.2.2.1, h1.2.2.2.1, h1.2.2.2.2, fun x hx => by
    rcases hx with rfl | ⟨x, rfl⟩ | ⟨x, rfl⟩
    · rw [List.append_nil]; exact h2
    · exact h3 x
    · exact h4 x⟩
theorem piece_0 : PieceIs [110, 97, 109, 101] { kind := 1, text := [110, 97, 109, 101] } := piece_mk _ _ (by decide) (by rfl) (fun x => by rfl) (fun x => by rfl)
theorem piece_1 : PieceIs [97, 49, 45, 98] { kind := 1, text := [97, 49, 45, 98] } := piece_mk _ _ (by decide) (by rfl) (fun x => by rfl) (fun x => by rfl)
theorem piece_2 : PieceIs [61, 47] { kind := 3 } := piece_mk _ _ (by decide) (by rfl) (fun x => by rfl) (fun x => by rfl)
theorem piece_3 : PieceIs [47] { kind := 4 } := piece_mk _ _ (by decide) (by rfl) (fun x => by rfl) (fun x => by rfl)
theorem piece_4 : PieceIs [40] { kind := 5 } := piece_mk _ _ (by decide) (by rfl) (fun x => by rfl) (fun x => by rfl)
theorem piece_5 : PieceIs [41] { kind := 6 } := piece_mk _ _ (by decide) (by rfl) (fun x => by rfl) (fun x => by rfl)
theorem piece_6 : PieceIs [91] { kind := 7 } := piece_mk _ _ (by decide) (by rfl) (fun x => by rfl) (fun x => by rfl)
theorem piece_7 : PieceIs [93] { kind := 8 } := piece_mk _ _ (by decide) (by rfl) (fun x => by rfl) (fun x => by rfl)
theorem piece_8 : PieceIs [42] { kind := 9, mx := -1 } := piece_mk _ _ (by decide) (by rfl) (fun x => by rfl) (fun x => by rfl)
theorem piece_9 : PieceIs [51, 42, 55] { kind := 9, mn := 3, mx := 7 } := piece_mk _ _ (by decide) (by rfl) (fun x => by rfl) (fun x => by rfl)
theorem piece_10 : PieceIs [50, 42] { kind := 9, mn := 2, mx := -1 } := piece_mk _ _ (by decide) (by rfl) (fun x => by rfl) (fun x => by rfl)
theorem piece_11 : PieceIs [42, 53] { kind := 9, mx := 5 } := piece_mk _ _ (by decide) (by rfl) (fun x => by rfl) (fun x => by rfl)
theorem piece_12 : PieceIs [49, 50] { kind := 9, mn := 12, mx := 12 } := piece_mk _ _ (by decide) (by rfl) (fun x => by rfl) (fun x => by rfl)
theorem piece_13 : PieceIs [34, 97, 32, 98, 59, 34] { kind := 10, text := [97, 32, 98, 59] } := piece_mk _ _ (by decide) (by rfl) (fun x => by rfl) (fun x => by rfl)
theorem piece_14 : PieceIs [34, 34] { kind := 10 } := piece_mk _ _ (by decide) (by rfl) (fun x => by rfl) (fun x => by rfl)
theorem piece_15 : PieceIs [37, 120, 48, 68, 46, 48, 97] { kind := 11, text := [13, 10] } := piece_mk _ _ (by decide) (by rfl) (fun x => by rfl) (fun x => by rfl)
theorem piece_16 : PieceIs [37, 100, 54, 53, 45, 57, 48] { kind := 12, lo := 65, hi := 90 } := piece_mk _ _ (by decide) (by rfl) (fun x => by rfl) (fun x => by rfl)
theorem piece_17 : PieceIs [37, 98, 49, 48, 49] { kind := 11, text := [5] } := piece_mk _ _ (by decide) (by rfl) (fun x => by rfl) (fun x => by rfl)
theorem piece_18 : PieceIs [37, 88, 102, 70] { kind := 11, text := [255] } := piece_mk _ _ (by decide) (by rfl) (fun x => by rfl) (fun x => by rfl)
theorem piece_rule : PieceIs [114, 117, 108, 101] { kind := 1, text := [114, 117, 108, 101] } := piece_mk _ _ (by decide) (by rfl) (fun x => by rfl) (fun x => by rfl)
theorem pieces_are (k : Nat) (h : k < 19) : PieceIs (pieceTexts.getD k []) (pieceToks.getD k {}) := by
  obtain rfl | rfl | rfl | rfl | rfl | rfl | rfl | rfl | rfl | rfl | rfl | rfl | rfl | rfl | rfl | rfl | rfl | rfl | rfl : k = 0 ∨ k = 1 ∨ k = 2 ∨ k = 3 ∨ k = 4 ∨ k = 5 ∨ k = 6 ∨ k = 7 ∨ k = 8 ∨ k = 9 ∨ k = 10 ∨ k = 11 ∨ k = 12 ∨ k = 13 ∨ k = 14 ∨ k = 15 ∨ k = 16 ∨ k = 17 ∨ k = 18 := by omega
  · exact piece_0
  · exact piece_1
  · exact piece_2
  · exact piece_3
  · exact piece_4
  · exact piece_5
  · exact piece_6
  · exact piece_7
  · exact piece_8
  · exact piece_9
  · exact piece_10
  · exact piece_11
  · exact piece_12
  · exact piece_13
  · exact piece_14
  · exact piece_15
  · exact piece_16
  · exact piece_17
  · exact piece_18
/-- the gaps, of a remark -/
def gapTexts (m : List UInt8) : List (List UInt8) := [[32], [9, 32], [32, 32], [10, 32], [13, 10, 9], 32 :: 59 :: (m ++ [10, 32]), 10 :: 10 :: 32 :: 10 :: 32 :: 59 :: (m ++ 10 :: 59 :: (m ++ [13, 10, 32, 32]))]
theorem gap_ok (m : List UInt8) (hm : ∀ c ∈ m, c ≠ 10) (g : Nat) (hg : g < 7) (r : List UInt8) (ts : List Tk) (h : GMid r ts) : GMid ((gapTexts m).getD g [] ++ r) ts ∧ Soft ((gapTexts m).getD g [] ++ r) := by
  have h32 := g_blank 32 r ts (Or.inl rfl) h
  have h9 := g_blank 9 r ts (Or.inr rfl) h
  obtain rfl | rfl | rfl | rfl | rfl | rfl | rfl : g = 0 ∨ g = 1 ∨ g = 2 ∨ g = 3 ∨ g = 4 ∨ g = 5 ∨ g = 6 := by omega
  · exact ⟨h32, Or.inr (Or.inl ⟨_, rfl⟩)⟩
  · exact ⟨g_blank 9 _ ts (Or.inr rfl) h32, Or.inr (Or.inr (Or.inl ⟨_, rfl⟩))⟩
  · exact ⟨g_blank 32 _ ts (Or.inl rfl) h32, Or.inr (Or.inl ⟨_, rfl⟩)⟩
  · exact ⟨g_nl _ ts (rest_mid 32 _ ts (Or.inl rfl) h32), Or.inr (Or.inr (Or.inr (Or.inl ⟨_, rfl⟩)))⟩
  · exact ⟨g_crnl _ ts (rest_mid 9 _ ts (Or.inr rfl) h9), Or.inr (Or.inr (Or.inr (Or.inr ⟨_, rfl⟩)))⟩
  · have e : (gapTexts m).getD 5 [] ++ r = 32 :: 59 :: (m ++ 10 :: 32 :: r) := by simp [gapTexts]
    rw [e]
    exact ⟨g_blank 32 _ ts (Or.inl rfl) (g_remark m _ ts hm (rest_mid 32 _ ts (Or.inl rfl) h32)), Or.inr (Or.inl ⟨_, rfl⟩)⟩
  · have e : (gapTexts m).getD 6 [] ++ r = 10 :: 10 :: 32 :: 10 :: 32 :: 59 :: (m ++ 10 :: 59 :: ((m ++ [13]) ++ 10 :: 32 :: 32 :: r)) := by simp [gapTexts]
    rw [e]
    have h1 := rest_mid 32 _ ts (Or.inl rfl) (g_blank 32 _ ts (Or.inl rfl) h32)
    have h2 := rest_remark (m ++ [13]) _ ts (fun c hc => by
      rcases List.mem_append.1 hc with hc | hc
      · exact hm c hc
      · simp only [List.mem_singleton] at hc
        subst hc
        decide) h1
    have h3 := rest_mid 32 _ ts (Or.inl rfl) (g_blank 32 _ ts (Or.inl rfl) (g_remark m _ ts hm h2))
    exact ⟨g_nl _ ts (rest_nl _ ts (rest_mid 32 _ ts (Or.inl rfl) (g_blank 32 _ ts (Or.inl rfl) (g_nl _ ts h3)))), Or.inr (Or.inr (Or.inr (Or.inl ⟨_, rfl⟩)))⟩
/-- a row of gaps and pieces, by numbers -/
def foldText (m : List UInt8) (ks : List (Nat × Nat)) : List UInt8 := ks.flatMap fun p => (gapTexts m).getD p.1 [] ++ pieceTexts.getD p.2 []
def foldToks (ks : List (Nat × Nat)) : List Tk := ks.map fun p => pieceToks.getD p.2 {}
theorem fold_ok (m : List UInt8) (hm : ∀ c ∈ m, c ≠ 10) (tail : List UInt8) (ts : List Tk) (ht : GMid tail ts) (hs : Soft tail) : ∀ ks : List (Nat × Nat), (∀ p ∈ ks, p.1 < 7 ∧ p.2 < 19) → GMid (foldText m ks ++ tail) (foldToks ks ++ ts) ∧ Soft (foldText m ks ++ tail) := by
  intro ks
  induction ks with
  | nil => intro _; exact ⟨ht, hs⟩
  | cons p ks ih =>
    intro h
    obtain ⟨h1, h2⟩ := ih (fun q hq => h q (by simp [hq]))
    have hp := h p (by simp)
    have h3 := g_piece (pieces_are p.2 hp.2) h2 h1
    have h4 := gap_ok m hm p.1 hp.1 _ _ h3
    have e : foldText m (p :: ks) ++ tail = (gapTexts m).getD p.1 [] ++ (pieceTexts.getD p.2 [] ++ (foldText m ks ++ tail)) := by simp [foldText]
    rw [e]
    exact h4
def ruleText : List UInt8 := [114, 117, 108, 101]
def ruleTok : Tk := { kind := 1, text := ruleText }
theorem rule_ok (r : List UInt8) (ts : List Tk) (h : GMid r ts) (hs : Soft r) : Rest0 (ruleText ++ r) (ruleTok :: ts) := by
  obtain ⟨a, us, h1, h2, h3⟩ := g_piece piece_rule hs h
  rw [show (ruleTok :: ts) = a ++ us from h3]
  have e1 := (cut_pre ruleText r (by decide) (by decide)).1
  refine rest0_rule (by simp [ruleText]) ?_ ?_ h1 h2
  · have : (cutP (ruleText ++ r) 0).1 = 114 :: ([117, 108, 101] ++ (cutP r 0).1) := e1
    rw [this, idle_cons]
    rfl
  · have : (cutP (ruleText ++ r) 0).1 = 114 :: ([117, 108, 101] ++ (cutP r 0).1) := e1
    rw [this]
    rfl
/-- a rule, folded -/
theorem folds_a (m : List UInt8) (hm : ∀ c ∈ m, c ≠ 10) (ks : List (Nat × Nat)) (hk : ∀ p ∈ ks, p.1 < 7 ∧ p.2 < 19) (hl : (ruleText ++ foldText m ks).length ≤ 65536) :
    (lexP (ruleText ++ foldText m ks)).2 = (0, 0) ∧ (lexP (ruleText ++ foldText m ks)).1.map bare = ruleTok :: foldToks ks ++ [{ kind := 13 }] := by
  have h := fold_ok m hm [] [] g_nil (Or.inl rfl) ks hk
  rw [List.append_nil, List.append_nil] at h
  exact rest0_lex hl (rule_ok _ _ h.1 h.2)
/-- with a remark ahead, and one behind -/
theorem folds_b (m : List UInt8) (hm : ∀ c ∈ m, c ≠ 10) (ks : List (Nat × Nat)) (hk : ∀ p ∈ ks, p.1 < 7 ∧ p.2 < 19) (hl : ([59, 32] ++ m ++ [10, 13, 10] ++ (ruleText ++ foldText m ks) ++ [32, 59] ++ m).length ≤ 65536) :
    (lexP ([59, 32] ++ m ++ [10, 13, 10] ++ (ruleText ++ foldText m ks) ++ [32, 59] ++ m)).2 = (0, 0) ∧ (lexP ([59, 32] ++ m ++ [10, 13, 10] ++ (ruleText ++ foldText m ks) ++ [32, 59] ++ m)).1.map bare = ruleTok :: foldToks ks ++ [{ kind := 13 }] := by
  have h := fold_ok m hm (32 :: 59 :: m) [] (g_blank 32 _ [] (Or.inl rfl) (g_end_remark m hm)) (Or.inr (Or.inl ⟨_, rfl⟩)) ks hk
  rw [List.append_nil] at h
  have h1 := rest0_remark (32 :: m) _ _ (fun c hc => by
    rcases List.mem_cons.1 hc with rfl | hc
    · decide
    · exact hm c hc) (rest0_crnl _ _ (rule_ok _ _ h.1 h.2))
  refine rest0_lex hl ?_
  have e : [59, 32] ++ m ++ [10, 13, 10] ++ (ruleText ++ foldText m ks) ++ [32, 59] ++ m = 59 :: ((32 :: m) ++ 10 :: 13 :: 10 :: (ruleText ++ (foldText m ks ++ 32 :: 59 :: m))) := by simp
  rw [e]
  exact h1
/-- how long a folded rule is -/
theorem gap_len (m : List UInt8) (g : Nat) : ((gapTexts m).getD g []).length ≤ 2 * m.length + 12 := by
  by_cases hg : g < 7
  · obtain rfl | rfl | rfl | rfl | rfl | rfl | rfl : g = 0 ∨ g = 1 ∨ g = 2 ∨ g = 3 ∨ g = 4 ∨ g = 5 ∨ g = 6 := by omega
    all_goals (simp [gapTexts]; try omega)
  · rw [List.getD_eq_getElem?_getD, List.getElem?_eq_none (by simp [gapTexts]; omega)]
    simp
theorem piece_len (k : Nat) : (pieceTexts.getD k []).length ≤ 7 := by
  by_cases hk : k < 19
  · revert k
    decide
  · rw [List.getD_eq_getElem?_getD, List.getElem?_eq_none (by simp [pieceTexts]; omega)]
    simp
theorem fold_len (m : List UInt8) (ks : List (Nat × Nat)) : (foldText m ks).length ≤ ks.length * (2 * m.length + 19) := by
  induction ks with
  | nil => simp [foldText]
  | cons p ks ih =>
    have e : foldText m (p :: ks) = (gapTexts m).getD p.1 [] ++ pieceTexts.getD p.2 [] ++ foldText m ks := by simp [foldText]
    have h1 := gap_len m p.1
    have h2 := piece_len p.2
    rw [e, List.length_append, List.length_append, List.length_cons, Nat.add_mul]
    omega
end Go.Proofs.Ytkidhffloaonaaa
