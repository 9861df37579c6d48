/-
  Merged texts (BrP, GrL, GrA, GrB, GrC, GrD, LeavesC, Shelf2), each under a head of its own that says what it proves and under which conditions.
-/
import Derived.Test.YtgbipbjpeecooaaGreatDoorB01
import Derived.Test.YtgbipbjpeecooaaGreatDoorM06
import Derived.Lib.Repeat
import Derived.Test.YtgbipbjpeecooaaGreatDoorM05
import Derived.BigQuiet
import Derived.Shelf.Strings.Builder1
import Derived.Shelf.Strings.Builder2
import Derived.Shelf.Strings.OnBuilder
import Derived.Shelf.Small.Utf8
import Derived.Shelf.Small.Strs
import Derived.Shelf.Strings.BuilderF
import Derived.Shelf.Strings.BuilderK
import Derived.Shelf.Strings.BuilderRune
import Derived.Shelf.Utf8.RuneCount
import Derived.Shelf.Strconv.Itoa0
import Derived.Shelf.Strconv.Itoa1
import Derived.Shelf.LaysM
import Derived.Shelf.Strconv.Itoa2
import Derived.Shelf.Strconv.Itoa3
import Derived.Shelf.Strconv.Clone
import Derived.Shelf.Strings.Search1
import Derived.Shelf.Strings.Search2
import Derived.Shelf.Strings.Search3
import Derived.Shelf.Strings.Count
import Derived.Shelf.Strings.Shaped
import Derived.Shelf.Strings.Prefix
import Derived.Shelf.Strings.Split
import Derived.Shelf.Strings.Replace
import Derived.Shelf.Strings.SplitShaped
import Derived.Shelf.Unicode.Latin
import Derived.Shelf.Unicode.Decode
import Derived.Shelf.Strings.RuneCount
import Derived.Shelf.Bits.Mul64
import Derived.Shelf.Strings.Repeat
import Derived.Shelf.Unicode.DecodeSlow
import Derived.Shelf.Unicode.DecodeAny
import Derived.Shelf.Unicode.CaseLookup
import Derived.Shelf.Unicode.CaseConvert
import Derived.Shelf.Unicode.CaseTo
import Derived.Shelf.Unicode.CaseLaid
import Derived.Shelf.Strings.MapAny
import Derived.Shelf.Strings.CaseAny
import Derived.Test.YtgbipbjpeecooaaGreatDoorProg
import Derived.Test.YtgbipbjpeecooaaGreatDoorM01
/-
  Texts with brackets more are read as the same rules, in plain terms. No conditions.
-/
namespace Go.Proofs.YtgbipbjpeecooaaGreatDoor
open Go.RowKit

/-! ### no end of a line in a printed tree -/
def No10 (l : List UInt8) : Prop := ∀ c ∈ l, c ≠ 10
theorem No10.app {a b : List UInt8} (ha : No10 a) (hb : No10 b) : No10 (a ++ b) := fun c hc => by
  rcases List.mem_append.1 hc with h | h
  · exact ha c h
  · exact hb c h
theorem no10_named (l : List UInt8) (h : ∀ c ∈ l, namedZ c.toNat = true) : No10 l := fun c hc e => by
  have := h c hc
  rw [e] at this
  revert this
  decide
theorem no10_chars : ∀ (l : List UInt8), charsB l = true → No10 l := by
  intro l h c hc e
  have := List.all_eq_true.1 h c hc
  rw [e] at this
  revert this
  decide
theorem no10_digits (l : List UInt8) (h : ∀ c ∈ l, digitZ c.toNat = true) : No10 l := fun c hc e => by
  have := h c hc
  rw [e] at this
  revert this
  decide
theorem no10_pair (x : UInt8) : No10 (pairP x) := fun c hc => by
  have := (byte_all (p := fun x => hexC (x.toNat / 16) ≠ 10 ∧ hexC (x.toNat % 16) ≠ 10) (by decide +kernel) x)
  simp only [pairP, List.mem_cons, List.not_mem_nil, or_false] at hc
  rcases hc with rfl | rfl
  · exact this.1
  · exact this.2
theorem no10_hexes (b : List UInt8) (hb : No10 b) : ∀ (l a : List UInt8), No10 a → No10 (hexesP a b l) := by
  intro l
  induction l with
  | nil => intro a _ c hc; cases hc
  | cons x r ih => intro a ha; exact (ha.app (no10_pair x)).app (ih b hb)
theorem no10_times (mn mx : Int) (h : timesB mn mx = true) : No10 (timesTextP mn mx) := by
  simp only [timesB, Bool.and_eq_true, Bool.or_eq_true, decide_eq_true_eq, beq_iff_eq] at h
  obtain ⟨⟨h0, h1⟩, h2⟩ := h
  have i1 := no10_digits _ (itoa_facts mn h0 h1).1
  unfold timesTextP
  split
  · exact i1
  · refine (No10.app ?_ ?_).app ?_
    · split
      · exact i1
      · exact fun c hc => by cases hc
    · intro c hc
      rw [List.mem_singleton] at hc
      subst hc
      decide
    · split
      · rename_i hx
        exact no10_digits _ (itoa_facts mx hx (by omega)).1
      · exact fun c hc => by cases hc
theorem no10_kids (f : Tr → List UInt8) (br : List Int) (b : List UInt8) (hb : No10 b) : ∀ (ks : List Tr) (a : List UInt8), No10 a → (∀ k ∈ ks, No10 (f k)) → No10 (kidsF f a b br ks) := by
  intro ks
  induction ks with
  | nil => intro a _ _ c hc; cases hc
  | cons k r ih =>
    intro a ha h
    have hk : No10 (kidP f br k) := by
      unfold kidP
      split
      · refine (No10.app ?_ (h k (by simp))).app ?_ <;> (intro c hc; rw [List.mem_singleton] at hc; subst hc; decide)
      · exact h k (by simp)
    exact (ha.app hk).app (ih b hb (fun x hx => h x (by simp [hx])))
theorem no10_print : ∀ (d : Nat) (t : Tr), rightD d t = true → No10 (printD d t) := by
  intro d
  induction d with
  | zero => intro t h; cases h
  | succ d ih =>
    intro t h
    obtain ⟨e, he, ha, hkids⟩ := right_kinds h
    obtain rfl : d = e := by omega
    have hrec : ∀ k ∈ t.kids, No10 (printD d k) := fun k hk => ih k (hkids k hk)
    have hnil : No10 [] := fun c hc => by cases hc
    rw [printD]
    split
    · rename_i h1
      obtain ⟨_, _, _, _, hall⟩ := name_parts (alone_1 ha h1).1
      exact no10_named _ hall
    split
    · rename_i h1
      refine (No10.app ?_ (no10_chars _ (alone_2 ha h1).1)).app ?_ <;> (intro c hc; rw [List.mem_singleton] at hc; subst hc; decide)
    split
    · exact no10_hexes _ (by intro c hc; rw [List.mem_singleton] at hc; subst hc; decide) _ _ (by unfold No10; decide)
    split
    · exact no10_hexes _ (by intro c hc; rw [List.mem_singleton] at hc; subst hc; decide) _ _ (by unfold No10; decide)
    split
    · rename_i h7
      exact (no10_times _ _ (alone_7 ha h7).1).app (no10_kids _ _ _ hnil _ _ hnil hrec)
    split
    · exact no10_kids _ _ _ (by unfold No10; decide) _ _ hnil hrec
    split
    · exact no10_kids _ _ _ (by unfold No10; decide) _ _ hnil hrec
    · exact hnil

/-! ### a rule's line -/
theorem mid_rule (n : List UInt8) (hn : ∃ c r, n = c :: r ∧ letterZ c.toNat = true ∧ ∀ d ∈ n, namedZ d.toNat = true) (more : Bool) (y : List UInt8) (ts : List Tk) (h : Mid y ts) :
    Mid (n ++ (if more = true then [32, 61, 47, 32] else [32, 61, 32]) ++ y) ({ kind := 1, text := n } :: { kind := if more = true then 3 else 2 } :: ts) := by
  have hne : n ≠ [] := by obtain ⟨c, r, rfl, _⟩ := hn; simp
  cases more with
  | true =>
    have h1 : Mid ([61, 47] ++ (32 :: y)) ({ kind := 3 } :: ts) := mid_piece [61, 47] (32 :: y) { kind := 3 } ts rfl (by decide) rfl (by simp) (mid_gap _ _ h)
    have h2 : Mid (32 :: ([61, 47] ++ (32 :: y))) ({ kind := 3 } :: ts) := mid_gap _ _ h1
    have h3 := mid_piece n _ { kind := 1, text := n } _ (read_word n _ hn (.inr ⟨32, _, rfl, by decide⟩)) (by show (1 : Int) ≠ 0; omega) rfl hne h2
    rw [show n ++ (if true = true then [32, 61, 47, 32] else [32, 61, 32]) ++ y = n ++ (32 :: ([61, 47] ++ (32 :: y))) from by simp]
    exact h3
  | false =>
    have h1 : Mid ([61] ++ (32 :: y)) ({ kind := 2 } :: ts) := mid_piece [61] (32 :: y) { kind := 2 } ts rfl (by decide) rfl (by simp) (mid_gap _ _ h)
    have h2 : Mid (32 :: ([61] ++ (32 :: y))) ({ kind := 2 } :: ts) := mid_gap _ _ h1
    have h3 := mid_piece n _ { kind := 1, text := n } _ (read_word n _ hn (.inr ⟨32, _, rfl, by decide⟩)) (by show (1 : Int) ≠ 0; omega) rfl hne h2
    rw [show n ++ (if false = true then [32, 61, 47, 32] else [32, 61, 32]) ++ y = n ++ (32 :: ([61] ++ (32 :: y))) from by simp]
    exact h3
theorem index_no10 : ∀ (l : List UInt8), No10 l → Lib.indexByte l 10 = -1 := by
  intro l
  induction l with
  | nil => intro _; rfl
  | cons c r ih =>
    intro h
    have h1 := h c (by simp)
    have h2 := ih (fun d hd => h d (by simp [hd]))
    simp only [Lib.indexByte]
    rw [if_neg (by intro e; exact h1 (by simpa using e)), h2]
    rfl
theorem cut_no10 (l : List UInt8) (h : No10 l) : cutP l 0 = (l, l.length) := by
  unfold cutP
  rw [List.drop_zero, index_no10 l h, if_pos (by omega)]
/-- one rule in one line -/
theorem lex_line (r : List UInt8) (ts : List Tk) (c : UInt8) (q : List UInt8) (hr : r = c :: q) (hc : letterZ c.toNat = true) (hno : No10 r) (hl : r.length ≤ 65536) (hm : Mid r ts) : (lexP r).2 = (0, 0) ∧ (lexP r).1.map bare = ts ++ [{ kind := 13 }] := by
  have hcut := cut_no10 r hno
  have hidle : idleB r = false := by
    rw [hr, idle_cons]
    have h1 : ((c.toNat : Int) == 59) = false ∧ blankZ c.toNat = false := byte_all (p := fun c => letterZ c.toNat = true → ((c.toNat : Int) == 59) = false ∧ blankZ c.toNat = false) (by decide +kernel) c hc
    rw [h1.1, h1.2]
    rfl
  have := rest0_rule (r := r) (ts := ts) (us := []) (by rw [hr]; simp) (by rw [hcut]; exact hidle) (by rw [hcut, hr, byteZ_cons]; exact hc) (by rw [hcut]; exact hm) (by rw [hcut, List.drop_length]; exact rest_nil)
  rw [List.append_nil] at this
  exact rest0_lex hl this

/-! ### tokens that stand for a tree -/
def PartT (us : List Tk) (t : Tr) : Prop := ∀ (l : List Tk) (at_ : Nat) (st : List Grp) (g : Grp) (rest : List Tk), restB l at_ = us ++ rest → CC l at_ (st ++ [g]) = AA l (at_ + us.length) (st ++ [addG t g])
def ContT (us : List Tk) (t : Tr) : Prop := ∀ (l : List Tk) (at_ : Nat) (st : List Grp) (g : Grp) (rest : List Tk), g.rows = [] → g.parts = [] → (g.shut = 6 ∨ g.shut = 13) → restB l at_ = us ++ rest →
  ∃ g', CC l at_ (st ++ [g]) = AA l (at_ + us.length) (st ++ [g']) ∧ g'.shut = g.shut ∧ g'.times = g.times ∧ togetherP 6 (endRowP g').rows = t
theorem contT_of (t : Tr) (h : rightB t = true) : ContT (toksD 100 t) t := (parse_ok 100 t h).2.2
theorem PartT.cont {us : List Tk} {t : Tr} (h : PartT us t) : ContT us t := by
  intro l at_ st g rest hr hp hs hR
  refine ⟨addG t g, h l at_ st g rest hR, rfl, rfl, ?_⟩
  show togetherP 6 (g.rows ++ [togetherP 5 (g.parts ++ [t])]) = t
  rw [hr, hp]
  rfl
theorem ContT.bracket {us : List Tk} {t : Tr} (h : ContT us t) : PartT ([tOpen] ++ us ++ [tShut]) t := by
  intro l at_ st g rest hR
  have hR1 : restB l at_ = tOpen :: (us ++ ([tShut] ++ rest)) := by rw [hR]; simp
  have hh := how_rest hR1
  rw [if_neg (by intro hx; exact absurd hx.1 (by decide))] at hh
  have hR2 := (rest_cons hR1).2
  obtain ⟨g', h1, h2, h3, h4⟩ := h l (at_ + 1) (st ++ [g]) (newG noTree) _ rfl rfl (.inl rfl) hR2
  have hR3 := rest_drop hR2
  rw [CC_eq, hh]
  simp only
  rw [D_open hR1, h1, A_shut hR3 st g g' h2, whole_of h2 (.inl rfl) h3 h4]
  show AA l _ (st ++ [addG t g]) = _
  congr 1
  simp only [List.length_append, List.length_cons, List.length_nil]
  omega
/-- brackets, so often -/
def brT : Nat → List Tk → List Tk
  | 0, us => us
  | n + 1, us => [tOpen] ++ brT n us ++ [tShut]
def brX : Nat → List UInt8 → List UInt8
  | 0, x => x
  | n + 1, x => [40] ++ brX n x ++ [32, 41]
theorem ContT.many {us : List Tk} {t : Tr} (h : ContT us t) : ∀ n, ContT (brT n us) t := by
  intro n
  induction n with
  | zero => exact h
  | succ n ih => exact ih.bracket.cont
theorem reads_loose {x : List UInt8} {us : List Tk} (h : Reads x us) : Reads ([40] ++ x ++ [32, 41]) ([tOpen] ++ us ++ [tShut]) := by
  intro y ts hy hm
  rw [show [40] ++ x ++ [32, 41] ++ y = [40] ++ (x ++ ([32] ++ ([41] ++ y))) from by simp, show [tOpen] ++ us ++ [tShut] ++ ts = [tOpen] ++ (us ++ ([tShut] ++ ts)) from by simp]
  exact mid_open _ _ (h _ _ (ends_32 _) (mid_gap _ _ (mid_shut _ _ hm)))
theorem reads_many {x : List UInt8} {us : List Tk} (h : Reads x us) : ∀ n, Reads (brX n x) (brT n us) := by
  intro n
  induction n with
  | zero => exact h
  | succ n ih => exact reads_loose ih
theorem no10_many {x : List UInt8} (h : No10 x) : ∀ n, No10 (brX n x) := by
  intro n
  induction n with
  | zero => exact h
  | succ n ih => exact (No10.app (by unfold No10; decide) ih).app (by unfold No10; decide)
theorem rep_snoc (l : List UInt8) : ∀ n, Lib.repeatL l (n + 1) = Lib.repeatL l n ++ l := by
  intro n
  induction n with
  | zero => simp [Lib.repeatL]
  | succ n ih =>
    show l ++ Lib.repeatL l (n + 1) = (l ++ Lib.repeatL l n) ++ l
    rw [ih, List.append_assoc]
theorem brX_rep (x : List UInt8) : ∀ n, Lib.repeatL [40] n ++ x ++ Lib.repeatL [32, 41] n = brX n x := by
  intro n
  induction n with
  | zero => simp [brX, Lib.repeatL]
  | succ n ih =>
    rw [brX, ← ih, rep_snoc [32, 41], show Lib.repeatL [40] (n + 1) = [40] ++ Lib.repeatL [40] n from rfl]
    simp
theorem brX_len (x : List UInt8) : ∀ n, (brX n x).length = x.length + 3 * n := by
  intro n
  induction n with
  | zero => rfl
  | succ n ih => rw [brX, List.length_append, List.length_append, ih]; simp only [List.length_cons, List.length_nil]; omega

/-! ### one rule's text, back -/
theorem rule_of {l : List Tk} {at_ : Nat} {n : List UInt8} {more : Bool} {us : List Tk} {t : Tr} {rest : List Tk} (hR : restB l at_ = { kind := 1, text := n } :: { kind := if more = true then 3 else 2 } :: (us ++ { kind := 13 } :: rest)) (hn : nameB (n.map smallC) = true) (hc : ContT us t) :
    ruleP l at_ = (some { name := n.map smallC, place := placeP l at_, more := more, tree := t }, at_ + 3 + us.length) := by
  have hR2 := (rest_cons hR).2
  have hR3 := (rest_cons hR2).2
  have hm : meaningP { kind := 1, text := n } = .mk 1 (n.map smallC) 0 0 0 0 [] := rfl
  have hrl : rightB (meaningP { kind := 1, text := n }) = true := by
    rw [hm]
    refine right_leaf ?_ rfl
    have e : aloneB (.mk 1 (n.map smallC) 0 0 0 0 []) = (nameB (n.map smallC) && noRangeB (.mk 1 (n.map smallC) 0 0 0 0 []) && noTimesB (.mk 1 (n.map smallC) 0 0 0 0 []) && true) := rfl
    rw [e, hn]
    rfl
  have hl := leaf_rest hR [1]
  rw [if_pos ⟨rfl, hrl⟩, hm] at hl
  have hs23 : standsP l (at_ + 1) [2, 3] = true := by
    rw [stands_rest hR2]
    cases more <;> rfl
  have hs3 : standsP l (at_ + 1) [3] = more := by
    rw [stands_rest hR2]
    cases more <;> rfl
  obtain ⟨g', h1, h2, h3, h4⟩ := hc l (at_ + 2) [] firstG _ rfl rfl (.inr rfl) hR3
  have hR4 := rest_drop hR3
  have hch : choicesP l (at_ + 2) = (some t, at_ + 2 + us.length + 1) := by
    show CC l (at_ + 2) ([] ++ [firstG]) = _
    rw [h1, List.nil_append, A_end hR4 rfl g' h2, whole_of h2 (.inr rfl) h3 h4]
    rfl
  unfold ruleP
  rw [hl]
  simp only
  rw [if_pos hs23, hch, hs3]
  have e : at_ + 2 + us.length + 1 = at_ + 3 + us.length := by omega
  rw [← e]
  rfl
/-- a text of one rule -/
theorem of_line (n : List UInt8) (hn : ∃ c r, n = c :: r ∧ letterZ c.toNat = true ∧ ∀ d ∈ n, namedZ d.toNat = true) (hs : nameB (n.map smallC) = true) (more : Bool) (x : List UInt8) (us : List Tk) (t : Tr) (hx : Mid x us) (hno : No10 x) (hc : ContT us t) (ht : rightB t = true) (hl : (n ++ (if more = true then [32, 61, 47, 32] else [32, 61, 32]) ++ x).length ≤ 65536) :
    ∃ p, ofP (n ++ (if more = true then [32, 61, 47, 32] else [32, 61, 32]) ++ x) = ([{ name := n.map smallC, place := p, more := more, tree := t }], 0, 0) := by
  obtain ⟨c, q, hcq, hcl, hall⟩ := hn
  have hno2 : No10 (n ++ (if more = true then [32, 61, 47, 32] else [32, 61, 32]) ++ x) := ((no10_named n hall).app (by cases more <;> (unfold No10; decide))).app hno
  obtain ⟨h1, h2⟩ := lex_line _ _ c (q ++ (if more = true then [32, 61, 47, 32] else [32, 61, 32]) ++ x) (by rw [hcq]; rfl) hcl hno2 hl (mid_rule n ⟨c, q, hcq, hcl, hall⟩ more x us hx)
  generalize n ++ (if more = true then [32, 61, 47, 32] else [32, 61, 32]) ++ x = text at *
  unfold ofP
  generalize lexP text = X at *
  obtain ⟨toks, pl, er⟩ := X
  simp only [Prod.mk.injEq] at h1 h2 ⊢
  obtain ⟨rfl, rfl⟩ := h1
  rw [if_pos rfl]
  have hR : restB toks 0 = { kind := 1, text := n } :: { kind := if more = true then 3 else 2 } :: (us ++ { kind := 13 } :: []) := by
    unfold restB
    rw [List.drop_zero, h2]
    rfl
  have hrule := rule_of hR hs hc
  have hlen : toks.length = 3 + us.length := by
    have := congrArg List.length h2
    simp at this
    omega
  refine ⟨placeP toks 0, ?_⟩
  unfold parseP
  rw [hlen, show 3 + us.length + 1 = (3 + us.length) + 1 from rfl, parseF_some (by omega) hrule, if_pos ht, parseF_end (by omega)]
  rfl
end Go.Proofs.YtgbipbjpeecooaaGreatDoor

/-
  A grown tree's text is not long: at most 26 bytes a number, and 7. Conditions: names of at most 7 bytes.
-/
namespace Go.Proofs.YtgbipbjpeecooaaGreatDoor
open Go.RowKit

theorem nextP_to (u : List Nat) (at_ below : Nat) : at_ ≤ (nextP u at_ below).2 ∧ (at_ ≤ u.length → (nextP u at_ below).2 ≤ u.length) ∧ (at_ < u.length → (nextP u at_ below).2 = at_ + 1) := by
  unfold nextP
  by_cases h : u.length ≤ at_
  · rw [if_pos h]
    exact ⟨Nat.le_refl _, fun h => h, fun h2 => by omega⟩
  · rw [if_neg h]
    exact ⟨Nat.le_succ _, fun _ => by show at_ + 1 ≤ u.length; omega, fun _ => rfl⟩
/-- where it ends, and how long it is -/
def LenOk (u : List Nat) (d at_ : Nat) (R : Tr × Nat) : Prop := at_ ≤ R.2 ∧ (at_ ≤ u.length → R.2 ≤ u.length) ∧ (printD d R.1).length + 26 * at_ ≤ 26 * R.2 + 7
theorem leaf_len (names : List (List UInt8)) (hn : ∀ n ∈ names, n.length ≤ 7) (u : List Nat) (n at_ a0 d : Nat) (h0 : a0 ≤ at_) (h1 : a0 ≤ u.length → at_ ≤ u.length) : LenOk u (d + 1) a0 (leafG names u n at_) := by
  have key : ∀ (t : Tr) (b : Nat), at_ ≤ b → (at_ ≤ u.length → b ≤ u.length) → (printD (d + 1) t).length ≤ 7 → LenOk u (d + 1) a0 (t, b) := fun t b h2 h3 h4 => ⟨by show a0 ≤ b; omega, fun h => h3 (h1 h), by show (printD (d + 1) t).length + 26 * a0 ≤ 26 * b + 7; omega⟩
  unfold leafG
  by_cases e0 : n = 0
  · rw [if_pos e0]
    by_cases hl : names.length = 0
    · rw [if_pos hl]
      exact key _ _ (Nat.le_refl _) (fun h => h) (by show ([34] ++ [98] ++ [34] : List UInt8).length ≤ 7; decide)
    · rw [if_neg hl]
      have hm := hn _ (getD_mem names (nextP u at_ names.length).1 [] (nextP_lt _ _ _ (by omega)))
      obtain ⟨p1, p2, _⟩ := nextP_to u at_ names.length
      exact key _ _ p1 p2 hm
  rw [if_neg e0]
  by_cases e1 : n = 1
  · rw [if_pos e1]
    obtain ⟨p1, p2, _⟩ := nextP_to u at_ 6
    refine key _ _ p1 p2 ?_
    have hall : ∀ x ∈ charWords, ([34] ++ x ++ [34] : List UInt8).length ≤ 7 := by decide
    exact hall _ (getD_mem charWords _ [] (nextP_lt u at_ 6 (by omega)))
  rw [if_neg e1]
  by_cases e2 : n = 2
  · rw [if_pos e2]
    obtain ⟨p1, p2, _⟩ := nextP_to u at_ 5
    refine key _ _ p1 p2 ?_
    have hall : ∀ x ∈ byteWords, (hexesP [37, 120] [46] x).length ≤ 7 := by decide
    exact hall _ (getD_mem byteWords _ [] (nextP_lt u at_ 5 (by omega)))
  rw [if_neg e2]
  obtain ⟨p1, p2, _⟩ := nextP_to u at_ 256
  obtain ⟨q1, q2, _⟩ := nextP_to u (nextP u at_ 256).2 (256 - (nextP u at_ 256).1)
  refine key _ _ (Nat.le_trans p1 q1) (fun h => q2 (p2 h)) ?_
  show (hexesP [37, 120] [45] [byteOf _, byteOf _]).length ≤ 7
  simp [hexesP, pairP]
theorem kids_len (f : Nat → Tr × Nat) (u : List Nat) (d : Nat) (hf : ∀ a, LenOk u d a (f a)) (br : List Int) (bw : List UInt8) (hbw : bw.length ≤ 3) (a0 : Nat) : ∀ m, a0 ≤ (kidsG f m a0).2 ∧ (a0 ≤ u.length → (kidsG f m a0).2 ≤ u.length) ∧ (kidsF (printD d) [] bw br (kidsG f m a0).1).length + 26 * a0 + (if m = 0 then 0 else 3) ≤ 26 * (kidsG f m a0).2 + 12 * m := by
  intro m
  induction m with
  | zero => exact ⟨Nat.le_refl _, fun h => h, by show 0 + 26 * a0 + 0 ≤ 26 * a0 + 0; omega⟩
  | succ m ih =>
    obtain ⟨i1, i2, i3⟩ := ih
    have hl := kidsG_len f m a0
    obtain ⟨j1, j2, j3⟩ := hf (kidsG f m a0).2
    show a0 ≤ (f (kidsG f m a0).2).2 ∧ (a0 ≤ u.length → (f (kidsG f m a0).2).2 ≤ u.length) ∧ (kidsF (printD d) [] bw br ((kidsG f m a0).1 ++ [(f (kidsG f m a0).2).1])).length + 26 * a0 + (if m + 1 = 0 then 0 else 3) ≤ 26 * (f (kidsG f m a0).2).2 + 12 * (m + 1)
    generalize kidsG f m a0 = KG at *
    generalize f KG.2 = T at *
    refine ⟨by omega, fun h => j2 (i2 h), ?_⟩
    have hk : (kidP (printD d) br T.1).length ≤ (printD d T.1).length + 2 := by
      unfold kidP
      split
      · rw [List.length_append, List.length_append]; simp only [List.length_cons, List.length_nil]; omega
      · omega
    rw [kidsF_snoc, List.length_append, List.length_append, hl, if_neg (show ¬ m + 1 = 0 by omega)]
    by_cases hm : m = 0
    · rw [if_pos hm] at i3 ⊢
      simp only [List.length_nil]
      omega
    · rw [if_neg hm] at i3 ⊢
      omega
theorem some_len (f : Nat → Tr × Nat) (u : List Nat) (d : Nat) (hf : ∀ a, LenOk u d a (f a)) (kind : Int) (hk : kind = 5 ∨ kind = 6) (at_ a1 : Nat) (h1 : a1 = at_ + 1) (h2 : a1 ≤ u.length) : LenOk u (d + 1) at_ (someG f u kind a1) := by
  have hm := nextP_lt u a1 2 (by omega)
  obtain ⟨p1, p2, _⟩ := nextP_to u a1 2
  unfold someG
  generalize nextP u a1 2 = p at *
  obtain ⟨q, a0⟩ := p
  simp only at hm p1 p2 ⊢
  have key : ∀ br bw, bw.length ≤ 3 → (kidsF (printD d) [] bw br (kidsG f (2 + q) a0).1).length + 26 * at_ ≤ 26 * (kidsG f (2 + q) a0).2 + 7 := by
    intro br bw hbw
    obtain ⟨_, _, k3⟩ := kids_len f u d hf br bw hbw a0 (2 + q)
    rw [if_neg (by omega)] at k3
    omega
  obtain ⟨k1, k2, _⟩ := kids_len f u d hf [] [] (by simp) a0 (2 + q)
  refine ⟨by show at_ ≤ (kidsG f (2 + q) a0).2; omega, fun _ => k2 (p2 h2), ?_⟩
  show (printD (d + 1) (.mk kind [] 0 0 0 0 (kidsG f (2 + q) a0).1)).length + 26 * at_ ≤ 26 * (kidsG f (2 + q) a0).2 + 7
  rcases hk with rfl | rfl
  · exact key [5, 6] [32] (by simp)
  · exact key [6] [32, 47, 32] (by simp)
theorem often_to (u : List Nat) (a1 : Nat) : a1 ≤ (oftenG u a1).2.2 ∧ (a1 ≤ u.length → (oftenG u a1).2.2 ≤ u.length) := by
  obtain ⟨p1, p2, _⟩ := nextP_to u a1 5
  obtain ⟨q1, q2, _⟩ := nextP_to u (nextP u a1 5).2 3
  obtain ⟨r1, r2, _⟩ := nextP_to u (nextP u (nextP u a1 5).2 3).2 3
  unfold oftenG
  split
  · exact ⟨p1, p2⟩
  · split
    · exact ⟨p1, p2⟩
    · split
      · exact ⟨p1, p2⟩
      · split
        · exact ⟨Nat.le_trans p1 (Nat.le_trans q1 r1), fun h => r2 (q2 (p2 h))⟩
        · exact ⟨p1, p2⟩
theorem times_len (f : Nat → Tr × Nat) (u : List Nat) (d : Nat) (hf : ∀ a, LenOk u d a (f a)) (at_ a1 : Nat) (h1 : a1 = at_ + 1) (h2 : a1 ≤ u.length) : LenOk u (d + 1) at_ (timesG f u a1) := by
  obtain ⟨o1, o2⟩ := often_to u a1
  obtain ⟨_, g2, g3, g4, g5⟩ := often_ok u a1
  unfold timesG
  generalize oftenG u a1 = o at *
  obtain ⟨mn, mx, a⟩ := o
  simp only at o1 o2 g2 g3 g4 g5 ⊢
  obtain ⟨k1, k2, k3⟩ := hf a
  generalize f a = T at *
  have ht : (timesTextP mn mx).length ≤ 9 := by
    unfold timesTextP
    have i1 := itoa_short mn g2 (by omega)
    split
    · omega
    · by_cases hx : 0 ≤ mx
      · have i2 := itoa_short mx hx g5
        rw [if_pos hx]
        split
        · simp only [List.length_append, List.length_cons, List.length_nil]; omega
        · simp only [List.length_append, List.length_cons, List.length_nil]; omega
      · rw [if_neg hx]
        split
        · simp only [List.length_append, List.length_cons, List.length_nil]; omega
        · simp
  refine ⟨by show at_ ≤ T.2; omega, fun _ => k2 (o2 h2), ?_⟩
  show (timesTextP mn mx ++ kidsF (printD d) [] [] [7, 5, 6] [T.1]).length + 26 * at_ ≤ 26 * T.2 + 7
  have hk : (kidsF (printD d) [] [] [7, 5, 6] [T.1]).length ≤ (printD d T.1).length + 2 := by
    show (([] : List UInt8) ++ kidP (printD d) [7, 5, 6] T.1 ++ []).length ≤ _
    rw [List.append_nil, List.nil_append]
    unfold kidP
    split
    · rw [List.length_append, List.length_append]; simp only [List.length_cons, List.length_nil]; omega
    · omega
  rw [List.length_append]
  omega
theorem grow_len (names : List (List UInt8)) (hn : ∀ n ∈ names, n.length ≤ 7) (u : List Nat) : ∀ (r at_ : Nat), LenOk u (r + 1) at_ (growT names u r at_) := by
  intro r
  induction r with
  | zero =>
    intro at_
    obtain ⟨p1, p2, _⟩ := nextP_to u at_ 4
    exact leaf_len names hn u _ _ at_ 0 p1 p2
  | succ r ih =>
    intro at_
    rw [growT]
    obtain ⟨p1, p2, _⟩ := nextP_to u at_ 4
    obtain ⟨q1, q2, q3⟩ := nextP_to u at_ 10
    split
    · exact leaf_len names hn u _ _ at_ _ p1 p2
    · rename_i hl
      have e := q3 (by omega)
      unfold pickG
      split
      · exact leaf_len names hn u _ _ at_ _ q1 q2
      · split
        · exact some_len _ u (r + 1) ih 5 (.inl rfl) at_ _ e (by omega)
        · split
          · exact some_len _ u (r + 1) ih 6 (.inr rfl) at_ _ e (by omega)
          · exact times_len _ u (r + 1) ih at_ _ e (by omega)
theorem grown_short (names : List (List UInt8)) (hn : NamesOk names) (h7 : ∀ n ∈ names, n.length ≤ 7) (u : List Nat) (hu : u.length ≤ 200) : (printD 100 (growT names u 6 0).1).length ≤ 5207 := by
  have h := grow_len names h7 u 6 0
  have hg := grow_ok names hn u 6 0
  rw [print_deeper 7 100 _ (by omega) hg.right]
  obtain ⟨_, h2, h3⟩ := h
  have h4 := h2 (Nat.zero_le _)
  have h5 : (printD 7 (growT names u 6 0).1).length + 26 * 0 ≤ 26 * (growT names u 6 0).2 + 7 := h3
  omega

/-! ### AbnfBrackets' two texts -/
def ruleA : List UInt8 := [82, 117, 108, 101]
def ruleB : List UInt8 := [114, 85, 108, 101]
def ruleC : List UInt8 := [114, 117, 108, 101]
theorem small_A : ruleA.map smallC = ruleC := by decide
theorem small_B : ruleB.map smallC = ruleC := by decide
def orT (a b : Tr) : Tr := .mk 6 [] 0 0 0 0 [a, .mk 5 [] 0 0 0 0 [b, a]]
theorem two_cont {p1 p2 p3 : List Tk} {a b : Tr} (h1 : PartT p1 a) (h2 : PartT p2 b) (h3 : PartT p3 a) (hq : ∃ q, p3 = tOpen :: q) : ContT (p1 ++ ([{ kind := 4 }] ++ (p2 ++ p3))) (orT a b) := by
  intro l at_ st g rest hr hp hs hR
  rw [List.append_assoc] at hR
  have e1 := h1 l at_ st g _ hR
  have R1 := rest_drop hR
  have R1' : restB l (at_ + p1.length) = { kind := 4 } :: (p2 ++ p3 ++ rest) := by rw [R1]; rfl
  have R2 := (rest_cons R1').2
  rw [List.append_assoc] at R2
  have e2 := A_or R1' rfl st (addG a g) hs
  have e3 := h2 l (at_ + p1.length + 1) st (endRowP (addG a g)) _ R2
  have R3 := rest_drop R2
  obtain ⟨q, rfl⟩ := hq
  have e4 := A_next (u := tOpen) (r := q ++ rest) (by rw [R3]; rfl) (by decide) st (addG b (endRowP (addG a g))) (by show (5 : Int) ≠ g.shut; omega)
  have e5 := h3 l (at_ + p1.length + 1 + p2.length) st (addG b (endRowP (addG a g))) rest R3
  refine ⟨addG a (addG b (endRowP (addG a g))), ?_, rfl, rfl, ?_⟩
  · rw [e1, e2, e3, e4, e5]
    congr 1
    simp only [List.length_append, List.length_cons, List.length_nil]
    omega
  · show togetherP 6 (g.rows ++ [togetherP 5 (g.parts ++ [a])] ++ [togetherP 5 ([] ++ [b] ++ [a])]) = _
    rw [hr, hp]
    rfl
theorem brackets_one (n : Nat) (hn : n ≤ 40) (a : Tr) (ha : rightB a = true) (hb : byteD 100 a) (hl : (printD 100 a).length ≤ 6000) : ∃ p, ofP (ruleA ++ [32, 61, 32] ++ brX n (printD 100 a)) = ([{ name := ruleC, place := p, more := false, tree := a }], 0, 0) := by
  have hm : Mid (brX n (printD 100 a)) (brT n (toksD 100 a)) := by
    have := reads_many (print_reads 100 a ha hb) n [] [] (.inl rfl) mid_nil
    rw [List.append_nil, List.append_nil] at this
    exact this
  have := of_line ruleA ⟨82, [117, 108, 101], rfl, by decide, by decide⟩ (by rw [small_A]; decide) false _ _ a hm (no10_many (no10_print 100 a ha) n) ((contT_of a ha).many n) ha (by
    rw [List.length_append, brX_len]
    show 7 + _ ≤ 65536
    omega)
  rw [small_A] at this
  exact this
theorem brackets_two (n : Nat) (hn : n ≤ 40) (a b : Tr) (ha : rightD 50 a = true) (hb : rightD 50 b = true) (ya : byteD 100 a) (yb : byteD 100 b) (hl : (printD 100 a).length ≤ 6000) (hl2 : (printD 100 b).length ≤ 6000) :
    ∃ p, ofP (ruleB ++ [32, 61, 32] ++ ([40] ++ brX n (printD 100 a) ++ [41] ++ ([32, 47, 32] ++ ([40] ++ printD 100 b ++ [41] ++ ([32] ++ ([40] ++ printD 100 a ++ [41])))))) = ([{ name := ruleC, place := p, more := false, tree := orT a b }], 0, 0) := by
  have ra : rightB a = true := right_deeper 50 100 a (by omega) ha
  have rb : rightB b = true := right_deeper 50 100 b (by omega) hb
  have sing : ∀ (c : UInt8), c ≠ 10 → No10 [c] := fun c h x hx => by rw [List.mem_singleton] at hx; subst hx; exact h
  have hm : Mid ([40] ++ brX n (printD 100 a) ++ [41] ++ ([32, 47, 32] ++ ([40] ++ printD 100 b ++ [41] ++ ([32] ++ ([40] ++ printD 100 a ++ [41]))))) (([tOpen] ++ brT n (toksD 100 a) ++ [tShut]) ++ ([{ kind := 4 }] ++ (([tOpen] ++ toksD 100 b ++ [tShut]) ++ ([tOpen] ++ toksD 100 a ++ [tShut])))) := by
    have m3 : Mid ([40] ++ printD 100 a ++ [41]) ([tOpen] ++ toksD 100 a ++ [tShut]) := by
      have := reads_bracket (print_reads 100 a ra ya) [] [] (.inl rfl) mid_nil
      rw [List.append_nil, List.append_nil] at this
      exact this
    have m2 := reads_bracket (print_reads 100 b rb yb) _ _ (ends_32 _) (mid_gap _ _ m3)
    exact reads_bracket (reads_many (print_reads 100 a ra ya) n) _ _ (ends_32 _) (mid_or _ _ m2)
  have hor : rightB (orT a b) = true := by
    have e : rightB (orT a b) = (aloneB (orT a b) && [a, .mk 5 [] 0 0 0 0 [b, a]].all (rightD 99)) := rfl
    have e2 : rightD 99 (.mk 5 [] 0 0 0 0 [b, a]) = (aloneB (.mk 5 [] 0 0 0 0 [b, a]) && [b, a].all (rightD 98)) := rfl
    have a99 := right_deeper 50 99 a (by omega) ha
    have a98 := right_deeper 50 98 a (by omega) ha
    have b98 := right_deeper 50 98 b (by omega) hb
    rw [e]
    simp only [List.all_cons, List.all_nil, Bool.and_true, a99, e2, a98, b98]
    rfl
  have na := no10_print 100 a ra
  have nb := no10_print 100 b rb
  have s40 := sing 40 (by decide)
  have s41 := sing 41 (by decide)
  have hno : No10 ([40] ++ brX n (printD 100 a) ++ [41] ++ ([32, 47, 32] ++ ([40] ++ printD 100 b ++ [41] ++ ([32] ++ ([40] ++ printD 100 a ++ [41]))))) :=
    ((s40.app (no10_many na n)).app s41).app (No10.app (by unfold No10; decide) (((s40.app nb).app s41).app ((sing 32 (by decide)).app ((s40.app na).app s41))))
  have := of_line ruleB ⟨114, [85, 108, 101], rfl, by decide, by decide⟩ (by rw [small_B]; decide) false _ _ (orT a b) hm hno (two_cont (((contT_of a ra).many n).bracket) ((contT_of b rb).bracket) ((contT_of a ra).bracket) ⟨_, rfl⟩) hor (by
    simp only [List.length_append, brX_len, List.length_cons, List.length_nil]
    show (4 + 3) + _ ≤ 65536
    omega)
  rw [small_B] at this
  exact this
end Go.Proofs.YtgbipbjpeecooaaGreatDoor

/-
  The grower in memory, and the contract of its next. Conditions: the grower, its numbers and its names lie in memory; at most 200 numbers, at most 100 names.
-/
namespace Go.Proofs.YtgbipbjpeecooaaGreatDoor
open Go.RowKit

/-- the grower in block gb -/
structure GrowAt (w : World) (gb : Nat) (UA : Option Addr) (uc : Nat) (u : List Nat) (NA : Option Addr) (nc : Nat) (names : List (List UInt8)) (at_ : Nat) : Prop where
  blk : Blk w gb 98 #[.slice UA u.length uc, .int .i64 at_, .slice NA names.length nc]
  nums : ∀ i n, u[i]? = some n → ∃ g off, UA = some ⟨g, off, none⟩ ∧ g < gb ∧ w.cell? ⟨g, off + i, none⟩ = some (.int .u16 (n : Nat))
  words : ∀ i n, names[i]? = some n → ∃ g off, NA = some ⟨g, off, none⟩ ∧ g < gb ∧ w.cell? ⟨g, off + i, none⟩ = some (.string (bs n))
  le : at_ ≤ u.length
  few : u.length ≤ 200
  small : ∀ n ∈ u, n < 65536
  fewN : names.length ≤ 100 ∧ ∀ n ∈ names, n.length ≤ 1000
theorem GrowAt.turn {w w' : World} {gb : Nat} {UA : Option Addr} {uc : Nat} {u : List Nat} {NA : Option Addr} {nc : Nat} {names : List (List UInt8)} {at_ at2 : Nat} (h : GrowAt w gb UA uc u NA nc names at_) (hs : ∀ b, b < gb → w'.heap[b]? = w.heap[b]?) (hb : Blk w' gb 98 #[.slice UA u.length uc, .int .i64 at2, .slice NA names.length nc]) (hle : at2 ≤ u.length) : GrowAt w' gb UA uc u NA nc names at2 := by
  refine ⟨hb, fun i n hi => ?_, fun i n hi => ?_, hle, h.few, h.small, h.fewN⟩
  · obtain ⟨g, off, e, hg, hc⟩ := h.nums i n hi
    refine ⟨g, off, e, hg, ?_⟩
    rw [World.cell?_of_block (w := w) (hs g hg)]
    exact hc
  · obtain ⟨g, off, e, hg, hc⟩ := h.words i n hi
    refine ⟨g, off, e, hg, ?_⟩
    rw [World.cell?_of_block (w := w) (hs g hg)]
    exact hc
theorem GrowAt.keep {w w' : World} {gb : Nat} {UA : Option Addr} {uc : Nat} {u : List Nat} {NA : Option Addr} {nc : Nat} {names : List (List UInt8)} {at_ : Nat} (h : GrowAt w gb UA uc u NA nc names at_) (hs : ∀ b, b ≤ gb → w'.heap[b]? = w.heap[b]?) : GrowAt w' gb UA uc u NA nc names at_ :=
  h.turn (fun b hb => hs b (by omega)) ((hs gb (Nat.le_refl _)).trans h.blk) h.le
theorem GrowAt.only {w w' : World} {gb : Nat} {UA : Option Addr} {uc : Nat} {u : List Nat} {NA : Option Addr} {nc : Nat} {names : List (List UInt8)} {at_ at2 : Nat} (h : GrowAt w gb UA uc u NA nc names at_) (ho : Only gb w w') (hb : Blk w' gb 98 #[.slice UA u.length uc, .int .i64 at2, .slice NA names.length nc]) (hle : at2 ≤ u.length) : GrowAt w' gb UA uc u NA nc names at2 :=
  h.turn (fun b hl => ho.block b (by have := h.blk.lt; omega) (fun e => by have := Option.some.inj e; omega)) hb hle
theorem GrowAt.later {w w' : World} {gb : Nat} {UA : Option Addr} {uc : Nat} {u : List Nat} {NA : Option Addr} {nc : Nat} {names : List (List UInt8)} {at_ : Nat} (h : GrowAt w gb UA uc u NA nc names at_) (hb : Below w.heap.size w w') : GrowAt w' gb UA uc u NA nc names at_ :=
  h.only (Only.of_below hb) (h.blk.below hb h.blk.lt) h.le
theorem GrowAt.word {w : World} {gb : Nat} {UA : Option Addr} {uc : Nat} {u : List Nat} {g off nc : Nat} {names : List (List UInt8)} {at_ : Nat} (h : GrowAt w gb UA uc u (some ⟨g, off, none⟩) nc names at_) {i : Nat} {nm : List UInt8} (hi : names[i]? = some nm) : w.cell? ⟨g, off + i, none⟩ = some (.string (bs nm)) := by
  obtain ⟨g', off', e, _, hc⟩ := h.words i nm hi
  cases e
  exact hc
theorem Only.drewN {r : Nat} {a w : World} (h : Only r a w) (m : Nat) : Only r a (w.drewN m) := h.trans (Only.of_below (below_drewN (Below.refl _ _) m))
theorem mod_nat (n m : Nat) : (n : Int).tmod (m : Int) = ((n % m : Nat) : Int) := by
  rw [Int.tmod_eq_emod_of_nonneg (by omega)]
  rfl

set_option maxHeartbeats 2000000 in
theorem next_any (w : World) (gb : Nat) (UA : Option Addr) (uc : Nat) (u : List Nat) (NA : Option Addr) (nc : Nat) (names : List (List UInt8)) (at_ : Nat) (h : GrowAt w gb UA uc u NA nc names at_) (below : Nat) (h0 : 0 < below) (h1 : below ≤ 1000) :
    Calls Tryz.prog 93 #[.pointer (some ⟨gb, 0, none⟩), .int .i64 (below : Nat)] w fun e w' => e = .returned (.int .i64 ((nextP u at_ below).1 : Nat)) ∧ GrowAt w' gb UA uc u NA nc names (nextP u at_ below).2 ∧ Only gb w w' := by
  have hc := h.blk.cell
  have hf := h.blk.frozen
  have c0 : w.cell? ⟨gb, 0, none⟩ = some (.slice UA u.length uc) := hc 0
  have c1 : w.cell? ⟨gb, 1, none⟩ = some (.int .i64 at_) := hc 1
  have f1 := hf 1
  have hle := h.le
  have hfew := h.few
  have H := Lib.hid h
  by_cases hlt : u.length ≤ at_
  · have HN : Hid (nextP u at_ below = (0, at_)) := by
      show _ = _
      unfold nextP
      rw [if_pos hlt]
    have hd : decide ((u.length : Int) ≤ (at_ : Int)) = true := by rw [decide_eq_true_iff]; omega
    rw [HN.out]
    generalize hul : u.length = n at *
    clear h hc hf hul
    go_enter Tryz.func93, Tryz.ntmps93
    go_wp2_with fail
    go_quiet (fail)
    go_wp2
    go_ret
    exact ⟨rfl, H.out.later (below_drewN (Below.refl _ _) _), (Only.refl _ _).drewN _⟩
  · obtain ⟨x, hx⟩ : ∃ x, u[at_]? = some x := ⟨_, List.getElem?_eq_getElem (by omega)⟩
    have HN : Hid (nextP u at_ below = (x % below, at_ + 1)) := by
      show _ = _
      unfold nextP
      rw [if_neg hlt, List.getD_eq_getElem?_getD, hx]
      rfl
    obtain ⟨g, off, hUA, hg, hcx⟩ := h.nums at_ x hx
    have hgl : g < w.heap.size := Nat.lt_trans hg h.blk.lt
    have hne : ¬ g = gb := by omega
    have hxs := h.small x (List.mem_of_getElem? hx)
    have hd : decide ((u.length : Int) ≤ (at_ : Int)) = false := by rw [decide_eq_false_iff_not]; omega
    rw [HN.out]
    have hl1 : (at_ : Int) < (u.length : Int) := by omega
    have hl0 : (0 : Int) ≤ (at_ : Int) := by omega
    have ha1 : at_ + 1 ≤ u.length := by omega
    have HA1 := Lib.hid ha1
    have HS : Hid (∀ m, GrowAt ((w.drewN m).setCell ⟨gb, 1, none⟩ (.int .i64 ((at_ : Int) + 1))) gb UA uc u NA nc names (at_ + 1) ∧ Only gb w ((w.drewN m).setCell ⟨gb, 1, none⟩ (.int .i64 ((at_ : Int) + 1)))) := by
      intro m
      have ho : Only gb w ((w.drewN m).setCell ⟨gb, 1, none⟩ (.int .i64 ((at_ : Int) + 1))) := ((Only.refl _ _).drewN m).set 1 _
      have hb : Blk (w.drewN m) gb _ _ := h.blk.below (below_drewN (Below.refl _ _) m) h.blk.lt
      exact ⟨h.only ho (hb.set_ 1 _) ha1, ho⟩
    have hmod := mod_nat x below
    subst hUA
    generalize hul : u.length = n at *
    have HUL := Lib.hid hul
    clear h hul hx
    go_enter Tryz.func93, Tryz.ntmps93
    go_wp2_with fail
    go_quiet (fail)
    go_upto_region 4 with fail
    obtain ⟨hg2, ho2⟩ := HS.out nq
    have HG2 := Lib.hid hg2
    have HO2 := Lib.hid ho2
    have hcx2 : ((w.drewN nq).setCell ⟨gb, 1, none⟩ (.int .i64 ((at_ : Int) + 1))).cell? ⟨g, off + at_, none⟩ = some (.int .u16 (x : Nat)) := by
      rw [World.cell?_of_block (w := w) (ho2.block g hgl (fun e => hne (Option.some.inj e)))]
      exact hcx
    have d0 := hg2.blk.cell 0
    rw [HUL.out] at d0
    have d1 := hg2.blk.cell 1
    have e1 : IntKind.i64.wrap ((at_ : Int) + 1 - 1) = at_ := by rw [IntWalk.i64_in _ (by omega)]; omega
    have e2 : IntKind.i64.wrap (at_ : Int) = at_ := IntWalk.i64_in _ (by omega)
    have hb0 : ¬ (below : Int) = 0 := by omega
    clear hg2 ho2 HS c0 c1 f1 hcx hc hf
    generalize (w.drewN nq).setCell ⟨gb, 1, none⟩ (.int .i64 ((at_ : Int) + 1)) = W2 at *
    go_quiet (fail)
    go_wp2
    go_ret
    exact ⟨rfl, HG2.out.later (below_drewN (Below.refl _ _) _), HO2.out.drewN _⟩
end Go.Proofs.YtgbipbjpeecooaaGreatDoor

/-
  The contract of the grower's some: two or three kids. Conditions: those of the grower's tree, which is asked at one depth more.
-/
namespace Go.Proofs.YtgbipbjpeecooaaGreatDoor
open Go.RowKit

/-- what the grower's tree hands back -/
def GrOut (gb : Nat) (UA : Option Addr) (uc : Nat) (u : List Nat) (NA : Option Addr) (nc : Nat) (names : List (List UInt8)) (w : World) (R : Tr × Nat) (e : Ending) (w' : World) : Prop :=
  ∃ sl, e = .returned (treeV R.1 sl) ∧ KidsAt w' (fun b => w.heap.size ≤ b) R.1.kids sl ∧ R.1.text.length ≤ maxLen ∧ GrowAt w' gb UA uc u NA nc names R.2 ∧ Only gb w w'
/-- the grower's tree, with so much depth left -/
def TreeG (gb : Nat) (UA : Option Addr) (uc : Nat) (u : List Nat) (NA : Option Addr) (nc : Nat) (names : List (List UInt8)) (r : Nat) : Prop :=
  ∀ (w : World) (at_ deep : Nat), deep + r = 6 → GrowAt w gb UA uc u NA nc names at_ → Calls Tryz.prog 47 #[.pointer (some ⟨gb, 0, none⟩), .int .i64 (deep : Nat)] w fun e w' => GrOut gb UA uc u NA nc names w (growT names u r at_) e w'
def zeroG : Array Value := #[.int .u8 0, .string ⟨#[]⟩, .int .u8 0, .int .u8 0, .int .i64 0, .int .i64 0, .slice none 0 0]
/-- within some -/
structure SomeIn (gb : Nat) (UA : Option Addr) (uc : Nat) (u : List Nat) (NA : Option Addr) (nc : Nat) (names : List (List UInt8)) (w : World) (kind : Int) (R : List Tr × Nat) (ps : Trow) (v : Value) (wr : World) : Prop where
  res : Blk wr w.heap.size 25 zeroG
  blk : Blk wr (w.heap.size + 1) 25 #[.int .u8 kind, .string ⟨#[]⟩, .int .u8 0, .int .u8 0, .int .i64 0, .int .i64 0, v]
  own : wr.ownsRow (w.heap.size + 2) 25 7 v ps.length (flatT ps)
  kids : KidsAll wr (fun b => w.heap.size + 2 ≤ b ∧ v.ownBlock ≠ some b) ps
  same : trees ps = R.1
  grow : GrowAt wr gb UA uc u NA nc names R.2
  only : Only gb w wr
  size : w.heap.size + 2 ≤ wr.heap.size
theorem SomeIn.more {gb : Nat} {UA : Option Addr} {uc : Nat} {u : List Nat} {NA : Option Addr} {nc : Nat} {names : List (List UInt8)} {w wr w1 w2 w3 : World} {kind : Int} {R : List Tr × Nat} {ps : Trow} {v : Value} {T : Tr × Nat} {sl : Value} {gg cap : Nat}
    (h : SomeIn gb UA uc u NA nc names w kind R ps v wr) (hgb : gb < w.heap.size) (ho : Only gb wr w1) (hk : KidsAt w1 (fun b => wr.heap.size ≤ b) T.1.kids sl) (htx : T.1.text.length ≤ maxLen) (hg : GrowAt w1 gb UA uc u NA nc names T.2)
    (hb2 : Below w1.heap.size w1 w2) (hgrow : w2.grownBy w3 v.ownBlock) (hown : w3.ownsRow (w.heap.size + 2) 25 7 (.slice (some ⟨gg, 0, none⟩) (ps.length + 1) cap) (ps.length + 1) (flatT ps ++ headCells T.1 sl)) (hat : v.ownBlock = some gg ∨ w1.heap.size ≤ gg) :
    SomeIn gb UA uc u NA nc names w kind (R.1 ++ [T.1], T.2) (ps ++ [(T.1, sl)]) (.slice (some ⟨gg, 0, none⟩) (ps.length + 1) cap) (w3.setCell ⟨w.heap.size + 1, 6, none⟩ (.slice (some ⟨gg, 0, none⟩) (ps.length + 1) cap)) := by
  have hvlt : ∀ b, v.ownBlock = some b → w.heap.size + 2 ≤ b ∧ b < wr.heap.size := fun b hb => h.own.lt b hb
  have hgg := (hown.lt gg rfl).1
  have hsz1 := ho.size
  have hsz2 := hb2.size
  have hsz3 := hgrow.size
  have hsz := h.size
  -- blocks that stay from wr to w3
  have stay : ∀ b, b < wr.heap.size → b ≠ gb → v.ownBlock ≠ some b → w3.heap[b]? = wr.heap[b]? := fun b hl hne hv =>
    (hgrow.block b (by omega) (fun e => hv e.symm)).trans ((hb2.block b (by omega)).trans (ho.block b hl (fun e => hne (Option.some.inj e))))
  have stay1 : ∀ b, b < w1.heap.size → v.ownBlock ≠ some b → w3.heap[b]? = w1.heap[b]? := fun b hl hv =>
    (hgrow.block b (by omega) (fun e => hv e.symm)).trans (hb2.block b hl)
  have setS : ∀ b, b ≠ w.heap.size + 1 → (w3.setCell ⟨w.heap.size + 1, 6, none⟩ (.slice (some ⟨gg, 0, none⟩) (ps.length + 1) cap)).heap[b]? = w3.heap[b]? := fun b hb => Below.heap_setCell _ _ _ _ hb
  have setSz : (w3.setCell ⟨w.heap.size + 1, 6, none⟩ (.slice (some ⟨gg, 0, none⟩) (ps.length + 1) cap)).heap.size = w3.heap.size := by simp [World.setCell]
  have noV : ∀ b, b < w.heap.size + 2 → v.ownBlock ≠ some b := fun b hb e => by have := (hvlt b e).1; omega
  have hres3 : Blk w3 w.heap.size 25 zeroG := (stay _ h.res.lt (by omega) (noV _ (by omega))).trans h.res
  have hblk3 : Blk w3 (w.heap.size + 1) 25 #[.int .u8 kind, .string ⟨#[]⟩, .int .u8 0, .int .u8 0, .int .i64 0, .int .i64 0, v] := (stay _ h.blk.lt (by omega) (noV _ (by omega))).trans h.blk
  have hgl : gb < w.heap.size + 2 := by omega
  have hgrow3 : GrowAt (w3.setCell ⟨w.heap.size + 1, 6, none⟩ (.slice (some ⟨gg, 0, none⟩) (ps.length + 1) cap)) gb UA uc u NA nc names T.2 :=
    hg.keep (fun b hb => (setS b (by omega)).trans (stay1 b (by omega) (noV b (by omega))))
  refine ⟨(setS _ (by omega)).trans hres3, hblk3.set_ 6 _, ?_, ?_, ?_, hgrow3, ?_, by rw [setSz]; omega⟩
  · rw [flatT_snoc, List.length_append, List.length_singleton]
    exact ownsRow_same hown (fun b hb => setS b (by have : gg = b := Option.some.inj hb; omega))
  · intro p hp
    rcases List.mem_append.1 hp with hp | hp
    · refine ⟨(h.kids p hp).1.later (by rw [setSz]; omega) (fun b hl hF => ⟨⟨hF.1, fun e => ?_⟩, (setS b (by omega)).trans (stay b hl (by omega) hF.2)⟩), (h.kids p hp).2⟩
      have he : gg = b := Option.some.inj e
      rcases hat with hat | hat
      · exact hF.2 (by rw [hat, he])
      · omega
    · have : p = (T.1, sl) := by simpa using hp
      subst this
      refine ⟨hk.later (by rw [setSz]; omega) (fun b hl hF => ⟨⟨by omega, fun e => ?_⟩, (setS b (by omega)).trans (stay1 b hl (fun e => by have := (hvlt b e).2; omega))⟩), htx⟩
      have he : gg = b := Option.some.inj e
      rcases hat with hat | hat
      · have := (hvlt gg hat).2
        omega
      · omega
  · simp [trees]
    have := h.same
    simpa [trees] using this
  · refine ⟨hgrow.os.trans (hb2.os.trans (ho.os.trans h.only.os)), hgrow.tape.trans (hb2.tape.trans (ho.tape.trans h.only.tape)), hgrow.output.trans (hb2.output.trans (ho.output.trans h.only.output)), by rw [setSz]; omega, fun k hk hne => ?_⟩
    exact (setS k (by omega)).trans ((stay k (by omega) (fun e => hne (by rw [e])) (noV k (by omega))).trans (h.only.block k hk hne))

theorem only_put7 {gb : Nat} {w wr : World} (h : Only gb w wr) (t : Tr) (sl : Value) : Only gb w (put7 wr w.heap.size 0 t sl) := by
  unfold put7
  iterate 7 refine Only.new ?_ (Nat.le_refl _) _
  exact h
set_option maxRecDepth 100000 in
set_option maxHeartbeats 4000000 in
theorem some_any (gb : Nat) (UA : Option Addr) (uc : Nat) (u : List Nat) (NA : Option Addr) (nc : Nat) (names : List (List UInt8)) (r deep : Nat) (hr : deep + (r + 1) = 6) (HT : TreeG gb UA uc u NA nc names r) (kind : Int) (w : World) (at_ : Nat) (h : GrowAt w gb UA uc u NA nc names at_) :
    Calls Tryz.prog 94 #[.pointer (some ⟨gb, 0, none⟩), .int .u8 kind, .int .i64 (deep : Nat)] w fun e w' => GrOut gb UA uc u NA nc names w (someG (growT names u r) u kind at_) e w' := by
  obtain ⟨i0, hi0, hz0, hz1, hz2⟩ := info_parts Tryz.infoTree
  have hgb := h.blk.lt
  have HTR := Lib.hid HT
  have hb2 : Below w.heap.size w ((w.alloc (.cells zeroG 25)).alloc (.cells #[.int .u8 kind, .string ⟨#[]⟩, .int .u8 0, .int .u8 0, .int .i64 0, .int .i64 0, .slice none 0 0] 25)) := ((Below.refl _ _).alloc (Nat.le_refl _) _).alloc (by simp) _
  have hB0 : Blk ((w.alloc (.cells zeroG 25)).alloc (.cells #[.int .u8 kind, .string ⟨#[]⟩, .int .u8 0, .int .u8 0, .int .i64 0, .int .i64 0, .slice none 0 0] 25)) w.heap.size 25 zeroG := (Blk.new _ _ _).alloc _
  have hB1 : Blk ((w.alloc (.cells zeroG 25)).alloc (.cells #[.int .u8 kind, .string ⟨#[]⟩, .int .u8 0, .int .u8 0, .int .i64 0, .int .i64 0, .slice none 0 0] 25)) (w.heap.size + 1) 25 #[.int .u8 kind, .string ⟨#[]⟩, .int .u8 0, .int .u8 0, .int .i64 0, .int .i64 0, .slice none 0 0] := Blk.new_at _ _ _ _ (by simp)
  have hsz2 : ((w.alloc (.cells zeroG 25)).alloc (.cells #[.int .u8 kind, .string ⟨#[]⟩, .int .u8 0, .int .u8 0, .int .i64 0, .int .i64 0, .slice none 0 0] 25)).heap.size = w.heap.size + 2 := by simp
  have HNX := Lib.hid (next_any _ gb UA uc u NA nc names at_ (h.later hb2) 2 (by omega) (by omega))
  have hm := nextP_lt u at_ 2 (by omega)
  have HS : Hid (someG (growT names u r) u kind at_ = (.mk kind [] 0 0 0 0 (kidsG (growT names u r) (2 + (nextP u at_ 2).1) (nextP u at_ 2).2).1, (kidsG (growT names u r) (2 + (nextP u at_ 2).1) (nextP u at_ 2).2).2)) := show _ = _ from rfl
  rw [HS.out]
  generalize nextP u at_ 2 = P at *
  obtain ⟨q, a0⟩ := P
  simp only at hm HNX ⊢
  have HB2 := Lib.hid hb2
  have HB0 := Lib.hid hB0
  have HB1 := Lib.hid hB1
  have HZ2 := Lib.hid hsz2
  unfold zeroG at HB2 HB0 HB1 HNX HZ2
  clear hb2 hB0 hB1 h HT HS hsz2
  go_enter Tryz.func94, Tryz.ntmps94
  go_wp2_with fail
  refine HNX.out.mono ?_
  rintro e w1 ⟨rfl, hg1, ho1⟩
  have hIN : SomeIn gb UA uc u NA nc names w kind ([], a0) [] (.slice none 0 0) w1 := by
    have hne : ∀ b, b < w.heap.size + 2 → b ≠ gb → w1.heap[b]? = _ := fun b hb hne => ho1.block b (by rw [HZ2.out]; exact hb) (fun e => hne (Option.some.inj e))
    refine ⟨(hne _ (by omega) (by omega)).trans HB0.out, (hne _ (by omega) (by omega)).trans HB1.out, World.ownsRow_nil _ _ _ _, fun p hp => (by cases hp), rfl, hg1, (Only.of_below HB2.out).trans ho1, ?_⟩
    have := ho1.size
    rw [HZ2.out] at this
    exact this
  have HIN := Lib.hid hIN
  clear hIN hg1 ho1 HNX HB0 HB1 HB2 HZ2
  go_wp2
  go_loopw [13] (fun i wr => ∃ (ps : Trow) (v : Value), ps.length ≤ 2 + q ∧ i = .int .i64 ps.length ∧ Hid (SomeIn gb UA uc u NA nc names w kind (kidsG (growT names u r) ps.length a0) ps v wr)) (fun i _ => (2 + q) - (intOf i).toNat)
  case atStart => exact ⟨[], _, Nat.zero_le _, rfl, HIN⟩
  case round =>
    clear HIN
    obtain ⟨ps, v, hk, rfl, HIN⟩ := hrel
    obtain ⟨vA, vc, hv⟩ := row_form HIN.out.own
    have hc := HIN.out.blk.cell
    have hf := HIN.out.blk.frozen
    have hlt := HIN.out.blk.lt
    have hszr := HIN.out.size
    by_cases hlt2 : ps.length < 2 + q
    · have HKG : Hid (kidsG (growT names u r) (ps.length + 1) a0 = ((kidsG (growT names u r) ps.length a0).1 ++ [(growT names u r (kidsG (growT names u r) ps.length a0).2).1], (growT names u r (kidsG (growT names u r) ps.length a0).2).2)) := show _ = _ from rfl
      have HCA := Lib.hid (HTR.out wr.drew (kidsG (growT names u r) ps.length a0).2 (deep + 1) (by omega) (HIN.out.grow.later (Below.refl _ _).drew))
      rw [show ((deep + 1 : Nat) : Int) = (deep : Int) + 1 from by omega] at HCA
      generalize kidsG (growT names u r) ps.length a0 = KG at *
      generalize growT names u r KG.2 = T at *
      have hd1 : (ps.length : Int) < 2 + (q : Int) := by omega
      have e5 : IntKind.i64.wrap ((deep : Int) + 1) = (deep : Int) + 1 := IntWalk.i64_in _ (by omega)
      subst hv
      have c6 : wr.cell? ⟨w.heap.size + 1, 6, none⟩ = some (.slice vA ps.length vc) := hc 6
      clear hc hf
      go_wp2_with fail
      go_region_law (first
        | (go_simp; go_at_call 47; refine HCA.out.mono ?_; rintro e w2 ⟨sl, rfl, hk2, htx2, hg2, ho2⟩; unfold treeV; obtain ⟨kp, kc, rfl, _⟩ := hk2.form; have hoW : Only gb wr w2 := (Only.refl gb wr).drew.trans ho2; have hbT : Blk w2 (w.heap.size + 1) _ _ := (hoW.block (w.heap.size + 1) hlt (fun e => by have := Option.some.inj e; omega)).trans HIN.out.blk; have c62 : w2.cell? ⟨w.heap.size + 1, 6, none⟩ = some (.slice vA ps.length vc) := hbT.cell 6; have HOW := Lib.hid hoW; have HBT := Lib.hid hbT; have HOWN2 := Lib.hid (ownsRow_same HIN.out.own (fun b hb => hoW.block b (HIN.out.own.lt b hb).2 (fun e => by have := Option.some.inj e; have := (HIN.out.own.lt b hb).1; omega))); have HK2 := Lib.hid hk2; have HG2 := Lib.hid hg2; have hsz2 : wr.heap.size ≤ w2.heap.size := hoW.size; have hltT : w.heap.size + 1 < w2.heap.size := Nat.lt_of_lt_of_le hlt hsz2; clear hk2 hg2 ho2 hoW hbT)
        | (refine step_append_lies _ (by rfl) _ _ _ (by rfl) (w.heap.size + 2) 25 i0 _ 7 72 Tryz.underlying23 hi0 hz0 hz1 hz2 rfl (by omega) (.slice vA ps.length vc) ps.length (flatT ps) (by rfl) (HOWN2.out.alloc _) ⟨w2.heap.size, 0, none⟩ 1 1 (headCells T.1 (.slice kp T.1.kids.length kc)) (by rfl) (by rfl) (by exact World.news_of_block (heap_alloc_new w2 _)) (by simp [headCells, Value.oneCell']) (by omega) (by unfold maxLen; omega) (by omega) (by simp; omega) (w2.heap.size + 1) (by simp) ?_; intro gg cap w3 hown3 hgrow3 hat3 hlt3; have hbT3 := (HBT.out.alloc (.cells (headCells T.1 (.slice kp T.1.kids.length kc)).toArray 25)).grown hgrow3 (fun e => by have := (HIN.out.own.lt _ e.symm).1; omega); have c63 := hbT3.cell; have f63 := hbT3.frozen; have HM := Lib.hid (HIN.out.more hgb HOW.out HK2.out htx2 HG2.out ((Below.refl _ _).alloc (Nat.le_refl _) (.cells (headCells T.1 (.slice kp T.1.kids.length kc)).toArray 25)) hgrow3 hown3 (hat3.imp id (fun e => by omega))); clear hown3 hgrow3 hat3 hbT3))
      all_goals
        have hpl : (ps ++ [(T.1, Value.slice kp T.1.kids.length kc)]).length = ps.length + 1 := by simp
        have HPL := Lib.hid hpl
        clear hpl
        go_wp2
        go_roundw
        case rel => exact ⟨ps ++ [(T.1, .slice kp T.1.kids.length kc)], _, by rw [HPL.out]; omega, by rw [HPL.out]; go_num, by rw [HPL.out, HKG.out]; exact HM⟩
        case measure => simp [intOf]; omega
    · have HKQ : Hid (ps.length = 2 + q) := (show _ = _ by omega)
      subst hv
      have c0 := HIN.out.blk.cell
      have r0 := HIN.out.res.cell
      have rf := HIN.out.res.frozen
      have hrl := HIN.out.res.lt
      unfold zeroG at r0
      clear hc hf
      go_wp2
      refine bodyPost_ret (v := treeV (.mk kind [] 0 0 0 0 (kidsG (growT names u r) (2 + q) a0).1) (.slice vA ps.length vc)) ?_ rfl ⟨_, rfl, ?_, ?_, ?_, ?_⟩
      · simp [results, Tryz.results94, go_sem, r0]
        rfl
      · change KidsAt (put7 wr w.heap.size 0 (.mk kind [] 0 0 0 0 []) (.slice vA ps.length vc)) (fun b => w.heap.size ≤ b) (kidsG (growT names u r) (2 + q) a0).1 (.slice vA ps.length vc)
        have hkk := KidsAt.of_row (F := fun b => w.heap.size + 2 ≤ b) HIN.out.own (fun p hp => ⟨(HIN.out.kids p hp).1.mono (fun b _ hF => hF.1), (HIN.out.kids p hp).2⟩) (fun b hb => (HIN.out.own.lt b hb).1)
        rw [HIN.out.same, HKQ.out] at hkk
        rw [HKQ.out]
        exact hkk.later (by rw [put7_size]; exact Nat.le_refl _) (fun b _ hF => ⟨by omega, put7_block _ _ _ _ _ b (by omega)⟩)
      · exact Nat.zero_le _
      · change GrowAt (put7 wr w.heap.size 0 (.mk kind [] 0 0 0 0 []) (.slice vA ps.length vc)) gb UA uc u NA nc names (kidsG (growT names u r) (2 + q) a0).2
        have := HIN.out.grow.keep (w' := put7 wr w.heap.size 0 (.mk kind [] 0 0 0 0 []) (.slice vA ps.length vc)) (fun b hb => put7_block _ _ _ _ _ b (by omega))
        rw [HKQ.out] at this ⊢
        exact this
      · exact only_put7 HIN.out.only (.mk kind [] 0 0 0 0 []) (.slice vA ps.length vc)
end Go.Proofs.YtgbipbjpeecooaaGreatDoor

/-
  The contract of the grower's tree, and of frankinglow's Grown. Conditions: the numbers and the names lie in memory; at most 200 numbers, at most 100 names.
-/
namespace Go.Proofs.YtgbipbjpeecooaaGreatDoor
open Go.RowKit

/-- within tree: the result's cells, still zero -/
structure InTree (gb : Nat) (UA : Option Addr) (uc : Nat) (u : List Nat) (NA : Option Addr) (nc : Nat) (names : List (List UInt8)) (w W : World) (at_ : Nat) : Prop where
  res : Blk W w.heap.size 25 zeroG
  grow : GrowAt W gb UA uc u NA nc names at_
  only : Only gb w W
  hgb : gb < w.heap.size
theorem InTree.step {gb : Nat} {UA : Option Addr} {uc : Nat} {u : List Nat} {NA : Option Addr} {nc : Nat} {names : List (List UInt8)} {w W W' : World} {at_ at2 : Nat} (h : InTree gb UA uc u NA nc names w W at_) (ho : Only gb W W') (hg : GrowAt W' gb UA uc u NA nc names at2) : InTree gb UA uc u NA nc names w W' at2 :=
  ⟨(ho.block _ h.res.lt (fun e => by have := Option.some.inj e; have := h.hgb; omega)).trans h.res, hg, h.only.trans ho, h.hgb⟩
theorem InTree.later {gb : Nat} {UA : Option Addr} {uc : Nat} {u : List Nat} {NA : Option Addr} {nc : Nat} {names : List (List UInt8)} {w W W' : World} {at_ : Nat} (h : InTree gb UA uc u NA nc names w W at_) (hb : Below W.heap.size W W') : InTree gb UA uc u NA nc names w W' at_ := h.step (Only.of_below hb) (h.grow.later hb)
theorem next_in {gb : Nat} {UA : Option Addr} {uc : Nat} {u : List Nat} {NA : Option Addr} {nc : Nat} {names : List (List UInt8)} {w W : World} {at_ : Nat} (h : InTree gb UA uc u NA nc names w W at_) (below : Nat) (h0 : 0 < below) (h1 : below ≤ 1000) :
    Calls Tryz.prog 93 #[.pointer (some ⟨gb, 0, none⟩), .int .i64 (below : Nat)] W fun e w' => e = .returned (.int .i64 ((nextP u at_ below).1 : Nat)) ∧ InTree gb UA uc u NA nc names w w' (nextP u at_ below).2 ∧ Only gb W w' :=
  (next_any W gb UA uc u NA nc names at_ h.grow below h0 h1).mono fun _ _ ⟨he, hg, ho⟩ => ⟨he, h.step ho hg, ho⟩
/-- the end -/
theorem gr_end {gb : Nat} {UA : Option Addr} {uc : Nat} {u : List Nat} {NA : Option Addr} {nc : Nat} {names : List (List UInt8)} {w W : World} {at_ : Nat} (h : InTree gb UA uc u NA nc names w W at_) (t : Tr) (sl : Value) (hk : KidsAt W (fun b => w.heap.size + 1 ≤ b) t.kids sl) (htx : t.text.length ≤ maxLen) : GrOut gb UA uc u NA nc names w (t, at_) (.returned (treeV t sl)) (put7 W w.heap.size 0 t sl) := by
  have hgb := h.hgb
  refine ⟨sl, rfl, ?_, htx, ?_, only_put7 h.only t sl⟩
  · exact hk.later (by rw [put7_size]; exact Nat.le_refl _) (fun b _ hF => ⟨by omega, put7_block _ _ _ _ _ b (by omega)⟩)
  · exact h.grow.keep (fun b hb => put7_block _ _ _ _ _ b (by omega))
theorem kid_one {W : World} {S : Nat → Prop} {B : Nat} (t : Tr) (sl : Value) (hb : Blk W B 25 (headCells t sl).toArray) (hk : KidsAt W S t.kids sl) (hS : S B) (htx : t.text.length ≤ maxLen) : KidsAt W S [t] (.slice (some ⟨B, 0, none⟩) 1 1) := by
  refine .row [t] B 0 1 (fun _ => sl) hS hb.lt (by simp) (by simp) (by unfold maxLen; simp) (fun i hi => ?_) (fun i hi j u hu => ?_) (fun i hi => ?_)
  · have : i = 0 := by simpa using hi
    subst this
    exact htx
  · have : i = 0 := by simpa using hi
    subst this
    rw [hb.cell]
    simpa using hu
  · have : i = 0 := by simpa using hi
    subst this
    exact hk
theorem InTree.new {gb : Nat} {UA : Option Addr} {uc : Nat} {u : List Nat} {NA : Option Addr} {nc : Nat} {names : List (List UInt8)} {w W : World} {at_ : Nat} (h : InTree gb UA uc u NA nc names w W at_) (T i : Nat) (hT : w.heap.size < T) (v : Value) : InTree gb UA uc u NA nc names w (W.setCell ⟨T, i, none⟩ v) at_ := by
  have hgb := h.hgb
  exact ⟨h.res.other (by simp only; omega) _, h.grow.keep (fun b hb => Below.heap_setCell _ _ _ _ (by simp only; omega)), h.only.new (by simp only; omega) _, hgb⟩
theorem word_at {W : World} {B : Nat} {T : TypeId} {cs : Array Value} (h : Blk W B T cs) (ws : List (List UInt8)) (hcs : cs = (ws.map fun x => Value.string (bs x)).toArray) (i : Nat) (hi : i < ws.length) : W.cell? ⟨B, i, none⟩ = some (.string (bs (ws.getD i []))) := by
  rw [h.cell i, hcs, List.getD_eq_getElem?_getD]
  simp [hi]

set_option maxRecDepth 100000 in
set_option maxHeartbeats 4000000 in
theorem tree_all (gb : Nat) (UA : Option Addr) (uc : Nat) (u : List Nat) (NA : Option Addr) (nc : Nat) (names : List (List UInt8)) (r deep : Nat) (hr : deep + r = 6) (w : World) (at_ : Nat) (h : GrowAt w gb UA uc u NA nc names at_) (HT : ∀ r', r = r' + 1 → TreeG gb UA uc u NA nc names r') :
    Calls Tryz.prog 47 #[.pointer (some ⟨gb, 0, none⟩), .int .i64 (deep : Nat)] w fun e w' => GrOut gb UA uc u NA nc names w (growT names u r at_) e w' := by
  have hgb := h.blk.lt
  have hIN : InTree gb UA uc u NA nc names w (w.alloc (.cells #[.int .u8 0, .string ⟨#[]⟩, .int .u8 0, .int .u8 0, .int .i64 0, .int .i64 0, .slice none 0 0] 25)) at_ := ⟨Blk.new _ _ _, h.later ((Below.refl _ _).alloc (Nat.le_refl _) _), (Only.refl _ _).alloc _, hgb⟩
  have hc := (h.blk.below ((Below.refl w.heap.size w).alloc (Nat.le_refl _) (.cells #[.int .u8 0, .string ⟨#[]⟩, .int .u8 0, .int .u8 0, .int .i64 0, .int .i64 0, .slice none 0 0] 25)) hgb).cell
  have hle := h.le
  have hfew := h.few
  have hfewN := h.fewN.1
  have HSN := Lib.hid h.fewN.2
  obtain ⟨bt, hbt⟩ : ∃ bt : Bool, bt = (decide (r = 0) || decide (u.length ≤ at_)) := ⟨_, rfl⟩
  have HBT := Lib.hid hbt
  have HIN := Lib.hid hIN
  have HTR := Lib.hid HT
  clear h hIN hbt HT
  go_enter Tryz.func47, Tryz.ntmps47
  go_upto_region 2 with fail
  go_cut [23] (fun b wx => b = .bool bt ∧ Hid (InTree gb UA uc u NA nc names w wx at_))
  case first =>
    by_cases h0 : r = 0
    · have hb : bt = true := by rw [HBT.out]; simp [h0]
      subst hb
      have hd6 : decide ((6 : Int) ≤ (deep : Int)) = true := by rw [decide_eq_true_iff]; omega
      go_quiet (fail)
      go_wp2
      go_meet
      exact ⟨rfl, HIN.out.later (below_drewN (Below.refl _ _) _)⟩
    · have hd6 : decide ((6 : Int) ≤ (deep : Int)) = false := by rw [decide_eq_false_iff_not]; omega
      by_cases hl : u.length ≤ at_
      · have hb : bt = true := by rw [HBT.out]; simp [hl]
        subst hb
        have hd : decide ((u.length : Int) ≤ (at_ : Int)) = true := by rw [decide_eq_true_iff]; omega
        go_quiet (fail)
        go_wp2
        go_meet
        exact ⟨rfl, HIN.out.later (below_drewN (Below.refl _ _) _)⟩
      · have hb : bt = false := by rw [HBT.out]; simp [h0, hl]
        subst hb
        have hd : decide ((u.length : Int) ≤ (at_ : Int)) = false := by rw [decide_eq_false_iff_not]; omega
        go_quiet (fail)
        go_wp2
        go_meet
        exact ⟨rfl, HIN.out.later (below_drewN (Below.refl _ _) _)⟩
  case rest =>
    clear HIN hc
    obtain ⟨rfl, HIN⟩ := hcut
    obtain ⟨K, hK⟩ : ∃ K : Nat, K = if bt = true then 4 else 10 := ⟨_, rfl⟩
    have HK := Lib.hid hK
    clear hK
    go_upto_if 23 with fail
    go_cut [5] (fun b wx => b = .int .i64 (K : Nat) ∧ Hid (InTree gb UA uc u NA nc names w wx at_))
    case first =>
      cases bt with
      | true =>
        have hk4 : K = 4 := HK.out
        subst hk4
        go_wp2
        go_meet
        exact ⟨rfl, HIN⟩
      | false =>
        have hk4 : K = 10 := HK.out
        subst hk4
        go_wp2
        go_meet
        exact ⟨rfl, HIN⟩
    case rest =>
      clear HIN
      obtain ⟨rfl, HIN⟩ := hcut
      have hK0 : 0 < K ∧ K ≤ 10 := by have := HK.out; split at this <;> omega
      have HNX := Lib.hid (next_in HIN.out K hK0.1 (by omega))
      have hnK := nextP_lt u at_ K hK0.1
      have HG : Hid (((nextP u at_ K).1 < 4 → growT names u r at_ = leafG names u (nextP u at_ K).1 (nextP u at_ K).2) ∧ (4 ≤ (nextP u at_ K).1 → ∃ r', r = r' + 1 ∧ growT names u r at_ = pickG (growT names u r') names u (nextP u at_ K).1 (nextP u at_ K).2)) := by
        have hb := HBT.out
        have hk := HK.out
        cases bt with
        | true =>
          rw [if_pos rfl] at hk
          subst hk
          refine ⟨fun _ => ?_, fun h => by omega⟩
          cases r with
          | zero => rfl
          | succ r =>
            have hl : u.length ≤ at_ := by simpa using hb.symm
            rw [growT, if_pos hl]
        | false =>
          rw [if_neg (by decide)] at hk
          subst hk
          cases r with
          | zero => simp at hb
          | succ r =>
            have hl : ¬ u.length ≤ at_ := by simpa using hb.symm
            refine ⟨fun h => ?_, fun h => ⟨r, rfl, by rw [growT, if_neg hl]⟩⟩
            rw [growT, if_neg hl, pickG, if_pos h]
      have hn10 : (nextP u at_ K).1 < 10 := by omega
      clear hK0 HK HBT HIN
      generalize nextP u at_ K = N at *
      obtain ⟨n, a1⟩ := N
      simp only at hnK HNX HG hn10
      go_wp2_with (go_at_call 93; refine HNX.out.mono ?_)
      rintro e w2 ⟨rfl, hIN2, _⟩
      have HIN2 := Lib.hid hIN2
      clear hIN2 HNX
      have hgl2 : gb < w2.heap.size := HIN2.out.grow.blk.lt
      rcases (show n = 0 ∨ n = 1 ∨ n = 2 ∨ n = 3 ∨ (n = 4 ∨ n = 5 ∨ n = 6) ∨ (n = 7 ∨ n = 8) ∨ n = 9 by omega) with rfl | rfl | rfl | rfl | hn | hn | rfl
      · -- a name, or chars
        have c2 := HIN2.out.grow.blk.cell 2
        by_cases hnl : names.length = 0
        · have HT0 : Hid (growT names u r at_ = (.mk 2 [98] 0 0 0 0 [], a1)) := by
            show _ = _
            rw [HG.out.1 (by omega), leafG, if_pos rfl, if_pos hnl]
          rw [hnl] at c2
          have r0 := HIN2.out.res.cell
          have rf := HIN2.out.res.frozen
          have hrl := HIN2.out.res.lt
          unfold zeroG at r0
          clear HG
          go_wp2
          refine bodyPost_ret (v := treeV (.mk 2 [98] 0 0 0 0 []) (.slice none 0 0)) ?_ rfl ?_
          · simp [results, Tryz.results47, go_sem, r0]
            rfl
          · rw [HT0.out]
            exact gr_end HIN2.out (.mk 2 [98] 0 0 0 0 []) (.slice none 0 0) (.nil _ _) (by show 1 ≤ maxLen; unfold maxLen; omega)
        · have hx := nextP_lt u a1 names.length (by omega)
          have HT0 : Hid (growT names u r at_ = (.mk 1 (names.getD (nextP u a1 names.length).1 []) 0 0 0 0 [], (nextP u a1 names.length).2)) := by
            show _ = _
            rw [HG.out.1 (by omega), leafG, if_pos rfl, if_neg hnl]
          have HN2 := Lib.hid (next_in (HIN2.out.later (Below.refl w2.heap.size w2).drew) names.length (by omega) (by omega))
          obtain ⟨nm, hnm⟩ : ∃ nm, names[(nextP u a1 names.length).1]? = some nm := ⟨_, List.getElem?_eq_getElem hx⟩
          rw [List.getD_eq_getElem?_getD, hnm, Option.getD_some] at HT0
          generalize nextP u a1 names.length = N2 at *
          obtain ⟨n2, a2⟩ := N2
          simp only at hx HN2 hnm HT0
          obtain ⟨g, off, rfl, hg, hcw⟩ := HIN2.out.grow.words n2 nm hnm
          have HNM := Lib.hid hnm
          have hl1 : (n2 : Int) < (names.length : Int) := by omega
          have hl0 : (0 : Int) ≤ (n2 : Int) := by omega
          have hnn : (0 : Int) < (names.length : Int) := by omega
          have htx : nm.length ≤ maxLen := by have := HSN.out nm (List.mem_of_getElem? hnm); unfold maxLen; omega
          have HTX := Lib.hid htx
          clear HG hnm hcw htx
          go_wp2_with fail
          go_region_law (first
            | (go_simp; go_at_call 93; refine HN2.out.mono ?_; rintro e w3 ⟨rfl, hIN3, _⟩; have c23 := hIN3.grow.blk.cell 2; have hcw3 := hIN3.grow.word HNM.out; have HIN3 := Lib.hid hIN3; have r0 := hIN3.res.cell; have rf := hIN3.res.frozen; have hrl := hIN3.res.lt; unfold zeroG at r0; clear hIN3))
          all_goals
            clear c2 hgl2
            go_wp2
            refine bodyPost_ret (v := treeV (.mk 1 nm 0 0 0 0 []) (.slice none 0 0)) ?_ rfl ?_
            · simp [results, Tryz.results47, go_sem, r0]
              rfl
            · rw [HT0.out]
              exact gr_end HIN3.out (.mk 1 nm 0 0 0 0 []) (.slice none 0 0) (.nil _ _) HTX.out
      · have hx := nextP_lt u a1 6 (by omega)
        have HT0 : Hid (growT names u r at_ = (.mk 2 (charWords.getD (nextP u a1 6).1 []) 0 0 0 0 [], (nextP u a1 6).2)) := by
          show _ = _
          rw [HG.out.1 (by omega), leafG]
          rfl
        have hbA : Below w2.heap.size w2 (w2.alloc (.cells #[.string ⟨#[97]⟩, .string ⟨#[97, 98]⟩, .string ⟨#[]⟩, .string ⟨#[98, 32, 99]⟩, .string ⟨#[65, 45, 98]⟩, .string ⟨#[43]⟩] 9)) := (Below.refl _ _).alloc (Nat.le_refl _) _
        have HN2 := Lib.hid (next_in (HIN2.out.later hbA) 6 (by omega) (by omega))
        have HBK : Hid (Blk (w2.alloc (.cells #[.string ⟨#[97]⟩, .string ⟨#[97, 98]⟩, .string ⟨#[]⟩, .string ⟨#[98, 32, 99]⟩, .string ⟨#[65, 45, 98]⟩, .string ⟨#[43]⟩] 9)) w2.heap.size 9 #[.string ⟨#[97]⟩, .string ⟨#[97, 98]⟩, .string ⟨#[]⟩, .string ⟨#[98, 32, 99]⟩, .string ⟨#[65, 45, 98]⟩, .string ⟨#[43]⟩]) := Blk.new _ _ _
        generalize nextP u a1 6 = N2 at *
        obtain ⟨n2, a2⟩ := N2
        simp only at hx HN2 HT0
        clear HG hbA
        go_wp2_with (go_at_call 93; refine HN2.out.mono ?_)
        rintro e w3 ⟨rfl, hIN3, ho3⟩
        have hcw : w3.cell? ⟨w2.heap.size, n2, none⟩ = some (.string (bs (charWords.getD n2 []))) := word_at ((ho3.block _ HBK.out.lt (fun e => by have := Option.some.inj e; omega)).trans HBK.out) charWords rfl n2 hx
        have HIN3 := Lib.hid hIN3
        have htx : (charWords.getD n2 []).length ≤ maxLen := by
          have : ∀ x ∈ charWords, x.length ≤ 100 := by decide
          have := this _ (getD_mem charWords n2 [] hx)
          unfold maxLen
          omega
        have HTX := Lib.hid htx
        have hl1 : (n2 : Int) < 6 := by omega
        have hl0 : (0 : Int) ≤ (n2 : Int) := by omega
        generalize charWords.getD n2 [] = wd at *
        have r0 := HIN3.out.res.cell
        have rf := HIN3.out.res.frozen
        have hrl := HIN3.out.res.lt
        unfold zeroG at r0
        clear hIN3 ho3 HN2 HBK htx
        go_wp2
        refine bodyPost_ret (v := treeV (.mk 2 wd 0 0 0 0 []) (.slice none 0 0)) ?_ rfl ?_
        · simp [results, Tryz.results47, go_sem, r0]
          rfl
        · rw [HT0.out]
          exact gr_end HIN3.out (.mk 2 wd 0 0 0 0 []) (.slice none 0 0) (.nil _ _) HTX.out
      · have hx := nextP_lt u a1 5 (by omega)
        have HT0 : Hid (growT names u r at_ = (.mk 3 (byteWords.getD (nextP u a1 5).1 []) 0 0 0 0 [], (nextP u a1 5).2)) := by
          show _ = _
          rw [HG.out.1 (by omega), leafG]
          rfl
        have hbA : Below w2.heap.size w2 (w2.alloc (.cells #[.string ⟨#[97]⟩, .string ⟨#[13, 10]⟩, .string ⟨#[65]⟩, .string ⟨#[0, 255]⟩, .string ⟨#[128]⟩] 9)) := (Below.refl _ _).alloc (Nat.le_refl _) _
        have HN2 := Lib.hid (next_in (HIN2.out.later hbA) 5 (by omega) (by omega))
        have HBK : Hid (Blk (w2.alloc (.cells #[.string ⟨#[97]⟩, .string ⟨#[13, 10]⟩, .string ⟨#[65]⟩, .string ⟨#[0, 255]⟩, .string ⟨#[128]⟩] 9)) w2.heap.size 9 #[.string ⟨#[97]⟩, .string ⟨#[13, 10]⟩, .string ⟨#[65]⟩, .string ⟨#[0, 255]⟩, .string ⟨#[128]⟩]) := Blk.new _ _ _
        generalize nextP u a1 5 = N2 at *
        obtain ⟨n2, a2⟩ := N2
        simp only at hx HN2 HT0
        clear HG hbA
        go_wp2_with (go_at_call 93; refine HN2.out.mono ?_)
        rintro e w3 ⟨rfl, hIN3, ho3⟩
        have hcw : w3.cell? ⟨w2.heap.size, n2, none⟩ = some (.string (bs (byteWords.getD n2 []))) := word_at ((ho3.block _ HBK.out.lt (fun e => by have := Option.some.inj e; omega)).trans HBK.out) byteWords rfl n2 hx
        have HIN3 := Lib.hid hIN3
        have htx : (byteWords.getD n2 []).length ≤ maxLen := by
          have : ∀ x ∈ byteWords, x.length ≤ 100 := by decide
          have := this _ (getD_mem byteWords n2 [] hx)
          unfold maxLen
          omega
        have HTX := Lib.hid htx
        have hl1 : (n2 : Int) < 5 := by omega
        have hl0 : (0 : Int) ≤ (n2 : Int) := by omega
        generalize byteWords.getD n2 [] = wd at *
        have r0 := HIN3.out.res.cell
        have rf := HIN3.out.res.frozen
        have hrl := HIN3.out.res.lt
        unfold zeroG at r0
        clear hIN3 ho3 HN2 HBK htx
        go_wp2
        refine bodyPost_ret (v := treeV (.mk 3 wd 0 0 0 0 []) (.slice none 0 0)) ?_ rfl ?_
        · simp [results, Tryz.results47, go_sem, r0]
          rfl
        · rw [HT0.out]
          exact gr_end HIN3.out (.mk 3 wd 0 0 0 0 []) (.slice none 0 0) (.nil _ _) HTX.out
      · have hlo := nextP_lt u a1 256 (by omega)
        have HT0 : Hid (growT names u r at_ = (.mk 4 [] ((nextP u a1 256).1 : Nat) (((nextP u a1 256).1 + (nextP u (nextP u a1 256).2 (256 - (nextP u a1 256).1)).1 : Nat) : Int) 0 0 [], (nextP u (nextP u a1 256).2 (256 - (nextP u a1 256).1)).2)) := by
          show _ = _
          rw [HG.out.1 (by omega), leafG]
          rfl
        have HN2 := Lib.hid (next_in HIN2.out 256 (by omega) (by omega))
        generalize nextP u a1 256 = N2 at *
        obtain ⟨lo, a2⟩ := N2
        simp only at hlo HN2 HT0
        clear HG
        go_wp2_with (go_at_call 93; refine HN2.out.mono ?_)
        rintro e w3 ⟨rfl, hIN3, _⟩
        have hhi := nextP_lt u a2 (256 - lo) (by omega)
        have HN3 := Lib.hid (next_in hIN3 (256 - lo) (by omega) (by omega))
        rw [show ((256 - lo : Nat) : Int) = 256 - (lo : Int) from by omega] at HN3
        generalize nextP u a2 (256 - lo) = N3 at *
        obtain ⟨hi, a3⟩ := N3
        simp only at hhi HN3 HT0
        rw [show (((lo + hi : Nat)) : Int) = (lo : Int) + hi from by omega] at HT0
        have e1 : IntKind.i64.wrap (256 - (lo : Int)) = 256 - (lo : Int) := IntWalk.i64_in _ (by omega)
        have e2 : IntKind.u8.wrap (lo : Int) = lo := by unfold IntKind.wrap; simp [IntKind.bits, IntKind.signed]; omega
        have e3 : IntKind.u8.wrap ((lo : Int) + (hi : Int)) = (lo : Int) + hi := by unfold IntKind.wrap; simp [IntKind.bits, IntKind.signed]; omega
        clear hIN3 HN2
        go_wp2_with (go_at_call 93; refine HN3.out.mono ?_)
        rintro e w4 ⟨rfl, hIN4, _⟩
        have HIN4 := Lib.hid hIN4
        have r0 := HIN4.out.res.cell
        have rf := HIN4.out.res.frozen
        have hrl := HIN4.out.res.lt
        unfold zeroG at r0
        clear hIN4 HN3
        go_wp2
        refine bodyPost_ret (v := treeV (.mk 4 [] (lo : Int) ((lo : Int) + hi) 0 0 []) (.slice none 0 0)) ?_ rfl ?_
        · simp [results, Tryz.results47, go_sem, r0]
          rfl
        · rw [HT0.out]
          exact gr_end HIN4.out (.mk 4 [] (lo : Int) ((lo : Int) + hi) 0 0 []) (.slice none 0 0) (.nil _ _) (Nat.zero_le _)
      · obtain ⟨r', rfl, hgt⟩ := HG.out.2 (by omega)
        have HT0 : Hid (growT names u (r' + 1) at_ = someG (growT names u r') u 5 a1) := by
          show _ = _
          rw [hgt, pickG, if_neg (by omega)]
          rw [if_pos (by omega)]
        have HSO := Lib.hid (some_any gb UA uc u NA nc names r' deep hr (HTR.out r' rfl) 5 w2 a1 HIN2.out.grow)
        generalize someG (growT names u r') u 5 a1 = SG at *
        obtain ⟨t, a5⟩ := SG
        have hn' := hn
        clear HG hgt
        rcases hn' with rfl | rfl | rfl
        all_goals
          go_wp2_with (go_at_call 94; refine HSO.out.mono ?_)
          rintro e w3 ⟨sl, rfl, hk3, htx3, hg3, ho3⟩
          have hIN3 := HIN2.out.step ho3 hg3
          have HIN3 := Lib.hid hIN3
          have HK3 : Hid (KidsAt w3 (fun b => w.heap.size + 1 ≤ b) t.kids sl) := hk3.mono (fun b _ hb => Nat.le_trans HIN2.out.res.lt hb)
          obtain ⟨kp, kc, rfl, _⟩ := hk3.form
          have HTX := Lib.hid htx3
          have r0 := HIN3.out.res.cell
          have rf := HIN3.out.res.frozen
          have hrl := HIN3.out.res.lt
          unfold zeroG at r0
          unfold treeV
          clear hIN3 hk3 hg3 ho3 htx3
          simp only at HT0 HK3 HTX
          go_wp2
          refine bodyPost_ret (v := treeV t (.slice kp t.kids.length kc)) ?_ rfl ?_
          · simp [results, Tryz.results47, go_sem, r0]
            rfl
          · rw [HT0.out]
            exact gr_end HIN3.out t (.slice kp t.kids.length kc) HK3.out HTX.out
      · obtain ⟨r', rfl, hgt⟩ := HG.out.2 (by omega)
        have HT0 : Hid (growT names u (r' + 1) at_ = someG (growT names u r') u 6 a1) := by
          show _ = _
          rw [hgt, pickG, if_neg (by omega)]
          rw [if_neg (by omega), if_pos (by omega)]
        have HSO := Lib.hid (some_any gb UA uc u NA nc names r' deep hr (HTR.out r' rfl) 6 w2 a1 HIN2.out.grow)
        generalize someG (growT names u r') u 6 a1 = SG at *
        obtain ⟨t, a5⟩ := SG
        have hn' := hn
        clear HG hgt
        rcases hn' with rfl | rfl
        all_goals
          go_wp2_with (go_at_call 94; refine HSO.out.mono ?_)
          rintro e w3 ⟨sl, rfl, hk3, htx3, hg3, ho3⟩
          have hIN3 := HIN2.out.step ho3 hg3
          have HIN3 := Lib.hid hIN3
          have HK3 : Hid (KidsAt w3 (fun b => w.heap.size + 1 ≤ b) t.kids sl) := hk3.mono (fun b _ hb => Nat.le_trans HIN2.out.res.lt hb)
          obtain ⟨kp, kc, rfl, _⟩ := hk3.form
          have HTX := Lib.hid htx3
          have r0 := HIN3.out.res.cell
          have rf := HIN3.out.res.frozen
          have hrl := HIN3.out.res.lt
          unfold zeroG at r0
          unfold treeV
          clear hIN3 hk3 hg3 ho3 htx3
          simp only at HT0 HK3 HTX
          go_wp2
          refine bodyPost_ret (v := treeV t (.slice kp t.kids.length kc)) ?_ rfl ?_
          · simp [results, Tryz.results47, go_sem, r0]
            rfl
          · rw [HT0.out]
            exact gr_end HIN3.out t (.slice kp t.kids.length kc) HK3.out HTX.out
      · obtain ⟨r', rfl, hgt⟩ := HG.out.2 (by omega)
        have HT0 : Hid (growT names u (r' + 1) at_ = (.mk 7 [] 0 0 (oftenG u a1).1 (oftenG u a1).2.1 [(growT names u r' (oftenG u a1).2.2).1], (growT names u r' (oftenG u a1).2.2).2)) := by
          show _ = _
          rw [hgt, pickG, if_neg (by omega), if_neg (by omega), if_neg (by omega)]
          rfl
        have hbA : Below w2.heap.size w2 (w2.alloc (.cells #[.int .u8 7, .string ⟨#[]⟩, .int .u8 0, .int .u8 0, .int .i64 0, .int .i64 (-1), .slice none 0 0] 25)) := (Below.refl _ _).alloc (Nat.le_refl _) _
        have HN2 := Lib.hid (next_in (HIN2.out.later hbA) 5 (by omega) (by omega))
        have HBK : Hid (Blk (w2.alloc (.cells #[.int .u8 7, .string ⟨#[]⟩, .int .u8 0, .int .u8 0, .int .i64 0, .int .i64 (-1), .slice none 0 0] 25)) w2.heap.size 25 #[.int .u8 7, .string ⟨#[]⟩, .int .u8 0, .int .u8 0, .int .i64 0, .int .i64 (-1), .slice none 0 0]) := Blk.new _ _ _
        have hq := nextP_lt u a1 5 (by omega)
        have hw2 : w.heap.size < w2.heap.size := HIN2.out.res.lt
        have HOF : Hid (oftenG u a1 = (if (nextP u a1 5).1 = 1 then (0, 1, (nextP u a1 5).2) else if (nextP u a1 5).1 = 2 then (1, -1, (nextP u a1 5).2) else if (nextP u a1 5).1 = 3 then (2, 2, (nextP u a1 5).2) else if (nextP u a1 5).1 = 4 then (((nextP u (nextP u a1 5).2 3).1 : Nat), (((nextP u (nextP u a1 5).2 3).1 : Nat) : Int) + ((nextP u (nextP u (nextP u a1 5).2 3).2 3).1 : Nat), (nextP u (nextP u (nextP u a1 5).2 3).2 3).2) else (0, -1, (nextP u a1 5).2) : Int × Int × Nat)) := show _ = _ from rfl
        generalize nextP u a1 5 = N2 at *
        obtain ⟨q, a2⟩ := N2
        simp only at hq HN2 HOF
        clear HG hgt hbA
        go_wp2_with (go_at_call 93; refine HN2.out.mono ?_)
        rintro e w3 ⟨rfl, hIN3, ho3⟩
        have hT3 : Blk w3 w2.heap.size 25 #[.int .u8 7, .string ⟨#[]⟩, .int .u8 0, .int .u8 0, .int .i64 0, .int .i64 (-1), .slice none 0 0] := (ho3.block _ HBK.out.lt (fun e => by have := Option.some.inj e; omega)).trans HBK.out
        have HIN3 := Lib.hid hIN3
        have HT3 := Lib.hid hT3
        have hc3 := hT3.cell
        have hf3 := hT3.frozen
        clear hIN3 ho3 HN2 HBK hT3
        rcases (show q = 0 ∨ q = 1 ∨ q = 2 ∨ q = 3 ∨ q = 4 by omega) with rfl | rfl | rfl | rfl | rfl
        · have hof : oftenG u a1 = (0, (-1), a2) := HOF.out
          rw [hof] at HT0
          simp only at HT0
          have HIN5 : Hid (InTree gb UA uc u NA nc names w (w3) a2) := HIN3.out
          have HB5 : Hid (Blk (w3) w2.heap.size 25 #[.int .u8 7, .string ⟨#[]⟩, .int .u8 0, .int .u8 0, .int .i64 0, .int .i64 (-1), .slice none 0 0]) := HT3.out
          clear HOF hof HIN3 HT3
          go_upto_region 36 with fail
          clear hc3 hf3
          generalize w3 = W5 at *
          have HTC := Lib.hid (HTR.out r' rfl W5 a2 (deep + 1) (by omega) HIN5.out.grow)
          rw [show ((deep + 1 : Nat) : Int) = (deep : Int) + 1 from by omega] at HTC
          have e5 : IntKind.i64.wrap ((deep : Int) + 1) = (deep : Int) + 1 := IntWalk.i64_in _ (by omega)
          generalize growT names u r' a2 = KT at *
          obtain ⟨t, a6⟩ := KT
          go_wp2_with (go_at_call 47; refine HTC.out.mono ?_)
          rintro e w6 ⟨sl, rfl, hk6, htx6, hg6, ho6⟩
          have hIN6 := HIN5.out.step ho6 hg6
          have hT6 : Blk w6 w2.heap.size 25 #[.int .u8 7, .string ⟨#[]⟩, .int .u8 0, .int .u8 0, .int .i64 0, .int .i64 (-1), .slice none 0 0] := (ho6.block _ HB5.out.lt (fun e => by have := Option.some.inj e; omega)).trans HB5.out
          have hk6' : KidsAt w6 (fun b => w.heap.size + 1 ≤ b ∧ b ≠ w2.heap.size) t.kids sl := hk6.mono (fun b _ hb => ⟨by have := HB5.out.lt; omega, by have := HB5.out.lt; omega⟩)
          obtain ⟨kp, kc, rfl, _⟩ := hk6.form
          unfold treeV
          have hsz6 : w2.heap.size < w6.heap.size := hT6.lt
          have hW7 : InTree gb UA uc u NA nc names w ((w6.setCell ⟨w2.heap.size, 6, none⟩ (.slice (some ⟨w6.heap.size, 0, none⟩) 1 1)).alloc (.cells #[.int .u8 t.kind, .string (bs t.text), .int .u8 t.lo, .int .u8 t.hi, .int .i64 t.mn, .int .i64 t.mx, .slice kp t.kids.length kc] 25)) a6 := (hIN6.new w2.heap.size 6 hw2 _).later ((Below.refl _ _).alloc (Nat.le_refl _) _)
          have hB7 : Blk ((w6.setCell ⟨w2.heap.size, 6, none⟩ (.slice (some ⟨w6.heap.size, 0, none⟩) 1 1)).alloc (.cells #[.int .u8 t.kind, .string (bs t.text), .int .u8 t.lo, .int .u8 t.hi, .int .i64 t.mn, .int .i64 t.mx, .slice kp t.kids.length kc] 25)) w2.heap.size 25 #[.int .u8 7, .string ⟨#[]⟩, .int .u8 0, .int .u8 0, .int .i64 0, .int .i64 (-1), .slice (some ⟨w6.heap.size, 0, none⟩) 1 1] := (hT6.set_ 6 _).alloc _
          have hK7 : KidsAt ((w6.setCell ⟨w2.heap.size, 6, none⟩ (.slice (some ⟨w6.heap.size, 0, none⟩) 1 1)).alloc (.cells #[.int .u8 t.kind, .string (bs t.text), .int .u8 t.lo, .int .u8 t.hi, .int .i64 t.mn, .int .i64 t.mx, .slice kp t.kids.length kc] 25)) (fun b => w.heap.size + 1 ≤ b) [t] (.slice (some ⟨w6.heap.size, 0, none⟩) 1 1) := by
            refine kid_one t (.slice kp t.kids.length kc) (Blk.new_at _ _ _ _ (by simp [World.setCell])) (hk6'.later (by simp [World.setCell]) (fun b hl hb => ⟨hb.1, ?_⟩)) (by omega) htx6
            exact (Below.heap_alloc _ _ b (by simp [World.setCell]; omega)).trans (Below.heap_setCell _ _ _ _ hb.2)
          have hc6 := hT6.cell
          have hf6 := hT6.frozen
          have HW7 := Lib.hid hW7
          have HB7 := Lib.hid hB7
          have HK7 := Lib.hid hK7
          clear hW7 hB7 hK7 hk6 hk6' hg6 ho6 hIN6 hT6 HTC HIN5 HB5 htx6
          go_upto_region 37 with fail
          clear hc6 hf6
          generalize (w6.setCell ⟨w2.heap.size, 6, none⟩ (.slice (some ⟨w6.heap.size, 0, none⟩) 1 1)).alloc (.cells #[.int .u8 t.kind, .string (bs t.text), .int .u8 t.lo, .int .u8 t.hi, .int .i64 t.mn, .int .i64 t.mx, .slice kp t.kids.length kc] 25) = W7 at *
          have hc7 := HB7.out.cell
          have r0 := HW7.out.res.cell
          have rf := HW7.out.res.frozen
          have hrl := HW7.out.res.lt
          unfold zeroG at r0
          go_wp2
          refine bodyPost_ret (v := treeV (.mk 7 [] 0 0 0 (-1) [t]) (.slice (some ⟨w6.heap.size, 0, none⟩) 1 1)) ?_ rfl ?_
          · simp [results, Tryz.results47, go_sem, r0]
            rfl
          · rw [HT0.out]
            exact gr_end HW7.out (.mk 7 [] 0 0 0 (-1) [t]) (.slice (some ⟨w6.heap.size, 0, none⟩) 1 1) HK7.out (Nat.zero_le _)
        · have hof : oftenG u a1 = (0, 1, a2) := HOF.out
          rw [hof] at HT0
          simp only at HT0
          have HIN5 : Hid (InTree gb UA uc u NA nc names w (w3.setCell ⟨w2.heap.size, 5, none⟩ (.int .i64 1)) a2) := HIN3.out.new w2.heap.size 5 hw2 _
          have HB5 : Hid (Blk (w3.setCell ⟨w2.heap.size, 5, none⟩ (.int .i64 1)) w2.heap.size 25 #[.int .u8 7, .string ⟨#[]⟩, .int .u8 0, .int .u8 0, .int .i64 0, .int .i64 1, .slice none 0 0]) := HT3.out.set_ 5 _
          clear HOF hof HIN3 HT3
          go_upto_region 36 with fail
          clear hc3 hf3
          generalize w3.setCell ⟨w2.heap.size, 5, none⟩ (.int .i64 1) = W5 at *
          have HTC := Lib.hid (HTR.out r' rfl W5 a2 (deep + 1) (by omega) HIN5.out.grow)
          rw [show ((deep + 1 : Nat) : Int) = (deep : Int) + 1 from by omega] at HTC
          have e5 : IntKind.i64.wrap ((deep : Int) + 1) = (deep : Int) + 1 := IntWalk.i64_in _ (by omega)
          generalize growT names u r' a2 = KT at *
          obtain ⟨t, a6⟩ := KT
          go_wp2_with (go_at_call 47; refine HTC.out.mono ?_)
          rintro e w6 ⟨sl, rfl, hk6, htx6, hg6, ho6⟩
          have hIN6 := HIN5.out.step ho6 hg6
          have hT6 : Blk w6 w2.heap.size 25 #[.int .u8 7, .string ⟨#[]⟩, .int .u8 0, .int .u8 0, .int .i64 0, .int .i64 1, .slice none 0 0] := (ho6.block _ HB5.out.lt (fun e => by have := Option.some.inj e; omega)).trans HB5.out
          have hk6' : KidsAt w6 (fun b => w.heap.size + 1 ≤ b ∧ b ≠ w2.heap.size) t.kids sl := hk6.mono (fun b _ hb => ⟨by have := HB5.out.lt; omega, by have := HB5.out.lt; omega⟩)
          obtain ⟨kp, kc, rfl, _⟩ := hk6.form
          unfold treeV
          have hsz6 : w2.heap.size < w6.heap.size := hT6.lt
          have hW7 : InTree gb UA uc u NA nc names w ((w6.setCell ⟨w2.heap.size, 6, none⟩ (.slice (some ⟨w6.heap.size, 0, none⟩) 1 1)).alloc (.cells #[.int .u8 t.kind, .string (bs t.text), .int .u8 t.lo, .int .u8 t.hi, .int .i64 t.mn, .int .i64 t.mx, .slice kp t.kids.length kc] 25)) a6 := (hIN6.new w2.heap.size 6 hw2 _).later ((Below.refl _ _).alloc (Nat.le_refl _) _)
          have hB7 : Blk ((w6.setCell ⟨w2.heap.size, 6, none⟩ (.slice (some ⟨w6.heap.size, 0, none⟩) 1 1)).alloc (.cells #[.int .u8 t.kind, .string (bs t.text), .int .u8 t.lo, .int .u8 t.hi, .int .i64 t.mn, .int .i64 t.mx, .slice kp t.kids.length kc] 25)) w2.heap.size 25 #[.int .u8 7, .string ⟨#[]⟩, .int .u8 0, .int .u8 0, .int .i64 0, .int .i64 1, .slice (some ⟨w6.heap.size, 0, none⟩) 1 1] := (hT6.set_ 6 _).alloc _
          have hK7 : KidsAt ((w6.setCell ⟨w2.heap.size, 6, none⟩ (.slice (some ⟨w6.heap.size, 0, none⟩) 1 1)).alloc (.cells #[.int .u8 t.kind, .string (bs t.text), .int .u8 t.lo, .int .u8 t.hi, .int .i64 t.mn, .int .i64 t.mx, .slice kp t.kids.length kc] 25)) (fun b => w.heap.size + 1 ≤ b) [t] (.slice (some ⟨w6.heap.size, 0, none⟩) 1 1) := by
            refine kid_one t (.slice kp t.kids.length kc) (Blk.new_at _ _ _ _ (by simp [World.setCell])) (hk6'.later (by simp [World.setCell]) (fun b hl hb => ⟨hb.1, ?_⟩)) (by omega) htx6
            exact (Below.heap_alloc _ _ b (by simp [World.setCell]; omega)).trans (Below.heap_setCell _ _ _ _ hb.2)
          have hc6 := hT6.cell
          have hf6 := hT6.frozen
          have HW7 := Lib.hid hW7
          have HB7 := Lib.hid hB7
          have HK7 := Lib.hid hK7
          clear hW7 hB7 hK7 hk6 hk6' hg6 ho6 hIN6 hT6 HTC HIN5 HB5 htx6
          go_upto_region 37 with fail
          clear hc6 hf6
          generalize (w6.setCell ⟨w2.heap.size, 6, none⟩ (.slice (some ⟨w6.heap.size, 0, none⟩) 1 1)).alloc (.cells #[.int .u8 t.kind, .string (bs t.text), .int .u8 t.lo, .int .u8 t.hi, .int .i64 t.mn, .int .i64 t.mx, .slice kp t.kids.length kc] 25) = W7 at *
          have hc7 := HB7.out.cell
          have r0 := HW7.out.res.cell
          have rf := HW7.out.res.frozen
          have hrl := HW7.out.res.lt
          unfold zeroG at r0
          go_wp2
          refine bodyPost_ret (v := treeV (.mk 7 [] 0 0 0 1 [t]) (.slice (some ⟨w6.heap.size, 0, none⟩) 1 1)) ?_ rfl ?_
          · simp [results, Tryz.results47, go_sem, r0]
            rfl
          · rw [HT0.out]
            exact gr_end HW7.out (.mk 7 [] 0 0 0 1 [t]) (.slice (some ⟨w6.heap.size, 0, none⟩) 1 1) HK7.out (Nat.zero_le _)
        · have hof : oftenG u a1 = (1, (-1), a2) := HOF.out
          rw [hof] at HT0
          simp only at HT0
          have HIN5 : Hid (InTree gb UA uc u NA nc names w (w3.setCell ⟨w2.heap.size, 4, none⟩ (.int .i64 1)) a2) := HIN3.out.new w2.heap.size 4 hw2 _
          have HB5 : Hid (Blk (w3.setCell ⟨w2.heap.size, 4, none⟩ (.int .i64 1)) w2.heap.size 25 #[.int .u8 7, .string ⟨#[]⟩, .int .u8 0, .int .u8 0, .int .i64 1, .int .i64 (-1), .slice none 0 0]) := HT3.out.set_ 4 _
          clear HOF hof HIN3 HT3
          go_upto_region 36 with fail
          clear hc3 hf3
          generalize w3.setCell ⟨w2.heap.size, 4, none⟩ (.int .i64 1) = W5 at *
          have HTC := Lib.hid (HTR.out r' rfl W5 a2 (deep + 1) (by omega) HIN5.out.grow)
          rw [show ((deep + 1 : Nat) : Int) = (deep : Int) + 1 from by omega] at HTC
          have e5 : IntKind.i64.wrap ((deep : Int) + 1) = (deep : Int) + 1 := IntWalk.i64_in _ (by omega)
          generalize growT names u r' a2 = KT at *
          obtain ⟨t, a6⟩ := KT
          go_wp2_with (go_at_call 47; refine HTC.out.mono ?_)
          rintro e w6 ⟨sl, rfl, hk6, htx6, hg6, ho6⟩
          have hIN6 := HIN5.out.step ho6 hg6
          have hT6 : Blk w6 w2.heap.size 25 #[.int .u8 7, .string ⟨#[]⟩, .int .u8 0, .int .u8 0, .int .i64 1, .int .i64 (-1), .slice none 0 0] := (ho6.block _ HB5.out.lt (fun e => by have := Option.some.inj e; omega)).trans HB5.out
          have hk6' : KidsAt w6 (fun b => w.heap.size + 1 ≤ b ∧ b ≠ w2.heap.size) t.kids sl := hk6.mono (fun b _ hb => ⟨by have := HB5.out.lt; omega, by have := HB5.out.lt; omega⟩)
          obtain ⟨kp, kc, rfl, _⟩ := hk6.form
          unfold treeV
          have hsz6 : w2.heap.size < w6.heap.size := hT6.lt
          have hW7 : InTree gb UA uc u NA nc names w ((w6.setCell ⟨w2.heap.size, 6, none⟩ (.slice (some ⟨w6.heap.size, 0, none⟩) 1 1)).alloc (.cells #[.int .u8 t.kind, .string (bs t.text), .int .u8 t.lo, .int .u8 t.hi, .int .i64 t.mn, .int .i64 t.mx, .slice kp t.kids.length kc] 25)) a6 := (hIN6.new w2.heap.size 6 hw2 _).later ((Below.refl _ _).alloc (Nat.le_refl _) _)
          have hB7 : Blk ((w6.setCell ⟨w2.heap.size, 6, none⟩ (.slice (some ⟨w6.heap.size, 0, none⟩) 1 1)).alloc (.cells #[.int .u8 t.kind, .string (bs t.text), .int .u8 t.lo, .int .u8 t.hi, .int .i64 t.mn, .int .i64 t.mx, .slice kp t.kids.length kc] 25)) w2.heap.size 25 #[.int .u8 7, .string ⟨#[]⟩, .int .u8 0, .int .u8 0, .int .i64 1, .int .i64 (-1), .slice (some ⟨w6.heap.size, 0, none⟩) 1 1] := (hT6.set_ 6 _).alloc _
          have hK7 : KidsAt ((w6.setCell ⟨w2.heap.size, 6, none⟩ (.slice (some ⟨w6.heap.size, 0, none⟩) 1 1)).alloc (.cells #[.int .u8 t.kind, .string (bs t.text), .int .u8 t.lo, .int .u8 t.hi, .int .i64 t.mn, .int .i64 t.mx, .slice kp t.kids.length kc] 25)) (fun b => w.heap.size + 1 ≤ b) [t] (.slice (some ⟨w6.heap.size, 0, none⟩) 1 1) := by
            refine kid_one t (.slice kp t.kids.length kc) (Blk.new_at _ _ _ _ (by simp [World.setCell])) (hk6'.later (by simp [World.setCell]) (fun b hl hb => ⟨hb.1, ?_⟩)) (by omega) htx6
            exact (Below.heap_alloc _ _ b (by simp [World.setCell]; omega)).trans (Below.heap_setCell _ _ _ _ hb.2)
          have hc6 := hT6.cell
          have hf6 := hT6.frozen
          have HW7 := Lib.hid hW7
          have HB7 := Lib.hid hB7
          have HK7 := Lib.hid hK7
          clear hW7 hB7 hK7 hk6 hk6' hg6 ho6 hIN6 hT6 HTC HIN5 HB5 htx6
          go_upto_region 37 with fail
          clear hc6 hf6
          generalize (w6.setCell ⟨w2.heap.size, 6, none⟩ (.slice (some ⟨w6.heap.size, 0, none⟩) 1 1)).alloc (.cells #[.int .u8 t.kind, .string (bs t.text), .int .u8 t.lo, .int .u8 t.hi, .int .i64 t.mn, .int .i64 t.mx, .slice kp t.kids.length kc] 25) = W7 at *
          have hc7 := HB7.out.cell
          have r0 := HW7.out.res.cell
          have rf := HW7.out.res.frozen
          have hrl := HW7.out.res.lt
          unfold zeroG at r0
          go_wp2
          refine bodyPost_ret (v := treeV (.mk 7 [] 0 0 1 (-1) [t]) (.slice (some ⟨w6.heap.size, 0, none⟩) 1 1)) ?_ rfl ?_
          · simp [results, Tryz.results47, go_sem, r0]
            rfl
          · rw [HT0.out]
            exact gr_end HW7.out (.mk 7 [] 0 0 1 (-1) [t]) (.slice (some ⟨w6.heap.size, 0, none⟩) 1 1) HK7.out (Nat.zero_le _)
        · have hof : oftenG u a1 = (2, 2, a2) := HOF.out
          rw [hof] at HT0
          simp only at HT0
          have HIN5 : Hid (InTree gb UA uc u NA nc names w ((w3.setCell ⟨w2.heap.size, 4, none⟩ (.int .i64 2)).setCell ⟨w2.heap.size, 5, none⟩ (.int .i64 2)) a2) := (HIN3.out.new w2.heap.size 4 hw2 _).new w2.heap.size 5 hw2 _
          have HB5 : Hid (Blk ((w3.setCell ⟨w2.heap.size, 4, none⟩ (.int .i64 2)).setCell ⟨w2.heap.size, 5, none⟩ (.int .i64 2)) w2.heap.size 25 #[.int .u8 7, .string ⟨#[]⟩, .int .u8 0, .int .u8 0, .int .i64 2, .int .i64 2, .slice none 0 0]) := (HT3.out.set_ 4 _).set_ 5 _
          clear HOF hof HIN3 HT3
          go_upto_region 36 with fail
          clear hc3 hf3
          generalize (w3.setCell ⟨w2.heap.size, 4, none⟩ (.int .i64 2)).setCell ⟨w2.heap.size, 5, none⟩ (.int .i64 2) = W5 at *
          have HTC := Lib.hid (HTR.out r' rfl W5 a2 (deep + 1) (by omega) HIN5.out.grow)
          rw [show ((deep + 1 : Nat) : Int) = (deep : Int) + 1 from by omega] at HTC
          have e5 : IntKind.i64.wrap ((deep : Int) + 1) = (deep : Int) + 1 := IntWalk.i64_in _ (by omega)
          generalize growT names u r' a2 = KT at *
          obtain ⟨t, a6⟩ := KT
          go_wp2_with (go_at_call 47; refine HTC.out.mono ?_)
          rintro e w6 ⟨sl, rfl, hk6, htx6, hg6, ho6⟩
          have hIN6 := HIN5.out.step ho6 hg6
          have hT6 : Blk w6 w2.heap.size 25 #[.int .u8 7, .string ⟨#[]⟩, .int .u8 0, .int .u8 0, .int .i64 2, .int .i64 2, .slice none 0 0] := (ho6.block _ HB5.out.lt (fun e => by have := Option.some.inj e; omega)).trans HB5.out
          have hk6' : KidsAt w6 (fun b => w.heap.size + 1 ≤ b ∧ b ≠ w2.heap.size) t.kids sl := hk6.mono (fun b _ hb => ⟨by have := HB5.out.lt; omega, by have := HB5.out.lt; omega⟩)
          obtain ⟨kp, kc, rfl, _⟩ := hk6.form
          unfold treeV
          have hsz6 : w2.heap.size < w6.heap.size := hT6.lt
          have hW7 : InTree gb UA uc u NA nc names w ((w6.setCell ⟨w2.heap.size, 6, none⟩ (.slice (some ⟨w6.heap.size, 0, none⟩) 1 1)).alloc (.cells #[.int .u8 t.kind, .string (bs t.text), .int .u8 t.lo, .int .u8 t.hi, .int .i64 t.mn, .int .i64 t.mx, .slice kp t.kids.length kc] 25)) a6 := (hIN6.new w2.heap.size 6 hw2 _).later ((Below.refl _ _).alloc (Nat.le_refl _) _)
          have hB7 : Blk ((w6.setCell ⟨w2.heap.size, 6, none⟩ (.slice (some ⟨w6.heap.size, 0, none⟩) 1 1)).alloc (.cells #[.int .u8 t.kind, .string (bs t.text), .int .u8 t.lo, .int .u8 t.hi, .int .i64 t.mn, .int .i64 t.mx, .slice kp t.kids.length kc] 25)) w2.heap.size 25 #[.int .u8 7, .string ⟨#[]⟩, .int .u8 0, .int .u8 0, .int .i64 2, .int .i64 2, .slice (some ⟨w6.heap.size, 0, none⟩) 1 1] := (hT6.set_ 6 _).alloc _
          have hK7 : KidsAt ((w6.setCell ⟨w2.heap.size, 6, none⟩ (.slice (some ⟨w6.heap.size, 0, none⟩) 1 1)).alloc (.cells #[.int .u8 t.kind, .string (bs t.text), .int .u8 t.lo, .int .u8 t.hi, .int .i64 t.mn, .int .i64 t.mx, .slice kp t.kids.length kc] 25)) (fun b => w.heap.size + 1 ≤ b) [t] (.slice (some ⟨w6.heap.size, 0, none⟩) 1 1) := by
            refine kid_one t (.slice kp t.kids.length kc) (Blk.new_at _ _ _ _ (by simp [World.setCell])) (hk6'.later (by simp [World.setCell]) (fun b hl hb => ⟨hb.1, ?_⟩)) (by omega) htx6
            exact (Below.heap_alloc _ _ b (by simp [World.setCell]; omega)).trans (Below.heap_setCell _ _ _ _ hb.2)
          have hc6 := hT6.cell
          have hf6 := hT6.frozen
          have HW7 := Lib.hid hW7
          have HB7 := Lib.hid hB7
          have HK7 := Lib.hid hK7
          clear hW7 hB7 hK7 hk6 hk6' hg6 ho6 hIN6 hT6 HTC HIN5 HB5 htx6
          go_upto_region 37 with fail
          clear hc6 hf6
          generalize (w6.setCell ⟨w2.heap.size, 6, none⟩ (.slice (some ⟨w6.heap.size, 0, none⟩) 1 1)).alloc (.cells #[.int .u8 t.kind, .string (bs t.text), .int .u8 t.lo, .int .u8 t.hi, .int .i64 t.mn, .int .i64 t.mx, .slice kp t.kids.length kc] 25) = W7 at *
          have hc7 := HB7.out.cell
          have r0 := HW7.out.res.cell
          have rf := HW7.out.res.frozen
          have hrl := HW7.out.res.lt
          unfold zeroG at r0
          go_wp2
          refine bodyPost_ret (v := treeV (.mk 7 [] 0 0 2 2 [t]) (.slice (some ⟨w6.heap.size, 0, none⟩) 1 1)) ?_ rfl ?_
          · simp [results, Tryz.results47, go_sem, r0]
            rfl
          · rw [HT0.out]
            exact gr_end HW7.out (.mk 7 [] 0 0 2 2 [t]) (.slice (some ⟨w6.heap.size, 0, none⟩) 1 1) HK7.out (Nat.zero_le _)
        · have hof : oftenG u a1 = ((((nextP u a2 3).1 : Nat) : Int), (((nextP u a2 3).1 : Nat) : Int) + ((nextP u (nextP u a2 3).2 3).1 : Nat), (nextP u (nextP u a2 3).2 3).2) := HOF.out
          rw [hof] at HT0
          have hlo := nextP_lt u a2 3 (by omega)
          have HN3 := Lib.hid (next_in HIN3.out 3 (by omega) (by omega))
          generalize nextP u a2 3 = N3 at *
          obtain ⟨lo, a3⟩ := N3
          simp only at hlo HN3 HT0
          clear HOF hof
          go_wp2_with (go_at_call 93; refine HN3.out.mono ?_)
          rintro e w4 ⟨rfl, hIN4, ho4⟩
          have hT4 : Blk w4 w2.heap.size 25 #[.int .u8 7, .string ⟨#[]⟩, .int .u8 0, .int .u8 0, .int .i64 0, .int .i64 (-1), .slice none 0 0] := (ho4.block _ HT3.out.lt (fun e => by have := Option.some.inj e; omega)).trans HT3.out
          have HIN5 : Hid (InTree gb UA uc u NA nc names w (w4.setCell ⟨w2.heap.size, 4, none⟩ (.int .i64 (lo : Nat))) a3) := hIN4.new w2.heap.size 4 hw2 _
          have HB5 : Hid (Blk (w4.setCell ⟨w2.heap.size, 4, none⟩ (.int .i64 (lo : Nat))) w2.heap.size 25 #[.int .u8 7, .string ⟨#[]⟩, .int .u8 0, .int .u8 0, .int .i64 (lo : Nat), .int .i64 (-1), .slice none 0 0]) := hT4.set_ 4 _
          have hc4 := hT4.cell
          have hf4 := hT4.frozen
          clear hIN4 ho4 hT4 HIN3 HT3 hc3 hf3 HN3
          go_upto_region 35 with fail
          clear hc4 hf4
          generalize w4.setCell ⟨w2.heap.size, 4, none⟩ (.int .i64 (lo : Nat)) = W4 at *
          have hhi := nextP_lt u a3 3 (by omega)
          have HN4 := Lib.hid (next_in (HIN5.out.later (Below.refl W4.heap.size W4).drew) 3 (by omega) (by omega))
          generalize nextP u a3 3 = N4 at *
          obtain ⟨hi, a4⟩ := N4
          simp only at hhi HN4 HT0
          have c4 : W4.cell? ⟨w2.heap.size, 4, none⟩ = some (.int .i64 (lo : Nat)) := HB5.out.cell 4
          have e6 : IntKind.i64.wrap ((lo : Int) + (hi : Int)) = (lo : Int) + hi := IntWalk.i64_in _ (by omega)
          have hT4l := HB5.out.lt
          go_region_law (first
            | (go_simp; go_at_call 93; refine HN4.out.mono ?_; rintro e w5 ⟨rfl, hIN5b, ho5⟩; have hT5 : Blk w5 w2.heap.size 25 #[.int .u8 7, .string ⟨#[]⟩, .int .u8 0, .int .u8 0, .int .i64 (lo : Nat), .int .i64 (-1), .slice none 0 0] := (ho5.block w2.heap.size hT4l (fun e => by have := Option.some.inj e; omega)).trans HB5.out; have c45 := hT5.cell; have f45 := hT5.frozen; have HIN6b := Lib.hid (hIN5b.new w2.heap.size 5 hw2 (.int .i64 ((lo : Int) + (hi : Int)))); have HB6b : Hid (Blk (w5.setCell ⟨w2.heap.size, 5, none⟩ (.int .i64 ((lo : Int) + (hi : Int)))) w2.heap.size 25 #[.int .u8 7, .string ⟨#[]⟩, .int .u8 0, .int .u8 0, .int .i64 (lo : Nat), .int .i64 ((lo : Int) + (hi : Int)), .slice none 0 0]) := hT5.set_ 5 _; clear hIN5b ho5 hT5))
          all_goals
            clear c4 c45 f45 HIN5 HB5 HN4 hT4l e6
            generalize w5.setCell ⟨w2.heap.size, 5, none⟩ (.int .i64 ((lo : Int) + (hi : Int))) = W5 at *
            have HIN5 := HIN6b
            have HB5 := HB6b
            clear HIN6b HB6b
            have HTC := Lib.hid (HTR.out r' rfl W5 a4 (deep + 1) (by omega) HIN5.out.grow)
            rw [show ((deep + 1 : Nat) : Int) = (deep : Int) + 1 from by omega] at HTC
            have e5 : IntKind.i64.wrap ((deep : Int) + 1) = (deep : Int) + 1 := IntWalk.i64_in _ (by omega)
            generalize growT names u r' a4 = KT at *
            obtain ⟨t, a6⟩ := KT
            go_wp2_with (go_at_call 47; refine HTC.out.mono ?_)
            rintro e w6 ⟨sl, rfl, hk6, htx6, hg6, ho6⟩
            have hIN6 := HIN5.out.step ho6 hg6
            have hT6 : Blk w6 w2.heap.size 25 #[.int .u8 7, .string ⟨#[]⟩, .int .u8 0, .int .u8 0, .int .i64 (lo : Int), .int .i64 ((lo : Int) + (hi : Int)), .slice none 0 0] := (ho6.block _ HB5.out.lt (fun e => by have := Option.some.inj e; omega)).trans HB5.out
            have hk6' : KidsAt w6 (fun b => w.heap.size + 1 ≤ b ∧ b ≠ w2.heap.size) t.kids sl := hk6.mono (fun b _ hb => ⟨by have := HB5.out.lt; omega, by have := HB5.out.lt; omega⟩)
            obtain ⟨kp, kc, rfl, _⟩ := hk6.form
            unfold treeV
            have hsz6 : w2.heap.size < w6.heap.size := hT6.lt
            have hW7 : InTree gb UA uc u NA nc names w ((w6.setCell ⟨w2.heap.size, 6, none⟩ (.slice (some ⟨w6.heap.size, 0, none⟩) 1 1)).alloc (.cells #[.int .u8 t.kind, .string (bs t.text), .int .u8 t.lo, .int .u8 t.hi, .int .i64 t.mn, .int .i64 t.mx, .slice kp t.kids.length kc] 25)) a6 := (hIN6.new w2.heap.size 6 hw2 _).later ((Below.refl _ _).alloc (Nat.le_refl _) _)
            have hB7 : Blk ((w6.setCell ⟨w2.heap.size, 6, none⟩ (.slice (some ⟨w6.heap.size, 0, none⟩) 1 1)).alloc (.cells #[.int .u8 t.kind, .string (bs t.text), .int .u8 t.lo, .int .u8 t.hi, .int .i64 t.mn, .int .i64 t.mx, .slice kp t.kids.length kc] 25)) w2.heap.size 25 #[.int .u8 7, .string ⟨#[]⟩, .int .u8 0, .int .u8 0, .int .i64 (lo : Int), .int .i64 ((lo : Int) + (hi : Int)), .slice (some ⟨w6.heap.size, 0, none⟩) 1 1] := (hT6.set_ 6 _).alloc _
            have hK7 : KidsAt ((w6.setCell ⟨w2.heap.size, 6, none⟩ (.slice (some ⟨w6.heap.size, 0, none⟩) 1 1)).alloc (.cells #[.int .u8 t.kind, .string (bs t.text), .int .u8 t.lo, .int .u8 t.hi, .int .i64 t.mn, .int .i64 t.mx, .slice kp t.kids.length kc] 25)) (fun b => w.heap.size + 1 ≤ b) [t] (.slice (some ⟨w6.heap.size, 0, none⟩) 1 1) := by
              refine kid_one t (.slice kp t.kids.length kc) (Blk.new_at _ _ _ _ (by simp [World.setCell])) (hk6'.later (by simp [World.setCell]) (fun b hl hb => ⟨hb.1, ?_⟩)) (by omega) htx6
              exact (Below.heap_alloc _ _ b (by simp [World.setCell]; omega)).trans (Below.heap_setCell _ _ _ _ hb.2)
            have hc6 := hT6.cell
            have hf6 := hT6.frozen
            have HW7 := Lib.hid hW7
            have HB7 := Lib.hid hB7
            have HK7 := Lib.hid hK7
            clear hW7 hB7 hK7 hk6 hk6' hg6 ho6 hIN6 hT6 HTC HIN5 HB5 htx6
            go_upto_region 37 with fail
            clear hc6 hf6
            generalize (w6.setCell ⟨w2.heap.size, 6, none⟩ (.slice (some ⟨w6.heap.size, 0, none⟩) 1 1)).alloc (.cells #[.int .u8 t.kind, .string (bs t.text), .int .u8 t.lo, .int .u8 t.hi, .int .i64 t.mn, .int .i64 t.mx, .slice kp t.kids.length kc] 25) = W7 at *
            have hc7 := HB7.out.cell
            have r0 := HW7.out.res.cell
            have rf := HW7.out.res.frozen
            have hrl := HW7.out.res.lt
            unfold zeroG at r0
            go_wp2
            refine bodyPost_ret (v := treeV (.mk 7 [] 0 0 (lo : Int) ((lo : Int) + (hi : Int)) [t]) (.slice (some ⟨w6.heap.size, 0, none⟩) 1 1)) ?_ rfl ?_
            · simp [results, Tryz.results47, go_sem, r0]
              rfl
            · rw [HT0.out]
              exact gr_end HW7.out (.mk 7 [] 0 0 (lo : Int) ((lo : Int) + (hi : Int)) [t]) (.slice (some ⟨w6.heap.size, 0, none⟩) 1 1) HK7.out (Nat.zero_le _)
theorem tree_any (gb : Nat) (UA : Option Addr) (uc : Nat) (u : List Nat) (NA : Option Addr) (nc : Nat) (names : List (List UInt8)) : ∀ r, TreeG gb UA uc u NA nc names r := by
  intro r
  induction r with
  | zero => exact fun w at_ deep hr h => tree_all gb UA uc u NA nc names 0 deep hr w at_ h (fun r' e => by omega)
  | succ r ih => exact fun w at_ deep hr h => tree_all gb UA uc u NA nc names (r + 1) deep hr w at_ h (fun r' e => by obtain rfl : r = r' := (by omega); exact ih)
end Go.Proofs.YtgbipbjpeecooaaGreatDoor

/-
  The contract of frankinglow's Grown. Conditions: the numbers and the names lie in memory; at most 200 numbers, at most 100 names.
-/
namespace Go.Proofs.YtgbipbjpeecooaaGreatDoor
open Go.RowKit

/-- numbers in memory -/
structure NumsAt (w : World) (UA : Option Addr) (u : List Nat) : Prop where
  nums : ∀ i n, u[i]? = some n → ∃ g off, UA = some ⟨g, off, none⟩ ∧ g < w.heap.size ∧ w.cell? ⟨g, off + i, none⟩ = some (.int .u16 (n : Nat))
  small : ∀ n ∈ u, n < 65536
theorem NumsAt.below {w w' : World} {UA : Option Addr} {u : List Nat} (h : NumsAt w UA u) (hb : Below w.heap.size w w') : NumsAt w' UA u := by
  refine ⟨fun i n hi => ?_, h.small⟩
  obtain ⟨g, off, e, hg, hc⟩ := h.nums i n hi
  exact ⟨g, off, e, by have := hb.size; omega, (hb.cell (p := ⟨g, off + i, none⟩) hg).trans hc⟩
/-- names in memory -/
structure WordsAt (w : World) (NA : Option Addr) (names : List (List UInt8)) : Prop where
  words : ∀ i n, names[i]? = some n → ∃ g off, NA = some ⟨g, off, none⟩ ∧ g < w.heap.size ∧ w.cell? ⟨g, off + i, none⟩ = some (.string (bs n))
  few : names.length ≤ 100 ∧ ∀ n ∈ names, n.length ≤ 1000
theorem words_none (w : World) : WordsAt w none [] := ⟨fun i n h => by simp at h, by simp⟩

set_option maxRecDepth 100000 in
set_option maxHeartbeats 2000000 in
theorem Grown_any (UA : Option Addr) (uc : Nat) (u : List Nat) (NA : Option Addr) (nc : Nat) (names : List (List UInt8)) (w : World) (hu : NumsAt w UA u) (hfew : u.length ≤ 200) (hn : WordsAt w NA names) :
    Calls Tryz.prog 19 #[.slice UA u.length uc, .slice NA names.length nc] w fun e w' => ∃ sl, e = .returned (treeV (growT names u 6 0).1 sl) ∧ KidsAt w' (fun b => w.heap.size ≤ b) (growT names u 6 0).1.kids sl ∧ Below w.heap.size w w' := by
  have hb1 : Below w.heap.size w ((w.alloc (.cells #[.int .u8 0, .string ⟨#[]⟩, .int .u8 0, .int .u8 0, .int .i64 0, .int .i64 0, .slice none 0 0] 25)).alloc (.cells #[.slice UA u.length uc, .int .i64 0, .slice NA names.length nc] 98)) := ((Below.refl _ _).alloc (Nat.le_refl _) _).alloc (by simp) _
  have hz1 : ((w.alloc (.cells #[.int .u8 0, .string ⟨#[]⟩, .int .u8 0, .int .u8 0, .int .i64 0, .int .i64 0, .slice none 0 0] 25)).alloc (.cells #[.slice UA u.length uc, .int .i64 0, .slice NA names.length nc] 98)).heap.size = w.heap.size + 2 := by simp
  have hB0 : Blk ((w.alloc (.cells #[.int .u8 0, .string ⟨#[]⟩, .int .u8 0, .int .u8 0, .int .i64 0, .int .i64 0, .slice none 0 0] 25)).alloc (.cells #[.slice UA u.length uc, .int .i64 0, .slice NA names.length nc] 98)) w.heap.size 25 zeroG := (Blk.new _ _ _).alloc _
  have hG : GrowAt ((w.alloc (.cells #[.int .u8 0, .string ⟨#[]⟩, .int .u8 0, .int .u8 0, .int .i64 0, .int .i64 0, .slice none 0 0] 25)).alloc (.cells #[.slice UA u.length uc, .int .i64 0, .slice NA names.length nc] 98)) (w.heap.size + 1) UA uc u NA nc names 0 := by
    refine ⟨Blk.new_at _ _ _ _ (by simp), fun i n hi => ?_, fun i n hi => ?_, Nat.zero_le _, hfew, hu.small, hn.few⟩
    · obtain ⟨g, off, e, hg, hc⟩ := hu.nums i n hi
      exact ⟨g, off, e, by omega, (hb1.cell (p := ⟨g, off + i, none⟩) hg).trans hc⟩
    · obtain ⟨g, off, e, hg, hc⟩ := hn.words i n hi
      exact ⟨g, off, e, by omega, (hb1.cell (p := ⟨g, off + i, none⟩) hg).trans hc⟩
  have HTC := Lib.hid (tree_any (w.heap.size + 1) UA uc u NA nc names 6 _ 0 0 (by omega) hG)
  have HB1 := Lib.hid hb1
  have HB0 := Lib.hid hB0
  have HZ1 := Lib.hid hz1
  generalize growT names u 6 0 = T at *
  obtain ⟨t, a⟩ := T
  simp only
  rw [show ((0 : Nat) : Int) = 0 from rfl] at HTC
  clear hb1 hz1 hB0 hG hu hn
  go_enter Tryz.func19, Tryz.ntmps19
  go_wp2_with (go_at_call 47; refine HTC.out.mono ?_)
  rintro e w2 ⟨sl, rfl, hk2, htx2, hg2, ho2⟩
  obtain ⟨kp, kc, rfl, _⟩ := hk2.form
  have hres : Blk w2 w.heap.size 25 zeroG := (ho2.block _ (by rw [HZ1.out]; omega) (fun e => by have := Option.some.inj e; omega)).trans HB0.out
  have hb2 : Below w.heap.size w w2 := ⟨ho2.os.trans HB1.out.os, ho2.tape.trans HB1.out.tape, ho2.output.trans HB1.out.output, Nat.le_trans HB1.out.size ho2.size, fun k hk => (ho2.block k (by rw [HZ1.out]; omega) (fun e => by have := Option.some.inj e; omega)).trans (HB1.out.block k hk)⟩
  have hk3 : KidsAt w2 (fun b => w.heap.size + 1 ≤ b) t.kids (.slice kp t.kids.length kc) := hk2.mono (fun b _ hb => by rw [HZ1.out] at hb; omega)
  have HK3 := Lib.hid hk3
  have HB2 := Lib.hid hb2
  have r0 := hres.cell
  have rf := hres.frozen
  have hrl := hres.lt
  unfold zeroG at r0
  unfold treeV
  clear hk2 hk3 hb2 hres hg2 ho2 HTC HB0 HB1 HZ1
  go_wp2
  refine bodyPost_ret (v := treeV t (.slice kp t.kids.length kc)) ?_ rfl ⟨_, rfl, ?_, ?_⟩
  · simp [results, Tryz.results19, go_sem, r0]
    rfl
  · change KidsAt (put7 w2 w.heap.size 0 t (.slice kp t.kids.length kc)) (fun b => w.heap.size ≤ b) t.kids (.slice kp t.kids.length kc)
    exact HK3.out.later (by rw [put7_size]; exact Nat.le_refl _) (fun b _ hF => ⟨by omega, put7_block _ _ _ _ _ b (by omega)⟩)
  · exact put7_below HB2.out w.heap.size 0 t (.slice kp t.kids.length kc) (Nat.le_refl _)
end Go.Proofs.YtgbipbjpeecooaaGreatDoor

/-
  What AbnfLeaves asks of tokens and rules, in plain terms: strings.ToLower of names, places of rules. No conditions.
-/
namespace Go.Proofs.YtgbipbjpeecooaaGreatDoor
open Go.RowKit

theorem lower_small (c : UInt8) : Lib.lowerB c = smallC c := byte_all (p := fun c => Lib.lowerB c = smallC c) (by decide +kernel) c
theorem toLower_small (l : List UInt8) : Lib.toLowerA l = l.map smallC := by
  unfold Lib.toLowerA
  exact List.map_congr_left (fun c _ => lower_small c)
theorem ascii_of_small (c : UInt8) : nameTailZ (smallC c).toNat = true → c.toNat < 128 := byte_all (p := fun c => nameTailZ (smallC c).toNat = true → c.toNat < 128) (by decide +kernel) c
theorem name_tail {l : List UInt8} (h : nameB l = true) : ∀ c ∈ l, nameTailZ c.toNat = true := by
  cases l with
  | nil => intro c hc; cases hc
  | cons a r =>
    have e : nameB (a :: r) = (smallZ a.toNat && r.all (fun c => nameTailZ c.toNat)) := rfl
    rw [e, Bool.and_eq_true, List.all_eq_true] at h
    intro c hc
    rcases List.mem_cons.1 hc with rfl | hc
    · unfold nameTailZ
      rw [h.1]
      rfl
    · exact h.2 c hc
theorem name_ascii {l : List UInt8} (h : nameB (l.map smallC) = true) : ∀ c ∈ l, c.toNat < 128 := fun c hc =>
  ascii_of_small c (name_tail h (smallC c) (List.mem_map_of_mem hc))
/-- the contract of strings.ToLower at a name -/
theorem lower_any (l : List UInt8) (hlen : l.length ≤ 65536) (ha : ∀ c ∈ l, c.toNat < 128) (w : World) :
    Calls Tryz.prog 24 #[.string (bs l)] w fun e w' => e = .returned (.string (bs (l.map smallC))) ∧ Below w.heap.size w w' := by
  refine (Tryz.strings_ToLower_ascii (bs l) w (by rw [bs_size]; omega) (fun j b hb => ha b (by rw [bs_toList] at hb; exact List.mem_of_getElem? hb))).mono ?_
  rintro e w' ⟨rfl, hb⟩
  rw [bs_toList, toLower_small]
  exact ⟨rfl, hb⟩
theorem lex_short (l : List UInt8) (h : l.length ≤ 65536) : Short (lexP l).1 := fun _ t ht => Nat.le_trans (lex_fine l t (List.mem_of_getElem? ht)).2 h
theorem lex_clean (l : List UInt8) : CleanL (lexP l).1 := fun t ht => (lex_fine l t ht).1
theorem tok_name {l : List UInt8} {t : Tk} (h : TokOk l t) (hk : t.kind = 1) : ∃ p : Nat, t.place = p ∧ t.text.length + p ≤ l.length ∧ (l.drop p).take t.text.length = t.text := by
  obtain ⟨p, hp, hl, h13 | ⟨sg, hsg, hpre, hkd⟩⟩ := h
  · omega
  · refine ⟨p, hp, ?_⟩
    have e : sg = t.text := by
      rcases hkd with h | h | h | h
      · exact h.2
      · omega
      · omega
      · exfalso
        simp only [signs, List.mem_cons, Prod.mk.injEq, List.not_mem_nil, or_false] at h
        omega
    subst e
    have := hpre.length_le
    rw [List.length_drop] at this
    exact ⟨by omega, (List.prefix_iff_eq_take.1 hpre).symm⟩
/-- what is known of a rule of a text -/
def RuleIn (l : List UInt8) (r : Rl) : Prop := rightB r.tree = true ∧ ∃ (p : Nat) (x : List UInt8), r.place = p ∧ r.name = x.map smallC ∧ x.length + p ≤ l.length ∧ (l.drop p).take x.length = x ∧ Ascii x
theorem leaves_ok (l : List UInt8) (h : l.length ≤ 65536) (he : (lexP l).2.2 = 0) (hp : (parseP (lexP l).1).2.2 = 0) :
    (parseP (lexP l).1).1.flatMap ruleLeaves = wantL (lexP l).1 ∧ (parseP (lexP l).1).2.1 = 0 ∧ ∀ r ∈ (parseP (lexP l).1).1, RuleIn l r := by
  obtain ⟨h1, h2, h3⟩ := (parseP_leaves (lex_clean l)).1 hp
  refine ⟨h1, h2, fun r hr => ?_⟩
  obtain ⟨hr1, t, ht, hk, hpl, hnm, hn⟩ := h3 r hr
  obtain ⟨i, hi⟩ := List.getElem?_of_mem ht
  have hok := (((lex_whole l h).1 he).2.1 i t hi).2.2
  obtain ⟨p, hpp, hlen, htk⟩ := tok_name hok hk
  exact ⟨hr1, p, t.text, hpl.trans hpp, hnm, hlen, htk, (lex_clean l t ht).2.2 hk⟩
theorem leaves_bad (l : List UInt8) (h : l.length ≤ 65536) (he : (lexP l).2.2 = 0) (hp : (parseP (lexP l).1).2.2 ≠ 0) :
    (parseP (lexP l).1).1 = [] ∧ ∃ p : Nat, (parseP (lexP l).1).2.1 = p ∧ p ≤ l.length := by
  obtain ⟨h1, t, ht, h2⟩ := (parseP_leaves (lex_clean l)).2 hp
  obtain ⟨i, hi⟩ := List.getElem?_of_mem ht
  obtain ⟨p, hpp, hpl, _⟩ := (((lex_whole l h).1 he).2.1 i t hi).2.2
  exact ⟨h1, p, h2.trans hpp, hpl⟩
theorem parse_nil : parseP [] = ([], 0, 0) := rfl
theorem wantL_len (l : List Tk) : (wantL l).length ≤ l.length := by
  unfold wantL
  rw [List.length_map]
  exact List.length_filter_le _ _
end Go.Proofs.YtgbipbjpeecooaaGreatDoor

/-
  The library's contracts that the proofs use, at this translation's numbers. Each is one application of the library's theorem. No conditions of their own.
-/
namespace Go.Proofs
open Go.Shelf
def Tryz.lays105_ren : Go.Shelf.Ren := ⟨fun | 105 => 23 | 212 => 49 | 99 => 50 | 165 => 51 | 166 => 52 | 170 => 53 | 169 => 44 | 263 => 96 | 264 => 97 | 206 => 95 | 240 => 98 | 241 => 99 | 276 => 136 | 277 => 137 | n => n, fun | 9 => 9 | 3 => 3 | 4 => 4 | 20 => 20 | 0 => 0 | 46 => 100 | 109 => 101 | 5 => 5 | 72 => 89 | 76 => 105 | 51 => 141 | 146 => 142 | 53 => 144 | 148 => 145 | 70 => 86 | 37 => 87 | 75 => 104 | 127 => 136 | 164 => 169 | 80 => 94 | n => n, fun | n => n⟩
theorem Tryz.lays105 : Go.Proofs.Lays.n105 Tryz.prog Tryz.lays105_ren := {
  mixed := by kernel_rfl
  f99 := Tryz.func50.trans (congrArg some (by kernel_rfl))
  f105 := Tryz.func23.trans (congrArg some (by kernel_rfl))
  f165 := Tryz.func51.trans (congrArg some (by kernel_rfl))
  f166 := Tryz.func52.trans (congrArg some (by kernel_rfl))
  f169 := Tryz.func44.trans (congrArg some (by kernel_rfl))
  f170 := Tryz.func53.trans (congrArg some (by kernel_rfl))
  f206 := Tryz.func95.trans (congrArg some (by kernel_rfl))
  f212 := Tryz.func49.trans (congrArg some (by kernel_rfl))
  f240 := Tryz.func98.trans (congrArg some (by kernel_rfl))
  f241 := Tryz.func99.trans (congrArg some (by kernel_rfl))
  f263 := Tryz.func96.trans (congrArg some (by kernel_rfl))
  f264 := Tryz.func97.trans (congrArg some (by kernel_rfl))
  f276 := Tryz.func136.trans (congrArg some (by kernel_rfl))
  f277 := Tryz.func137.trans (congrArg some (by kernel_rfl))
  t0 := Tryz.underlying0
  a0 := Tryz.isAgg0
  z0 := Tryz.sizeOf0
  v0 := Tryz.zeroValue0
  t3 := Tryz.underlying3
  a3 := Tryz.isAgg3
  z3 := Tryz.sizeOf3
  v3 := Tryz.zeroValue3
  t4 := Tryz.underlying4
  a4 := Tryz.isAgg4
  z4 := Tryz.sizeOf4
  v4 := Tryz.zeroValue4
  t5 := Tryz.underlying5
  a5 := Tryz.isAgg5
  z5 := Tryz.sizeOf5
  v5 := Tryz.zeroValue5
  t9 := Tryz.underlying9
  a9 := Tryz.isAgg9
  z9 := Tryz.sizeOf9
  v9 := Tryz.zeroValue9
  t20 := Tryz.underlying20
  a20 := Tryz.isAgg20
  z20 := Tryz.sizeOf20
  v20 := Tryz.zeroValue20
  t37 := Tryz.underlying87
  a37 := Tryz.isAgg87
  z37 := Tryz.sizeOf87
  v37 := Tryz.zeroValue87
  t46 := Tryz.underlying100
  a46 := Tryz.isAgg100
  z46 := Tryz.sizeOf100
  v46 := Tryz.zeroValue100
  t51 := Tryz.underlying141
  a51 := Tryz.isAgg141
  z51 := Tryz.sizeOf141
  v51 := Tryz.zeroValue141
  t53 := Tryz.underlying144
  a53 := Tryz.isAgg144
  z53 := Tryz.sizeOf144
  v53 := Tryz.zeroValue144
  t70 := Tryz.underlying86
  a70 := Tryz.isAgg86
  z70 := Tryz.sizeOf86
  v70 := Tryz.zeroValue86
  t72 := Tryz.underlying89
  a72 := Tryz.isAgg89
  z72 := Tryz.sizeOf89
  v72 := Tryz.zeroValue89
  t75 := Tryz.underlying104
  a75 := Tryz.isAgg104
  z75 := Tryz.sizeOf104
  v75 := Tryz.zeroValue104
  t76 := Tryz.underlying105
  a76 := Tryz.isAgg105
  z76 := Tryz.sizeOf105
  v76 := Tryz.zeroValue105
  t109 := Tryz.underlying101
  a109 := Tryz.isAgg101
  z109 := Tryz.sizeOf101
  v109 := Tryz.zeroValue101
  t127 := Tryz.underlying136
  a127 := Tryz.isAgg136
  z127 := Tryz.sizeOf136
  v127 := Tryz.zeroValue136
  t146 := Tryz.underlying142
  a146 := Tryz.isAgg142
  z146 := Tryz.sizeOf142
  v146 := Tryz.zeroValue142
  t148 := Tryz.underlying145
  a148 := Tryz.isAgg145
  z148 := Tryz.sizeOf145
  v148 := Tryz.zeroValue145
  t164 := Tryz.underlying169
  a164 := Tryz.isAgg169
  z164 := Tryz.sizeOf169
  v164 := Tryz.zeroValue169 }
theorem Tryz.Builder_Extra_105 : Builder.Extra Tryz.prog Tryz.lays105_ren := {
  sizeBuilder := by kernel_rfl
  liesBuilder := by kernel_rfl
  t5 := Tryz.underlying5
  a5 := Tryz.isAgg5
  z5 := Tryz.sizeOf5
  v5 := Tryz.zeroValue5
  infoByte := by kernel_rfl
  cellsByte := by kernel_rfl
  sizeByte := by kernel_rfl
  neB5 := by decide }
open Go.RowKit Go.Lib in
theorem Tryz.strings_Repeat (s : ByteArray) (c : Nat) (w : World) (hc : c ≤ 9223372036854775807) (hlen : s.size * c ≤ 140737488355328) :
    Calls Tryz.prog 23 #[.string s, .int .i64 c] w fun e w' => e = .returned (.string ⟨(Lib.repeatL s.data.toList c).toArray⟩) ∧ Below w.heap.size w w' := Any.strings_Repeat Tryz.lays105 Tryz.Builder_Extra_105 s c w hc hlen
end Go.Proofs
