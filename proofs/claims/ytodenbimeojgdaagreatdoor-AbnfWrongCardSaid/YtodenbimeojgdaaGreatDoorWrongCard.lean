/-
  AbnfWrong answers true for every input, and leaves its arguments as they were: the row, and the tied card. Conditions: the listed tables as the program's text lays them (the card ties them).
-/
import Derived.Test.YtodenbimeojgdaaGreatDoorM08
import Derived.Lib.Replace
import Derived.Shelf.Strings.Builder1
import Derived.Shelf.Strings.Builder2
import Derived.Shelf.Small.Strs
import Derived.Shelf.Strings.BuilderF
import Derived.Shelf.Strings.BuilderK
import Derived.Shelf.Strconv.Itoa0
import Derived.Shelf.Strconv.Itoa1
import Derived.Shelf.LaysM
import Derived.Shelf.Strconv.Itoa2
import Derived.Shelf.Strconv.Itoa3
import Derived.Shelf.Strconv.Clone
import Derived.Shelf.Strings.Search1
import Derived.Shelf.Strings.Search2
import Derived.Shelf.Strings.Search3
import Derived.Shelf.Strings.Count
import Derived.Shelf.Strings.Shaped
import Derived.Shelf.Strings.Prefix
import Derived.Shelf.Strings.Split
import Derived.Shelf.Strings.Replace
import Derived.Shelf.Bits.Mul64
import Derived.Shelf.Strings.Repeat
import Derived.Shelf.Unicode.DecodeSlow
import Derived.Shelf.Unicode.DecodeAny
import Derived.Test.YtodenbimeojgdaaGreatDoorProg
import Derived.Test.YtodenbimeojgdaaGreatDoorM01
import Derived.BigRegion
import Derived.Test.YtodenbimeojgdaaGreatDoorTie
import Derived.Test.YtodenbimeojgdaaGreatDoorCards
import Derived.WalkKit
import Derived.ProofKit
import Derived.OpenShut
import Derived.LaidMore
import Derived.Lay
import Derived.SevenTiedAt
import Derived.Stop.Joined
import Derived.Stop.LaidErr
import Derived.Lib.LaidTab
import Derived.Deep.DeepHandedRow
import Derived.Deep.Matrix
import Derived.HandedShaped
import Derived.ShutString
import Derived.ChangeOld
import Derived.Below
/-
  Texts of one rule a line, one behind the other: their tokens are those of each line, as far behind, in plain terms. No conditions.
-/
namespace Go.Proofs.YtodenbimeojgdaaGreatDoor
open Go.RowKit

/-- a line that begins a rule, and its tokens -/
structure LineOk (x : List UInt8) (tk : List Tk) : Prop where
  no10 : No10 x
  first : ∃ c q, x = c :: q ∧ letterZ c.toNat = true
  toks : tokensP x 0 [] = (tk, 0, 0)
theorem LineOk.idle {x : List UInt8} {tk : List Tk} (h : LineOk x tk) : idleB x = false := by
  obtain ⟨c, q, hr, hc⟩ := h.first
  rw [hr, idle_cons]
  have h1 : ((c.toNat : Int) == 59) = false ∧ blankZ c.toNat = false := byte_all (p := fun c => letterZ c.toNat = true → ((c.toNat : Int) == 59) = false ∧ blankZ c.toNat = false) (by decide +kernel) c hc
  rw [h1.1, h1.2]
  rfl
theorem LineOk.letter {x : List UInt8} {tk : List Tk} (h : LineOk x tk) : letterZ (byteZ x 0) = true := by
  obtain ⟨c, q, hr, hc⟩ := h.first
  rw [hr, byteZ_cons]
  exact hc
theorem LineOk.pos {x : List UInt8} {tk : List Tk} (h : LineOk x tk) : 0 < x.length := by
  obtain ⟨c, q, hr, _⟩ := h.first
  rw [hr]
  simp
theorem LineOk.line {x : List UInt8} {tk : List Tk} (h : LineOk x tk) (o : Bool) : lineP x 0 [] o = ⟨(if o = true then [endTok 0] else []) ++ tk, true, 0, 0⟩ := by
  unfold lineP
  rw [if_neg (by rw [h.idle]; exact Bool.false_ne_true), if_pos h.letter]
  have e : tokensP x 0 ((if o = true then [endTok 0] else []) ++ []) = ((if o = true then [endTok 0] else []) ++ tk, 0, 0) := by
    have := tokens_app x 0 (if o = true then [endTok 0] else []) (x.length + 1) 0 []
    have ht : tokensF x 0 (x.length + 1) 0 [] = (tk, 0, 0) := h.toks
    rw [ht] at this
    exact this
  rw [List.append_nil] at e
  rw [show (if o = true then ([] : List Tk) ++ [endTok 0] else []) = (if o = true then [endTok 0] else []) from by cases o <;> rfl, e]
theorem LineOk.run {x : List UInt8} {tk : List Tk} (h : LineOk x tk) (o : Bool) : run x 0 [] o = .inl ((if o = true then [endTok 0] else []) ++ tk, true) := by
  rw [run_step h.pos, cut_no10 x h.no10, h.line o, if_neg (by simp)]
  exact run_end (Nat.le_refl _)

abbrev Lin := List UInt8 × List Tk
def joinX : List Lin → List UInt8
  | [] => []
  | p :: r => p.1 ++ [10] ++ joinX r
def toksX (d : Nat) (o : Bool) : List Lin → List Tk
  | [] => []
  | p :: r => ((if o = true then [endTok 0] else []) ++ p.2).map (sh d) ++ toksX (d + p.1.length + 1) true r
def rowsX (d : Nat) : List Lin → List Tk
  | [] => []
  | p :: r => p.2.map (sh d) ++ endTok (d + p.1.length + 1) :: rowsX (d + p.1.length + 1) r
theorem joinX_app (ps qs : List Lin) : joinX (ps ++ qs) = joinX ps ++ joinX qs := by
  induction ps with
  | nil => rfl
  | cons p r ih =>
    show p.1 ++ [10] ++ joinX (r ++ qs) = p.1 ++ [10] ++ joinX r ++ joinX qs
    rw [ih]
    simp
theorem joinX_len (p : Lin) (r : List Lin) : (joinX (p :: r)).length = p.1.length + 1 + (joinX r).length := by
  show (p.1 ++ [10] ++ joinX r).length = _
  simp only [List.length_append, List.length_cons, List.length_nil]
theorem rowsX_app (ps qs : List Lin) : ∀ d, rowsX d (ps ++ qs) = rowsX d ps ++ rowsX (d + (joinX ps).length) qs := by
  induction ps with
  | nil => intro d; rfl
  | cons p r ih =>
    intro d
    show p.2.map (sh d) ++ endTok (d + p.1.length + 1) :: rowsX (d + p.1.length + 1) (r ++ qs) = (p.2.map (sh d) ++ endTok (d + p.1.length + 1) :: rowsX (d + p.1.length + 1) r) ++ _
    rw [ih, joinX_len, show d + (p.1.length + 1 + (joinX r).length) = d + p.1.length + 1 + (joinX r).length from by omega]
    simp
theorem sh_sh (a b : Nat) (t : Tk) : sh b (sh a t) = sh (a + b) t := by
  simp only [sh, Tk.mk.injEq, and_true, true_and]
  omega
theorem sh_map (a b : Nat) (l : List Tk) : (l.map (sh a)).map (sh b) = l.map (sh (a + b)) := by
  rw [List.map_map]
  exact List.map_congr_left (fun t _ => sh_sh a b t)
theorem sh_zero (l : List Tk) : l.map (sh 0) = l := by
  conv => rhs; rw [← List.map_id l]
  exact List.map_congr_left (fun t _ => by simp [sh])
theorem toksX_sh (k : Nat) : ∀ (ps : List Lin) (d : Nat) (o : Bool), (toksX d o ps).map (sh k) = toksX (d + k) o ps := by
  intro ps
  induction ps with
  | nil => intro d o; rfl
  | cons p r ih =>
    intro d o
    show (((if o = true then [endTok 0] else []) ++ p.2).map (sh d) ++ toksX (d + p.1.length + 1) true r).map (sh k) = _
    rw [List.map_append, sh_map, ih]
    show _ = ((if o = true then [endTok 0] else []) ++ p.2).map (sh (d + k)) ++ toksX (d + k + p.1.length + 1) true r
    rw [show d + p.1.length + 1 + k = d + k + p.1.length + 1 from by omega]
theorem run_join : ∀ (ps : List Lin) (o : Bool), (∀ p ∈ ps, LineOk p.1 p.2) → run (joinX ps) 0 [] o = .inl (toksX 0 o ps, o || !ps.isEmpty) := by
  intro ps
  induction ps with
  | nil =>
    intro o _
    have e : run ([] : List UInt8) 0 [] o = .inl ([], o) := run_end (Nat.le_refl _)
    show run ([] : List UInt8) 0 [] o = _
    rw [e]
    simp [toksX]
  | cons p r ih =>
    intro o h
    have hp := h p (by simp)
    have hr := ih true (fun q hq => h q (List.mem_cons_of_mem _ hq))
    have hnl := run_nl p.1 p.1.length 0 [] o _ (by omega) (by omega) (hp.run o)
    have hfirst := run_first p.1 (joinX r) (p.1.length + 1) 0 [] o (by omega) (by omega)
    rw [hnl] at hfirst
    simp only at hfirst
    have hlen : (p.1 ++ [10]).length = p.1.length + 1 := by simp
    have hbeh := run_behind (p.1 ++ [10]) (joinX r) ((if o = true then [endTok 0] else []) ++ p.2) (joinX r).length 0 [] true (by omega) (by omega)
    rw [hr] at hbeh
    simp only [List.map_nil, List.append_nil, Nat.zero_add, hlen] at hbeh
    show run (p.1 ++ [10] ++ joinX r) 0 [] o = _
    rw [hfirst, hbeh, toksX_sh]
    show Sum.inl (_, true || !r.isEmpty) = Sum.inl (((if o = true then [endTok 0] else []) ++ p.2).map (sh 0) ++ toksX (0 + p.1.length + 1) true r, o || !(p :: r).isEmpty)
    rw [sh_zero, show 0 + (p.1.length + 1) = 0 + p.1.length + 1 from by omega]
    simp
theorem toks_close : ∀ (ps : List Lin) (d : Nat), toksX d true ps ++ [endTok (d + (joinX ps).length)] = endTok d :: rowsX d ps := by
  intro ps
  induction ps with
  | nil => intro d; rfl
  | cons p r ih =>
    intro d
    have h := ih (d + p.1.length + 1)
    rw [joinX_len, show d + (p.1.length + 1 + (joinX r).length) = d + p.1.length + 1 + (joinX r).length from by omega]
    show (([endTok 0] ++ p.2).map (sh d) ++ toksX (d + p.1.length + 1) true r) ++ _ = endTok d :: (p.2.map (sh d) ++ endTok (d + p.1.length + 1) :: rowsX (d + p.1.length + 1) r)
    rw [List.append_assoc, h, List.map_append, List.map_singleton, sh_end, Nat.zero_add]
    rfl
/-- the tokens of rules, one a line -/
theorem lex_join (ps : List Lin) (hne : ps ≠ []) (h : ∀ p ∈ ps, LineOk p.1 p.2) (hl : (joinX ps).length ≤ 65536) : lexP (joinX ps) = (rowsX 0 ps, 0, 0) := by
  rw [lexP_run _ hl, run_join ps false h]
  cases ps with
  | nil => exact absurd rfl hne
  | cons p r =>
    show (closed (joinX (p :: r)) (toksX 0 false (p :: r)) true, 0, 0) = _
    have hc := toks_close r (0 + p.1.length + 1)
    unfold closed
    rw [if_pos rfl, joinX_len]
    show ((([] ++ p.2).map (sh 0) ++ toksX (0 + p.1.length + 1) true r) ++ [endTok (p.1.length + 1 + (joinX r).length)], 0, 0) = (p.2.map (sh 0) ++ endTok (0 + p.1.length + 1) :: rowsX (0 + p.1.length + 1) r, 0, 0)
    rw [List.append_assoc, show p.1.length + 1 + (joinX r).length = 0 + p.1.length + 1 + (joinX r).length from by omega, hc, List.nil_append]

/-! ### printed rules, one a line -/
def xRule (t : Tr) : List UInt8 := [120] ++ [32, 61, 32] ++ printD 100 t
def ruleT (t : Tr) : List Tk := { kind := 1, text := [120] } :: { kind := 2 } :: toksD 100 t
structure RowOkX (p : Lin) (t : Tr) : Prop where
  line : LineOk p.1 p.2
  bare : p.2.map bare = ruleT t
  right : rightB t = true
inductive Rows2 : List Lin → List Tr → Prop where
  | nil : Rows2 [] []
  | cons {p : Lin} {t : Tr} {ps : List Lin} {ts : List Tr} : RowOkX p t → Rows2 ps ts → Rows2 (p :: ps) (t :: ts)
theorem row_of (t : Tr) (ht : rightB t = true) (hb : byteD 100 t) : ∃ tk, RowOkX (xRule t, tk) t := by
  have hm : Mid (printD 100 t) (toksD 100 t) := by
    have := print_reads 100 t ht hb [] [] (.inl rfl) mid_nil
    rw [List.append_nil, List.append_nil] at this
    exact this
  have hn : ∃ c r, ([120] : List UInt8) = c :: r ∧ letterZ c.toNat = true ∧ ∀ d ∈ ([120] : List UInt8), namedZ d.toNat = true := ⟨120, [], rfl, by decide, by decide⟩
  obtain ⟨tk, h1, h2⟩ := mid_rule [120] hn false (printD 100 t) (toksD 100 t) hm
  exact ⟨tk, ⟨(No10.app (by unfold No10; decide) (by unfold No10; decide)).app (no10_print 100 t ht), ⟨120, _, rfl, by decide⟩, h1⟩, h2, ht⟩
theorem name_x : nameB (([120] : List UInt8).map smallC) = true := by decide
/-- rules that are read, whatever stands behind them -/
theorem parse_rows : ∀ (ps : List Lin) (ts : List Tr), Rows2 ps ts → ∀ (l : List Tk) (at_ f d : Nat) (acc : List Rl) (rest : List Tk), restB l at_ = (rowsX d ps).map bare ++ rest → l.length < f + at_ →
    ∃ f' rs, rs.length = ps.length ∧ l.length < f' + (at_ + (rowsX d ps).length) ∧ parseF l f at_ acc = parseF l f' (at_ + (rowsX d ps).length) (acc ++ rs) := by
  intro ps ts h
  induction h with
  | nil => intro l at_ f d acc rest _ hf; exact ⟨f, [], rfl, hf, by simp [rowsX]⟩
  | @cons p t r ts hp hr ih =>
    intro l at_ f d acc rest hR hf
    have hlen2 : (toksD 100 t).length + 2 = p.2.length := by
      have := congrArg List.length hp.bare
      simp [ruleT] at this
      omega
    have e1 : (rowsX d (p :: r)).map bare = { kind := 1, text := [120] } :: { kind := if false = true then 3 else 2 } :: (toksD 100 t ++ { kind := 13 } :: (rowsX (d + p.1.length + 1) r).map bare) := by
      show (p.2.map (sh d) ++ endTok (d + p.1.length + 1) :: rowsX (d + p.1.length + 1) r).map bare = _
      rw [List.map_append, map_bare_sh, hp.bare]
      rfl
    have e2 : (rowsX d (p :: r)).length = 3 + (toksD 100 t).length + (rowsX (d + p.1.length + 1) r).length := by
      show (p.2.map (sh d) ++ endTok (d + p.1.length + 1) :: rowsX (d + p.1.length + 1) r).length = _
      rw [List.length_append, List.length_map, List.length_cons]
      omega
    rw [e1] at hR
    have hR1 : restB l at_ = { kind := 1, text := [120] } :: { kind := if false = true then 3 else 2 } :: (toksD 100 t ++ { kind := 13 } :: ((rowsX (d + p.1.length + 1) r).map bare ++ rest)) := by
      rw [hR]
      simp
    have hrule := rule_of hR1 name_x (contT_of t hp.right)
    have hlt : at_ < l.length := by
      obtain ⟨⟨u, hu, _⟩, _⟩ := rest_cons hR1
      exact (List.getElem?_eq_some_iff.1 hu).1
    obtain ⟨f, rfl⟩ : ∃ g, f = g + 1 := ⟨f - 1, by omega⟩
    have hR2 : restB l (at_ + 3 + (toksD 100 t).length) = (rowsX (d + p.1.length + 1) r).map bare ++ rest := by
      have := rest_drop (a := { kind := 1, text := [120] } :: { kind := if false = true then 3 else 2 } :: (toksD 100 t ++ [{ kind := 13 }])) (b := (rowsX (d + p.1.length + 1) r).map bare ++ rest) (l := l) (at_ := at_) (by rw [hR1]; simp)
      rw [← this]
      congr 1
      simp
      omega
    obtain ⟨f', rs, h1, h2, h3⟩ := ih l (at_ + 3 + (toksD 100 t).length) f (d + p.1.length + 1) (acc ++ [{ name := [120].map smallC, place := placeP l at_, more := false, tree := t }]) rest hR2 (by omega)
    have e3 : at_ + (rowsX d (p :: r)).length = at_ + 3 + (toksD 100 t).length + (rowsX (d + p.1.length + 1) r).length := by rw [e2]; omega
    refine ⟨f', { name := [120].map smallC, place := placeP l at_, more := false, tree := t } :: rs, by simp [h1], by rw [e3]; exact h2, ?_⟩
    rw [parseF_some hlt hrule, if_pos hp.right, h3, e3, List.append_assoc]
    rfl
end Go.Proofs.YtodenbimeojgdaaGreatDoor

/-
  What the parser makes of a rule hangs on that rule's tokens alone, in plain terms. No conditions.
-/
namespace Go.Proofs.YtodenbimeojgdaaGreatDoor
open Go.RowKit

/-- from a place on the tokens are these, but for their places -/
def Same (l : List Tk) (at_ : Nat) (m : List Tk) : Prop := ∀ i, i < m.length → (l[at_ + i]?).map bare = (m[i]?).map bare

theorem how_past {m : List Tk} {i : Nat} (hi : m.length ≤ i) : howP m i = (noTree, i) := by
  unfold howP
  rw [List.getElem?_eq_none hi]
section
variable {l : List Tk} {at_ : Nat} {m : List Tk} (S : Same l at_ m)
include S
theorem same_at {i : Nat} (hi : i < m.length) : ∃ u t, l[at_ + i]? = some u ∧ m[i]? = some t ∧ bare u = bare t := by
  have h := S i hi
  have hm : m[i]? = some m[i] := List.getElem?_eq_getElem hi
  rw [hm] at h
  cases hl : l[at_ + i]? with
  | none => rw [hl] at h; simp at h
  | some u =>
    rw [hl] at h
    exact ⟨u, m[i], rfl, hm, by simpa using h⟩
theorem same_lt {i : Nat} (hi : i < m.length) : at_ + i < l.length := by
  obtain ⟨u, _, hu, _⟩ := same_at S hi
  exact (List.getElem?_eq_some_iff.1 hu).1
theorem stands_same {i : Nat} (hi : i < m.length) (ks : List Int) : standsP l (at_ + i) ks = standsP m i ks := by
  obtain ⟨u, t, h1, h2, h3⟩ := same_at S hi
  unfold standsP
  rw [h1, h2]
  have e : u.kind = t.kind := by have := congrArg Tk.kind h3; exact this
  simp only [e]
theorem leaf_same {i : Nat} (hi : i < m.length) (ks : List Int) : leafP l (at_ + i) ks = leafP m i ks := by
  obtain ⟨u, t, h1, h2, h3⟩ := same_at S hi
  unfold leafP
  rw [h1, h2]
  have e : meaningP u = meaningP t := by
    show meaningP (bare u) = meaningP (bare t)
    rw [h3]
  have e2 : u.kind = t.kind := by have := congrArg Tk.kind h3; exact this
  simp only [e, e2]
theorem how_same {i : Nat} (hi : i < m.length) : howP l (at_ + i) = ((howP m i).1, at_ + (howP m i).2) := by
  obtain ⟨u, t, h1, h2, h3⟩ := same_at S hi
  unfold howP
  rw [h1, h2]
  have e1 : u.kind = t.kind := by have := congrArg Tk.kind h3; exact this
  have e2 : u.mn = t.mn := by have := congrArg Tk.mn h3; exact this
  have e3 : u.mx = t.mx := by have := congrArg Tk.mx h3; exact this
  simp only [e1, e2, e3]
  split <;> simp [Nat.add_assoc]
theorem part_same : ∀ (f' f i : Nat) (tm : Tr) (st : List Grp), l.length < f + (at_ + i) → m.length < f' + i → ((partF m f' i tm st).1 = false → (partF m f' i tm st).2.1 < m.length) →
    partF l f (at_ + i) tm st = ((partF m f' i tm st).1, at_ + (partF m f' i tm st).2.1, (partF m f' i tm st).2.2) := by
  intro f'
  induction f' with
  | zero =>
    intro f i tm st _ h2 h3
    have := h3 rfl
    simp only [partF] at this
    omega
  | succ f' ih =>
    intro f i tm st h1 h2 h3
    by_cases hi : i < m.length
    · have hlt := same_lt S hi
      obtain ⟨f, rfl⟩ : ∃ g, f = g + 1 := ⟨f - 1, by omega⟩
      by_cases hs : standsP m i [5, 7] = true
      · have ho : openG l (at_ + i) tm = openG m i tm := by
          unfold openG
          rw [stands_same S hi]
        have hh := (howP_tree m (i + 1)).2.2
        have eM : partF m (f' + 1) i tm st = partF m f' (howP m (i + 1)).2 (howP m (i + 1)).1 (st ++ [openG m i tm]) := by rw [partF, if_pos hs]
        rw [eM] at h3 ⊢
        rw [partF, if_pos (by rw [stands_same S hi]; exact hs), ho]
        by_cases hi1 : i + 1 < m.length
        · have e := how_same S hi1
          rw [show at_ + (i + 1) = at_ + i + 1 from rfl] at e
          rw [e]
          exact ih f _ _ _ (by omega) (by omega) h3
        · exfalso
          have e := how_past (m := m) (i := i + 1) (by omega)
          rw [e, part_past (by omega)] at h3
          have := h3 rfl
          simp only at this
          omega
      · have eM : partF m (f' + 1) i tm st = match leafP m i [1, 10, 11, 12] with
            | none => (false, i, st)
            | some t => (true, i + 1, onTop (addG (repeatP tm t)) st) := by
          rw [partF, if_neg hs]
          rfl
        rw [eM] at h3 ⊢
        rw [partF, if_neg (by rw [stands_same S hi]; exact hs), leaf_same S hi]
        cases leafP m i [1, 10, 11, 12] with
        | none => rfl
        | some t => rfl
    · rw [part_past (by omega)] at h3
      exact absurd (h3 rfl) hi
theorem partP_same {i : Nat} (hi : i < m.length) (st : List Grp) (h : (partP m i st).1 = false → (partP m i st).2.1 < m.length) : partP l (at_ + i) st = ((partP m i st).1, at_ + (partP m i st).2.1, (partP m i st).2.2) := by
  have hh := (howP_tree m i).2.2
  unfold partP at *
  rw [how_same S hi]
  exact part_same S _ _ _ _ _ (by omega) (by omega) h
theorem shut_same : ∀ (f' f i : Nat) (st : List Grp), l.length < f + (at_ + i) → m.length < f' + i → ((shutF m f' i st).1 = none → (shutF m f' i st).2.1 < m.length) →
    shutF l f (at_ + i) st = ((shutF m f' i st).1, at_ + (shutF m f' i st).2.1, (shutF m f' i st).2.2) := by
  intro f'
  induction f' with
  | zero =>
    intro f i st _ h2 h3
    have := h3 rfl
    simp only [shutF] at this
    omega
  | succ f' ih =>
    intro f i st h1 h2 h3
    by_cases hi : i < m.length
    · have hlt := same_lt S hi
      obtain ⟨f, rfl⟩ : ∃ g, f = g + 1 := ⟨f - 1, by omega⟩
      by_cases hs : standsP m i [(topG st).shut] = true
      · have eM : shutF m (f' + 1) i st = if st.dropLast.length = 0 then (some (wholeP (topG st)), i + 1, []) else shutF m f' (i + 1) (onTop (addG (wholeP (topG st))) st.dropLast) := by rw [shutF, if_pos hs]
        rw [eM] at h3 ⊢
        rw [shutF, if_pos (by rw [stands_same S hi]; exact hs)]
        by_cases hd : st.dropLast.length = 0
        · rw [if_pos hd, if_pos hd]
          rfl
        · rw [if_neg hd] at h3 ⊢
          rw [if_neg hd]
          exact ih f (i + 1) _ (by omega) (by omega) h3
      · have eM : shutF m (f' + 1) i st = (none, i, st) := by rw [shutF, if_neg hs]
        rw [eM]
        rw [shutF, if_neg (by rw [stands_same S hi]; exact hs)]
    · rw [shut_past (by omega)] at h3
      exact absurd (h3 rfl) hi
theorem choices_same : ∀ (f' f i : Nat) (st : List Grp), l.length < f + (at_ + i) → m.length < f' + i → ((choicesF m f' i st).1 = none → (choicesF m f' i st).2 < m.length) →
    choicesF l f (at_ + i) st = ((choicesF m f' i st).1, at_ + (choicesF m f' i st).2) := by
  intro f'
  induction f' with
  | zero =>
    intro f i st _ h2 h3
    have := h3 rfl
    simp only [choicesF] at this
    omega
  | succ f' ih =>
    intro f i st h1 h2 h3
    by_cases hi : i < m.length
    · have hlt := same_lt S hi
      obtain ⟨f, rfl⟩ : ∃ g, f = g + 1 := ⟨f - 1, by omega⟩
      by_cases hp : (partP m i st).1 = true
      · have hps := partP_same S hi st (fun h => by rw [hp] at h; cases h)
        have hadv := partP_adv hp
        have hge := shutF_ge m (m.length + 1) (partP m i st).2.1 (partP m i st).2.2
        have hsf := shut_same S (m.length + 1) (l.length + 1) (partP m i st).2.1 (partP m i st).2.2 (by omega) (by omega)
        change (partP m i st).2.1 ≤ (shutP m (partP m i st).2.1 (partP m i st).2.2).2.1 at hge
        change ((shutP m (partP m i st).2.1 (partP m i st).2.2).1 = none → (shutP m (partP m i st).2.1 (partP m i st).2.2).2.1 < m.length) → shutP l (at_ + (partP m i st).2.1) (partP m i st).2.2 = ((shutP m (partP m i st).2.1 (partP m i st).2.2).1, at_ + (shutP m (partP m i st).2.1 (partP m i st).2.2).2.1, (shutP m (partP m i st).2.1 (partP m i st).2.2).2.2) at hsf
        have eM : choicesF m (f' + 1) i st = match (shutP m (partP m i st).2.1 (partP m i st).2.2) with
            | (some t, at2, _) => (some t, at2)
            | (none, at2, st2) => if standsP m at2 [4] = true then choicesF m f' (at2 + 1) (onTop endRowP st2) else choicesF m f' at2 st2 := by
          rw [choicesF, if_pos hp]
          rfl
        rw [eM] at h3 ⊢
        rw [choicesF, hps]
        simp only
        rw [if_pos hp]
        generalize shutP m (partP m i st).2.1 (partP m i st).2.2 = SP at *
        obtain ⟨o, a, s⟩ := SP
        simp only at hsf hge h3 ⊢
        cases o with
        | some t =>
          rw [hsf (fun h => by cases h)]
        | none =>
          simp only at h3
          by_cases ha : a < m.length
          · rw [hsf (fun _ => ha)]
            simp only
            by_cases h4 : standsP m a [4] = true
            · rw [if_pos h4] at h3 ⊢
              rw [if_pos (by rw [stands_same S ha]; exact h4)]
              exact ih f (a + 1) _ (by omega) (by omega) h3
            · rw [if_neg h4] at h3 ⊢
              rw [if_neg (by rw [stands_same S ha]; exact h4)]
              exact ih f a _ (by omega) (by omega) h3
          · exfalso
            rw [if_neg (by rw [stands_past _ (by omega)]; exact Bool.false_ne_true)] at h3
            have e : choicesF m f' a s = (none, a) := by
              cases f' with
              | zero => rfl
              | succ f' => rw [choicesF, partP_past (by omega)]; rfl
            rw [e] at h3
            exact ha (h3 rfl)
      · have eM : choicesF m (f' + 1) i st = (none, (partP m i st).2.1) := by rw [choicesF, if_neg hp]
        rw [eM] at h3 ⊢
        have hps := partP_same S hi st (fun _ => h3 rfl)
        rw [choicesF, hps]
        simp only
        rw [if_neg hp]
    · exfalso
      rw [choicesF, partP_past (by omega)] at h3
      exact hi (h3 rfl)
theorem choicesP_same {i : Nat} (h : (choicesP m i).1 = none → (choicesP m i).2 < m.length) : choicesP l (at_ + i) = ((choicesP m i).1, at_ + (choicesP m i).2) :=
  choices_same S (m.length + 1) (l.length + 1) i _ (by omega) (by omega) h
theorem rule_none {k : Nat} (h : ruleP m 0 = (none, k)) (hk : k < m.length) : ruleP l at_ = (none, at_ + k) := by
  have h0 : 0 < m.length := by omega
  have hl := leaf_same S h0 [1]
  rw [Nat.add_zero] at hl
  unfold ruleP at h ⊢
  rw [hl]
  cases hn : leafP m 0 [1] with
  | none =>
    rw [hn] at h
    simp only [Prod.mk.injEq, true_and] at h
    subst h
    rfl
  | some n =>
    rw [hn] at h
    simp only at h ⊢
    by_cases hs : standsP m (0 + 1) [2, 3] = true
    · have h1 := stands_lt hs
      rw [if_pos hs] at h
      rw [if_pos (by rw [← hs]; exact stands_same S (i := 1) h1 _)]
      have hc : (choicesP m (0 + 2)).1 = none ∧ (choicesP m (0 + 2)).2 = k := by
        generalize choicesP m (0 + 2) = C at *
        obtain ⟨o, a⟩ := C
        cases o with
        | none => simpa using h
        | some t => simp at h
      have hcs := choicesP_same S (i := 2) (fun _ => by rw [show (2 : Nat) = 0 + 2 from rfl, hc.2]; exact hk)
      rw [hcs, show (2 : Nat) = 0 + 2 from rfl, hc.1, hc.2]
    · rw [if_neg hs] at h
      have hk1 : 0 + 1 = k := by simpa using h
      rw [if_neg ?_]
      · rw [← hk1]
      · have : standsP l (at_ + 1) [2, 3] = standsP m 1 [2, 3] := stands_same S (i := 1) (by omega) _
        rw [this]
        exact hs
theorem rule_some {k : Nat} {r : Rl} (h : ruleP m 0 = (some r, k)) : ∃ r', ruleP l at_ = (some r', at_ + k) ∧ r'.tree = r.tree ∧ r'.place = placeP l at_ := by
  have h0 : 0 < m.length := by
    rcases Nat.lt_or_ge 0 m.length with h1 | h1
    · exact h1
    · exfalso
      unfold ruleP at h
      rw [leaf_past _ h1] at h
      simp at h
  have hl := leaf_same S h0 [1]
  rw [Nat.add_zero] at hl
  unfold ruleP at h ⊢
  rw [hl]
  cases hn : leafP m 0 [1] with
  | none => rw [hn] at h; simp at h
  | some n =>
    rw [hn] at h
    simp only at h ⊢
    by_cases hs : standsP m (0 + 1) [2, 3] = true
    · have h1 := stands_lt hs
      rw [if_pos hs] at h
      rw [if_pos (by rw [← hs]; exact stands_same S (i := 1) h1 _)]
      generalize hC : choicesP m (0 + 2) = C at *
      obtain ⟨o, a⟩ := C
      cases o with
      | none => simp at h
      | some t =>
        have hcs := choicesP_same S (i := 2) (fun hx => by rw [show (2 : Nat) = 0 + 2 from rfl, hC] at hx; cases hx)
        rw [hcs, show (2 : Nat) = 0 + 2 from rfl, hC]
        simp only [Prod.mk.injEq, Option.some.injEq] at h
        obtain ⟨rfl, rfl⟩ := h
        exact ⟨_, rfl, rfl, rfl⟩
    · rw [if_neg hs] at h
      simp at h
end
end Go.Proofs.YtodenbimeojgdaaGreatDoor

/-
  What does not fit is told at its place, behind and ahead of whatever printed rules, in plain terms. No conditions.
-/
namespace Go.Proofs.YtodenbimeojgdaaGreatDoor
open Go.RowKit

def tkX (x : List UInt8) : List Tk := (tokensP x 0 []).1
def rowX (x : List UInt8) : List Tk := tkX x ++ [endTok (x.length + 1)]
def lineB (x : List UInt8) : Bool := x.all (fun c => !(c == 10)) && letterZ (byteZ x 0) && !x.isEmpty && (tokensP x 0 []).2.1 == 0 && (tokensP x 0 []).2.2 == 0
theorem line_of {x : List UInt8} (h : lineB x = true) : LineOk x (tkX x) := by
  unfold lineB at h
  simp only [Bool.and_eq_true, List.all_eq_true, Bool.not_eq_true', beq_eq_false_iff_ne, beq_iff_eq] at h
  obtain ⟨⟨⟨⟨h1, h2⟩, h3⟩, h4⟩, h5⟩ := h
  refine ⟨h1, ?_, ?_⟩
  · cases x with
    | nil => simp at h3
    | cons c q => exact ⟨c, q, rfl, by rw [byteZ_cons] at h2; exact h2⟩
  · unfold tkX
    generalize tokensP x 0 [] = T at *
    obtain ⟨a, b, c⟩ := T
    simp only at h4 h5 ⊢
    rw [h4, h5]
def badB (x : List UInt8) (off : Nat) : Bool := lineB x && match ruleP (rowX x) 0 with
  | (none, k) => decide (k < (rowX x).length) && ((rowX x).getD k {}).place == (off : Int)
  | _ => false
def fineB (x : List UInt8) (ok : Bool) : Bool := lineB x && match ruleP (rowX x) 0 with
  | (some r, k) => k == (rowX x).length && rightB r.tree == ok
  | _ => false
def badsX : List (List UInt8 × Nat) := [([114, 32, 97], 2), ([114], 2), ([114, 32, 61, 32, 61, 32, 97], 4), ([114, 32, 61, 32, 47, 32, 97], 4), ([114, 32, 61, 32, 97, 32, 47, 32, 47, 32, 98], 8), ([114, 32, 61, 32, 97, 32, 41], 6), ([114, 32, 61, 32, 40, 97, 93, 32, 98], 6), ([114, 32, 61, 32, 91, 97, 41, 32, 98], 6), ([114, 32, 61, 32, 40, 41], 5), ([114, 32, 61, 32, 50, 32, 51, 97], 6), ([114, 32, 61, 32, 97, 32, 50], 8), ([114, 32, 61, 32, 97, 32, 61, 47, 32, 98], 6), ([114, 32, 61, 32], 5), ([114, 32, 61, 32, 91, 97], 7)]
set_option maxRecDepth 100000 in
theorem bads_ok : ∀ p ∈ badsX, badB p.1 p.2 = true := by decide +kernel

def deepX (mid : List UInt8) : List UInt8 := [114, 32, 61, 32] ++ Lib.repeatL [49, 40] 98 ++ mid ++ Lib.repeatL [41] 98
def deepA : List UInt8 := deepX [97, 32, 98]
def deepZ : List UInt8 := deepX [49, 40, 97, 32, 98, 41]
set_option maxRecDepth 100000 in
theorem deepA_ok : fineB deepA true = true := by decide +kernel
set_option maxRecDepth 100000 in
theorem deepZ_ok : fineB deepZ false = true := by decide +kernel
set_option maxRecDepth 100000 in
theorem deepZ_place : ((rowX deepZ).getD 0 {}).place = 0 := by decide +kernel
theorem deepA_len : deepA.length = 301 := by decide +kernel
theorem deepZ_len : deepZ.length = 304 := by decide +kernel

/-- how the tokens of such a text stand -/
theorem rows_mid (ps qs : List Lin) (x : List UInt8) : rowsX 0 (ps ++ (x, tkX x) :: qs) = rowsX 0 ps ++ ((rowX x).map (sh (joinX ps).length) ++ rowsX ((joinX ps).length + x.length + 1) qs) := by
  rw [rowsX_app, Nat.zero_add]
  show rowsX 0 ps ++ ((tkX x).map (sh (joinX ps).length) ++ endTok ((joinX ps).length + x.length + 1) :: rowsX ((joinX ps).length + x.length + 1) qs) = _
  unfold rowX
  rw [List.map_append, List.map_singleton, sh_end, show x.length + 1 + (joinX ps).length = (joinX ps).length + x.length + 1 from by omega, List.append_assoc]
  rfl
theorem same_mid (a b m : List Tk) (d : Nat) : Same (a ++ (m.map (sh d) ++ b)) a.length m := by
  intro i hi
  rw [List.getElem?_append_right (by omega), Nat.add_sub_cancel_left, List.getElem?_append_left (by rw [List.length_map]; exact hi), List.getElem?_map, Option.map_map]
  rfl
theorem place_mid (a b m : List Tk) (d k : Nat) (hk : k < m.length) : placeP (a ++ (m.map (sh d) ++ b)) (a.length + k) = (m.getD k {}).place + d := by
  have hlen : (a ++ (m.map (sh d) ++ b)).length = a.length + (m.length + b.length) := by simp
  unfold placeP
  rw [Nat.min_eq_left (by rw [hlen]; omega), List.getD_eq_getElem?_getD, List.getElem?_append_right (by omega), Nat.add_sub_cancel_left, List.getElem?_append_left (by rw [List.length_map]; exact hk), List.getElem?_map, List.getD_eq_getElem?_getD, List.getElem?_eq_getElem hk]
  rfl
theorem rest_mid (a b : List Tk) : restB (a ++ b) 0 = a.map bare ++ b.map bare := by
  unfold restB
  rw [List.drop_zero, List.map_append]

section
variable {ps qs : List Lin} {ts us : List Tr} (hp : Rows2 ps ts) (hq : Rows2 qs us)
theorem lines_of {ps : List Lin} {ts : List Tr} (h : Rows2 ps ts) : ∀ p ∈ ps, LineOk p.1 p.2 := by
  induction h with
  | nil => intro p hp; cases hp
  | cons h1 _ ih =>
    intro p hp
    rcases List.mem_cons.1 hp with rfl | hp
    · exact h1.line
    · exact ih p hp
include hp hq
theorem lex_mid (x : List UInt8) (hx : lineB x = true) (hl : (joinX ps ++ (x ++ [10] ++ joinX qs)).length ≤ 65536) : joinX ps ++ (x ++ [10] ++ joinX qs) = joinX (ps ++ (x, tkX x) :: qs) ∧ lexP (joinX ps ++ (x ++ [10] ++ joinX qs)) = (rowsX 0 ps ++ ((rowX x).map (sh (joinX ps).length) ++ rowsX ((joinX ps).length + x.length + 1) qs), 0, 0) := by
  have e : joinX ps ++ (x ++ [10] ++ joinX qs) = joinX (ps ++ (x, tkX x) :: qs) := by rw [joinX_app]; rfl
  refine ⟨e, ?_⟩
  rw [e] at hl ⊢
  rw [lex_join _ (by simp) (fun p hpm => ?_) hl, rows_mid]
  rcases List.mem_append.1 hpm with h | h
  · exact lines_of hp p h
  · rcases List.mem_cons.1 h with rfl | h
    · exact line_of hx
    · exact lines_of hq p h
/-- what does not fit -/
theorem bad_of (x : List UInt8) (off : Nat) (hx : badB x off = true) (hl : (joinX ps ++ (x ++ [10] ++ joinX qs)).length ≤ 65536) : ofP (joinX ps ++ (x ++ [10] ++ joinX qs)) = ([], (((joinX ps).length + off : Nat) : Int), 20) := by
  unfold badB at hx
  rw [Bool.and_eq_true] at hx
  obtain ⟨h1, h2⟩ := hx
  obtain ⟨_, hlex⟩ := lex_mid hp hq x h1 hl
  unfold ofP
  rw [hlex, if_pos rfl]
  have hS := same_mid (rowsX 0 ps) (rowsX ((joinX ps).length + x.length + 1) qs) (rowX x) (joinX ps).length
  obtain ⟨k, hr, hk, hpl⟩ : ∃ k, ruleP (rowX x) 0 = (none, k) ∧ k < (rowX x).length ∧ ((rowX x).getD k {}).place = (off : Int) := by
    generalize hR : ruleP (rowX x) 0 = R at *
    obtain ⟨o, k⟩ := R
    cases o with
    | none => simp only [Bool.and_eq_true, decide_eq_true_eq, beq_iff_eq] at h2; exact ⟨k, rfl, h2.1, h2.2⟩
    | some r => cases h2
  have hrule := rule_none hS hr hk
  have hplace := place_mid (rowsX 0 ps) (rowsX ((joinX ps).length + x.length + 1) qs) (rowX x) (joinX ps).length k hk
  have hrest := rest_mid (rowsX 0 ps) ((rowX x).map (sh (joinX ps).length) ++ rowsX ((joinX ps).length + x.length + 1) qs)
  have hlt : (rowsX 0 ps).length < (rowsX 0 ps ++ ((rowX x).map (sh (joinX ps).length) ++ rowsX ((joinX ps).length + x.length + 1) qs)).length := by
    simp only [List.length_append, List.length_map]
    omega
  generalize rowsX 0 ps ++ ((rowX x).map (sh (joinX ps).length) ++ rowsX ((joinX ps).length + x.length + 1) qs) = l at *
  obtain ⟨f', rs, _, hf', hpf⟩ := parse_rows ps ts hp l 0 (l.length + 1) 0 [] _ hrest (by omega)
  rw [Nat.zero_add] at hf' hpf
  obtain ⟨f', rfl⟩ : ∃ g, f' = g + 1 := ⟨f' - 1, by omega⟩
  unfold parseP
  rw [hpf, parseF_none hlt hrule, hplace, hpl]
  simp only [Prod.mk.injEq, and_true, true_and]
  omega
/-- a rule that is read, or too deep -/
theorem deep_of (x : List UInt8) (ok : Bool) (hx : fineB x ok = true) (hl : (joinX ps ++ (x ++ [10] ++ joinX qs)).length ≤ 65536) :
    (ok = true → ∃ rs, ofP (joinX ps ++ (x ++ [10] ++ joinX qs)) = (rs, 0, 0) ∧ rs.length = ps.length + qs.length + 1) ∧
    (ok = false → ofP (joinX ps ++ (x ++ [10] ++ joinX qs)) = ([], ((rowX x).getD 0 {}).place + (joinX ps).length, 21)) := by
  unfold fineB at hx
  rw [Bool.and_eq_true] at hx
  obtain ⟨h1, h2⟩ := hx
  obtain ⟨_, hlex⟩ := lex_mid hp hq x h1 hl
  unfold ofP
  rw [hlex, if_pos rfl]
  have hS := same_mid (rowsX 0 ps) (rowsX ((joinX ps).length + x.length + 1) qs) (rowX x) (joinX ps).length
  obtain ⟨r, hr, hok⟩ : ∃ r, ruleP (rowX x) 0 = (some r, (rowX x).length) ∧ rightB r.tree = ok := by
    generalize hR : ruleP (rowX x) 0 = R at *
    obtain ⟨o, k⟩ := R
    cases o with
    | none => cases h2
    | some r => simp only [Bool.and_eq_true, beq_iff_eq] at h2; exact ⟨r, by rw [h2.1], h2.2⟩
  obtain ⟨r', hrule, htree, hpl'⟩ := rule_some hS hr
  have hpos : 0 < (rowX x).length := by unfold rowX; simp
  have hplace := place_mid (rowsX 0 ps) (rowsX ((joinX ps).length + x.length + 1) qs) (rowX x) (joinX ps).length 0 hpos
  rw [Nat.add_zero] at hplace
  have hrest := rest_mid (rowsX 0 ps) ((rowX x).map (sh (joinX ps).length) ++ rowsX ((joinX ps).length + x.length + 1) qs)
  have hrest2 := rest_mid (rowsX 0 ps ++ (rowX x).map (sh (joinX ps).length)) (rowsX ((joinX ps).length + x.length + 1) qs)
  rw [List.append_assoc] at hrest2
  have hR2 := rest_drop hrest2
  rw [List.length_map, List.length_append, List.length_map, Nat.zero_add] at hR2
  have hlt : (rowsX 0 ps).length < (rowsX 0 ps ++ ((rowX x).map (sh (joinX ps).length) ++ rowsX ((joinX ps).length + x.length + 1) qs)).length := by
    simp only [List.length_append, List.length_map]
    omega
  have hend : (rowsX 0 ps ++ ((rowX x).map (sh (joinX ps).length) ++ rowsX ((joinX ps).length + x.length + 1) qs)).length = (rowsX 0 ps).length + (rowX x).length + (rowsX ((joinX ps).length + x.length + 1) qs).length := by
    simp only [List.length_append, List.length_map]
    omega
  generalize rowsX 0 ps ++ ((rowX x).map (sh (joinX ps).length) ++ rowsX ((joinX ps).length + x.length + 1) qs) = l at *
  obtain ⟨f', rs, hrs, hf', hpf⟩ := parse_rows ps ts hp l 0 (l.length + 1) 0 [] _ hrest (by omega)
  rw [Nat.zero_add] at hf' hpf
  obtain ⟨f', rfl⟩ : ∃ g, f' = g + 1 := ⟨f' - 1, by omega⟩
  refine ⟨fun h => ?_, fun h => ?_⟩
  · obtain ⟨f2, rs2, hrs2, hf2, hpf2⟩ := parse_rows qs us hq l ((rowsX 0 ps).length + (rowX x).length) f' ((joinX ps).length + x.length + 1) ([] ++ rs ++ [r']) [] (by rw [hR2, List.append_nil]) (by omega)
    refine ⟨[] ++ rs ++ [r'] ++ rs2, ?_, by simp [hrs, hrs2]; omega⟩
    unfold parseP
    rw [hpf, parseF_some hlt hrule, if_pos (by rw [htree, hok, h]), hpf2, parseF_end (by rw [hend]; exact Nat.le_refl _)]
  · unfold parseP
    rw [hpf, parseF_some hlt hrule, if_neg (by rw [htree, hok, h]; exact Bool.false_ne_true), hpl']
    exact congrArg (fun z => (([] : List Rl), z, (21 : Int))) hplace
end
end Go.Proofs.YtodenbimeojgdaaGreatDoor

/-
  Texts of printed rules of numbers, one a line, in plain terms; a list of lists of numbers in memory. No conditions.
-/
namespace Go.Proofs.YtodenbimeojgdaaGreatDoor
open Go.RowKit

def treeU (u : List Nat) : Tr := (growT [] u 6 0).1
def txtU : List (List Nat) → List UInt8
  | [] => []
  | u :: r => xRule (treeU u) ++ [10] ++ txtU r
theorem txtU_app (a b : List (List Nat)) : txtU (a ++ b) = txtU a ++ txtU b := by
  induction a with
  | nil => rfl
  | cons u r ih =>
    show xRule (treeU u) ++ [10] ++ txtU (r ++ b) = xRule (treeU u) ++ [10] ++ txtU r ++ txtU b
    rw [ih]
    simp
theorem txtU_step {U : List (List Nat)} {k : Nat} {u : List Nat} (h : U[k]? = some u) : txtU (U.take (k + 1)) = txtU (U.take k) ++ (xRule (treeU u) ++ [10]) := by
  rw [List.take_add_one, h, txtU_app]
  show txtU (U.take k) ++ (xRule (treeU u) ++ [10] ++ []) = _
  rw [List.append_nil]
theorem treeU_facts (u : List Nat) : rightB (treeU u) = true ∧ byteD 100 (treeU u) ∧ textD 100 (treeU u) := by
  obtain ⟨ra, ya, ta, _⟩ := grown_whole [] names_nil u
  exact ⟨ra, ya, ta⟩
theorem xRule_len (u : List Nat) (hu : u.length ≤ 200) : (xRule (treeU u)).length ≤ 5211 := by
  have := grown_short [] names_nil (fun n hn => by cases hn) u hu
  show ([120] ++ [32, 61, 32] ++ printD 100 (growT [] u 6 0).1).length ≤ _
  simp only [List.length_append, List.length_cons, List.length_nil]
  omega
theorem txtU_len (U : List (List Nat)) (h : ∀ u ∈ U, u.length ≤ 200) : (txtU U).length ≤ 5212 * U.length := by
  induction U with
  | nil => simp [txtU]
  | cons u r ih =>
    have h1 := xRule_len u (h u (by simp))
    have h2 := ih (fun v hv => h v (List.mem_cons_of_mem _ hv))
    show (xRule (treeU u) ++ [10] ++ txtU r).length ≤ 5212 * (r.length + 1)
    simp only [List.length_append, List.length_cons, List.length_nil]
    omega
theorem rows_of (U : List (List Nat)) : ∃ ps ts, Rows2 ps ts ∧ joinX ps = txtU U ∧ ps.length = U.length := by
  induction U with
  | nil => exact ⟨[], [], .nil, rfl, rfl⟩
  | cons u r ih =>
    obtain ⟨ps, ts, h1, h2, h3⟩ := ih
    obtain ⟨ra, ya, _⟩ := treeU_facts u
    obtain ⟨tk, hk⟩ := row_of (treeU u) ra ya
    exact ⟨(xRule (treeU u), tk) :: ps, treeU u :: ts, .cons hk h1, by show xRule (treeU u) ++ [10] ++ joinX ps = _; rw [h2]; rfl, by simp [h3]⟩
/-- what does not fit, behind and ahead of such texts -/
def allBads : List (List UInt8 × Nat × Nat) := badsX.map (fun p => (p.1, p.2, 20)) ++ [(deepZ, 0, 21)]
theorem allBads_len : allBads.length = 15 := rfl
theorem allBads_short : ∀ p ∈ allBads, p.1.length ≤ 304 := by decide +kernel
theorem allBads_off : ∀ p ∈ allBads, p.2.1 ≤ 8 ∧ p.2.2 ≤ 21 := by decide +kernel
theorem all_of (U V : List (List Nat)) (x : List UInt8) (off er : Nat) (hx : (x, off, er) ∈ allBads) (hl : (txtU U ++ (x ++ [10] ++ txtU V)).length ≤ 65536) :
    ofP (txtU U ++ (x ++ [10] ++ txtU V)) = ([], (((txtU U).length + off : Nat) : Int), (er : Int)) := by
  obtain ⟨ps, ts, hp, e1, _⟩ := rows_of U
  obtain ⟨qs, us, hq, e2, _⟩ := rows_of V
  rw [← e1, ← e2] at hl ⊢
  unfold allBads at hx
  rcases List.mem_append.1 hx with h | h
  · obtain ⟨p, hpm, he⟩ := List.mem_map.1 h
    simp only [Prod.mk.injEq] at he
    obtain ⟨rfl, rfl, rfl⟩ := he
    exact bad_of hp hq p.1 p.2 (bads_ok p hpm) hl
  · rw [List.mem_singleton, Prod.mk.injEq, Prod.mk.injEq] at h
    obtain ⟨rfl, rfl, rfl⟩ := h
    rw [(deep_of hp hq deepZ false deepZ_ok hl).2 rfl, deepZ_place]
    simp
theorem fine_of (U V : List (List Nat)) (hl : (txtU U ++ (deepA ++ [10] ++ txtU V)).length ≤ 65536) : ∃ rs, ofP (txtU U ++ (deepA ++ [10] ++ txtU V)) = (rs, 0, 0) ∧ rs.length = U.length + V.length + 1 := by
  obtain ⟨ps, ts, hp, e1, l1⟩ := rows_of U
  obtain ⟨qs, us, hq, e2, l2⟩ := rows_of V
  rw [← e1, ← e2] at hl ⊢
  rw [← l1, ← l2]
  exact (deep_of hp hq deepA true deepA_ok hl).1 rfl
set_option maxRecDepth 100000 in
theorem replace_deep : Lib.replace deepA [97, 32, 98] [49, 40, 97, 32, 98, 41] 1 = deepZ := by decide +kernel
set_option maxRecDepth 100000 in
theorem count_deep : Lib.countB (bs deepA) ⟨#[97, 32, 98]⟩ = 1 := by decide +kernel

/-! ### lists of numbers in memory -/
def NumRow (w : World) (A : Option Addr) (us : List (Option Addr × Nat × List Nat)) : Prop :=
  ∀ (k : Nat) a c u, us[k]? = some (a, c, u) → ∃ b off, A = some ⟨b, off, none⟩ ∧ b < w.heap.size ∧ w.cell? ⟨b, off + k, none⟩ = some (.slice a u.length c) ∧ NumsAt w a u
theorem NumRow.below {w w' : World} {A : Option Addr} {us : List (Option Addr × Nat × List Nat)} (h : NumRow w A us) (hb : Below w.heap.size w w') : NumRow w' A us := by
  intro k a c u hk
  obtain ⟨b, off, h1, h2, h3, h4⟩ := h k a c u hk
  exact ⟨b, off, h1, Nat.lt_of_lt_of_le h2 hb.size, (hb.cell (p := ⟨b, off + k, none⟩) h2).trans h3, h4.below hb⟩
end Go.Proofs.YtodenbimeojgdaaGreatDoor

/-
  AbnfWrong answers true for all numbers: its walk. Conditions: the numbers lie in memory; the tables abnf.leaves, the library's powers of ten and its number MaxLen lie where they do.
-/
namespace Go.Proofs.YtodenbimeojgdaaGreatDoor
open Go.RowKit

def oaX (U : List (List Nat)) (k : Nat) : List UInt8 := if k = 0 then [] else txtU U
def obX (V : List (List Nat)) (k : Nat) : List UInt8 := if k ≤ 1 then [] else txtU V
def faX (U : List (List Nat)) (k j : Nat) : List UInt8 := if k = 0 then txtU (U.take j) else txtU U
def fbX (V : List (List Nat)) (k j : Nat) : List UInt8 := if k = 0 then [] else txtU (V.take j)
theorem faX_zero (U : List (List Nat)) (k : Nat) : faX U k 0 = oaX U k := by
  unfold faX oaX
  split <;> rfl
theorem fbX_zero (V : List (List Nat)) {k : Nat} (h : k < 2) : fbX V k 0 = obX V k := by
  unfold fbX obX
  rw [if_pos (by omega : k ≤ 1)]
  split <;> rfl
theorem faX_end (U : List (List Nat)) (k n : Nat) (h : k = 0 → n = U.length) : faX U k n = oaX U (k + 1) := by
  unfold faX oaX
  rw [if_neg (by omega : ¬ k + 1 = 0)]
  split
  · rename_i h0; rw [h h0, List.take_length]
  · rfl
theorem fbX_end (V : List (List Nat)) (k n : Nat) (hk : k < 2) (h : k = 1 → n = V.length) : fbX V k n = obX V (k + 1) := by
  unfold fbX obX
  by_cases h0 : k = 0
  · rw [if_pos h0, if_pos (by omega)]
  · rw [if_neg h0, if_neg (by omega), h (by omega), List.take_length]
theorem take_len_le (U : List (List Nat)) (hU : ∀ u ∈ U, u.length ≤ 200) (hn : U.length ≤ 6) (j : Nat) : (txtU (U.take j)).length ≤ 31272 := by
  have h1 := txtU_len (U.take j) (fun u hu => hU u (List.mem_of_mem_take hu))
  have h2 : (U.take j).length ≤ 6 := by rw [List.length_take]; omega
  omega


theorem take_mem {α : Type} {l : List α} {n : Nat} {x : α} (h : x ∈ l.take n) : x ∈ l := List.mem_of_mem_take h
theorem NumRow.take {w : World} {A : Option Addr} {us : List (Option Addr × Nat × List Nat)} (h : NumRow w A us) (n : Nat) : NumRow w A (us.take n) := by
  intro k a c u hk
  refine h k a c u ?_
  rw [List.getElem?_take] at hk
  split at hk
  · exact hk
  · cases hk
def numsOf (us : List (Option Addr × Nat × List Nat)) : List (List Nat) := us.map (·.2.2)
theorem numsOf_at {us : List (Option Addr × Nat × List Nat)} {k : Nat} {a : Option Addr} {c : Nat} {u : List Nat} (h : us[k]? = some (a, c, u)) : (numsOf us)[k]? = some u := by
  unfold numsOf
  rw [List.getElem?_map, h]
  rfl

/-! ### how long the texts are -/
def LenIn (U V : List (List Nat)) (k j : Nat) : Prop := (k = 0 → (txtU (U.take j)).length ≤ 5212 * j) ∧ (k ≠ 0 → (txtU U).length ≤ 31272 ∧ (txtU (V.take j)).length ≤ 5212 * j)
def LenAt (U V : List (List Nat)) (k : Nat) : Prop := (1 ≤ k → (txtU U).length ≤ 31272) ∧ (2 ≤ k → (txtU V).length ≤ 31272)
theorem len_start (U V : List (List Nat)) : LenAt U V 0 := ⟨fun h => by omega, fun h => by omega⟩
theorem len_enter {U V : List (List Nat)} {k : Nat} (h : LenAt U V k) (hk : k < 2) : LenIn U V k 0 :=
  ⟨fun _ => Nat.zero_le _, fun h0 => ⟨h.1 (by omega), Nat.zero_le _⟩⟩
theorem len_leave {U V : List (List Nat)} {k n : Nat} (h : LenIn U V k n) (hk : k < 2) (hn : n ≤ 6) (hU : k = 0 → n = U.length) (hV : k = 1 → n = V.length) : LenAt U V (k + 1) := by
  by_cases h0 : k = 0
  · refine ⟨fun _ => ?_, fun h => by omega⟩
    have := h.1 h0
    rw [hU h0, List.take_length] at this
    have := hU h0
    omega
  · have := h.2 h0
    rw [hV (by omega), List.take_length] at this
    have := hV (by omega)
    exact ⟨fun _ => (h.2 h0).1, fun _ => by omega⟩
theorem len_step {U V : List (List Nat)} {k j : Nat} {u : List Nat} (h : LenIn U V k j) (hu : u.length ≤ 200) (hU : k = 0 → U[j]? = some u) (hV : k ≠ 0 → V[j]? = some u) : LenIn U V k (j + 1) := by
  have hx := xRule_len u hu
  refine ⟨fun h0 => ?_, fun h0 => ⟨(h.2 h0).1, ?_⟩⟩
  · have := h.1 h0
    rw [txtU_step (hU h0)]
    simp only [List.length_append, List.length_cons, List.length_nil]
    omega
  · have := (h.2 h0).2
    rw [txtU_step (hV h0)]
    simp only [List.length_append, List.length_cons, List.length_nil]
    omega
theorem len_bound {U V : List (List Nat)} {k j : Nat} (h : LenIn U V k j) (hj : j ≤ 6) : (faX U k j).length ≤ 31272 ∧ (fbX V k j).length ≤ 31272 := by
  unfold faX fbX
  by_cases h0 : k = 0
  · have := h.1 h0
    rw [if_pos h0, if_pos h0]
    exact ⟨by omega, Nat.zero_le _⟩
  · have := h.2 h0
    rw [if_neg h0, if_neg h0]
    exact ⟨this.1, by omega⟩
theorem fa_step {U : List (List Nat)} {j : Nat} {u : List Nat} (h : U[j]? = some u) : faX U 0 (j + 1) = faX U 0 j ++ (xRule (treeU u) ++ [10]) := by
  unfold faX
  rw [if_pos rfl, if_pos rfl, txtU_step h]
theorem fb_zero (V : List (List Nat)) (j : Nat) : fbX V 0 (j + 1) = fbX V 0 j := rfl
theorem fa_same (U : List (List Nat)) {k : Nat} (hk : k ≠ 0) (j : Nat) : faX U k (j + 1) = faX U k j := by
  unfold faX
  rw [if_neg hk, if_neg hk]
theorem fb_step {V : List (List Nat)} {k j : Nat} (hk : k ≠ 0) {u : List Nat} (h : V[j]? = some u) : fbX V k (j + 1) = fbX V k j ++ (xRule (treeU u) ++ [10]) := by
  unfold fbX
  rw [if_neg hk, if_neg hk, txtU_step h]
theorem oa_two (U : List (List Nat)) : oaX U 2 = txtU U := rfl
theorem ob_two (V : List (List Nat)) : obX V 2 = txtU V := rfl

/-! ### what does not fit, in memory -/
def badCells (DZ : ByteArray) : Array Value := #[.string ⟨#[114, 32, 97]⟩, .int .i64 2, .int .i64 20, .string ⟨#[114]⟩, .int .i64 2, .int .i64 20, .string ⟨#[114, 32, 61, 32, 61, 32, 97]⟩, .int .i64 4, .int .i64 20, .string ⟨#[114, 32, 61, 32, 47, 32, 97]⟩, .int .i64 4, .int .i64 20, .string ⟨#[114, 32, 61, 32, 97, 32, 47, 32, 47, 32, 98]⟩, .int .i64 8, .int .i64 20, .string ⟨#[114, 32, 61, 32, 97, 32, 41]⟩, .int .i64 6, .int .i64 20, .string ⟨#[114, 32, 61, 32, 40, 97, 93, 32, 98]⟩, .int .i64 6, .int .i64 20, .string ⟨#[114, 32, 61, 32, 91, 97, 41, 32, 98]⟩, .int .i64 6, .int .i64 20, .string ⟨#[114, 32, 61, 32, 40, 41]⟩, .int .i64 5, .int .i64 20, .string ⟨#[114, 32, 61, 32, 50, 32, 51, 97]⟩, .int .i64 6, .int .i64 20, .string ⟨#[114, 32, 61, 32, 97, 32, 50]⟩, .int .i64 8, .int .i64 20, .string ⟨#[114, 32, 61, 32, 97, 32, 61, 47, 32, 98]⟩, .int .i64 6, .int .i64 20, .string ⟨#[114, 32, 61, 32]⟩, .int .i64 5, .int .i64 20, .string ⟨#[114, 32, 61, 32, 91, 97]⟩, .int .i64 7, .int .i64 20, .string DZ, .int .i64 0, .int .i64 21]
theorem bad_row (n : Nat) (h : n < 15) : ∃ X off er, (X, off, er) ∈ allBads ∧ (badCells (bs deepZ))[n * 3]? = some (.string (bs X)) ∧ (badCells (bs deepZ))[n * 3 + 1]? = some (.int .i64 (off : Nat)) ∧ (badCells (bs deepZ))[n * 3 + 2]? = some (.int .i64 (er : Nat)) := by
  match n, h with
  | 0, _ => exact ⟨_, _, _, List.mem_of_getElem? (i := 0) rfl, rfl, rfl, rfl⟩
  | 1, _ => exact ⟨_, _, _, List.mem_of_getElem? (i := 1) rfl, rfl, rfl, rfl⟩
  | 2, _ => exact ⟨_, _, _, List.mem_of_getElem? (i := 2) rfl, rfl, rfl, rfl⟩
  | 3, _ => exact ⟨_, _, _, List.mem_of_getElem? (i := 3) rfl, rfl, rfl, rfl⟩
  | 4, _ => exact ⟨_, _, _, List.mem_of_getElem? (i := 4) rfl, rfl, rfl, rfl⟩
  | 5, _ => exact ⟨_, _, _, List.mem_of_getElem? (i := 5) rfl, rfl, rfl, rfl⟩
  | 6, _ => exact ⟨_, _, _, List.mem_of_getElem? (i := 6) rfl, rfl, rfl, rfl⟩
  | 7, _ => exact ⟨_, _, _, List.mem_of_getElem? (i := 7) rfl, rfl, rfl, rfl⟩
  | 8, _ => exact ⟨_, _, _, List.mem_of_getElem? (i := 8) rfl, rfl, rfl, rfl⟩
  | 9, _ => exact ⟨_, _, _, List.mem_of_getElem? (i := 9) rfl, rfl, rfl, rfl⟩
  | 10, _ => exact ⟨_, _, _, List.mem_of_getElem? (i := 10) rfl, rfl, rfl, rfl⟩
  | 11, _ => exact ⟨_, _, _, List.mem_of_getElem? (i := 11) rfl, rfl, rfl, rfl⟩
  | 12, _ => exact ⟨_, _, _, List.mem_of_getElem? (i := 12) rfl, rfl, rfl, rfl⟩
  | 13, _ => exact ⟨_, _, _, List.mem_of_getElem? (i := 13) rfl, rfl, rfl, rfl⟩
  | 14, _ => exact ⟨_, _, _, List.mem_of_getElem? (i := 14) rfl, rfl, rfl, rfl⟩
theorem fails_all (U V : List (List Nat)) (X : List UInt8) (off er : Nat) (hm : (X, off, er) ∈ allBads) (hl : (txtU U).length + (txtU V).length ≤ 40000) (W : World) (hW : LeavesAt W) :
    Calls Tryz.prog 22 #[.string (bs (txtU U) ++ bs X ++ ⟨#[10]⟩ ++ bs (txtU V)), .int .i64 ((bs (txtU U)).size + (off : Nat)), .int .i64 (er : Nat)] W fun e w' => e = .returned (.bool true) ∧ Below W.heap.size W w' := by
  have hx := allBads_short _ hm
  simp only at hx
  have hlen : (txtU U ++ (X ++ [10] ++ txtU V)).length ≤ 65536 := by
    simp only [List.length_append, List.length_cons, List.length_nil]
    omega
  have h := all_of U V X off er hm hlen
  have hf := fails_true _ _ _ (by have := lexP_len (txtU U ++ (X ++ [10] ++ txtU V)); omega) (lex_short _ hlen) h W hW
  rw [show (⟨#[10]⟩ : ByteArray) = bs [10] from rfl, bs_app, bs_app, bs_app, bs_size, show txtU U ++ X ++ [10] ++ txtU V = txtU U ++ (X ++ [10] ++ txtU V) from by simp]
  exact hf
def deepE : ByteArray := (⟨#[114, 32, 61, 32]⟩ : ByteArray) ++ bs (Lib.repeatL [49, 40] 98) ++ ⟨#[97, 32, 98]⟩ ++ bs (Lib.repeatL [41] 98)
theorem deepE_eq : deepE = bs deepA := by
  unfold deepE deepA deepX
  rw [show (⟨#[114, 32, 61, 32]⟩ : ByteArray) = bs [114, 32, 61, 32] from rfl, show (⟨#[97, 32, 98]⟩ : ByteArray) = bs [97, 32, 98] from rfl, bs_app, bs_app, bs_app]
theorem fine_all (U V : List (List Nat)) (hl : (txtU U).length + (txtU V).length ≤ 40000) : ∃ rs, rs.length = U.length + V.length + 1 ∧ ∀ W, LeavesAt W →
    Calls Tryz.prog 19 #[.string (bs (txtU U) ++ deepE ++ ⟨#[10]⟩ ++ bs (txtU V))] W fun e w' => ParseOut W (rs, 0, 0) e w' := by
  have hlen : (txtU U ++ (deepA ++ [10] ++ txtU V)).length ≤ 65536 := by
    have := deepA_len
    simp only [List.length_append, List.length_cons, List.length_nil]
    omega
  obtain ⟨rs, h1, h2⟩ := fine_of U V hlen
  refine ⟨rs, h2, fun W hW => ?_⟩
  have h := of_short _ hlen W hW
  rw [h1] at h
  rw [deepE_eq, show (⟨#[10]⟩ : ByteArray) = bs [10] from rfl, bs_app, bs_app, bs_app, show txtU U ++ deepA ++ [10] ++ txtU V = txtU U ++ (deepA ++ [10] ++ txtU V) from by simp]
  exact h
end Go.Proofs.YtodenbimeojgdaaGreatDoor

/-
  The library's contracts that the proofs use, at this translation's numbers. Each is one application of the library's theorem. No conditions of their own.
-/
namespace Go.Proofs
open Go.Shelf
def Tryz.lays154_ren : Go.Shelf.Ren := ⟨fun | 154 => 21 | 138 => 47 | 165 => 44 | 143 => 48 | 166 => 45 | 197 => 49 | 169 => 38 | 195 => 90 | 218 => 91 | 240 => 88 | 241 => 89 | 219 => 92 | 260 => 93 | 276 => 122 | 277 => 123 | 217 => 107 | 225 => 124 | 224 => 125 | 267 => 126 | 266 => 130 | 314 => 142 | n => n, fun | 9 => 9 | 3 => 3 | 4 => 4 | 72 => 84 | 0 => 0 | 76 => 100 | 105 => 103 | 21 => 21 | 5 => 5 | 70 => 81 | 20 => 20 | 37 => 82 | 75 => 99 | 127 => 129 | 164 => 160 | 46 => 95 | 119 => 163 | 139 => 166 | 138 => 165 | 146 => 135 | 51 => 134 | 80 => 89 | n => n, fun | 1 => 0 | 3 => 1 | 4 => 2 | n => n⟩
theorem Tryz.lays154 : Go.Proofs.Lays.n154 Tryz.prog Tryz.lays154_ren := {
  mixed := by kernel_rfl
  f138 := Tryz.func47.trans (congrArg some (by kernel_rfl))
  f143 := Tryz.func48.trans (congrArg some (by kernel_rfl))
  f154 := Tryz.func21.trans (congrArg some (by kernel_rfl))
  f165 := Tryz.func44.trans (congrArg some (by kernel_rfl))
  f166 := Tryz.func45.trans (congrArg some (by kernel_rfl))
  f169 := Tryz.func38.trans (congrArg some (by kernel_rfl))
  f195 := Tryz.func90.trans (congrArg some (by kernel_rfl))
  f197 := Tryz.func49.trans (congrArg some (by kernel_rfl))
  f217 := Tryz.func107.trans (congrArg some (by kernel_rfl))
  f218 := Tryz.func91.trans (congrArg some (by kernel_rfl))
  f219 := Tryz.func92.trans (congrArg some (by kernel_rfl))
  f224 := Tryz.func125.trans (congrArg some (by kernel_rfl))
  f225 := Tryz.func124.trans (congrArg some (by kernel_rfl))
  f240 := Tryz.func88.trans (congrArg some (by kernel_rfl))
  f241 := Tryz.func89.trans (congrArg some (by kernel_rfl))
  f260 := Tryz.func93.trans (congrArg some (by kernel_rfl))
  f266 := Tryz.func130.trans (congrArg some (by kernel_rfl))
  f267 := Tryz.func126.trans (congrArg some (by kernel_rfl))
  f276 := Tryz.func122.trans (congrArg some (by kernel_rfl))
  f277 := Tryz.func123.trans (congrArg some (by kernel_rfl))
  f314 := Tryz.func142.trans (congrArg some (by kernel_rfl))
  t0 := Tryz.underlying0
  a0 := Tryz.isAgg0
  z0 := Tryz.sizeOf0
  v0 := Tryz.zeroValue0
  t3 := Tryz.underlying3
  a3 := Tryz.isAgg3
  z3 := Tryz.sizeOf3
  v3 := Tryz.zeroValue3
  t4 := Tryz.underlying4
  a4 := Tryz.isAgg4
  z4 := Tryz.sizeOf4
  v4 := Tryz.zeroValue4
  t5 := Tryz.underlying5
  a5 := Tryz.isAgg5
  z5 := Tryz.sizeOf5
  v5 := Tryz.zeroValue5
  t9 := Tryz.underlying9
  a9 := Tryz.isAgg9
  z9 := Tryz.sizeOf9
  v9 := Tryz.zeroValue9
  t20 := Tryz.underlying20
  a20 := Tryz.isAgg20
  z20 := Tryz.sizeOf20
  v20 := Tryz.zeroValue20
  t21 := Tryz.underlying21
  a21 := Tryz.isAgg21
  z21 := Tryz.sizeOf21
  v21 := Tryz.zeroValue21
  t37 := Tryz.underlying82
  a37 := Tryz.isAgg82
  z37 := Tryz.sizeOf82
  v37 := Tryz.zeroValue82
  t46 := Tryz.underlying95
  a46 := Tryz.isAgg95
  z46 := Tryz.sizeOf95
  v46 := Tryz.zeroValue95
  t51 := Tryz.underlying134
  a51 := Tryz.isAgg134
  z51 := Tryz.sizeOf134
  v51 := Tryz.zeroValue134
  t70 := Tryz.underlying81
  a70 := Tryz.isAgg81
  z70 := Tryz.sizeOf81
  v70 := Tryz.zeroValue81
  t72 := Tryz.underlying84
  a72 := Tryz.isAgg84
  z72 := Tryz.sizeOf84
  v72 := Tryz.zeroValue84
  t75 := Tryz.underlying99
  a75 := Tryz.isAgg99
  z75 := Tryz.sizeOf99
  v75 := Tryz.zeroValue99
  t76 := Tryz.underlying100
  a76 := Tryz.isAgg100
  z76 := Tryz.sizeOf100
  v76 := Tryz.zeroValue100
  t105 := Tryz.underlying103
  a105 := Tryz.isAgg103
  z105 := Tryz.sizeOf103
  v105 := Tryz.zeroValue103
  t119 := Tryz.underlying163
  a119 := Tryz.isAgg163
  z119 := Tryz.sizeOf163
  t127 := Tryz.underlying129
  a127 := Tryz.isAgg129
  z127 := Tryz.sizeOf129
  v127 := Tryz.zeroValue129
  t138 := Tryz.underlying165
  a138 := Tryz.isAgg165
  z138 := Tryz.sizeOf165
  v138 := Tryz.zeroValue165
  t139 := Tryz.underlying166
  a139 := Tryz.isAgg166
  z139 := Tryz.sizeOf166
  v139 := Tryz.zeroValue166
  t146 := Tryz.underlying135
  a146 := Tryz.isAgg135
  z146 := Tryz.sizeOf135
  v146 := Tryz.zeroValue135
  t164 := Tryz.underlying160
  a164 := Tryz.isAgg160
  z164 := Tryz.sizeOf160
  v164 := Tryz.zeroValue160
  g1 := by kernel_rfl
  g3 := by kernel_rfl
  g4 := by kernel_rfl }
theorem Tryz.Builder_Extra_154 : Builder.Extra Tryz.prog Tryz.lays154_ren := {
  sizeBuilder := by kernel_rfl
  liesBuilder := by kernel_rfl
  t5 := Tryz.underlying5
  a5 := Tryz.isAgg5
  z5 := Tryz.sizeOf5
  v5 := Tryz.zeroValue5
  infoByte := by kernel_rfl
  cellsByte := by kernel_rfl
  sizeByte := by kernel_rfl
  neB5 := by decide }
open Go.RowKit Go.Lib in
theorem Tryz.strings_Replace (s old new : ByteArray) (n : Int) (m : Int) (w : World) (hs : s.size < 4294967281) (hm : w.cell? ⟨0, 0, none⟩ = some (.int .i64 m)) (h1 : 1 ≤ old.size) (hlen : s.size + Lib.countB s old * new.size ≤ 140737488355328) :
    Calls Tryz.prog 21 #[.string s, .string old, .string new, .int .i64 n] w fun e w' =>
      e = .returned (.string ⟨(Lib.replace s.data.toList old.data.toList new.data.toList n).toArray⟩) ∧ Below w.heap.size w w' := Any.strings_Replace Tryz.lays154 Tryz.Builder_Extra_154 s old new n m w hs hm h1 hlen
def Tryz.lays105_ren : Go.Shelf.Ren := ⟨fun | 105 => 20 | 212 => 42 | 99 => 43 | 165 => 44 | 166 => 45 | 170 => 46 | 169 => 38 | 263 => 85 | 264 => 86 | 206 => 87 | 240 => 88 | 241 => 89 | 276 => 122 | 277 => 123 | n => n, fun | 9 => 9 | 3 => 3 | 4 => 4 | 20 => 20 | 0 => 0 | 46 => 95 | 109 => 96 | 5 => 5 | 72 => 84 | 76 => 100 | 51 => 134 | 146 => 135 | 53 => 137 | 148 => 138 | 70 => 81 | 37 => 82 | 75 => 99 | 127 => 129 | 164 => 160 | 80 => 89 | n => n, fun | n => n⟩
theorem Tryz.lays105 : Go.Proofs.Lays.n105 Tryz.prog Tryz.lays105_ren := {
  mixed := by kernel_rfl
  f99 := Tryz.func43.trans (congrArg some (by kernel_rfl))
  f105 := Tryz.func20.trans (congrArg some (by kernel_rfl))
  f165 := Tryz.func44.trans (congrArg some (by kernel_rfl))
  f166 := Tryz.func45.trans (congrArg some (by kernel_rfl))
  f169 := Tryz.func38.trans (congrArg some (by kernel_rfl))
  f170 := Tryz.func46.trans (congrArg some (by kernel_rfl))
  f206 := Tryz.func87.trans (congrArg some (by kernel_rfl))
  f212 := Tryz.func42.trans (congrArg some (by kernel_rfl))
  f240 := Tryz.func88.trans (congrArg some (by kernel_rfl))
  f241 := Tryz.func89.trans (congrArg some (by kernel_rfl))
  f263 := Tryz.func85.trans (congrArg some (by kernel_rfl))
  f264 := Tryz.func86.trans (congrArg some (by kernel_rfl))
  f276 := Tryz.func122.trans (congrArg some (by kernel_rfl))
  f277 := Tryz.func123.trans (congrArg some (by kernel_rfl))
  t0 := Tryz.underlying0
  a0 := Tryz.isAgg0
  z0 := Tryz.sizeOf0
  v0 := Tryz.zeroValue0
  t3 := Tryz.underlying3
  a3 := Tryz.isAgg3
  z3 := Tryz.sizeOf3
  v3 := Tryz.zeroValue3
  t4 := Tryz.underlying4
  a4 := Tryz.isAgg4
  z4 := Tryz.sizeOf4
  v4 := Tryz.zeroValue4
  t5 := Tryz.underlying5
  a5 := Tryz.isAgg5
  z5 := Tryz.sizeOf5
  v5 := Tryz.zeroValue5
  t9 := Tryz.underlying9
  a9 := Tryz.isAgg9
  z9 := Tryz.sizeOf9
  v9 := Tryz.zeroValue9
  t20 := Tryz.underlying20
  a20 := Tryz.isAgg20
  z20 := Tryz.sizeOf20
  v20 := Tryz.zeroValue20
  t37 := Tryz.underlying82
  a37 := Tryz.isAgg82
  z37 := Tryz.sizeOf82
  v37 := Tryz.zeroValue82
  t46 := Tryz.underlying95
  a46 := Tryz.isAgg95
  z46 := Tryz.sizeOf95
  v46 := Tryz.zeroValue95
  t51 := Tryz.underlying134
  a51 := Tryz.isAgg134
  z51 := Tryz.sizeOf134
  v51 := Tryz.zeroValue134
  t53 := Tryz.underlying137
  a53 := Tryz.isAgg137
  z53 := Tryz.sizeOf137
  v53 := Tryz.zeroValue137
  t70 := Tryz.underlying81
  a70 := Tryz.isAgg81
  z70 := Tryz.sizeOf81
  v70 := Tryz.zeroValue81
  t72 := Tryz.underlying84
  a72 := Tryz.isAgg84
  z72 := Tryz.sizeOf84
  v72 := Tryz.zeroValue84
  t75 := Tryz.underlying99
  a75 := Tryz.isAgg99
  z75 := Tryz.sizeOf99
  v75 := Tryz.zeroValue99
  t76 := Tryz.underlying100
  a76 := Tryz.isAgg100
  z76 := Tryz.sizeOf100
  v76 := Tryz.zeroValue100
  t109 := Tryz.underlying96
  a109 := Tryz.isAgg96
  z109 := Tryz.sizeOf96
  v109 := Tryz.zeroValue96
  t127 := Tryz.underlying129
  a127 := Tryz.isAgg129
  z127 := Tryz.sizeOf129
  v127 := Tryz.zeroValue129
  t146 := Tryz.underlying135
  a146 := Tryz.isAgg135
  z146 := Tryz.sizeOf135
  v146 := Tryz.zeroValue135
  t148 := Tryz.underlying138
  a148 := Tryz.isAgg138
  z148 := Tryz.sizeOf138
  v148 := Tryz.zeroValue138
  t164 := Tryz.underlying160
  a164 := Tryz.isAgg160
  z164 := Tryz.sizeOf160
  v164 := Tryz.zeroValue160 }
theorem Tryz.Builder_Extra_105 : Builder.Extra Tryz.prog Tryz.lays105_ren := {
  sizeBuilder := by kernel_rfl
  liesBuilder := by kernel_rfl
  t5 := Tryz.underlying5
  a5 := Tryz.isAgg5
  z5 := Tryz.sizeOf5
  v5 := Tryz.zeroValue5
  infoByte := by kernel_rfl
  cellsByte := by kernel_rfl
  sizeByte := by kernel_rfl
  neB5 := by decide }
open Go.RowKit Go.Lib in
theorem Tryz.strings_Repeat (s : ByteArray) (c : Nat) (w : World) (hc : c ≤ 9223372036854775807) (hlen : s.size * c ≤ 140737488355328) :
    Calls Tryz.prog 20 #[.string s, .int .i64 c] w fun e w' => e = .returned (.string ⟨(Lib.repeatL s.data.toList c).toArray⟩) ∧ Below w.heap.size w w' := Any.strings_Repeat Tryz.lays105 Tryz.Builder_Extra_105 s c w hc hlen
end Go.Proofs

/-
  AbnfWrong answers true for all numbers: its walk. Conditions: the numbers lie in memory; the tables abnf.leaves, the library's powers of ten and its number MaxLen lie where they do.
-/
namespace Go.Proofs.YtodenbimeojgdaaGreatDoor
open Go.RowKit

set_option maxRecDepth 1000000 in
set_option maxHeartbeats 8000000 in
theorem AbnfWrong_any (A : Option Addr) (cA : Nat) (us : List (Option Addr × Nat × List Nat)) (wh : Nat) (hwh : wh ≤ 255) (B : Option Addr) (cB : Nat) (vs : List (Option Addr × Nat × List Nat)) (w : World) (hu : NumRow w A us) (hv : NumRow w B vs) (hcA : us.length ≤ cA) (hcB : vs.length ≤ cB) (mx : Int) (hmx : w.cell? ⟨0, 0, none⟩ = some (.int .i64 mx)) (hlv : LeavesAt w) (hpw : PowAt w) :
    Calls Tryz.prog 5 #[.slice A us.length cA, .int .u8 (wh : Nat), .slice B vs.length cB] w fun e w' => e = .returned (.bool true) ∧ Below w.heap.size w w' := by
  have hmxl : 0 < w.heap.size := by
    rcases Nat.lt_or_ge 0 w.heap.size with hlt | hge
    · exact hlt
    · simp [World.cell?, Array.getElem?_eq_none hge] at hmx
  have HMX : Hid (∀ W, Below w.heap.size w W → W.cell? ⟨0, 0, none⟩ = some (.int .i64 mx)) := fun W hW => (hW.cell (p := ⟨0, 0, none⟩) hmxl).trans hmx
  have HWAKE : Hid (∀ W, Below w.heap.size w W → Calls Tryz.prog 8 #[] W fun e w' => e = .returned (.bool true) ∧ Below W.heap.size W w') := fun W hW => awake_any W (hlv.below hW hlv.lt) (hpw.below hW hpw.lt)
  have HLV : Hid (∀ W, Below w.heap.size w W → LeavesAt W) := fun W hW => hlv.below hW hlv.lt
  have HPW : Hid (∀ W, Below w.heap.size w W → PowAt W) := fun W hW => hpw.below hW hpw.lt
  have HGR : Hid (∀ (a : Option Addr) (c : Nat) (u : List Nat) (W : World), NumsAt W a u → u.length ≤ 60 → Calls Tryz.prog 17 #[.slice a u.length c, .slice none 0 0] W fun e w' => ∃ sl, e = .returned (treeV (treeU u) sl) ∧ KidsAt w' (fun b => W.heap.size ≤ b) (treeU u).kids sl ∧ Below W.heap.size W w') := fun a c u W hn hl => Grown_any a c u none 0 [] W hn (by omega) (words_none _)
  have HPRI : Hid (∀ (u : List Nat) (ap : Option Addr) (ac : Nat) (W : World), u.length ≤ 60 → KidsAt W (· < W.heap.size) (treeU u).kids (.slice ap (treeU u).kids.length ac) → PowAt W → Calls Tryz.prog 15 #[.agg #[.string ⟨#[120]⟩, .int .i64 0, .bool false, .int .u8 (treeU u).kind, .string (bs (treeU u).text), .int .u8 (treeU u).lo, .int .u8 (treeU u).hi, .int .i64 (treeU u).mn, .int .i64 (treeU u).mx, .slice ap (treeU u).kids.length ac]] W fun e w' => e = .returned (.tuple #[.string (bs (xRule (treeU u))), .int .i64 0]) ∧ Below W.heap.size W w') := fun u ap ac W hl hk hp => by
    obtain ⟨ra, ya, ta⟩ := treeU_facts u
    have hxl := xRule_len u (by omega)
    have := Print_any { name := [120], place := 0, more := false, tree := treeU u } (.slice ap (treeU u).kids.length ac) W hk ya ta hp (by show 1 ≤ maxLen; unfold maxLen; omega) (by
      simp only
      rw [print_x (treeU u) ra]
      change (xRule (treeU u)).length ≤ _
      omega)
    simp only [print_x (treeU u) ra] at this
    exact this
  obtain ⟨U6, eU⟩ : ∃ X, X = us.take 6 := ⟨_, rfl⟩
  obtain ⟨V6, eV⟩ : ∃ X, X = vs.take 6 := ⟨_, rfl⟩
  have hlU : U6.length = min 6 us.length := by rw [eU, List.length_take]
  have hlV : V6.length = min 6 vs.length := by rw [eV, List.length_take]
  have HU : Hid (NumRow w A U6) := by rw [eU]; exact hu.take 6
  have HV : Hid (NumRow w B V6) := by rw [eV]; exact hv.take 6
  have hminU : min (us.length : Int) 6 = (U6.length : Int) := by omega
  have hminV : min (vs.length : Int) 6 = (V6.length : Int) := by omega
  have hU6 : U6.length ≤ 6 := by omega
  have hV6 : V6.length ≤ 6 := by omega
  have hUc : (U6.length : Int) ≤ cA := by omega
  have hVc : (V6.length : Int) ≤ cB := by omega
  have hU0 : (0 : Int) ≤ U6.length := by omega
  have hV0 : (0 : Int) ≤ V6.length := by omega
  clear eU eV hu hv hlU hlV hlv hpw hmx hcA hcB
  generalize us.length = nu at *
  generalize vs.length = nv at *
  generalize hNU : U6.length = NU at *
  generalize hNV : V6.length = NV at *
  have HNU := Lib.hid hNU
  have HNV := Lib.hid hNV
  clear hNU hNV
  go_enter Tryz.func5, Tryz.ntmps5
  go_upto_region 2 with fail
  go_cut [31, 32, 33] (fun v l i wx => v = .slice (some ⟨w.heap.size, 0, none⟩) 2 2 ∧ l = .int .i64 2 ∧ i = .int .i64 0 ∧ Hid (Blk wx w.heap.size 49 #[.slice A NU cA, .slice B NV cB] ∧ Below w.heap.size w wx))
  case first =>
    go_region
    all_goals (go_wp2_with fail)
    all_goals go_meet
    all_goals exact ⟨rfl, rfl, rfl, Blk.new _ _ _, Below.drew ((Below.refl _ _).alloc (Nat.le_refl _) _)⟩
  case rest =>
    obtain ⟨rfl, rfl, rfl, HC⟩ := hcut
    have HMAP : Hid (∀ k, k < 2 → ∃ (RA : Option Addr) (RC : Nat) (X : List (Option Addr × Nat × List Nat)), (#[.slice A NU cA, .slice B NV cB] : Array Value)[k]? = some (.slice RA X.length RC) ∧ NumRow w RA X ∧ X.length ≤ 6 ∧ (k = 0 → X = U6) ∧ (k = 1 → X = V6)) := fun k hk => by
      match k, hk with
      | 0, _ => exact ⟨A, cA, U6, by rw [HNU.out]; rfl, HU.out, by rw [HNU.out]; exact hU6, (fun _ => rfl), (fun h => by cases h)⟩
      | 1, _ => exact ⟨B, cB, V6, by rw [HNV.out]; rfl, HV.out, by rw [HNV.out]; exact hV6, (fun h => by cases h), (fun _ => rfl)⟩
    obtain ⟨UU, eUU⟩ : ∃ X, X = numsOf U6 := ⟨_, rfl⟩
    obtain ⟨VV, eVV⟩ : ∃ X, X = numsOf V6 := ⟨_, rfl⟩
    have HUU := Lib.hid eUU
    have HVV := Lib.hid eVV
    have HLU : Hid (UU.length = NU) := by show UU.length = NU; rw [eUU, ← HNU.out]; exact List.length_map _
    have HLV2 : Hid (VV.length = NV) := by show VV.length = NV; rw [eVV, ← HNV.out]; exact List.length_map _
    clear eUU eVV HU HV
    go_wp2
    go_loopw [7, 8, 9, 10, 12, 13, 14, 33] (fun a b _ _ _ _ _ i wr => ∃ k : Nat, k ≤ 2 ∧ i = .int .i64 k ∧ a = .string (bs (oaX UU k)) ∧ b = .string (bs (obX VV k)) ∧ Hid (Below wc.heap.size wc wr) ∧ Hid (LenAt UU VV k)) (fun _ _ _ _ _ _ _ i _ => 2 - (intOf i).toNat)
    case atStart => exact ⟨0, Nat.zero_le _, rfl, rfl, rfl, Below.refl _ _, len_start _ _⟩
    case round =>
      obtain ⟨k, hk, rfl, rfl, rfl, HB, HL⟩ := hrel
      have HBW : Hid (Below w.heap.size w wr) := HC.out.2.trans (HB.out.mono HC.out.2.size)
      by_cases hlt : k < 2
      · obtain ⟨RA, RC, X, hcl, hrow, hX6, hX0, hX1⟩ := HMAP.out k hlt
        have hlt' : (k : Int) < 2 := by omega
        have h0' : (0 : Int) ≤ k := by omega
        have hcell : wr.cell? ⟨w.heap.size, k, none⟩ = some (.slice RA X.length RC) := by
          rw [(HC.out.1.below HB.out HC.out.1.lt).cell]
          exact hcl
        have HROW := Lib.hid hrow
        have HX0 : Hid (k = 0 → UU = numsOf X) := fun h => by rw [hX0 h]; exact HUU.out
        have HX1 : Hid (k = 1 → VV = numsOf X) := fun h => by rw [hX1 h]; exact HVV.out
        have HST : Hid (LenIn UU VV k 0) := len_enter HL.out hlt
        have HN0 : Hid (k = 0 → X.length = UU.length) := fun h => by rw [HX0.out h]; exact (List.length_map _).symm
        have HN1 : Hid (k = 1 → X.length = VV.length) := fun h => by rw [HX1.out h]; exact (List.length_map _).symm
        clear hcl hrow hX0 hX1
        generalize hXL : X.length = N at *
        have HXL := Lib.hid hXL
        clear hXL
        go_wp2
        go_loopw [7, 8, 12, 13, 14, 40] (fun a b _ _ _ i wr2 => ∃ j : Nat, j ≤ N ∧ i = .int .i64 j ∧ a = .string (bs (faX UU k j)) ∧ b = .string (bs (fbX VV k j)) ∧ Hid (Below wr.heap.size wr wr2) ∧ Hid (LenIn UU VV k j)) (fun _ _ _ _ _ i _ => N - (intOf i).toNat)
        case atStart => exact ⟨0, Nat.zero_le _, rfl, by rw [faX_zero], by rw [fbX_zero VV hlt], Below.refl _ _, HST.out⟩
        case round =>
          obtain ⟨j, hj, rfl, rfl, rfl, HB2, HL2⟩ := hrel
          by_cases hjl : j < N
          · obtain ⟨⟨a, c, u⟩, hx⟩ : ∃ x, X[j]? = some x := ⟨_, List.getElem?_eq_getElem (by rw [HXL.out]; exact hjl)⟩
            obtain ⟨b, off, hRA, hbl, hce, hnu⟩ := HROW.out j a c u hx
            subst hRA
            have hjl' : (j : Int) < N := by omega
            have hj0 : (0 : Int) ≤ j := by omega
            have HB3 : Hid (Below w.heap.size w wr) := HBW.out.trans (HB2.out.mono HBW.out.size)
            have hc1 : wr.cell? ⟨b, off + j, none⟩ = some (.slice a u.length c) := (HB3.out.cell (p := ⟨b, off + j, none⟩) hbl).trans hce
            by_cases h60 : u.length ≤ 60
            · have h60' : ¬ (60 : Int) < u.length := by omega
              have hb6 := len_bound HL2.out (by omega : j ≤ 6)
              have HG := Lib.hid (HGR.out a c u wr (hnu.below HB3.out) h60)
              have HPU := Lib.hid (fun (ap : Option Addr) (ac : Nat) (W : World) => HPRI.out u ap ac W h60)
              have HUK : Hid (k = 0 → UU[j]? = some u) := fun h => by rw [HX0.out h]; exact numsOf_at hx
              have HVK : Hid (k ≠ 0 → VV[j]? = some u) := fun h => by rw [HX1.out (by omega)]; exact numsOf_at hx
              have HL3 : Hid (LenIn UU VV k (j + 1)) := len_step HL2.out (by omega) HUK.out HVK.out
              have HF0 : Hid (k = 0 → bs (faX UU k (j + 1)) = bs (faX UU k j) ++ (bs (xRule (treeU u)) ++ ⟨#[10]⟩) ∧ bs (fbX VV k (j + 1)) = bs (fbX VV k j)) := fun h => by
                have h1 := HUK.out h
                subst h
                rw [fa_step h1, fb_zero, show (⟨#[10]⟩ : ByteArray) = bs [10] from rfl, bs_app, bs_app]
                exact ⟨rfl, rfl⟩
              have HF1 : Hid (k ≠ 0 → bs (faX UU k (j + 1)) = bs (faX UU k j) ∧ bs (fbX VV k (j + 1)) = bs (fbX VV k j) ++ (bs (xRule (treeU u)) ++ ⟨#[10]⟩)) := fun h => by
                rw [fa_same UU h, fb_step h (HVK.out h), show (⟨#[10]⟩ : ByteArray) = bs [10] from rfl, bs_app, bs_app]
                exact ⟨rfl, rfl⟩
              have sX : (bs (xRule (treeU u))).size ≤ 5211 := by rw [bs_size]; exact xRule_len u (by omega)
              have sF : (bs (faX UU k j)).size ≤ 31272 := by rw [bs_size]; exact hb6.1
              have sG : (bs (fbX VV k j)).size ≤ 31272 := by rw [bs_size]; exact hb6.2
              clear hb6 hnu hce hx HUK HVK
              generalize bs (xRule (treeU u)) = TX at *
              generalize treeU u = G at *
              generalize bs (faX UU k j) = FA at *
              generalize bs (fbX VV k j) = FB at *
              go_wp2_with (go_at_call 17; refine HG.out.mono ?_)
              (first | (rintro e w5 ⟨sl, rfl, hk0, hb0⟩; have hk5 := hk0; have hb5 := hb0; clear hk0 hb0) | (rintro e w5 sl rfl hk0 hb0; have hk5 := hk0; have hb5 := hb0; clear hk0 hb0))
              obtain ⟨gp, gc, rfl, _⟩ := hk5.form
              have HB5 : Hid (Below w.heap.size w w5) := HB3.out.trans (hb5.mono HB3.out.size)
              have HB25 := Lib.hid (HB2.out.trans (hb5.mono HB2.out.size))
              have HPX := Lib.hid (HPU.out gp gc w5 (hk5.mono (fun b hl _ => hl)) (HPW.out _ HB5.out))
              unfold treeV
              clear hk5 hb5 HG HPU
              go_wp2_with (go_at_call 15; refine HPX.out.mono ?_)
              (first | (rintro e w6 ⟨rfl, hb0⟩; have hb6 := hb0) | (rintro e w6 rfl hb0; have hb6 := hb0))
              have HB26 := Lib.hid (HB25.out.trans (hb6.mono HB25.out.size))
              clear hb6 hb0 HPX
              by_cases hk0 : k = 0
              · have hd1 : decide ((k : Int) = 0) = true := by rw [decide_eq_true_iff]; omega
                have hd2 : ((k : Int) == 0) = true := by rw [beq_iff_eq]; omega
                have HF := Lib.hid (HF0.out hk0)
                clear hk0
                go_wp2
                go_roundw
                case rel => exact ⟨j + 1, by omega, by go_num, by rw [HF.out.1], by rw [HF.out.2], HB26.out, HL3.out⟩
                case measure => simp [intOf]; omega
              · have hk0' : ¬ (k : Int) = 0 := by omega
                have HF := Lib.hid (HF1.out hk0)
                clear hk0
                go_wp2
                go_roundw
                case rel => exact ⟨j + 1, by omega, by go_num, by rw [HF.out.1], by rw [HF.out.2], HB26.out, HL3.out⟩
                case measure => simp [intOf]; omega
            · have h60' : (60 : Int) < u.length := by omega
              clear h60 hce hnu hx
              go_wp2_with (go_at_call 8; refine (HWAKE.out _ HB3.out).mono ?_)
              (first | (rintro e w5 ⟨rfl, hb0⟩; have hb5 := hb0) | (rintro e w5 rfl hb0; have hb5 := hb0))
              have HE := Lib.hid (HB3.out.trans (hb5.mono HB3.out.size))
              clear hb5 hb0
              go_wp2
              go_ret
              exact ⟨rfl, HE.out⟩
          · have hjN : j = N := by omega
            have HE := Lib.hid (HB.out.trans (HB2.out.mono HB.out.size))
            subst hjN
            have HLL := Lib.hid (len_leave HL2.out hlt hX6 HN0.out HN1.out)
            have HFA := Lib.hid (faX_end UU k j HN0.out)
            have HFB := Lib.hid (fbX_end VV k j hlt HN1.out)
            go_wp2
            go_roundw
            case rel => exact ⟨k + 1, by omega, by go_num, by rw [HFA.out], by rw [HFB.out], HE.out, HLL.out⟩
            case measure => simp [intOf]; omega
      · have hk2 : k = 2 := by omega
        subst hk2
        have hl1 := HL.out.1 (by omega)
        have hl2 := HL.out.2 (by omega)
        rw [oa_two, ob_two]
        have sA : (bs (txtU UU)).size ≤ 31272 := by rw [bs_size]; exact hl1
        have sB : (bs (txtU VV)).size ≤ 31272 := by rw [bs_size]; exact hl2
        clear hl1 hl2 HL HC HMAP HB
        by_cases hlong : (txtU UU).length + (txtU VV).length ≤ 40000
        · have hs' : ¬ (40000 : Int) < ((bs (txtU UU)).size : Int) + (bs (txtU VV)).size := by rw [bs_size, bs_size]; omega
          obtain ⟨rs, hrs, hfine⟩ := fine_all UU VV hlong
          have HFI := Lib.hid hfine
          have hlen : rs.length = NU + NV + 1 := by rw [hrs, HLU.out, HLV2.out]
          obtain ⟨n, hn15, hmod, hmod2⟩ : ∃ n : Nat, n < 15 ∧ (wh : Int) % 15 = (n : Int) ∧ (wh : Int).tmod 15 = (n : Int) := ⟨wh % 15, by omega, by omega, by rw [Int.tmod_eq_emod_of_nonneg (by omega)]; omega⟩
          obtain ⟨X, off, er, hmem, hb0, hb1, hb2⟩ := bad_row n hn15
          have HFL := Lib.hid (fails_all UU VV X off er hmem hlong)
          have hx304 := allBads_short _ hmem
          have hoff := allBads_off _ hmem
          simp only at hx304 hoff
          have sX : (bs X).size ≤ 304 := by rw [bs_size]; exact hx304
          have HR1 : Hid (∀ W, Calls Tryz.prog 20 #[.string ⟨#[49, 40]⟩, .int .i64 98] W fun e w' => e = .returned (.string (bs (Lib.repeatL [49, 40] 98))) ∧ Below W.heap.size W w') := fun W => Tryz.strings_Repeat ⟨#[49, 40]⟩ 98 W (by omega) (by show 2 * 98 ≤ _; omega)
          have HR2 : Hid (∀ W, Calls Tryz.prog 20 #[.string ⟨#[41]⟩, .int .i64 98] W fun e w' => e = .returned (.string (bs (Lib.repeatL [41] 98))) ∧ Below W.heap.size W w') := fun W => Tryz.strings_Repeat ⟨#[41]⟩ 98 W (by omega) (by show 1 * 98 ≤ _; omega)
          have HRP : Hid (∀ W, Below w.heap.size w W → Calls Tryz.prog 21 #[.string deepE, .string ⟨#[97, 32, 98]⟩, .string ⟨#[49, 40, 97, 32, 98, 41]⟩, .int .i64 1] W fun e w' => e = .returned (.string (bs deepZ)) ∧ Below W.heap.size W w') := fun W hW => by
            have hsz : (bs deepA).size = 301 := by rw [bs_size, deepA_len]
            have := Tryz.strings_Replace (bs deepA) ⟨#[97, 32, 98]⟩ ⟨#[49, 40, 97, 32, 98, 41]⟩ 1 mx W (by rw [hsz]; omega) (HMX.out W hW) (by decide) (by rw [hsz, count_deep]; decide)
            rw [deepE_eq]
            rw [show (bs deepA).data.toList = deepA from bs_toList deepA, show (⟨#[97, 32, 98]⟩ : ByteArray).data.toList = [97, 32, 98] from rfl, show (⟨#[49, 40, 97, 32, 98, 41]⟩ : ByteArray).data.toList = [49, 40, 97, 32, 98, 41] from rfl, replace_deep] at this
            exact this
          have s1 : (bs (Lib.repeatL [49, 40] 98)).size ≤ 196 := by rw [bs_size, Lib.repeatL_length]; show 98 * 2 ≤ 196; omega
          have s2 : (bs (Lib.repeatL [41] 98)).size ≤ 98 := by rw [bs_size, Lib.repeatL_length]; show 98 * 1 ≤ 98; omega
          unfold deepE at HFI HRP
          unfold badCells at hb0 hb1 hb2
          clear hfine hrs hmem hlong hx304
          generalize bs (txtU UU) = TA at *
          generalize bs (txtU VV) = TB at *
          generalize bs (Lib.repeatL [49, 40] 98) = R1 at *
          generalize bs (Lib.repeatL [41] 98) = R2 at *
          generalize bs deepZ = DZ at *
          generalize bs X = TX at *
          have HBC0 := Lib.hid hb0
          have HBC1 := Lib.hid hb1
          have HBC2 := Lib.hid hb2
          clear hb0 hb1 hb2
          go_wp2_with (go_at_call 20; refine (HR1.out _).mono ?_)
          (first | (rintro e w5 ⟨rfl, hb0⟩; have hb5 := hb0) | (rintro e w5 rfl hb0; have hb5 := hb0))
          have HB5 := Lib.hid (HBW.out.trans (hb5.mono HBW.out.size))
          clear hb5 hb0 HR1
          go_wp2_with (go_at_call 20; refine (HR2.out _).mono ?_)
          (first | (rintro e w6 ⟨rfl, hb0⟩; have hb6 := hb0) | (rintro e w6 rfl hb0; have hb6 := hb0))
          have HB6 := Lib.hid (HB5.out.trans (hb6.mono HB5.out.size))
          clear hb6 hb0 HR2
          go_wp2_with (go_at_call 21; refine (HRP.out _ HB6.out).mono ?_)
          (first | (rintro e w8 ⟨rfl, hb0⟩; have hb8 := hb0) | (rintro e w8 rfl hb0; have hb8 := hb0))
          have HB8 := Lib.hid (HB6.out.trans (hb8.mono HB6.out.size))
          clear hb8 hb0 HRP HB5 HB6
          go_upto_region 22 with fail
          have HB9 : Hid (Below w.heap.size w (w8.alloc (.cells #[.string ⟨#[114, 32, 97]⟩, .int .i64 2, .int .i64 20, .string ⟨#[114]⟩, .int .i64 2, .int .i64 20, .string ⟨#[114, 32, 61, 32, 61, 32, 97]⟩, .int .i64 4, .int .i64 20, .string ⟨#[114, 32, 61, 32, 47, 32, 97]⟩, .int .i64 4, .int .i64 20, .string ⟨#[114, 32, 61, 32, 97, 32, 47, 32, 47, 32, 98]⟩, .int .i64 8, .int .i64 20, .string ⟨#[114, 32, 61, 32, 97, 32, 41]⟩, .int .i64 6, .int .i64 20, .string ⟨#[114, 32, 61, 32, 40, 97, 93, 32, 98]⟩, .int .i64 6, .int .i64 20, .string ⟨#[114, 32, 61, 32, 91, 97, 41, 32, 98]⟩, .int .i64 6, .int .i64 20, .string ⟨#[114, 32, 61, 32, 40, 41]⟩, .int .i64 5, .int .i64 20, .string ⟨#[114, 32, 61, 32, 50, 32, 51, 97]⟩, .int .i64 6, .int .i64 20, .string ⟨#[114, 32, 61, 32, 97, 32, 50]⟩, .int .i64 8, .int .i64 20, .string ⟨#[114, 32, 61, 32, 97, 32, 61, 47, 32, 98]⟩, .int .i64 6, .int .i64 20, .string ⟨#[114, 32, 61, 32]⟩, .int .i64 5, .int .i64 20, .string ⟨#[114, 32, 61, 32, 91, 97]⟩, .int .i64 7, .int .i64 20, .string DZ, .int .i64 0, .int .i64 21] 52))) := HB8.out.alloc HB8.out.size _
          have HK9 : Hid (Blk (w8.alloc (.cells #[.string ⟨#[114, 32, 97]⟩, .int .i64 2, .int .i64 20, .string ⟨#[114]⟩, .int .i64 2, .int .i64 20, .string ⟨#[114, 32, 61, 32, 61, 32, 97]⟩, .int .i64 4, .int .i64 20, .string ⟨#[114, 32, 61, 32, 47, 32, 97]⟩, .int .i64 4, .int .i64 20, .string ⟨#[114, 32, 61, 32, 97, 32, 47, 32, 47, 32, 98]⟩, .int .i64 8, .int .i64 20, .string ⟨#[114, 32, 61, 32, 97, 32, 41]⟩, .int .i64 6, .int .i64 20, .string ⟨#[114, 32, 61, 32, 40, 97, 93, 32, 98]⟩, .int .i64 6, .int .i64 20, .string ⟨#[114, 32, 61, 32, 91, 97, 41, 32, 98]⟩, .int .i64 6, .int .i64 20, .string ⟨#[114, 32, 61, 32, 40, 41]⟩, .int .i64 5, .int .i64 20, .string ⟨#[114, 32, 61, 32, 50, 32, 51, 97]⟩, .int .i64 6, .int .i64 20, .string ⟨#[114, 32, 61, 32, 97, 32, 50]⟩, .int .i64 8, .int .i64 20, .string ⟨#[114, 32, 61, 32, 97, 32, 61, 47, 32, 98]⟩, .int .i64 6, .int .i64 20, .string ⟨#[114, 32, 61, 32]⟩, .int .i64 5, .int .i64 20, .string ⟨#[114, 32, 61, 32, 91, 97]⟩, .int .i64 7, .int .i64 20, .string DZ, .int .i64 0, .int .i64 21] 52)) w8.heap.size 52 #[.string ⟨#[114, 32, 97]⟩, .int .i64 2, .int .i64 20, .string ⟨#[114]⟩, .int .i64 2, .int .i64 20, .string ⟨#[114, 32, 61, 32, 61, 32, 97]⟩, .int .i64 4, .int .i64 20, .string ⟨#[114, 32, 61, 32, 47, 32, 97]⟩, .int .i64 4, .int .i64 20, .string ⟨#[114, 32, 61, 32, 97, 32, 47, 32, 47, 32, 98]⟩, .int .i64 8, .int .i64 20, .string ⟨#[114, 32, 61, 32, 97, 32, 41]⟩, .int .i64 6, .int .i64 20, .string ⟨#[114, 32, 61, 32, 40, 97, 93, 32, 98]⟩, .int .i64 6, .int .i64 20, .string ⟨#[114, 32, 61, 32, 91, 97, 41, 32, 98]⟩, .int .i64 6, .int .i64 20, .string ⟨#[114, 32, 61, 32, 40, 41]⟩, .int .i64 5, .int .i64 20, .string ⟨#[114, 32, 61, 32, 50, 32, 51, 97]⟩, .int .i64 6, .int .i64 20, .string ⟨#[114, 32, 61, 32, 97, 32, 50]⟩, .int .i64 8, .int .i64 20, .string ⟨#[114, 32, 61, 32, 97, 32, 61, 47, 32, 98]⟩, .int .i64 6, .int .i64 20, .string ⟨#[114, 32, 61, 32]⟩, .int .i64 5, .int .i64 20, .string ⟨#[114, 32, 61, 32, 91, 97]⟩, .int .i64 7, .int .i64 20, .string DZ, .int .i64 0, .int .i64 21]) := Blk.new _ _ _
          generalize (w8.alloc (.cells #[.string ⟨#[114, 32, 97]⟩, .int .i64 2, .int .i64 20, .string ⟨#[114]⟩, .int .i64 2, .int .i64 20, .string ⟨#[114, 32, 61, 32, 61, 32, 97]⟩, .int .i64 4, .int .i64 20, .string ⟨#[114, 32, 61, 32, 47, 32, 97]⟩, .int .i64 4, .int .i64 20, .string ⟨#[114, 32, 61, 32, 97, 32, 47, 32, 47, 32, 98]⟩, .int .i64 8, .int .i64 20, .string ⟨#[114, 32, 61, 32, 97, 32, 41]⟩, .int .i64 6, .int .i64 20, .string ⟨#[114, 32, 61, 32, 40, 97, 93, 32, 98]⟩, .int .i64 6, .int .i64 20, .string ⟨#[114, 32, 61, 32, 91, 97, 41, 32, 98]⟩, .int .i64 6, .int .i64 20, .string ⟨#[114, 32, 61, 32, 40, 41]⟩, .int .i64 5, .int .i64 20, .string ⟨#[114, 32, 61, 32, 50, 32, 51, 97]⟩, .int .i64 6, .int .i64 20, .string ⟨#[114, 32, 61, 32, 97, 32, 50]⟩, .int .i64 8, .int .i64 20, .string ⟨#[114, 32, 61, 32, 97, 32, 61, 47, 32, 98]⟩, .int .i64 6, .int .i64 20, .string ⟨#[114, 32, 61, 32]⟩, .int .i64 5, .int .i64 20, .string ⟨#[114, 32, 61, 32, 91, 97]⟩, .int .i64 7, .int .i64 20, .string DZ, .int .i64 0, .int .i64 21] 52)) = W9 at *
          have hc0 : W9.cell? ⟨w8.heap.size, n * 3, none⟩ = some (.string TX) := by rw [HK9.out.cell]; exact HBC0.out
          have hc1 : W9.cell? ⟨w8.heap.size, n * 3 + 1, none⟩ = some (.int .i64 off) := by rw [HK9.out.cell]; exact HBC1.out
          have hc2 : W9.cell? ⟨w8.heap.size, n * 3 + 2, none⟩ = some (.int .i64 er) := by rw [HK9.out.cell]; exact HBC2.out
          have hn15' : (n : Int) < 15 := by omega
          have hn0' : (0 : Int) ≤ n := by omega
          clear HK9 HBC0 HBC1 HBC2
          have HB10 : Hid (Below w.heap.size w (W9.alloc (.cells #[.string TX, .int .i64 off, .int .i64 er] 52))) := HB9.out.alloc HB9.out.size _
          have HK10 : Hid (Blk (W9.alloc (.cells #[.string TX, .int .i64 off, .int .i64 er] 52)) W9.heap.size 52 #[.string TX, .int .i64 off, .int .i64 er]) := Blk.new _ _ _
          go_wp2_with (go_at_call 19; refine (HFI.out _ (HLV.out _ HB10.out)).mono ?_)
          intro e w11 h11
          obtain ⟨v, rfl, hr, hb11⟩ := h11
          obtain ⟨⟨ps, hps, hown, hkids⟩⟩ := hr
          obtain ⟨vA, vc, rfl, _⟩ := (RRow.of_own hown hkids).row
          have hpl : ps.length = NU + NV + 1 := by
            have e : ps.length = rs.length := by rw [← (show ps.map Prod.fst = rs from hps), List.length_map]
            omega
          have HK11 := Lib.hid (HK10.out.below hb11 HK10.out.lt)
          have HB11 := Lib.hid (HB10.out.trans (hb11.mono HB10.out.size))
          clear hps hown hkids hb11 hlen HK10 HB10 hc0 hc1 hc2 HFI
          generalize ps.length = M at *
          have hM1 : ((M : Int) == (NU : Int) + NV + 1) = true := by rw [beq_iff_eq]; omega
          have hM2 : (M : Int) = (NU : Int) + NV + 1 := by omega
          clear hpl
          have hcX := HK11.out.cell
          have HFL2 := Lib.hid (HFL.out w11 (HLV.out _ HB11.out))
          generalize W9.heap.size = g9 at *
          clear HFL
          go_wp2_with (go_at_call 22; refine HFL2.out.mono ?_)
          (first | (rintro e w12 ⟨rfl, hb0⟩; have hb12 := hb0) | (rintro e w12 rfl hb0; have hb12 := hb0))
          have HB12 := Lib.hid (HB11.out.trans (hb12.mono HB11.out.size))
          clear hb12 hb0 HFL2 hcX
          go_wp2_with (go_at_call 8; refine (HWAKE.out _ HB12.out).mono ?_)
          (first | (rintro e w13 ⟨rfl, hb0⟩; have hb13 := hb0) | (rintro e w13 rfl hb0; have hb13 := hb0))
          have HE := Lib.hid (HB12.out.trans (hb13.mono HB12.out.size))
          clear hb13 hb0
          go_wp2
          go_ret
          exact ⟨rfl, HE.out⟩
        · have hs' : (40000 : Int) < ((bs (txtU UU)).size : Int) + (bs (txtU VV)).size := by rw [bs_size, bs_size]; omega
          clear hlong
          generalize bs (txtU UU) = TA at *
          generalize bs (txtU VV) = TB at *
          go_wp2_with (go_at_call 8; refine (HWAKE.out _ HBW.out).mono ?_)
          (first | (rintro e w5 ⟨rfl, hb0⟩; have hb5 := hb0) | (rintro e w5 rfl hb0; have hb5 := hb0))
          have HE := Lib.hid (HBW.out.trans (hb5.mono HBW.out.size))
          clear hb5 hb0
          go_wp2
          go_ret
          exact ⟨rfl, HE.out⟩
end Go.Proofs.YtodenbimeojgdaaGreatDoor

/-
  AbnfWrong answers true for every input, and leaves its arguments as they were: the row, and the tied card. Conditions: the listed tables as the program's text lays them (the card ties them).
-/
namespace Go.Proofs.YtodenbimeojgdaaGreatDoor.abnfWrong
open Go.ChangeShapes Go.WideShapes Go.ChangeAt Go.RowKit

theorem own : ownKnob Tryz.prog.godebug = none := by kernel_rfl
theorem laidOut : laidOutB Tryz.prog = true := by kernel_rfl
theorem gLeaves : Tryz.prog.globalNamed "franking/abnf.leaves" = some 3 := by kernel_rfl
theorem gPow : Tryz.prog.globalNamed "internal/strconv.uint64pow10" = some 4 := by kernel_rfl
theorem leavesAt_of {W : World} (h : Lib.TabIs Tryz.prog W "franking/abnf.leaves" .u8 leafTab) : LeavesAt W := by
  intro i k hk
  obtain ⟨hi, e⟩ := List.getElem?_eq_some_iff.1 hk
  have := h.cell gLeaves i hi
  rw [List.getD_eq_getElem?_getD, hk] at this
  exact this
theorem tabs_of_laid {W : World} (h : laidMetH Tryz.prog Rows.abnfWrongRow.laid W) : Lib.TabIs Tryz.prog W "franking/abnf.leaves" .u8 leafTab ∧ Lib.TabIs Tryz.prog W "internal/strconv.uint64pow10" .u64 Lib.pow10Tab := by
  rw [MakeChecks.laidMetH_plain _ _ _ (by kernel_rfl)] at h
  have h' : laidMet Tryz.prog [("math/bits.deBruijn32tab", Rows.laid_math_bits_deBruijn32tab), ("math/bits.deBruijn64tab", Rows.laid_math_bits_deBruijn64tab), ("internal/strconv.uint64pow10", Rows.laid_internal_strconv_uint64pow10), ("unicode/utf8.acceptRanges", Rows.laid_unicode_utf8_acceptRanges), ("franking/abnf.leaves", Rows.laid_franking_abnf_leaves), ("unicode/utf8.first", Rows.laid_unicode_utf8_first)] W := h
  have h3 := h'.tail.tail
  have h4 := h3.tail.tail
  exact ⟨Lib.tabIs_of_head (zs := leafTab) gLeaves (t := 168) (by kernel_rfl) Tryz.underlying168 Tryz.underlying5 (by kernel_rfl) (by kernel_rfl) h4, Lib.tabIs_of_head (zs := Lib.pow10Tab) gPow (t := 180) (by kernel_rfl) Tryz.underlying180 Tryz.underlying137 (by kernel_rfl) (by kernel_rfl) h3⟩
def IsRow (k : IntKind) (w : World) (a : Option Addr) (len cap : Nat) (zs : List Int) : Prop :=
  (a = none ∧ len = 0 ∧ cap = 0 ∧ zs = []) ∨
  ∃ x, a = some x ∧ len ≤ cap ∧ cap ≤ maxLen ∧ zs.length = cap ∧ (∀ i, i < zs.length → w.cell? (x.add i) = some (.int k (zs.getD i 0))) ∧ ∀ n ∈ zs, (Lit.int k n).wf = true
theorem cell_lt {w : World} {b off : Nat} {v : Value} (h : w.cell? ⟨b, off, none⟩ = some v) : b < w.heap.size := by
  rcases Nat.lt_or_ge b w.heap.size with hlt | hge
  · exact hlt
  · simp [World.cell?, Array.getElem?_eq_none hge] at h
theorem nums_of {w : World} {a : Option Addr} {len cap : Nat} {zs : List Int} (h : IsRow .u16 w a len cap zs) : ∃ u : List Nat, u.length = len ∧ NumsAt w a u := by
  rcases h with ⟨rfl, rfl, rfl, rfl⟩ | ⟨x, rfl, hl, hm, hz, hc, hw⟩
  · exact ⟨[], rfl, ⟨fun i n hi => by simp at hi, fun n hn => by cases hn⟩⟩
  · have hlen : (zs.take len).length = len := by rw [List.length_take]; omega
    refine ⟨(zs.take len).map Int.toNat, by rw [List.length_map, hlen], ⟨fun i n hi => ?_, fun n hn => ?_⟩⟩
    · rw [List.getElem?_map, Option.map_eq_some_iff] at hi
      obtain ⟨z, hz2, rfl⟩ := hi
      obtain ⟨hi2, ez⟩ := List.getElem?_eq_some_iff.1 hz2
      rw [hlen] at hi2
      have hzm : z ∈ zs := List.mem_of_mem_take (List.mem_of_getElem? hz2)
      have hbd := bounds_u16 (hw z hzm)
      obtain ⟨b, off, rfl, hc2⟩ := ints_at hc (by omega)
      have hcell := hc2 i (by omega)
      have hd : zs.getD i 0 = z := by
        rw [List.getD_eq_getElem?_getD]
        rw [List.getElem?_take, if_pos hi2] at hz2
        rw [hz2]
        rfl
      rw [hd] at hcell
      refine ⟨b, off, rfl, cell_lt hcell, ?_⟩
      rw [hcell, Int.toNat_of_nonneg hbd.1]
    · obtain ⟨z, hz2, rfl⟩ := List.mem_map.1 hn
      have hbd := bounds_u16 (hw z (List.mem_of_mem_take hz2))
      omega


/-- a list of lists of numbers that came in -/
theorem rows_in {H : Type} {enc : TypeId × Value → H} {W : World} {fuel : Nat} {v : Value} {x : DataW H × List MemPlace} (h : DataW.trod enc Tryz.prog W 0 (fun _ => true) true fuel 49 [v] = some x) :
    ∃ (A : Option Addr) (c : Nat) (us : List (Option Addr × Nat × List Nat)), v = .slice A us.length c ∧ us.length ≤ c ∧ NumRow W A us := by
  rcases Go.Deep.open_int_rows Tryz.underlying49 Tryz.underlying43 Tryz.underlying159 (by kernel_rfl) (by kernel_rfl) h with ⟨hcs, _⟩ | ⟨a, len, cap, A, L, C, Z, hcs, _, hl, hm, _, hr⟩
  · have hv : v = .slice none 0 0 := by injection hcs
    exact ⟨none, 0, [], hv, Nat.le_refl _, fun k a c u hk => by simp at hk⟩
  · have hv : v = .slice (some a) len cap := by injection hcs
    have each : ∀ r : Nat, ∃ u : List Nat, r < len → u.length = L r ∧ NumsAt W (A r) u := by
      intro r
      by_cases hlt : r < len
      · obtain ⟨h1, h2, h3, h4, h5, h6, h7⟩ := hr r (by omega)
        obtain ⟨u, e, hu⟩ : ∃ u : List Nat, u.length = L r ∧ NumsAt W (A r) u := by
          refine nums_of (cap := C r) (zs := Z r) ?_
          cases hA : A r with
          | none =>
            have hc0 := h6 hA
            exact .inl ⟨rfl, by omega, hc0, List.eq_nil_of_length_eq_zero (by omega)⟩
          | some x =>
            exact .inr ⟨x, rfl, h2, h3, h4, fun i hi => (h7 x hA).2 i (by omega), h5⟩
        exact ⟨u, fun _ => ⟨e, hu⟩⟩
      · exact ⟨[], fun h => absurd h hlt⟩
    obtain ⟨f, hf⟩ := Classical.axiomOfChoice each
    refine ⟨some a, cap, (List.range len).map fun r => (A r, C r, f r), by rw [hv]; simp, by simp; exact hl, ?_⟩
    intro k a' c' u' hk
    rw [List.getElem?_map, Option.map_eq_some_iff] at hk
    obtain ⟨r, hr2, e⟩ := hk
    obtain ⟨hk2, e2⟩ := List.getElem?_eq_some_iff.1 hr2
    rw [List.length_range] at hk2
    have hrk : r = k := by rw [← e2]; simp
    subst hrk
    simp only [Prod.mk.injEq] at e
    obtain ⟨rfl, rfl, rfl⟩ := e
    obtain ⟨h1, _⟩ := hr r (by omega)
    obtain ⟨e3, hn⟩ := hf r hk2
    obtain ⟨b, off, spot⟩ := a
    have hsp : spot = none := by
      obtain ⟨h10, _⟩ := hr 0 (by omega)
      simpa [Addr.add] using World.cell?_spot h10
    subst hsp
    rw [Go.WideShapes.add_plain] at h1
    refine ⟨b, off, rfl, cell_lt h1, ?_, hn⟩
    rw [h1, e3]

abbrev inp : Array Value := #[.slice none 0 0, .int .u8 0, .slice none 0 0]
theorem reads (os : Os) {H : Type} (enc : TypeId × Value → H) : ∃ places, DataW.whole enc Tryz.prog ((World.laidAll Tryz.prog os Rows.abnfWrongRow.laid).forCall (fun _ _ => 0) ⟨#[], inp, []⟩).memory Tryz.f5.params.toList Rows.abnfWrongSpec.vars false inp.toList 8 = some ([.nil, .lit (.int .u8 0), .nil], [], places) :=
  ⟨[], by kernel_rfl⟩

set_option maxRecDepth 100000 in
theorem contract (H : Type) (enc : TypeId × Value → H) (W : World) (base : Nat) (args : Array Value) (ds gs : List (DataW H)) (before : List MemPlace)
    (hval0 : ∀ (j : Nat) t v, Tryz.f5.params[j]? = some t → args[j]? = some v → Value.okWide Tryz.prog W .any base t v)
    (hW : DataW.Whole enc Tryz.prog Tryz.f5.params.toList Rows.abnfWrongSpec.vars false W args.toList ds gs before) (hL : laidMetH Tryz.prog Rows.abnfWrongRow.laid W) (hS : W.ShapedOpen Tryz.prog) :
    Calls Tryz.prog 5 args W fun e W' => ∃ v, e = .returned v ∧ Rows.abnfWrongSpec.post enc Tryz.prog Tryz.f5 false true false false W args v W' := by
  have hval : ∀ (j : Nat) t v, Tryz.f5.params[j]? = some t → args[j]? = some v → Value.okWide Tryz.prog W .any base t v := hval0
  have hW' := hW
  obtain ⟨p, q, hA0, hV, rfl, _, _⟩ := hW
  have hA : DataW.TrodAll enc Tryz.prog W 0 (fun _ => true) true Tryz.f5.params.toList args.toList ds p := hA0
  rw [Tryz.params5] at hA hval
  obtain ⟨v0, vs0, d0, ds0, p0, q0, hargs, rfl, rfl, h0, r0⟩ := trodAll_cons hA
  obtain ⟨v1, vs1, d1, ds1, p1, q1, rfl, rfl, rfl, h1, r1⟩ := trodAll_cons r0
  obtain ⟨v2, vs2, d2, ds2, p2, q2, rfl, rfl, rfl, h2, r2⟩ := trodAll_cons r1
  obtain ⟨rfl, rfl, rfl⟩ := trodAll_nil r2
  obtain rfl : args = #[v0, v1, v2] := by cases args; simp_all
  obtain ⟨rfl, rfl⟩ := trodVars_none hV
  have k0 := h0
  have lt0 : ∀ x ∈ p0, x.block < W.heap.size := by obtain ⟨m, hm⟩ := k0; exact DataW.trod_lt m _ _ _ hm
  obtain ⟨a0, len0, cap0, rfl⟩ := okWide_slice Tryz.underlying49 (hval 0 49 v0 rfl rfl)
  obtain ⟨A0, c0, us, e0, hc0, hu⟩ : ∃ (A : Option Addr) (c : Nat) (us : List (Option Addr × Nat × List Nat)), (Value.slice a0 len0 cap0) = .slice A us.length c ∧ us.length ≤ c ∧ NumRow W A us := by
    obtain ⟨fuel, hf⟩ := h0
    exact rows_in hf
  injection e0 with e01 e02 e03
  subst e01 e02 e03
  obtain ⟨wy, rfl, rfl, rfl, w1⟩ := open_int Tryz.underlying5 (hval 1 5 v1 rfl rfl) h1
  have k2 := h2
  have lt2 : ∀ x ∈ p2, x.block < W.heap.size := by obtain ⟨m, hm⟩ := k2; exact DataW.trod_lt m _ _ _ hm
  obtain ⟨a2, len2, cap2, rfl⟩ := okWide_slice Tryz.underlying49 (hval 2 49 v2 rfl rfl)
  obtain ⟨A2, c2, vs, e2, hc2, hv⟩ : ∃ (A : Option Addr) (c : Nat) (us : List (Option Addr × Nat × List Nat)), (Value.slice a2 len2 cap2) = .slice A us.length c ∧ us.length ≤ c ∧ NumRow W A us := by
    obtain ⟨fuel, hf⟩ := h2
    exact rows_in hf
  injection e2 with e21 e22 e23
  subst e21 e22 e23
  have hbd := bounds_u8 w1
  obtain ⟨wh, rfl⟩ : ∃ wh : Nat, wy = wh := ⟨wy.toNat, by omega⟩
  obtain ⟨ht1, ht2⟩ := tabs_of_laid hL
  obtain ⟨mx, hmx⟩ := cell_of_shapedOpen_int (g := 0) (zero := #[.int .i64 0]) (t := 3) hS (of_decide_eq_true (by kernel_rfl)) (by kernel_rfl) rfl (by kernel_rfl) (by kernel_rfl) Tryz.underlying3
  clear hA0 hval0
  refine (AbnfWrong_any a0 cap0 us wh (by omega) a2 cap2 vs W hu hv hc0 hc2 mx hmx (leavesAt_of ht1) ht2).mono fun e W' ⟨he, bel⟩ => ?_
  subst he
  exact ⟨_, rfl, _, _, _, [], _, [], hW', trodAll_mk1 (shut_bool Tryz.underlying4 _), (trodAll_cons_mk (Below.trod laidOut (by kernel_rfl) (of_decide_eq_true (by kernel_rfl)) k0 bel lt0) (trodAll_cons_mk (shut_int Tryz.underlying5 w1) (trodAll_cons_mk (Below.trod laidOut (by kernel_rfl) (of_decide_eq_true (by kernel_rfl)) k2 bel lt2) trodAll_mk0))), rfl, bel.frame _, fun h => by cases h⟩

set_option maxRecDepth 100000 in
theorem lifted (os : Os) (started : os.Started) (H : Type) (enc : TypeId × Value → H) (I : Stop.Interp) :
    ReturnsInHanded {} Tryz.checked os 5 .any ((OpenSpec.ofChange Rows.abnfWrongSpec).preRow enc Tryz.prog Tryz.f5 Rows.abnfWrongRow.domain false Rows.abnfWrongRow.laid) (((OpenSpec.ofChange Rows.abnfWrongSpec).at I).post enc Tryz.prog Tryz.f5 false true false false) := by
  obtain ⟨places, hx⟩ := reads os enc
  have hok : Input.okWideB Tryz.prog ((World.laidAll Tryz.prog os Rows.abnfWrongRow.laid).forCall (fun _ _ => 0) ⟨#[], inp, []⟩) 5 ⟨#[], inp, []⟩ = true := by kernel_rfl
  refine returnsInHanded_of_row (C := Tryz.checked) (s := OpenSpec.ofChange Rows.abnfWrongSpec) own started (by kernel_rfl) Tryz.func5
    ⟨World.laidAll Tryz.prog os Rows.abnfWrongRow.laid, fun _ _ => 0, ⟨#[], inp, []⟩, World.laidAll_os _ _ _, World.shaped_of_ZipB (by kernel_rfl) (by kernel_rfl), rfl, (Input.okWide_of_okWideB hok).2,
      OpenSpec.preRow_of_cond 8 hx (by kernel_rfl) (fun k hk => by cases hk) (by kernel_rfl) (by rw [MakeChecks.laidMetH_plain _ _ _ (by kernel_rfl)]; exact laidMet_laidAll _ (by kernel_rfl) (by kernel_rfl)), by
        simp only [Assume.holds]
        exact ⟨by simp, by simp, fun _ => Modest.zero, by simp, by simp⟩⟩ ?_
  intro W base args ds gs before hval hW _ _ _ hL hS _
  exact contract H enc W base args ds gs before hval hW hL hS

theorem holds : Rows.AbnfWrongSaid :=
  OpenClaim.holds_of_cond 5 Tryz.f5 rfl rfl rfl rfl rfl rfl rfl ⟨rfl, rfl, rfl, rfl, rfl⟩ rfl rfl rfl rfl rfl (by kernel_rfl) Tryz.func5 (by kernel_rfl)
    (of_decide_eq_true (by kernel_rfl)) (by unfold Func.isWrapper; first | (rw [if_pos (by decide +kernel)]; kernel_rfl) | (rw [if_neg (by decide +kernel)]; exact ⟨rfl, rfl⟩))
    (fun os started H enc _ I => by rw [OpenClaim.pre_eq_preRow]; exact lifted os started H enc I)
theorem card_holds : Rows.AbnfWrongCardSaid :=
  Claim7.holds_tied_plain_at .later [] [.data, .data, .data, .data, .data, .pinned] true Rows.abnfWrongCard.stood.harness false holds (fun _ h => by cases h) (by kernel_rfl) (fun _ h => by cases h) abnfWrong_row_tie rfl ⟨rfl, rfl⟩ (by kernel_rfl) rfl
    (fun f fn hf hfn => by
      obtain rfl : f = 5 := Option.some.inj ((show Tryz.prog.funcNamed "franking/frankinglaw02.AbnfWrong" = some 5 by kernel_rfl).symm.trans hf) |>.symm
      obtain rfl : fn = Tryz.f5 := (Option.some.inj (Tryz.func5.symm.trans hfn)).symm
      exact ⟨by kernel_rfl, fun j t ht => by
        rw [Tryz.params5] at ht
        have hm : t ∈ [49, 5, 49] := by simpa using Array.mem_of_getElem? ht
        have hall : ([49, 5, 49].all fun u => !Tryz.prog.wantsStandIn u) = true := by kernel_rfl
        exact (show Tryz.prog.wantsStandIn t = false by simpa using List.all_eq_true.1 hall t hm)⟩)
    (by kernel_rfl)
end Go.Proofs.YtodenbimeojgdaaGreatDoor.abnfWrong
