/-
  Merged texts (PtP, Ga), each under a head of its own that says what it proves and under which conditions.
-/
import Derived.RowKit
import Derived.Test.YtnkepdeegpampaaGreatDoorProg
import Derived.WalkKit
import Derived.WalkSpells
import Derived.Lib.Hide
import Derived.Lib.Slices
import Derived.Shelf.Abstract
import Derived.BigQuiet
import Derived.Deep.QuietTactic
import Derived.Below
import Derived.Maps.AppendAt
import Derived.BigRegion
import Derived.Deep.MidRow
import Derived.Laws.Rows
import Derived.Laws.IdiomStrings
import Derived.Lib.ConvBytes
import Derived.RangeFuncBox
/-
  Paths in plain terms: the code's own reader, part by part, and that a part sees no further than a byte that stops it. No conditions.
-/
namespace Go.Proofs.YtnkepdeegpampaaGreatDoor

def sml (c : UInt8) : UInt8 := if 65 ≤ c ∧ c ≤ 90 then c + 32 else c
def low (l : List UInt8) : List UInt8 := l.map sml
def digB (c : UInt8) : Bool := 48 ≤ c && c ≤ 57
def hexB (c : UInt8) : Bool := digB c || (97 ≤ sml c && sml c ≤ 102)
def letB (c : UInt8) : Bool := digB c || (97 ≤ sml c && sml c ≤ 122)
def labB (c : UInt8) : Bool := letB c || c == 45
def marksA : List UInt8 := [33, 35, 36, 37, 38, 39, 42, 43, 45, 47, 61, 63, 94, 95, 96, 123, 124, 125, 126]
def atmB (c : UInt8) : Bool := letB c || marksA.contains c
def notB (c : UInt8) : Bool := c < 32 || 126 < c
def ipv6P : List UInt8 := [105, 112, 118, 54, 58]
def postP : List UInt8 := [112, 111, 115, 116, 109, 97, 115, 116, 101, 114]

/-- where a reader is: what is ahead of it, and what it has kept -/
structure Rs where
  rest : List UInt8
  null : Bool := false
  route : List (List UInt8) := []
  loc : List UInt8 := []
  dom : List UInt8 := []
  lit : Bool := false
  long : Bool := false
abbrev Rd := Rs → Bool × Rs

/-- what was read from one place to another -/
def used (a b : Rs) : List UInt8 := a.rest.take (a.rest.length - b.rest.length)
def takeR (what : List UInt8) : Rd := fun st => if low (st.rest.take what.length) = what then (true, { st with rest := st.rest.drop what.length }) else (false, st)
def sepR (sep : List UInt8) (many : Nat) : Rd := fun st => if many = 0 then (true, st) else takeR sep st
def eachF (part : Rd) (sep : List UInt8) : Nat → Nat → Rs → Nat × Rs
  | 0, many, st => (many, st)
  | f + 1, many, st =>
    if (sepR sep many st).1 = false then (many, { (sepR sep many st).2 with rest := st.rest })
    else if (part (sepR sep many st).2).1 = false then (many, { (part (sepR sep many st).2).2 with rest := st.rest })
    else eachF part sep f (many + 1) (part (sepR sep many st).2).2
def eachR (part : Rd) (sep : List UInt8) (st : Rs) : Nat × Rs := eachF part sep (st.rest.length + 2) 0 st
def eitherR : List Rd → Rd
  | [], st => (false, st)
  | p :: ps, st => if (p st).1 = true then p st else eitherR ps { (p st).2 with rest := st.rest }
def andR (g h : Rd) : Rd := fun st => if (g st).1 = true then h (g st).2 else (false, (g st).2)
def runR (p : UInt8 → Bool) (st : Rs) : Rs := { st with rest := st.rest.dropWhile p }
def runL (p : UInt8 → Bool) (st : Rs) : List UInt8 := st.rest.takeWhile p

def labOk (l : List UInt8) : Bool := l != [] && l.head? != some 45 && l.getLast? != some 45
def labelR : Rd := fun st => (labOk (runL labB st), { runR labB st with long := st.long || decide (63 < (runL labB st).length) })
def labelsR : Rd := fun st => (decide (0 < (eachR labelR [46] st).1), (eachR labelR [46] st).2)
def domainR : Rd := fun st => ((labelsR st).1, { (labelsR st).2 with long := (labelsR st).2.long || decide (255 < (used st (labelsR st).2).length) })
def atomR : Rd := fun st => (runL atmB st != [], runR atmB st)
def atomsR : Rd := fun st => (decide (0 < (eachR atomR [46] st).1), (eachR atomR [46] st).2)
def valD (l : List UInt8) : Nat := l.foldl (fun n c => 10 * n + (c.toNat - 48)) 0
def numOk (l : List UInt8) : Bool := l != [] && decide (l.length ≤ 3) && decide (valD l ≤ 255)
def numberR : Rd := fun st => (numOk (runL digB st), runR digB st)
def groupR : Rd := fun st => (runL hexB st != [] && decide ((runL hexB st).length ≤ 4), runR hexB st)
def addressR : Rd := fun st =>
  if (takeR [58, 58] (eachR groupR [58] st).2).1 = false then (decide ((eachR groupR [58] st).1 = 8), (takeR [58, 58] (eachR groupR [58] st).2).2)
  else (decide ((eachR groupR [58] st).1 + (eachR groupR [58] (takeR [58, 58] (eachR groupR [58] st).2).2).1 ≤ 6), (eachR groupR [58] (takeR [58, 58] (eachR groupR [58] st).2).2).2)
def numbersR : Rd := fun st => (decide ((eachR numberR [46] st).1 = 4), (eachR numberR [46] st).2)
def wordsR : Rd := fun st => if (takeR ipv6P st).1 = true then addressR (takeR ipv6P st).2 else numbersR (takeR ipv6P st).2

/-- behind a quote: what is meant, up to the next one -/
def quoS (acc : List UInt8) : List UInt8 → Bool × List UInt8 × List UInt8
  | [] => (false, acc, [])
  | 34 :: r => (true, acc, r)
  | [92] => (false, acc, [])
  | 92 :: c :: r => if notB c then (false, acc, c :: r) else quoS (acc ++ [c]) r
  | c :: r => if notB c then (false, acc, c :: r) else quoS (acc ++ [c]) r
def meanR (m : List UInt8) (st : Rs) : Rs := { st with loc := m, long := st.long || decide (64 < m.length) }
def quotedR : Rd := fun st =>
  if (takeR [34] st).1 = false then (false, (takeR [34] st).2)
  else if (quoS [] (takeR [34] st).2.rest).1 = false then (false, { (takeR [34] st).2 with rest := (quoS [] (takeR [34] st).2.rest).2.2 })
  else (true, meanR (quoS [] (takeR [34] st).2.rest).2.1 { (takeR [34] st).2 with rest := (quoS [] (takeR [34] st).2.rest).2.2 })
def plainR : Rd := fun st => ((atomsR st).1, meanR (used st (atomsR st).2) (atomsR st).2)
def namedR : Rd := fun st => ((domainR st).1, { (domainR st).2 with dom := low (used st (domainR st).2) })
def bracketR : Rd := fun st =>
  if (takeR [91] st).1 = false then (false, (takeR [91] st).2)
  else if (wordsR (takeR [91] st).2).1 = false then (false, (wordsR (takeR [91] st).2).2)
  else if (takeR [93] (wordsR (takeR [91] st).2).2).1 = false then (false, (takeR [93] (wordsR (takeR [91] st).2).2).2)
  else (true, { (takeR [93] (wordsR (takeR [91] st).2).2).2 with dom := low (used (takeR [91] st).2 (wordsR (takeR [91] st).2).2), lit := true })
def mailboxR : Rd := andR (eitherR [quotedR, plainR]) (andR (takeR [64]) (eitherR [bracketR, namedR]))
def hopR : Rd := fun st =>
  if (takeR [64] st).1 = false then (false, (takeR [64] st).2)
  else if (domainR (takeR [64] st).2).1 = false then (false, (domainR (takeR [64] st).2).2)
  else (true, { (domainR (takeR [64] st).2).2 with route := (domainR (takeR [64] st).2).2.route ++ [low (used (takeR [64] st).2 (domainR (takeR [64] st).2).2)] })
def limitR (b : Bool) (st : Rs) : Rs := { st with long := st.long || b }
def routeR : Rd := fun st => if (eachR hopR [44] st).1 = 0 then (true, limitR false (eachR hopR [44] st).2) else takeR [58] (limitR (decide (20 < (eachR hopR [44] st).1)) (eachR hopR [44] st).2)
def fullR : Rd := andR (takeR [60]) (andR routeR (andR mailboxR (takeR [62])))
def aloneR : Rd := fun st => if (takeR (60 :: postP ++ [62]) st).1 = true then (true, { (takeR (60 :: postP ++ [62]) st).2 with loc := postP }) else (false, (takeR (60 :: postP ++ [62]) st).2)
def nullR : Rd := fun st => ((takeR [60, 62] st).1, { (takeR [60, 62] st).2 with null := (takeR [60, 62] st).1 })
def parseR : Rd := eitherR [nullR, aloneR, fullR]
/-- the start of a text -/
def st0 (l : List UInt8) : Rs := { rest := l }

/-- a reader goes on in its text -/
def Suf (g : Rd) : Prop := ∀ st, (g st).2.rest <:+ st.rest
theorem suf_take (w : List UInt8) : Suf (takeR w) := by
  intro st
  unfold takeR
  split
  · exact List.drop_suffix _ _
  · exact List.suffix_refl _
theorem suf_sep (w : List UInt8) (many : Nat) : Suf (sepR w many) := by
  intro st
  unfold sepR
  split
  · exact List.suffix_refl _
  · exact suf_take w st
theorem eachF_suf {part : Rd} (hp : Suf part) (sep : List UInt8) : ∀ (f many : Nat) (st : Rs), (eachF part sep f many st).2.rest <:+ st.rest
  | 0, _, _ => List.suffix_refl _
  | f + 1, many, st => by
    have ht := suf_sep sep many st
    rw [eachF]
    split
    · exact List.suffix_refl _
    · split
      · exact List.suffix_refl _
      · exact (eachF_suf hp sep f (many + 1) _).trans ((hp _).trans ht)
theorem suf_each {part : Rd} (hp : Suf part) (sep : List UInt8) (st : Rs) : (eachR part sep st).2.rest <:+ st.rest := eachF_suf hp sep _ _ _
theorem suf_either : ∀ (ps : List Rd), (∀ p ∈ ps, Suf p) → Suf (eitherR ps)
  | [], _ => fun st => List.suffix_refl _
  | p :: ps, h => by
    intro st
    unfold eitherR
    split
    · exact h p (by simp) st
    · exact suf_either ps (fun q hq => h q (by simp [hq])) _
theorem suf_and {g h : Rd} (hg : Suf g) (hh : Suf h) : Suf (andR g h) := by
  intro st
  unfold andR
  split
  · exact (hh _).trans (hg _)
  · exact hg _
theorem suf_run (p : UInt8 → Bool) (st : Rs) : (runR p st).rest <:+ st.rest := List.dropWhile_suffix _
theorem suf_label : Suf labelR := fun st => suf_run labB st
theorem suf_labels : Suf labelsR := fun st => suf_each suf_label _ st
theorem suf_domain : Suf domainR := fun st => suf_labels st
theorem suf_atom : Suf atomR := fun st => suf_run _ st
theorem suf_atoms : Suf atomsR := fun st => suf_each suf_atom _ st
theorem suf_number : Suf numberR := fun st => suf_run _ st
theorem suf_numbers : Suf numbersR := fun st => suf_each suf_number _ st
theorem suf_group : Suf groupR := fun st => suf_run _ st
theorem suf_address : Suf addressR := by
  intro st
  unfold addressR
  have h1 := suf_each suf_group [58] st
  have h2 := (suf_take [58, 58] (eachR groupR [58] st).2).trans h1
  split
  · exact h2
  · exact (suf_each suf_group [58] _).trans h2
theorem suf_words : Suf wordsR := by
  intro st
  unfold wordsR
  split
  · exact (suf_address _).trans (suf_take _ _)
  · exact (suf_numbers _).trans (suf_take _ _)
theorem quoS_suf : ∀ (n : Nat) (l acc : List UInt8), l.length ≤ n → (quoS acc l).2.2 <:+ l := by
  intro n
  induction n with
  | zero => intro l acc h; obtain rfl := List.length_eq_zero_iff.1 (Nat.le_zero.1 h); simp [quoS]
  | succ n ih =>
    intro l acc h
    unfold quoS
    split
    · exact List.suffix_refl _
    · exact List.suffix_cons _ _
    · exact List.nil_suffix
    · split
      · exact List.suffix_cons _ _
      · exact (ih _ _ (by simp at h; omega)).trans ((List.suffix_cons _ _).trans (List.suffix_cons _ _))
    · split
      · exact List.suffix_refl _
      · exact (ih _ _ (by simp at h; omega)).trans (List.suffix_cons _ _)
theorem suf_quoted : Suf quotedR := by
  intro st
  unfold quotedR
  have h1 := suf_take [34] st
  have h2 := (quoS_suf _ (takeR [34] st).2.rest [] (Nat.le_refl _)).trans h1
  split
  · exact h1
  · split
    · exact h2
    · exact h2
theorem suf_plain : Suf plainR := fun st => suf_atoms st
theorem suf_named : Suf namedR := fun st => suf_domain st
theorem suf_bracket : Suf bracketR := by
  intro st
  unfold bracketR
  have h1 := suf_take [91] st
  have h2 := (suf_words (takeR [91] st).2).trans h1
  have h3 := (suf_take [93] (wordsR (takeR [91] st).2).2).trans h2
  repeat' split
  · exact h1
  · exact h2
  · exact h3
  · exact h3
theorem suf_mailbox : Suf mailboxR :=
  suf_and (suf_either _ (by intro p hp; simp at hp; rcases hp with rfl | rfl; exact suf_quoted; exact suf_plain))
    (suf_and (suf_take _) (suf_either _ (by intro p hp; simp at hp; rcases hp with rfl | rfl; exact suf_bracket; exact suf_named)))
theorem suf_hop : Suf hopR := by
  intro st
  unfold hopR
  have h1 := suf_take [64] st
  have h2 := (suf_domain (takeR [64] st).2).trans h1
  repeat' split
  · exact h1
  · exact h2
  · exact h2
theorem suf_route : Suf routeR := by
  intro st
  unfold routeR
  have h1 := suf_each suf_hop [44] st
  split
  · exact h1
  · exact (suf_take [58] _).trans h1
theorem suf_full : Suf fullR := suf_and (suf_take _) (suf_and suf_route (suf_and suf_mailbox (suf_take _)))
theorem suf_alone : Suf aloneR := by
  intro st
  unfold aloneR
  have h1 := suf_take (60 :: postP ++ [62]) st
  split
  · exact h1
  · exact h1
theorem suf_null : Suf nullR := fun st => suf_take [60, 62] st
theorem suf_parse : Suf parseR := suf_either _ (by intro p hp; simp at hp; rcases hp with rfl | rfl | rfl; exact suf_null; exact suf_alone; exact suf_full)

theorem takeR_yes (w : List UInt8) (st : Rs) (h : (takeR w st).1 = true) : low (st.rest.take w.length) = w ∧ (takeR w st).2 = { st with rest := st.rest.drop w.length } ∧ w.length ≤ st.rest.length := by
  unfold takeR at h ⊢
  split
  · rename_i he
    refine ⟨he, rfl, ?_⟩
    have hlen := congrArg List.length he
    simp [low] at hlen
    omega
  · rename_i he
    rw [if_neg he] at h
    cases h
theorem takeR_no (w : List UInt8) (st : Rs) (h : (takeR w st).1 = false) : (takeR w st).2 = st := by
  unfold takeR at h ⊢
  split
  · rename_i he
    rw [if_pos he] at h
    cases h
  · rfl
theorem sepR_len (sep : List UInt8) (hs : sep ≠ []) (many : Nat) (st : Rs) (h : (sepR sep many st).1 = true) : (sepR sep many st).2.rest.length + (if many = 0 then 0 else 1) ≤ st.rest.length := by
  unfold sepR at h ⊢
  by_cases h0 : many = 0
  · simp [h0]
  · simp only [h0, if_false] at h ⊢
    obtain ⟨_, h2, h3⟩ := takeR_yes sep st h
    have : 0 < sep.length := List.length_pos_iff.2 hs
    rw [h2]
    simp
    omega
/-- more fuel than there are bytes is of no use -/
theorem eachF_fuel {part : Rd} (hp : Suf part) (sep : List UInt8) (hs : sep ≠ []) : ∀ (f f' many : Nat) (st : Rs), st.rest.length + (if many = 0 then 2 else 1) ≤ f → st.rest.length + (if many = 0 then 2 else 1) ≤ f' → eachF part sep f many st = eachF part sep f' many st
  | 0, _, many, st, h, _ => by exfalso; split at h <;> omega
  | f + 1, 0, many, st, _, h => by exfalso; split at h <;> omega
  | f + 1, f' + 1, many, st, h, h' => by
    rw [eachF, eachF]
    split
    · rfl
    · rename_i ht
      split
      · rfl
      · have hl := sepR_len sep hs many st (by simpa using ht)
        have h2 := (hp (sepR sep many st).2).length_le
        have e : many + 1 ≠ 0 := by omega
        refine eachF_fuel hp sep hs f f' (many + 1) _ ?_ ?_
        · rw [if_neg e]; by_cases h0 : many = 0 <;> simp only [h0, if_true, if_false] at hl h h2 ⊢ <;> omega
        · rw [if_neg e]; by_cases h0 : many = 0 <;> simp only [h0, if_true, if_false] at hl h' h2 ⊢ <;> omega

/-- two states that differ in the letters' size ahead, and in what stands behind: x -/
structure Sim (x : List UInt8) (a b : Rs) (s t : Rs) : Prop where
  rest : ∃ r, t.rest = r ++ x ∧ low r = low s.rest
  long : t.long = (b.long || s.long)
  own : s = { a with rest := s.rest, long := s.long }
  own' : t = { b with rest := t.rest, long := t.long }
def Simr (x : List UInt8) (g : Rd) : Prop := ∀ a b s t, Sim x a b s t → (g s).1 = (g t).1 ∧ Sim x a b (g s).2 (g t).2
/-- what stands behind is nothing, or a byte of a kind -/
def Stop (x : List UInt8) (p : UInt8 → Bool) : Prop := ∀ c, x.head? = some c → p c = true
theorem Stop.mono {x : List UInt8} {p q : UInt8 → Bool} (h : Stop x p) (hpq : ∀ c, p c = true → q c = true) : Stop x q := fun c hc => hpq c (h c hc)
theorem low_app (a b : List UInt8) : low (a ++ b) = low a ++ low b := List.map_append
theorem low_len (a : List UInt8) : (low a).length = a.length := List.length_map _
theorem low_take (a : List UInt8) (n : Nat) : low (a.take n) = (low a).take n := List.map_take
theorem low_drop (a : List UInt8) (n : Nat) : low (a.drop n) = (low a).drop n := List.map_drop
theorem take_same {x r l what : List UInt8} (hr : low r = low l) (hx : Stop x (fun c => !what.contains (sml c))) : low ((r ++ x).take what.length) = what ↔ low (l.take what.length) = what := by
  have hlen : r.length = l.length := by rw [← low_len r, hr, low_len]
  by_cases h : what.length ≤ l.length
  · rw [List.take_append_of_le_length (by omega), low_take, low_take, hr]
  · constructor
    · intro he
      cases x with
      | nil => rw [List.append_nil, low_take, hr, ← low_take] at he; exact he
      | cons c y =>
        exfalso
        have h1 := hx c rfl
        have h2 : (low ((r ++ c :: y).take what.length))[l.length]? = some (sml c) := by
          unfold low
          rw [List.getElem?_map, List.getElem?_take, if_pos (by omega), List.getElem?_append_right (by omega), hlen]
          simp
        rw [he] at h2
        have h3 := List.mem_of_getElem? h2
        simp only [Bool.not_eq_true', List.contains_eq_mem, decide_eq_false_iff_not] at h1
        exact h1 h3
    · intro he
      have := congrArg List.length he
      rw [low_len, List.length_take] at this
      omega
theorem sim_take {x what : List UInt8} (hx : Stop x (fun c => !what.contains (sml c))) : Simr x (takeR what) := by
  intro a b s t h
  obtain ⟨⟨r, h1, h2⟩, h5, h3, h4⟩ := h
  have hs := take_same h2 hx
  rw [← h1] at hs
  unfold takeR
  by_cases he : low (s.rest.take what.length) = what
  · rw [if_pos he, if_pos (hs.2 he)]
    refine ⟨rfl, ⟨r.drop what.length, ?_, by rw [low_drop, low_drop, h2]⟩, h5, ?_, ?_⟩
    · show t.rest.drop _ = _
      have hlen : r.length = s.rest.length := by rw [← low_len r, h2, low_len]
      have := congrArg List.length he
      rw [low_len, List.length_take] at this
      rw [h1, List.drop_append_of_le_length (by omega)]
    · rw [h3]
    · rw [h4]
  · rw [if_neg he, if_neg (fun e => he (hs.1 e))]
    exact ⟨rfl, ⟨r, h1, h2⟩, h5, h3, h4⟩
theorem tw_map (p : UInt8 → Bool) (hp : ∀ c, p (sml c) = p c) : ∀ l : List UInt8, low (l.takeWhile p) = (low l).takeWhile p ∧ low (l.dropWhile p) = (low l).dropWhile p
  | [] => ⟨rfl, rfl⟩
  | c :: l => by
    obtain ⟨h1, h2⟩ := tw_map p hp l
    unfold low at *
    rw [List.map_cons, List.takeWhile_cons, List.takeWhile_cons, List.dropWhile_cons, List.dropWhile_cons, hp]
    cases p c
    · exact ⟨rfl, rfl⟩
    · exact ⟨by simp [h1], by simp [h2]⟩
theorem tw_app (p : UInt8 → Bool) {x : List UInt8} (hx : Stop x (fun c => !p c)) : ∀ r : List UInt8, (r ++ x).takeWhile p = r.takeWhile p ∧ (r ++ x).dropWhile p = r.dropWhile p ++ x
  | [] => by
    cases x with
    | nil => exact ⟨rfl, rfl⟩
    | cons c y =>
      have h := hx c rfl
      simp only [Bool.not_eq_true'] at h
      simp [h]
  | c :: r => by
    obtain ⟨h1, h2⟩ := tw_app p hx r
    rw [List.cons_append, List.takeWhile_cons, List.takeWhile_cons, List.dropWhile_cons, List.dropWhile_cons]
    cases p c
    · exact ⟨rfl, rfl⟩
    · exact ⟨by simp [h1], by simp [h2]⟩
theorem sim_run {x : List UInt8} {p : UInt8 → Bool} (hp : ∀ c, p (sml c) = p c) (hx : Stop x (fun c => !p c)) {a b s t : Rs} (h : Sim x a b s t) : low (runL p s) = low (runL p t) ∧ Sim x a b (runR p s) (runR p t) := by
  obtain ⟨⟨r, h1, h2⟩, h5, h3, h4⟩ := h
  obtain ⟨e1, e2⟩ := tw_app p hx r
  unfold runL runR
  refine ⟨?_, ⟨r.dropWhile p, ?_, ?_⟩, h5, ?_, ?_⟩
  · rw [h1, e1, (tw_map p hp _).1, (tw_map p hp _).1, h2]
  · show t.rest.dropWhile p = _
    rw [h1, e2]
  · show low _ = low (s.rest.dropWhile p)
    rw [(tw_map p hp _).2, (tw_map p hp _).2, h2]
  · rw [h3]
  · rw [h4]
theorem Sim.set_ {x : List UInt8} {a b s t s' t' : Rs} (h : Sim x a b s t) (h' : Sim x a b s' t') (f g : Bool) (hfg : g = (b.long || f)) : Sim x a b { s' with rest := s.rest, long := f } { t' with rest := t.rest, long := g } := by
  obtain ⟨h1, h5, h3, h4⟩ := h
  obtain ⟨_, _, k3, k4⟩ := h'
  exact ⟨h1, hfg, by rw [k3], by rw [k4]⟩
theorem Sim.len {x : List UInt8} {a b s t : Rs} (h : Sim x a b s t) : t.rest.length = s.rest.length + x.length := by
  obtain ⟨⟨r, h1, h2⟩, _⟩ := h
  have := congrArg List.length h2
  rw [low_len, low_len] at this
  rw [h1, List.length_append, this]
theorem sim_eachF {x sep : List UInt8} {part : Rd} (hx : Stop x (fun c => !sep.contains (sml c))) (hp : Simr x part) : ∀ (f many : Nat) (a b s t : Rs), Sim x a b s t → (eachF part sep f many s).1 = (eachF part sep f many t).1 ∧ Sim x a b (eachF part sep f many s).2 (eachF part sep f many t).2
  | 0, many, a, b, s, t, h => ⟨rfl, h⟩
  | f + 1, many, a, b, s, t, h => by
    have hs : (sepR sep many s).1 = (sepR sep many t).1 ∧ Sim x a b (sepR sep many s).2 (sepR sep many t).2 := by
      unfold sepR
      split
      · exact ⟨rfl, h⟩
      · exact sim_take hx a b s t h
    obtain ⟨e1, s1⟩ := hs
    obtain ⟨e2, s2⟩ := hp a b _ _ s1
    rw [eachF, eachF, ← e1, ← e2]
    split
    · exact ⟨rfl, h.set_ s1 _ _ s1.long⟩
    · split
      · exact ⟨rfl, h.set_ s2 _ _ s2.long⟩
      · exact sim_eachF hx hp f (many + 1) a b _ _ s2
theorem sim_each {x sep : List UInt8} {part : Rd} (hsep : sep ≠ []) (hsuf : Suf part) (hx : Stop x (fun c => !sep.contains (sml c))) (hp : Simr x part) {a b s t : Rs} (h : Sim x a b s t) : (eachR part sep s).1 = (eachR part sep t).1 ∧ Sim x a b (eachR part sep s).2 (eachR part sep t).2 := by
  unfold eachR
  rw [eachF_fuel hsuf sep hsep (s.rest.length + 2) (t.rest.length + 2) 0 s (by simp) (by have := h.len; simp; omega)]
  exact sim_eachF hx hp _ _ a b s t h

theorem all_u8 {P : UInt8 → Prop} (h : ∀ n : Fin 256, P (UInt8.ofNat n.val)) (c : UInt8) : P c := by
  have := h ⟨c.toNat, c.toNat_lt⟩
  simpa using this
/-- a byte and its small one are of the same kind -/
theorem dig_sml : ∀ c, digB (sml c) = digB c := all_u8 (by decide +kernel)
theorem hex_sml : ∀ c, hexB (sml c) = hexB c := all_u8 (by decide +kernel)
theorem let_sml : ∀ c, letB (sml c) = letB c := all_u8 (by decide +kernel)
theorem lab_sml : ∀ c, labB (sml c) = labB c := all_u8 (by decide +kernel)
theorem atm_sml : ∀ c, atmB (sml c) = atmB c := all_u8 (by decide +kernel)
theorem sml_sml : ∀ c, sml (sml c) = sml c := all_u8 (by decide +kernel)
theorem low_low (l : List UInt8) : low (low l) = low l := by unfold low; rw [List.map_map]; exact List.map_congr_left (fun c _ => sml_sml c)
theorem low_nil {l : List UInt8} : low l = [] ↔ l = [] := List.map_eq_nil_iff
theorem hyphen_sml : ∀ c, sml c = 45 ↔ c = 45 := all_u8 (by decide +kernel)
theorem labOk_low (l : List UInt8) : labOk (low l) = labOk l := by
  unfold labOk low
  rw [List.head?_map, List.getLast?_map]
  have h : ∀ o : Option UInt8, (o.map sml != some 45) = (o != some 45) := by
    intro o
    cases o with
    | none => rfl
    | some c =>
      have := hyphen_sml c
      by_cases h : c = 45
      · rw [h]; rfl
      · have h2 : sml c ≠ 45 := fun e => h (this.1 e)
        show (some (sml c) != some 45) = (some c != some 45)
        rw [bne_iff_ne.2 (fun e => h2 (Option.some.inj e)), bne_iff_ne.2 (fun e => h (Option.some.inj e))]
  rw [h, h]
  cases l <;> rfl
theorem dig_same : ∀ c, digB c = true → sml c = c := all_u8 (by decide +kernel)
theorem digs_low (l : List UInt8) (h : ∀ c ∈ l, digB c = true) : low l = l := by
  unfold low
  conv => rhs; rw [← List.map_id l]
  exact List.map_congr_left (fun c hc => dig_same c (h c hc))
theorem mem_run {p : UInt8 → Bool} {l : List UInt8} {c : UInt8} (h : c ∈ l.takeWhile p) : p c = true := by
  induction l with
  | nil => simp at h
  | cons d r ih =>
    rw [List.takeWhile_cons] at h
    cases hd : p d with
    | false => rw [hd] at h; simp at h
    | true =>
      rw [hd] at h
      rcases List.mem_cons.1 h with h | h
      · rw [h]; exact hd
      · exact ih h
/-- the stops of a domain, of atoms, of a literal's words -/
def domStop (c : UInt8) : Bool := !labB c && c != 46
def atmStop (c : UInt8) : Bool := !atmB c && c != 46
def litStop (c : UInt8) : Bool := !hexB c && c != 46 && c != 58 && !ipv6P.contains (sml c)
theorem sim_label {x : List UInt8} (hx : Stop x domStop) : Simr x labelR := by
  intro a b s t h
  have hr := sim_run lab_sml (hx.mono (q := fun c => !labB c) (by unfold domStop; intro c hc; revert hc; cases labB c <;> simp)) h
  unfold labelR
  refine ⟨?_, ?_⟩
  · show labOk _ = labOk _
    rw [← labOk_low, hr.1, labOk_low]
  · have hl : (runL labB s).length = (runL labB t).length := by rw [← low_len, hr.1, low_len]
    simp only []
    rw [hl]
    exact hr.2.set_ hr.2 _ _ (by rw [h.long, Bool.or_assoc])
theorem stop_dot {x : List UInt8} {p : UInt8 → Bool} (hx : Stop x (fun c => !p c && c != 46)) : Stop x (fun c => ![46].contains (sml c)) := hx.mono (by
  intro c h
  have : ∀ c : UInt8, (c != 46) = true → (![46].contains (sml c)) = true := all_u8 (by decide +kernel)
  refine this c ?_
  revert h
  cases p c <;> simp)
theorem sim_labels {x : List UInt8} (hx : Stop x domStop) : Simr x labelsR := by
  intro a b s t h
  have := sim_each (by decide) suf_label (stop_dot hx) (sim_label hx) h
  unfold labelsR
  exact ⟨by simp only []; rw [this.1], this.2⟩
theorem used_len {x : List UInt8} {a b s t s' t' : Rs} (h : Sim x a b s t) (h' : Sim x a b s' t') : (used s s').length = (used t t').length := by
  unfold used
  rw [List.length_take, List.length_take, h.len, h'.len]
  omega
theorem sim_domain {x : List UInt8} (hx : Stop x domStop) : Simr x domainR := by
  intro a b s t h
  have h1 := sim_labels hx a b s t h
  unfold domainR
  refine ⟨h1.1, ?_⟩
  simp only []
  rw [used_len h h1.2]
  exact h1.2.set_ h1.2 _ _ (by rw [h1.2.long, Bool.or_assoc])
theorem low_ne {l m : List UInt8} (h : low l = low m) : (l != []) = (m != []) := by
  have : l.length = m.length := by rw [← low_len, h, low_len]
  cases l <;> cases m <;> first | rfl | simp at this
theorem sim_atom {x : List UInt8} (hx : Stop x atmStop) : Simr x atomR := by
  intro a b s t h
  have hr := sim_run atm_sml (hx.mono (q := fun c => !atmB c) (by unfold atmStop; intro c hc; revert hc; cases atmB c <;> simp)) h
  exact ⟨low_ne hr.1, hr.2⟩
theorem sim_atoms {x : List UInt8} (hx : Stop x atmStop) : Simr x atomsR := by
  intro a b s t h
  have := sim_each (by decide) suf_atom (stop_dot hx) (sim_atom hx) h
  unfold atomsR
  exact ⟨by simp only []; rw [this.1], this.2⟩
theorem dig_hex : ∀ c, hexB c = false → digB c = false := all_u8 (by decide +kernel)
theorem lit_dig : ∀ c, litStop c = true → (!digB c) = true := all_u8 (by decide +kernel)
theorem lit_hex : ∀ c, litStop c = true → (!hexB c) = true := all_u8 (by decide +kernel)
theorem lit_dot : ∀ c, litStop c = true → (![46].contains (sml c)) = true := all_u8 (by decide +kernel)
theorem lit_col : ∀ c, litStop c = true → (![58].contains (sml c)) = true := all_u8 (by decide +kernel)
theorem lit_cols : ∀ c, litStop c = true → (![58, 58].contains (sml c)) = true := all_u8 (by decide +kernel)
theorem lit_six : ∀ c, litStop c = true → (!ipv6P.contains (sml c)) = true := all_u8 (by decide +kernel)
theorem sim_number {x : List UInt8} (hx : Stop x litStop) : Simr x numberR := by
  intro a b s t h
  have hr := sim_run dig_sml (hx.mono lit_dig) h
  refine ⟨?_, hr.2⟩
  have h1 := hr.1
  rw [digs_low (runL digB s) (fun c hc => mem_run hc), digs_low (runL digB t) (fun c hc => mem_run hc)] at h1
  unfold numberR
  simp only []
  rw [h1]
theorem sim_numbers {x : List UInt8} (hx : Stop x litStop) : Simr x numbersR := by
  intro a b s t h
  have := sim_each (by decide) suf_number (hx.mono lit_dot) (sim_number hx) h
  unfold numbersR
  exact ⟨by simp only []; rw [this.1], this.2⟩
theorem sim_group {x : List UInt8} (hx : Stop x litStop) : Simr x groupR := by
  intro a b s t h
  have hr := sim_run hex_sml (hx.mono lit_hex) h
  refine ⟨?_, hr.2⟩
  have hl : (runL hexB s).length = (runL hexB t).length := by rw [← low_len, hr.1, low_len]
  unfold groupR
  simp only []
  rw [hl, low_ne hr.1]
theorem sim_address {x : List UInt8} (hx : Stop x litStop) : Simr x addressR := by
  intro a b s t h
  obtain ⟨e1, h1⟩ := sim_each (by decide) suf_group (hx.mono lit_col) (sim_group hx) h
  obtain ⟨e2, h2⟩ := sim_take (what := [58, 58]) (hx.mono lit_cols) _ _ _ _ h1
  obtain ⟨e3, h3⟩ := sim_each (by decide) suf_group (hx.mono lit_col) (sim_group hx) h2
  unfold addressR
  rw [e1, e2, e3]
  split
  · exact ⟨rfl, h2⟩
  · exact ⟨rfl, h3⟩
theorem sim_words {x : List UInt8} (hx : Stop x litStop) : Simr x wordsR := by
  intro a b s t h
  obtain ⟨e1, h1⟩ := sim_take (what := ipv6P) (hx.mono lit_six) _ _ _ _ h
  unfold wordsR
  rw [e1]
  split
  · exact sim_address hx _ _ _ _ h1
  · exact sim_numbers hx _ _ _ _ h1

/-- a text is all of a part -/
def allB (g : Rd) (l : List UInt8) : Bool := (g (st0 l)).1 && (g (st0 l)).2.rest == []
theorem allB_iff {g : Rd} {l : List UInt8} : allB g l = true ↔ (g (st0 l)).1 = true ∧ (g (st0 l)).2.rest = [] := by unfold allB; simp
/-- a part that is all of a text is read of it, whatever stops it -/
theorem read_all {g : Rd} {x l : List UInt8} (hg : Simr x g) (h : allB g l = true) (st : Rs) (hr : st.rest = l ++ x) : g st = (true, { st with rest := x, long := st.long || (g (st0 l)).2.long }) := by
  obtain ⟨h1, h2⟩ := allB_iff.1 h
  have hs : Sim x (st0 []) st (st0 l) st := ⟨⟨l, hr, rfl⟩, by simp [st0], rfl, rfl⟩
  obtain ⟨e1, e2⟩ := hg _ _ _ _ hs
  obtain ⟨⟨r, e3, e4⟩, e5, _, e7⟩ := e2
  rw [h2] at e4
  have hr : r = [] := low_nil.1 e4
  subst hr
  have : (g st).2 = { st with rest := x, long := st.long || (g (st0 l)).2.long } := by rw [e7, e3, e5]; rfl
  rw [← this, ← h1, e1]
/-- what is read of a text is all of a part, if something that stops it stands behind it -/
theorem read_some {g : Rd} (hsuf : Suf g) (st : Rs) (hg : Simr (g st).2.rest g) (h : (g st).1 = true) : st.rest = used st (g st).2 ++ (g st).2.rest ∧ allB g (used st (g st).2) = true ∧ (g st).2 = { st with rest := (g st).2.rest, long := st.long || (g (st0 (used st (g st).2))).2.long } := by
  have hr : st.rest = used st (g st).2 ++ (g st).2.rest := by
    obtain ⟨u, hu⟩ := hsuf st
    unfold used
    rw [← hu]
    simp
  refine ⟨hr, ?_⟩
  have hs : Sim (g st).2.rest (st0 []) st (st0 (used st (g st).2)) st := ⟨⟨_, hr, rfl⟩, by simp [st0], rfl, rfl⟩
  obtain ⟨e1, e2⟩ := hg _ _ _ _ hs
  obtain ⟨⟨r, e3, e4⟩, e5, _, e7⟩ := e2
  have hr0 : r = [] := by
    have := congrArg List.length e3
    rw [List.length_append] at this
    exact List.length_eq_zero_iff.1 (by omega)
  rw [hr0] at e4
  refine ⟨allB_iff.2 ⟨by rw [e1, h], low_nil.1 e4.symm⟩, ?_⟩
  rw [← e5]
  exact e7
/-- letters great or small -/
theorem all_low {g : Rd} (hg : Simr [] g) {l m : List UInt8} (h : low l = low m) : allB g l = allB g m ∧ (g (st0 l)).2.long = (g (st0 m)).2.long := by
  have hs : Sim [] (st0 []) (st0 []) (st0 l) (st0 m) := ⟨⟨m, by simp [st0], h.symm⟩, rfl, rfl, rfl⟩
  obtain ⟨e1, e2⟩ := hg _ _ _ _ hs
  obtain ⟨⟨r, e3, e4⟩, e5, _⟩ := e2
  refine ⟨?_, by rw [e5]; simp [st0]⟩
  rw [List.append_nil] at e3
  rw [← e3] at e4
  unfold allB
  rw [e1]
  congr 1
  have := congrArg List.length e4
  rw [low_len, low_len] at this
  generalize (g (st0 l)).2.rest = u at this
  generalize (g (st0 m)).2.rest = v at this
  cases u <;> cases v <;> first | rfl | simp at this
theorem stop_nil (p : UInt8 → Bool) : Stop [] p := fun c h => by simp at h
end Go.Proofs.YtnkepdeegpampaaGreatDoor

/-
  Memory in general: values in a row, blocks that are known whole, worlds in which but one block has changed. It names no function of the program. No conditions.
-/
namespace Go.Proofs.YtnkepdeegpampaaGreatDoor
open Go.RowKit

theorem ret_bool {a b : Bool} (h : a = b) : Ending.returned (.bool a) = .returned (.bool b) := by rw [h]
theorem ret_int {k : IntKind} {a b : Int} (h : a = b) : Ending.returned (.int k a) = .returned (.int k b) := by rw [h]
def bs (l : List UInt8) : ByteArray := ⟨l.toArray⟩
theorem bs_size (l : List UInt8) : (bs l).size = l.length := rfl
theorem bs_list (l : List UInt8) : (bs l).data.toList = l := rfl

/-- values in a row of memory -/
structure RowAt (w : World) (a : Option Addr) (l : List Value) : Prop where
  len : l.length ≤ maxLen
  row : 0 < l.length → ∃ b off, a = some ⟨b, off, none⟩ ∧ b < w.heap.size ∧ ∀ j, (h : j < l.length) → w.cell? ⟨b, off + j, none⟩ = some l[j]
theorem RowAt.at_ {w : World} {a : Option Addr} {l : List Value} (h : RowAt w a l) {k : Nat} (hk : k < l.length) : ∃ b off, a = some ⟨b, off, none⟩ ∧ w.cell? ⟨b, off + k, none⟩ = some l[k] := by
  obtain ⟨b, off, h1, _, h3⟩ := h.row (by omega)
  exact ⟨b, off, h1, h3 k hk⟩
theorem RowAt.below {w w' : World} {a : Option Addr} {l : List Value} (h : RowAt w a l) (hb : Below w.heap.size w w') : RowAt w' a l := by
  refine ⟨h.len, fun h0 => ?_⟩
  obtain ⟨b, off, h1, h2, h3⟩ := h.row h0
  exact ⟨b, off, h1, by have := hb.size; omega, fun j hj => (hb.cell (p := ⟨b, off + j, none⟩) h2).trans (h3 j hj)⟩
theorem RowAt.under {w w' : World} {B : Nat} {a : Option Addr} {l : List Value} (h : RowAt w a l) (hb : Below B w w') (hB : w.heap.size ≤ B) : RowAt w' a l := h.below (hb.mono hB)
def intV (z : Int) : Value := .int .i64 z
def byteV (c : UInt8) : Value := .int .u8 (c.toNat : Int)
def textV (l : List UInt8) : Value := .string (bs l)
def IntsAt (w : World) (a : Option Addr) (l : List Int) : Prop := RowAt w a (l.map intV)
def TextsAt (w : World) (a : Option Addr) (l : List (List UInt8)) : Prop := RowAt w a (l.map textV)
def BytesAt (w : World) (a : Option Addr) (l : List UInt8) : Prop := RowAt w a (l.map byteV)
theorem IntsAt.at_ {w : World} {a : Option Addr} {l : List Int} (h : IntsAt w a l) {k : Nat} (hk : k < l.length) : ∃ b off, a = some ⟨b, off, none⟩ ∧ w.cell? ⟨b, off + k, none⟩ = some (.int .i64 l[k]) := by
  obtain ⟨b, off, h1, h2⟩ := RowAt.at_ h (k := k) (by simpa using hk)
  exact ⟨b, off, h1, by rw [h2, List.getElem_map]; rfl⟩
theorem TextsAt.at_ {w : World} {a : Option Addr} {l : List (List UInt8)} (h : TextsAt w a l) {k : Nat} (hk : k < l.length) : ∃ b off, a = some ⟨b, off, none⟩ ∧ w.cell? ⟨b, off + k, none⟩ = some (.string (bs l[k])) := by
  obtain ⟨b, off, h1, h2⟩ := RowAt.at_ h (k := k) (by simpa using hk)
  exact ⟨b, off, h1, by rw [h2, List.getElem_map]; rfl⟩
theorem BytesAt.at_ {w : World} {a : Option Addr} {l : List UInt8} (h : BytesAt w a l) {k : Nat} (hk : k < l.length) : ∃ b off, a = some ⟨b, off, none⟩ ∧ w.cell? ⟨b, off + k, none⟩ = some (.int .u8 (l[k].toNat : Int)) := by
  obtain ⟨b, off, h1, h2⟩ := RowAt.at_ h (k := k) (by simpa using hk)
  exact ⟨b, off, h1, by rw [h2, List.getElem_map]; rfl⟩
theorem IntsAt.len {w : World} {a : Option Addr} {l : List Int} (h : IntsAt w a l) : l.length ≤ maxLen := by have := RowAt.len h; simpa using this
theorem TextsAt.len {w : World} {a : Option Addr} {l : List (List UInt8)} (h : TextsAt w a l) : l.length ≤ maxLen := by have := RowAt.len h; simpa using this
theorem BytesAt.len {w : World} {a : Option Addr} {l : List UInt8} (h : BytesAt w a l) : l.length ≤ maxLen := by have := RowAt.len h; simpa using this

/-- a block that is known whole -/
def Blk (w : World) (g : Nat) (t : TypeId) (cs : Array Value) : Prop := w.heap[g]? = some (.cells cs t (0, 0))
theorem Blk.lt {w : World} {g : Nat} {t : TypeId} {cs : Array Value} (h : Blk w g t cs) : g < w.heap.size := (Array.getElem?_eq_some_iff.1 h).1
theorem Blk.cell {w : World} {g : Nat} {t : TypeId} {cs : Array Value} (h : Blk w g t cs) (i : Nat) : w.cell? ⟨g, i, none⟩ = cs[i]? := cell_of_row w g i cs t (0, 0) h
theorem Blk.frozen {w : World} {g : Nat} {t : TypeId} {cs : Array Value} (h : Blk w g t cs) (i : Nat) : w.frozen? ⟨g, i, none⟩ = false := by
  unfold Blk at h
  simp [World.frozen?, h]
theorem Blk.new (w : World) (t : TypeId) (cs : Array Value) : Blk (w.alloc (.cells cs t)) w.heap.size t cs := by show (w.heap.push _)[w.heap.size]? = _; simp
theorem Blk.below {B : Nat} {w w' : World} {g : Nat} {t : TypeId} {cs : Array Value} (h : Blk w g t cs) (hb : Below B w w') (hg : g < B) : Blk w' g t cs := (hb.block g hg).trans h
theorem Blk.drew {w : World} {g : Nat} {t : TypeId} {cs : Array Value} (h : Blk w g t cs) : Blk w.drew g t cs := h
theorem Blk.set_ {w : World} {g : Nat} {t : TypeId} {cs : Array Value} (h : Blk w g t cs) (i : Nat) (v : Value) : Blk (w.setCell ⟨g, i, none⟩ v) g t (cs.setIfInBounds i v) := heap_setCell_same w g i cs t v h

/-- nothing that was there has changed, but one block -/
def Only (R : Nat) (w w' : World) : Prop := w.grownBy w' (some R)
theorem Only.refl (R : Nat) (w : World) : Only R w w := ⟨rfl, rfl, rfl, Nat.le_refl _, fun _ _ _ => rfl⟩
theorem Only.trans {R : Nat} {a b c : World} (h : Only R a b) (k : Only R b c) : Only R a c := World.grownBy.trans h k
theorem Only.set_ {R : Nat} {a w : World} (h : Only R a w) (j : Nat) (v : Value) : Only R a (w.setCell ⟨R, j, none⟩ v) :=
  h.trans ⟨rfl, rfl, rfl, by simp [World.setCell], fun k _ hne => heap_setCell_other w ⟨R, j, none⟩ k v (fun e => hne (by rw [e]))⟩
theorem Only.drew {R : Nat} {a w : World} (h : Only R a w) : Only R a w.drew := ⟨h.os, h.tape, h.output, h.size, h.block⟩
theorem Only.alloc {R : Nat} {a w : World} (h : Only R a w) (o : Obj) : Only R a (w.alloc o) := h.trans (World.grownBy_alloc w o (some R))
theorem Only.of_below {R : Nat} {a w : World} (h : Below a.heap.size a w) : Only R a w := ⟨h.os, h.tape, h.output, h.size, fun k hk _ => h.block k hk⟩
theorem Only.below {R B : Nat} {a w : World} (h : Only R a w) (hB : B ≤ R) (hs : B ≤ a.heap.size) : Below B a w := ⟨h.os, h.tape, h.output, h.size, fun k hk => h.block k (by omega) (fun e => by injection e with e; omega)⟩
theorem Only.blk {R : Nat} {w w' : World} {g : Nat} {t : TypeId} {cs : Array Value} (ho : Only R w w') (h : Blk w g t cs) (hne : g ≠ R) : Blk w' g t cs := (ho.block g h.lt (fun e => hne (by injection e))).trans h
theorem RowAt.only {R : Nat} {w w' : World} {a : Option Addr} {l : List Value} (h : RowAt w a l) (ho : Only R w w') (hne : 0 < l.length → ∀ x, a = some x → x.block ≠ R) : RowAt w' a l := by
  refine ⟨h.len, fun h0 => ?_⟩
  obtain ⟨b, off, h1, h2, h3⟩ := h.row h0
  refine ⟨b, off, h1, by have := ho.size; omega, fun j hj => ?_⟩
  rw [← h3 j hj]
  exact World.cell?_of_block (a := ⟨b, off + j, none⟩) (ho.block b h2 (fun e => hne h0 ⟨b, off, none⟩ h1 (by injection e)))

theorem low_trans {w a b : World} (h : Below w.heap.size w a) (k : Below a.heap.size a b) : Below w.heap.size w b := h.trans (k.mono h.size)
theorem Blk.kept {w w' : World} {g : Nat} {t : TypeId} {cs : Array Value} {row : Option Nat} (h : Blk w g t cs) (hb : w.grownBy w' row) (hg : some g ≠ row) : Blk w' g t cs := (hb.block g h.lt hg).trans h
theorem Blk.alloc {w : World} {g : Nat} {t : TypeId} {cs : Array Value} (h : Blk w g t cs) (o : Obj) : Blk (w.alloc o) g t cs := (Below.heap_alloc w o g h.lt).trans h
theorem Blk.other {w : World} {g : Nat} {t : TypeId} {cs : Array Value} (h : Blk w g t cs) {p : Addr} (hp : g ≠ p.block) (u : Value) : Blk (w.setCell p u) g t cs := (Below.heap_setCell _ _ _ _ hp).trans h
theorem Blk.new_at (w : World) (t : TypeId) (cs : Array Value) (g : Nat) (hg : g = w.heap.size) : Blk (w.alloc (.cells cs t)) g t cs := by subst hg; exact Blk.new _ _ _
theorem ownsRow_kept {B : Nat} {e : TypeId} {k : Nat} {v : Value} {n : Nat} {xs : List Value} {w w' : World} (h : w.ownsRow B e k v n xs) (hb : Below w.heap.size w w') : w'.ownsRow B e k v n xs :=
  h.kept (row := none) ⟨hb.os, hb.tape, hb.output, hb.size, fun i hi _ => hb.block i hi⟩ (by cases v.ownBlock <;> simp)
theorem ownsRow_from {w : World} {B B' sz n : Nat} {e : TypeId} {v : Value} {xs : List Value} (h : w.ownsRow B e sz v n xs) (hb : B' ≤ B) : w.ownsRow B' e sz v n xs :=
  ⟨h.1, h.2.elim Or.inl (fun ⟨g, cap, cur, hv, hg, r⟩ => Or.inr ⟨g, cap, cur, hv, Nat.le_trans hb hg, r⟩)⟩
/-- cells of a row of one's own, as a row that is read -/
theorem row_of_own {B n c sz : Nat} {e : TypeId} {W : World} {a : Option Addr} {l : List Value} (h : W.ownsRow B e sz (.slice a n c) n l) (hm : l.length ≤ maxLen) : RowAt W a l := by
  obtain ⟨h1, h2⟩ := h
  rcases h2 with ⟨e1, h0⟩ | ⟨g, cap, cur, e1, hg, hb, h3, h4, h5, h6⟩
  · exact ⟨hm, fun hh => by rw [h1, h0] at hh; simp at hh⟩
  · injection e1 with e1 e2 e3
    subst e1
    have hlt : g < W.heap.size := (Array.getElem?_eq_some_iff.1 hb).1
    refine ⟨hm, fun _ => ⟨g, 0, rfl, hlt, fun j hj => ?_⟩⟩
    rw [cell_of_row W g (0 + j) cur e (0, 0) hb, Nat.zero_add, ← List.getElem?_eq_getElem hj, ← h6, List.getElem?_take, if_pos (by rw [← h1]; exact hj)]
    simp
theorem results_cell1 {P : Program} {fn : Func} {p : Tmp} {ty : TypeId} (h : fn.results = #[.cell p ty]) (tmps : Array Value) (w : World) (g : Nat) (t : TypeId) (cs : Array Value) (fr : Nat × Nat) (d : TypeDesc)
    (hp : tmps.getD p undef = .pointer (some ⟨g, 0, none⟩)) (hg : w.heap[g]? = some (.cells cs t fr))
    (hu : P.underlying ty = some d) (hd : (match d with | .struct _ | .array _ _ => true | _ => false) = true) (hi : (P.info? ty).map (·.size) = some cs.size) :
    (results fn tmps).run P w = .ok (.agg cs) w := by
  have hp' : tmps[p]?.getD undef = .pointer (some ⟨g, 0, none⟩) := by simpa using hp
  simp [results, h, hp', asAddr, run_loadVar_row w g t ty cs fr d hg hu hd hi]
theorem results_cell_tmp {P : Program} {fn : Func} {p u : Tmp} {ty : TypeId} (h : fn.results = #[.cell p ty, .tmp u]) (tmps : Array Value) (w : World) (g : Nat) (t : TypeId) (cs : Array Value) (fr : Nat × Nat) (d : TypeDesc)
    (hp : tmps.getD p undef = .pointer (some ⟨g, 0, none⟩)) (hg : w.heap[g]? = some (.cells cs t fr))
    (hu : P.underlying ty = some d) (hd : (match d with | .struct _ | .array _ _ => true | _ => false) = true) (hi : (P.info? ty).map (·.size) = some cs.size) :
    (results fn tmps).run P w = .ok (.tuple #[.agg cs, tmps.getD u undef]) w := by
  have hp' : tmps[p]?.getD undef = .pointer (some ⟨g, 0, none⟩) := by simpa using hp
  simp [results, h, hp', asAddr, run_loadVar_row w g t ty cs fr d hg hu hd hi]
theorem results_cell_tmp2 {P : Program} {fn : Func} {p u v : Tmp} {ty : TypeId} (h : fn.results = #[.cell p ty, .tmp u, .tmp v]) (tmps : Array Value) (w : World) (g : Nat) (t : TypeId) (cs : Array Value) (fr : Nat × Nat) (d : TypeDesc)
    (hp : tmps.getD p undef = .pointer (some ⟨g, 0, none⟩)) (hg : w.heap[g]? = some (.cells cs t fr))
    (hu : P.underlying ty = some d) (hd : (match d with | .struct _ | .array _ _ => true | _ => false) = true) (hi : (P.info? ty).map (·.size) = some cs.size) :
    (results fn tmps).run P w = .ok (.tuple #[.agg cs, tmps.getD u undef, tmps.getD v undef]) w := by
  have hp' : tmps[p]?.getD undef = .pointer (some ⟨g, 0, none⟩) := by simpa using hp
  simp [results, h, hp', asAddr, run_loadVar_row w g t ty cs fr d hg hu hd hi]
end Go.Proofs.YtnkepdeegpampaaGreatDoor
