/-
  Merged texts (PtF, PtN, PtO, PtQ, PtR, PtS, PtT, PtG, PtU, PtV, PtWz), each under a head of its own that says what it proves and under which conditions.
-/
import Derived.Test.YtnkepdeegpampaaGreatDoorM01
import Derived.Test.YtnkepdeegpampaaGreatDoorM03
/-
  Paths in plain terms: what a text must be to be read as a path, and what is told of it; what is printed. No conditions.
-/
namespace Go.Proofs.YtnkepdeegpampaaGreatDoor

def dB (l : List UInt8) : Bool := allB domainR l
def dL (l : List UInt8) : Bool := (domainR (st0 l)).2.long
def aB (l : List UInt8) : Bool := allB atomsR l
def wB (l : List UInt8) : Bool := allB wordsR l
/-- what never says that there is too much -/
def NoL (g : Rd) : Prop := ∀ st, (g st).2.long = st.long
theorem nol_take (w : List UInt8) : NoL (takeR w) := by
  intro st
  unfold takeR
  split <;> rfl
theorem nol_eachF {part : Rd} (hp : NoL part) (sep : List UInt8) : ∀ (f many : Nat) (st : Rs), (eachF part sep f many st).2.long = st.long
  | 0, _, _ => rfl
  | f + 1, many, st => by
    have hs : (sepR sep many st).2.long = st.long := by
      unfold sepR
      split
      · rfl
      · exact nol_take sep st
    rw [eachF]
    split
    · exact hs
    · split
      · exact (hp _).trans hs
      · exact (nol_eachF hp sep f (many + 1) _).trans ((hp _).trans hs)
theorem nol_each {part : Rd} (hp : NoL part) (sep : List UInt8) (st : Rs) : (eachR part sep st).2.long = st.long := nol_eachF hp sep _ _ _
theorem nol_atoms : NoL atomsR := fun st => nol_each (fun _ => rfl) _ st
theorem nol_words : NoL wordsR := by
  intro st
  unfold wordsR
  have hg : NoL groupR := fun _ => rfl
  split
  · refine Eq.trans ?_ (nol_take ipv6P st)
    unfold addressR
    split
    · exact (nol_take _ _).trans (nol_each hg _ _)
    · exact (nol_each hg _ _).trans ((nol_take _ _).trans (nol_each hg _ _))
  · exact (nol_each (part := numberR) (fun _ => rfl) _ _).trans (nol_take ipv6P st)

/-- a domain, atoms, a literal's words, at a place of a text -/
theorem domain_all {x l : List UInt8} (hx : Stop x domStop) (h : dB l = true) (st : Rs) (hr : st.rest = l ++ x) : domainR st = (true, { st with rest := x, long := st.long || dL l }) := read_all (sim_domain hx) h st hr
theorem atoms_all {x l : List UInt8} (hx : Stop x atmStop) (h : aB l = true) (st : Rs) (hr : st.rest = l ++ x) : atomsR st = (true, { st with rest := x }) := by
  rw [read_all (sim_atoms hx) h st hr, nol_atoms]
  simp [st0]
theorem words_all {x l : List UInt8} (hx : Stop x litStop) (h : wB l = true) (st : Rs) (hr : st.rest = l ++ x) : wordsR st = (true, { st with rest := x }) := by
  rw [read_all (sim_words hx) h st hr, nol_words]
  simp [st0]
theorem domain_some (st : Rs) (hx : Stop (domainR st).2.rest domStop) (h : (domainR st).1 = true) : ∃ l, st.rest = l ++ (domainR st).2.rest ∧ l = used st (domainR st).2 ∧ dB l = true ∧ (domainR st).2 = { st with rest := (domainR st).2.rest, long := st.long || dL l } := by
  obtain ⟨h1, h2, h3⟩ := read_some suf_domain st (sim_domain hx) h
  exact ⟨_, h1, rfl, h2, h3⟩
theorem atoms_some (st : Rs) (hx : Stop (atomsR st).2.rest atmStop) (h : (atomsR st).1 = true) : ∃ l, st.rest = l ++ (atomsR st).2.rest ∧ l = used st (atomsR st).2 ∧ aB l = true ∧ (atomsR st).2 = { st with rest := (atomsR st).2.rest } := by
  obtain ⟨h1, h2, h3⟩ := read_some suf_atoms st (sim_atoms hx) h
  refine ⟨_, h1, rfl, h2, ?_⟩
  rw [nol_atoms] at h3
  simpa [st0] using h3
theorem words_some (st : Rs) (hx : Stop (wordsR st).2.rest litStop) (h : (wordsR st).1 = true) : ∃ l, st.rest = l ++ (wordsR st).2.rest ∧ l = used st (wordsR st).2 ∧ wB l = true ∧ (wordsR st).2 = { st with rest := (wordsR st).2.rest } := by
  obtain ⟨h1, h2, h3⟩ := read_some suf_words st (sim_words hx) h
  refine ⟨_, h1, rfl, h2, ?_⟩
  rw [nol_words] at h3
  simpa [st0] using h3
theorem used_app {st : Rs} {l x : List UInt8} {st' : Rs} (h : st.rest = l ++ x) (h' : st'.rest = x) : used st st' = l := by
  unfold used
  rw [h, h', List.length_append, Nat.add_sub_cancel, List.take_left]

/-- a fixed text at a place -/
theorem take_all {w l x : List UInt8} (h : low l = w) (st : Rs) (hr : st.rest = l ++ x) : takeR w st = (true, { st with rest := x }) := by
  have hl : l.length = w.length := by rw [← h, low_len]
  unfold takeR
  rw [hr, ← hl, List.take_left, if_pos h, List.drop_left]
theorem take_some {w : List UInt8} {st : Rs} (h : (takeR w st).1 = true) : ∃ l, low l = w ∧ st.rest = l ++ (takeR w st).2.rest ∧ (takeR w st).2 = { st with rest := (takeR w st).2.rest } := by
  obtain ⟨h1, h2, h3⟩ := takeR_yes w st h
  refine ⟨_, h1, ?_, by rw [h2]⟩
  rw [h2]
  exact (List.take_append_drop _ _).symm
theorem low_one {c : UInt8} (hc : ∀ e, sml e = c → e = c) {l : List UInt8} (h : low l = [c]) : l = [c] := by
  cases l with
  | nil => simp [low] at h
  | cons e r =>
    simp only [low, List.map_cons, List.cons.injEq] at h
    rw [hc e h.1, List.map_eq_nil_iff.1 h.2]
theorem fix34 : ∀ e, sml e = 34 → e = 34 := all_u8 (by decide +kernel)
theorem fix44 : ∀ e, sml e = 44 → e = 44 := all_u8 (by decide +kernel)
theorem fix58 : ∀ e, sml e = 58 → e = 58 := all_u8 (by decide +kernel)
theorem fix60 : ∀ e, sml e = 60 → e = 60 := all_u8 (by decide +kernel)
theorem fix62 : ∀ e, sml e = 62 → e = 62 := all_u8 (by decide +kernel)
theorem fix64 : ∀ e, sml e = 64 → e = 64 := all_u8 (by decide +kernel)
theorem fix91 : ∀ e, sml e = 91 → e = 91 := all_u8 (by decide +kernel)
theorem fix93 : ∀ e, sml e = 93 → e = 93 := all_u8 (by decide +kernel)
/-- one byte, that is no letter -/
theorem one_yes {c : UInt8} (hc : sml c = c) (st : Rs) (x : List UInt8) (h : st.rest = c :: x) : takeR [c] st = (true, { st with rest := x }) := take_all (l := [c]) (by simp [low, hc]) st h
theorem one_some {c : UInt8} (hc : ∀ e, sml e = c → e = c) {st : Rs} (h : (takeR [c] st).1 = true) : ∃ x, st.rest = c :: x ∧ takeR [c] st = (true, { st with rest := x }) := by
  obtain ⟨l, h1, h2, h3⟩ := take_some h
  have := low_one hc h1
  subst this
  exact ⟨(takeR [c] st).2.rest, h2, Prod.ext h h3⟩
theorem one_no {c : UInt8} (hc : ∀ e, sml e = c → e = c) (st : Rs) (h : st.rest.head? ≠ some c) : takeR [c] st = (false, st) := by
  cases ht : (takeR [c] st).1 with
  | true =>
    obtain ⟨x, h1, _⟩ := one_some hc ht
    rw [h1] at h
    exact absurd rfl h
  | false => exact Prod.ext ht (takeR_no _ _ ht)

/-- what stands in quotes: bytes as they are, and bytes behind a backslash -/
def quoT (ps : List (Bool × UInt8)) : List UInt8 := ps.flatMap fun p => if p.1 then [92, p.2] else [p.2]
def okQ (p : Bool × UInt8) : Prop := notB p.2 = false ∧ (p.1 = false → p.2 ≠ 34 ∧ p.2 ≠ 92)
theorem quoS_esc (acc : List UInt8) (c : UInt8) (r : List UInt8) : quoS acc (92 :: c :: r) = if notB c then (false, acc, c :: r) else quoS (acc ++ [c]) r := by rw [quoS]
theorem quoS_end (acc r : List UInt8) : quoS acc (34 :: r) = (true, acc, r) := by rw [quoS]
theorem quoS_on (acc : List UInt8) (c : UInt8) (r : List UInt8) (h : c ≠ 34) (h' : c ≠ 92) : quoS acc (c :: r) = if notB c then (false, acc, c :: r) else quoS (acc ++ [c]) r := by
  rw [quoS]
  · exact h
  · intro e; exact fun _ => h' e
  · intro _ _ e; exact fun _ => h' e
theorem quoS_all : ∀ (ps : List (Bool × UInt8)) (acc r : List UInt8), (∀ p ∈ ps, okQ p) → quoS acc (quoT ps ++ 34 :: r) = (true, acc ++ ps.map (·.2), r)
  | [], acc, r, _ => by simp [quoT, quoS_end]
  | (b, c) :: ps, acc, r, h => by
    have ih := quoS_all ps (acc ++ [c]) r (fun p hp => h p (by simp [hp]))
    obtain ⟨h1, h2⟩ := h (b, c) (by simp)
    have e : quoT ((b, c) :: ps) ++ 34 :: r = (if b then [92, c] else [c]) ++ (quoT ps ++ 34 :: r) := by simp [quoT]
    rw [e]
    simp only at h1 h2
    cases b with
    | true => simp only [if_true, List.cons_append, List.nil_append]; rw [quoS_esc, h1, if_neg (by simp), ih]; simp
    | false => simp only [Bool.false_eq_true, if_false, List.cons_append, List.nil_append]; rw [quoS_on _ _ _ (h2 rfl).1 (h2 rfl).2, h1, if_neg (by simp), ih]; simp
theorem quoS_some : ∀ (n : Nat) (l acc : List UInt8), l.length ≤ n → (quoS acc l).1 = true → ∃ ps, (∀ p ∈ ps, okQ p) ∧ l = quoT ps ++ 34 :: (quoS acc l).2.2 ∧ (quoS acc l).2.1 = acc ++ ps.map (·.2) := by
  intro n
  induction n with
  | zero => intro l acc h ht; obtain rfl := List.length_eq_zero_iff.1 (Nat.le_zero.1 h); simp [quoS] at ht
  | succ n ih =>
    intro l acc h ht
    match l, h, ht with
    | [], _, ht => simp [quoS] at ht
    | [c], h, ht =>
      by_cases h1 : c = 34
      · subst h1; exact ⟨[], by simp, by simp [quoT, quoS_end], by simp [quoS_end]⟩
      · by_cases h2 : c = 92
        · subst h2; simp [quoS] at ht
        · rw [quoS_on _ _ _ h1 h2] at ht
          split at ht <;> simp [quoS] at ht
    | c :: d :: r, h, ht =>
      by_cases h1 : c = 34
      · subst h1; exact ⟨[], by simp, by simp [quoT, quoS_end], by simp [quoS_end]⟩
      · by_cases h2 : c = 92
        · subst h2
          rw [quoS_esc] at ht ⊢
          cases hn : notB d with
          | true => rw [hn] at ht; simp at ht
          | false =>
            rw [hn] at ht
            simp only [Bool.false_eq_true, if_false] at ht ⊢
            obtain ⟨ps, h3, h4, h5⟩ := ih r (acc ++ [d]) (by simp at h; omega) ht
            refine ⟨(true, d) :: ps, ?_, ?_, ?_⟩
            · intro p hp
              rcases List.mem_cons.1 hp with rfl | hp
              · exact ⟨hn, by simp⟩
              · exact h3 p hp
            · have e : quoT ((true, d) :: ps) = 92 :: d :: quoT ps := by simp [quoT]
              rw [e, List.cons_append, List.cons_append, ← h4]
            · rw [h5]; simp
        · rw [quoS_on _ _ _ h1 h2] at ht ⊢
          cases hn : notB c with
          | true => rw [hn] at ht; simp at ht
          | false =>
            rw [hn] at ht
            simp only [Bool.false_eq_true, if_false] at ht ⊢
            obtain ⟨ps, h3, h4, h5⟩ := ih (d :: r) (acc ++ [c]) (by simp at h ⊢; omega) ht
            refine ⟨(false, c) :: ps, ?_, ?_, ?_⟩
            · intro p hp
              rcases List.mem_cons.1 hp with rfl | hp
              · exact ⟨hn, fun _ => ⟨h1, h2⟩⟩
              · exact h3 p hp
            · have e : quoT ((false, c) :: ps) = c :: quoT ps := by simp [quoT]
              rw [e, List.cons_append, ← h4]
            · rw [h5]; simp

/-- a text that is a local part, and how it is meant -/
def LocT (t m : List UInt8) : Prop := (aB t = true ∧ m = t) ∨ ∃ ps, (∀ p ∈ ps, okQ p) ∧ t = 34 :: (quoT ps ++ [34]) ∧ m = ps.map (·.2)
/-- a text that stands behind a mailbox's @, and what is told of it; whether it is too long -/
def DomT (t d : List UInt8) (lit lg : Bool) : Prop := (lit = false ∧ dB t = true ∧ d = low t ∧ lg = dL t) ∨ (lit = true ∧ lg = false ∧ ∃ w, wB w = true ∧ t = 91 :: (w ++ [93]) ∧ d = low w)
def BoxT (t loc d : List UInt8) (lit lg : Bool) : Prop := ∃ l u g, LocT l loc ∧ DomT u d lit g ∧ t = l ++ 64 :: u ∧ lg = (decide (64 < loc.length) || g)
theorem run_ne {p : UInt8 → Bool} {l : List UInt8} (h : l.takeWhile p ≠ []) : ∃ c r, l = c :: r ∧ p c = true := by
  cases l with
  | nil => simp at h
  | cons c r =>
    rw [List.takeWhile_cons] at h
    cases hc : p c with
    | true => exact ⟨c, r, rfl, hc⟩
    | false => rw [hc] at h; simp at h
theorem each_first {part : Rd} {sep : List UInt8} {st : Rs} (h : 0 < (eachR part sep st).1) : (part st).1 = true := by
  unfold eachR at h
  rw [eachF] at h
  cases hp : (part st).1 with
  | true => rfl
  | false => simp [sepR, hp] at h
/-- what atoms and domains begin with -/
theorem atoms_head {st : Rs} (h : (atomsR st).1 = true) : ∃ c r, st.rest = c :: r ∧ atmB c = true := by
  unfold atomsR at h
  have := each_first (of_decide_eq_true h)
  unfold atomR at this
  exact run_ne (by simpa [runL] using this)
theorem domain_head {st : Rs} (h : (domainR st).1 = true) : ∃ c r, st.rest = c :: r ∧ labB c = true := by
  unfold domainR labelsR at h
  have := each_first (of_decide_eq_true h)
  unfold labelR labOk at this
  refine run_ne (p := labB) (l := st.rest) ?_
  intro e
  simp [runL, e] at this
theorem aB_head {l : List UInt8} (h : aB l = true) : ∃ c r, l = c :: r ∧ atmB c = true := atoms_head (st := st0 l) (allB_iff.1 h).1
theorem dB_head {l : List UInt8} (h : dB l = true) : ∃ c r, l = c :: r ∧ labB c = true := domain_head (st := st0 l) (allB_iff.1 h).1
theorem at_stop : ∀ x, Stop (64 :: x) atmStop := fun x c h => by
  obtain rfl : 64 = c := by simpa using h
  decide
theorem loc_all {t m x : List UInt8} (h : LocT t m) (st : Rs) (hr : st.rest = t ++ 64 :: x) : eitherR [quotedR, plainR] st = (true, { st with rest := 64 :: x, loc := m, long := st.long || decide (64 < m.length) }) := by
  rcases h with ⟨h1, rfl⟩ | ⟨ps, h1, rfl, rfl⟩
  · obtain ⟨c, r, h2, h3⟩ := aB_head h1
    have hq : quotedR st = (false, st) := by
      unfold quotedR
      rw [one_no fix34 st (by rw [hr, h2]; simp; rintro rfl; revert h3; decide)]
      rfl
    have ha := atoms_all (at_stop x) h1 st hr
    have hp : plainR st = (true, { st with rest := 64 :: x, loc := m, long := st.long || decide (64 < m.length) }) := by
      unfold plainR
      rw [ha]
      simp only [meanR]
      rw [used_app hr rfl]
    rw [eitherR, hq]
    simp only [Bool.false_eq_true, if_false]
    rw [eitherR, hp]
    rfl
  · have hq : quotedR st = (true, { st with rest := 64 :: x, loc := ps.map (·.2), long := st.long || decide (64 < (ps.map (·.2)).length) }) := by
      unfold quotedR
      have h2 := quoS_all ps [] (64 :: x) h1
      rw [one_yes rfl st (quoT ps ++ 34 :: (64 :: x)) (by rw [hr]; simp)]
      simp only [h2]
      simp [meanR]
    rw [eitherR, hq]
    rfl
theorem br_stop : ∀ x, Stop (93 :: x) litStop := fun x c h => by
  obtain rfl : 93 = c := by simpa using h
  decide
theorem dom_all {t d x : List UInt8} {lit lg : Bool} (h : DomT t d lit lg) (hx : Stop x domStop) (st : Rs) (hl : st.lit = false) (hr : st.rest = t ++ x) : eitherR [bracketR, namedR] st = (true, { st with rest := x, dom := d, lit := lit, long := st.long || lg }) := by
  rcases h with ⟨rfl, h1, rfl, rfl⟩ | ⟨rfl, rfl, w, h1, rfl, rfl⟩
  · obtain ⟨c, r, h2, h3⟩ := dB_head h1
    have hb : bracketR st = (false, st) := by
      unfold bracketR
      rw [one_no fix91 st (by rw [hr, h2]; simp; rintro rfl; revert h3; decide)]
      rfl
    have hn : namedR st = (true, { st with rest := x, dom := low t, lit := false, long := st.long || dL t }) := by
      unfold namedR
      rw [domain_all hx h1 st hr]
      simp only
      rw [used_app hr rfl, hl]
    rw [eitherR, hb]
    simp only [Bool.false_eq_true, if_false]
    rw [eitherR, hn]
    rfl
  · have hb : bracketR st = (true, { st with rest := x, dom := low w, lit := true, long := st.long || false }) := by
      unfold bracketR
      rw [one_yes rfl st (w ++ 93 :: x) (by rw [hr]; simp)]
      rw [words_all (br_stop x) h1 _ rfl, one_yes rfl _ x rfl]
      simp only [Bool.true_eq_false, if_false]
      rw [used_app (l := w) (x := 93 :: x) rfl rfl]
      simp
    rw [eitherR, hb]
    rfl
theorem box_all {t loc d x : List UInt8} {lit lg : Bool} (h : BoxT t loc d lit lg) (hx : Stop x domStop) (st : Rs) (hl : st.lit = false) (hr : st.rest = t ++ x) : mailboxR st = (true, { st with rest := x, loc := loc, dom := d, lit := lit, long := st.long || lg }) := by
  obtain ⟨l, u, g, h1, h2, rfl, rfl⟩ := h
  unfold mailboxR andR
  rw [loc_all (x := u ++ x) h1 st (by rw [hr]; simp)]
  simp only [if_true]
  rw [one_yes rfl _ (u ++ x) rfl]
  simp only [if_true]
  rw [dom_all (lit := lit) (lg := g) (d := d) (x := x) h2 hx { st with rest := u ++ x, loc := loc, long := st.long || decide (64 < loc.length) } hl rfl]
  simp [Bool.or_assoc]

theorem either2 {g h : Rd} {st st' : Rs} (e : eitherR [g, h] st = (true, st')) : g st = (true, st') ∨ h { (g st).2 with rest := st.rest } = (true, st') ∧ (g st).1 = false := by
  rw [eitherR] at e
  split at e
  · exact .inl e
  · rename_i hg
    rw [eitherR] at e
    split at e
    · exact .inr ⟨e, by simpa using hg⟩
    · rw [eitherR] at e; cases e
/-- a reader that says no has changed nothing but its place, and what it knows of limits -/
theorem take_fail {w : List UInt8} {st : Rs} (h : (takeR w st).1 = false) : takeR w st = (false, st) := Prod.ext h (takeR_no w st h)
theorem quoted_some {st st' : Rs} (h : quotedR st = (true, st')) : ∃ t m, LocT t m ∧ st.rest = t ++ st'.rest ∧ st' = { st with rest := st'.rest, loc := m, long := st.long || decide (64 < m.length) } := by
  unfold quotedR at h
  split at h
  · cases h
  · rename_i h1
    obtain ⟨x, hx, e⟩ := one_some fix34 (by simpa using h1)
    rw [e] at h
    simp only at h
    split at h
    · cases h
    · rename_i h2
      obtain ⟨ps, h3, h4, h5⟩ := quoS_some _ x [] (Nat.le_refl _) (by simpa using h2)
      injection h with _ h
      rw [h5, List.nil_append] at h
      subst h
      refine ⟨34 :: (quoT ps ++ [34]), ps.map (·.2), .inr ⟨ps, h3, rfl, rfl⟩, ?_, rfl⟩
      rw [hx]
      conv => lhs; rw [h4]
      simp [meanR]
theorem quoted_no {st : Rs} (h : (quotedR st).1 = false) : (quotedR st).2 = { st with rest := (quotedR st).2.rest } := by
  unfold quotedR at h ⊢
  split
  · rename_i h1; rw [takeR_no _ _ h1]
  · rename_i h1
    rw [if_neg h1] at h
    obtain ⟨x, hx, e⟩ := one_some fix34 (by simpa using h1)
    split
    · rw [e]
    · rename_i h2; rw [if_neg h2] at h; cases h
theorem loc_some {st st' : Rs} {x : List UInt8} (h : eitherR [quotedR, plainR] st = (true, st')) (hx : st'.rest = 64 :: x) : ∃ t m, LocT t m ∧ st.rest = t ++ 64 :: x ∧ st' = { st with rest := 64 :: x, loc := m, long := st.long || decide (64 < m.length) } := by
  rcases either2 h with h | ⟨h, hq⟩
  · obtain ⟨t, m, h1, h2, h3⟩ := quoted_some h
    rw [hx] at h2 h3
    exact ⟨t, m, h1, h2, h3⟩
  · have e : ({ (quotedR st).2 with rest := st.rest } : Rs) = st := by rw [quoted_no hq]
    rw [e] at h
    unfold plainR at h
    injection h with h1 h2
    have hr : (atomsR st).2.rest = 64 :: x := by rw [← hx, ← h2]; rfl
    obtain ⟨l, h3, h4, h5, h6⟩ := atoms_some st (by rw [hr]; exact at_stop x) h1
    rw [hr] at h3 h6
    refine ⟨l, l, .inl ⟨h5, rfl⟩, h3, ?_⟩
    rw [← h2, ← h4]
    rw [h6]
    rfl
theorem words_long (st : Rs) : (wordsR st).2.long = st.long := nol_words st
/-- what a reader never touches -/
structure Kept (a b : Rs) : Prop where
  null : b.null = a.null
  route : b.route = a.route
  loc : b.loc = a.loc
  dom : b.dom = a.dom
  lit : b.lit = a.lit
theorem Kept.refl (a : Rs) : Kept a a := ⟨rfl, rfl, rfl, rfl, rfl⟩
theorem Kept.trans {a b c : Rs} (h : Kept a b) (k : Kept b c) : Kept a c := ⟨k.null.trans h.null, k.route.trans h.route, k.loc.trans h.loc, k.dom.trans h.dom, k.lit.trans h.lit⟩
theorem Kept.eq {a b : Rs} (h : Kept a b) (hl : b.long = a.long) : b = { a with rest := b.rest } := by
  obtain ⟨h1, h2, h3, h4, h5⟩ := h
  cases a
  cases b
  simp_all
theorem Kept.rest {a b : Rs} (h : Kept a b) (r : List UInt8) : Kept a { b with rest := r } := ⟨h.null, h.route, h.loc, h.dom, h.lit⟩
def KeepF (g : Rd) : Prop := ∀ st, Kept st (g st).2
theorem keep_take (w : List UInt8) : KeepF (takeR w) := by
  intro st
  unfold takeR
  split
  · exact ⟨rfl, rfl, rfl, rfl, rfl⟩
  · exact Kept.refl _
theorem keep_eachF {part : Rd} (hp : KeepF part) (sep : List UInt8) : ∀ (f many : Nat) (st : Rs), Kept st (eachF part sep f many st).2
  | 0, _, _ => Kept.refl _
  | f + 1, many, st => by
    have hs : Kept st (sepR sep many st).2 := by
      unfold sepR
      split
      · exact Kept.refl _
      · exact keep_take sep st
    rw [eachF]
    split
    · exact hs.rest _
    · split
      · exact (hs.trans (hp _)).rest _
      · exact (hs.trans (hp _)).trans (keep_eachF hp sep f (many + 1) _)
theorem keep_each {part : Rd} (hp : KeepF part) (sep : List UInt8) (st : Rs) : Kept st (eachR part sep st).2 := keep_eachF hp sep _ _ _
theorem keep_words : KeepF wordsR := by
  intro st
  unfold wordsR
  have hg : KeepF groupR := fun _ => ⟨rfl, rfl, rfl, rfl, rfl⟩
  have hn : KeepF numberR := fun _ => ⟨rfl, rfl, rfl, rfl, rfl⟩
  have h1 := keep_take ipv6P st
  split
  · unfold addressR
    have h2 := h1.trans (keep_each hg [58] (takeR ipv6P st).2)
    have h3 := h2.trans (keep_take [58, 58] (eachR groupR [58] (takeR ipv6P st).2).2)
    split
    · exact h3
    · exact h3.trans (keep_each hg [58] _)
  · exact h1.trans (keep_each hn [46] _)
theorem bracket_some {st st' : Rs} (h : bracketR st = (true, st')) : ∃ w, wB w = true ∧ st.rest = 91 :: (w ++ 93 :: st'.rest) ∧ st' = { st with rest := st'.rest, dom := low w, lit := true } := by
  unfold bracketR at h
  split at h
  · cases h
  · rename_i h1
    obtain ⟨x, hx, e⟩ := one_some fix91 (by simpa using h1)
    rw [e] at h
    simp only at h
    split at h
    · cases h
    · rename_i h2
      split at h
      · cases h
      · rename_i h3
        obtain ⟨y, hy, e2⟩ := one_some fix93 (by simpa using h3)
        obtain ⟨w, h4, h5, h6, h7⟩ := words_some { st with rest := x } (by rw [hy]; exact br_stop y) (by simpa using h2)
        rw [e2] at h
        injection h with _ h
        rw [← h5] at h
        rw [hy] at h4
        subst h
        refine ⟨w, h6, by rw [hx]; simp only at h4; rw [h4], ?_⟩
        rw [h7]
theorem bracket_no {st : Rs} (h : (bracketR st).1 = false) : (bracketR st).2 = { st with rest := (bracketR st).2.rest } := by
  unfold bracketR at h ⊢
  split
  · rename_i h1; rw [takeR_no _ _ h1]
  · rename_i h1
    rw [if_neg h1] at h
    obtain ⟨x, hx, e⟩ := one_some fix91 (by simpa using h1)
    rw [e] at h ⊢
    simp only at h ⊢
    have hk := (keep_words { st with rest := x }).eq (words_long _)
    split
    · rw [hk]
    · rename_i h2
      rw [if_neg h2] at h
      split
      · rename_i h3; rw [takeR_no _ _ h3, hk]
      · rename_i h3; rw [if_neg h3] at h; cases h
theorem dom_some {st st' : Rs} (h : eitherR [bracketR, namedR] st = (true, st')) (hx : Stop st'.rest domStop) (hl : st.lit = false) : ∃ t d lit lg, DomT t d lit lg ∧ st.rest = t ++ st'.rest ∧ st' = { st with rest := st'.rest, dom := d, lit := lit, long := st.long || lg } := by
  rcases either2 h with h | ⟨h, hq⟩
  · obtain ⟨w, h1, h2, h3⟩ := bracket_some h
    exact ⟨91 :: (w ++ [93]), low w, true, false, .inr ⟨rfl, rfl, w, h1, rfl, rfl⟩, by rw [h2]; simp, by rw [Bool.or_false]; exact h3⟩
  · have e : ({ (bracketR st).2 with rest := st.rest } : Rs) = st := by rw [bracket_no hq]
    rw [e] at h
    unfold namedR at h
    injection h with h1 h2
    have hr : (domainR st).2.rest = st'.rest := by rw [← h2]
    obtain ⟨l, h3, h4, h5, h6⟩ := domain_some st (by rw [hr]; exact hx) h1
    rw [hr] at h3 h6
    refine ⟨l, low l, false, dL l, .inl ⟨rfl, h5, rfl, rfl⟩, h3, ?_⟩
    rw [← h4, h6] at h2
    rw [← h2, ← hl]
theorem and_some {g h : Rd} {st st' : Rs} (e : andR g h st = (true, st')) : (g st).1 = true ∧ h (g st).2 = (true, st') := by
  unfold andR at e
  split at e
  · rename_i h1; exact ⟨h1, e⟩
  · cases e
theorem box_some {st st' : Rs} (h : mailboxR st = (true, st')) (hx : Stop st'.rest domStop) (hl : st.lit = false) : ∃ t loc d lit lg, BoxT t loc d lit lg ∧ st.rest = t ++ st'.rest ∧ st' = { st with rest := st'.rest, loc := loc, dom := d, lit := lit, long := st.long || lg } := by
  unfold mailboxR at h
  obtain ⟨h1, h2⟩ := and_some h
  obtain ⟨h3, h4⟩ := and_some h2
  obtain ⟨x, h5, h6⟩ := one_some fix64 h3
  obtain ⟨t, m, k1, k2, k3⟩ := loc_some (st' := (eitherR [quotedR, plainR] st).2) (Prod.ext h1 rfl) h5
  rw [h6, k3] at h4
  obtain ⟨u, d, lit, lg, m1, m2, m3⟩ := dom_some h4 hx hl
  simp only at m2
  refine ⟨t ++ 64 :: u, m, d, lit, _, ⟨t, u, lg, k1, m1, rfl, rfl⟩, by rw [k2, m2]; simp, ?_⟩
  rw [← Bool.or_assoc]
  exact m3

/-- domains of a route behind the first one -/
def hopsT (L : List (List UInt8)) : List UInt8 := L.flatMap fun d => 44 :: 64 :: d
theorem hop_all {d x : List UInt8} (hx : Stop x domStop) (h : dB d = true) (st : Rs) (hr : st.rest = 64 :: (d ++ x)) : hopR st = (true, { st with rest := x, route := st.route ++ [low d], long := st.long || dL d }) := by
  unfold hopR
  rw [one_yes rfl st _ hr, domain_all hx h _ rfl]
  simp only [Bool.true_eq_false, if_false]
  rw [used_app (l := d) (x := x) rfl rfl]
/-- what may stand behind a route's domains -/
def hopStop (c : UInt8) : Bool := domStop c && c != 44
theorem hopStop_dom {x : List UInt8} (h : Stop x hopStop) : Stop x domStop := h.mono (fun c hc => by unfold hopStop at hc; revert hc; cases domStop c <;> simp)
theorem hops_stop (L : List (List UInt8)) {x : List UInt8} (hx : Stop x domStop) : Stop (hopsT L ++ x) domStop := by
  cases L with
  | nil => exact hx
  | cons d L =>
    intro c hc
    obtain rfl : 44 = c := by simpa [hopsT] using hc
    decide
theorem stop_ne {x : List UInt8} (hx : Stop x hopStop) : x.head? ≠ some 44 := by
  intro e
  have := hx 44 e
  revert this
  decide
theorem hops_all {x : List UInt8} (hx : Stop x hopStop) : ∀ (L : List (List UInt8)) (f many : Nat) (st : Rs), many ≠ 0 → (∀ d ∈ L, dB d = true) → L.length + 1 ≤ f → st.rest = hopsT L ++ x →
    eachF hopR [44] f many st = (many + L.length, { st with rest := x, route := st.route ++ L.map low, long := st.long || L.any dL })
  | [], 0, _, _, _, _, h, _ => by simp at h
  | [], f + 1, many, st, hm, _, _, hr => by
    have hs : sepR [44] many st = (false, st) := by
      unfold sepR
      rw [if_neg hm]
      exact one_no fix44 st (by rw [hr]; exact stop_ne hx)
    rw [eachF, hs]
    have hr' : st.rest = x := hr
    simp [hr']
  | d :: L, 0, _, _, _, _, h, _ => by simp at h
  | d :: L, f + 1, many, st, hm, hd, hf, hr => by
    have hs : sepR [44] many st = (true, { st with rest := 64 :: (d ++ (hopsT L ++ x)) }) := by
      unfold sepR
      rw [if_neg hm]
      exact one_yes rfl st _ (by rw [hr]; simp [hopsT])
    rw [eachF, hs]
    simp only [Bool.true_eq_false, if_false]
    rw [hop_all (hops_stop L (hopStop_dom hx)) (hd d (by simp)) _ rfl]
    simp only [Bool.true_eq_false, if_false]
    rw [hops_all hx L f (many + 1) _ (by omega) (fun e he => hd e (by simp [he])) (by simp at hf ⊢; omega) rfl]
    simp only [List.length_cons, List.map_cons, List.any_cons, List.append_assoc, List.singleton_append, Bool.or_assoc]
    rw [show many + 1 + L.length = many + (L.length + 1) from by omega]
theorem hop_some {st : Rs} (h : (hopR st).1 = true) (hx : Stop (hopR st).2.rest domStop) : ∃ d, dB d = true ∧ st.rest = 64 :: (d ++ (hopR st).2.rest) ∧ (hopR st).2 = { st with rest := (hopR st).2.rest, route := st.route ++ [low d], long := st.long || dL d } := by
  unfold hopR at h hx ⊢
  split at h
  · cases h
  · rename_i h1
    split at h
    · cases h
    · rename_i h2
      rw [if_neg h1, if_neg h2] at hx ⊢
      obtain ⟨x, e1, e2⟩ := one_some fix64 (by simpa using h1)
      rw [e2] at h2 hx ⊢
      obtain ⟨d, k1, k2, k3, k4⟩ := domain_some _ hx (by simpa using h2)
      refine ⟨d, k3, by rw [e1]; exact congrArg _ k1, ?_⟩
      rw [← k2]
      rw [k4]
theorem hops_some : ∀ (f many : Nat) (st : Rs), many ≠ 0 → st.rest.length + 1 ≤ f → Stop (eachF hopR [44] f many st).2.rest hopStop →
    ∃ L, (∀ d ∈ L, dB d = true) ∧ st.rest = hopsT L ++ (eachF hopR [44] f many st).2.rest ∧ (eachF hopR [44] f many st).1 = many + L.length ∧ (eachF hopR [44] f many st).2 = { st with rest := (eachF hopR [44] f many st).2.rest, route := st.route ++ L.map low, long := st.long || L.any dL }
  | 0, _, _, _, h, _ => by omega
  | f + 1, many, st, hm, hf, hx => by
    rw [eachF] at hx ⊢
    split
    · rename_i h1
      have hs : sepR [44] many st = takeR [44] st := by unfold sepR; rw [if_neg hm]
      rw [hs] at h1 ⊢
      refine ⟨[], by simp, by simp [hopsT], by simp, ?_⟩
      rw [takeR_no _ _ h1]
      simp
    · rename_i h1
      rw [if_neg h1] at hx
      have hs : sepR [44] many st = takeR [44] st := by unfold sepR; rw [if_neg hm]
      rw [hs] at h1 hx ⊢
      obtain ⟨y, e1, e2⟩ := one_some fix44 (by simpa using h1)
      rw [e2] at hx ⊢
      split
      · rename_i h2
        simp only [h2, if_true] at hx
        exfalso
        exact stop_ne hx (by rw [e1]; rfl)
      · rename_i h2
        rw [if_neg h2] at hx
        have hlen : (hopR { st with rest := y }).2.rest.length ≤ y.length := (suf_hop _).length_le
        have hy : st.rest.length = y.length + 1 := by rw [e1]; rfl
        obtain ⟨L, k1, k2, k3, k4⟩ := hops_some f (many + 1) (hopR { st with rest := y }).2 (by omega) (by omega) hx
        obtain ⟨d, m1, m2, m3⟩ := hop_some (by simpa using h2) (by rw [k2]; exact hops_stop L (hopStop_dom hx))
        refine ⟨d :: L, ?_, ?_, ?_, ?_⟩
        · intro e he
          rcases List.mem_cons.1 he with rfl | he
          · exact m1
          · exact k1 e he
        · refine (e1.trans (congrArg (List.cons 44) (m2.trans (congrArg (fun z => 64 :: (d ++ z)) k2)))).trans ?_
          simp [hopsT]
        · rw [k3]; simp; omega
        · rw [k4, m3]
          simp [Bool.or_assoc]
end Go.Proofs.YtnkepdeegpampaaGreatDoor

/-
  A reader's method hop. Conditions: the reader lies in memory; its text is of at most 2^40 bytes; there are fewer domains than bytes.
-/
namespace Go.Proofs.YtnkepdeegpampaaGreatDoor
open Go.RowKit Go.Shelf

theorem info_of {P : Program} {e : TypeId} {z : Option Value} {a b : Nat} (h : (P.info? e).map (fun i => (i.zero, i.size, i.bytes)) = some (z, a, b)) : ∃ i, P.info? e = some i ∧ i.zero = z ∧ i.size = a ∧ i.bytes = b := by
  cases h0 : P.info? e with
  | none => rw [h0] at h; cases h
  | some i =>
    rw [h0] at h
    simp only [Option.map_some, Option.some.injEq, Prod.mk.injEq] at h
    exact ⟨i, rfl, h.1, h.2.1, h.2.2⟩
theorem info_text : (Tryz.prog.info? 9).map (fun i => (i.zero, i.size, i.bytes)) = some (some (.string ⟨#[]⟩), 1, 16) := by kernel_rfl
theorem info_byte : (Tryz.prog.info? 5).map (fun i => (i.zero, i.size, i.bytes)) = some (some (.int .u8 0), 1, 1) := by kernel_rfl
/-- one text more, as a step of a region that draws -/
theorem step_text {ops : Array Oper} {o : Oper} {act : Act} {K : Act → World → Prop} {Q : Exit → Act → World → Prop} {W : World} {E : Prop} (hgd : o.guard = none) (s x : Operand)
    (ho : o.op = .call { callee := .builtin .append, args := #[s, x], argTypes := #[22, 22] })
    (B : Nat) (v : Value) (l : List Value) (n : Nat) (t : List UInt8) (hs : act.eval s = v) (hown : W.ownsRow B 9 1 v n l) (hB : B ≤ W.heap.size) (g : Nat) (hx : act.eval x = .slice (some ⟨g, 0, none⟩) 1 1) (hb : Blk W g 9 #[textV t]) (hl : n ≤ 1099511627776)
    (h : ∀ v' W', W'.ownsRow B 9 1 v' (n + 1) (l ++ [textV t]) → W.grownBy W' v.ownBlock → K (act.put o.dst v') W') :
    if Region.wanted o (yielded ops act.tmps) = true then Oper.wp Tryz.prog o act W K Q else E := by
  obtain ⟨i0, hi, hz0, hz1, hz2⟩ := info_of info_text
  have hw : Region.wanted o (yielded ops act.tmps) = true := by simp [Region.wanted, hgd]
  rw [if_pos hw]
  refine wp_append_own W s x 22 ho B 9 i0 (.string ⟨#[]⟩) 1 16 Tryz.underlying22 hi hz0 hz1 hz2 rfl (by decide) v n _ hs hown ⟨g, 0, none⟩ 1 1 [textV t] hx rfl ?_ ?_ (by unfold maxLen; omega) (by omega) hB (fun v' W' h2 h3 _ => h v' W' h2 h3)
  · intro j u hj
    rw [Addr.add_lit, Nat.zero_add, hb.cell j]
    simpa using hj
  · simp [textV, Value.oneCell']
/-- one byte more, as a step of a region that draws -/
theorem step_byte {ops : Array Oper} {o : Oper} {act : Act} {K : Act → World → Prop} {Q : Exit → Act → World → Prop} {W : World} {E : Prop} (hgd : o.guard = none) (s x : Operand)
    (ho : o.op = .call { callee := .builtin .append, args := #[s, x], argTypes := #[41, 41] })
    (B : Nat) (v : Value) (l : List Value) (n : Nat) (t : UInt8) (hs : act.eval s = v) (hown : W.ownsRow B 5 1 v n l) (hB : B ≤ W.heap.size) (g : Nat) (hx : act.eval x = .slice (some ⟨g, 0, none⟩) 1 1) (hb : Blk W g 5 #[byteV t]) (hl : n ≤ 1099511627776)
    (h : ∀ v' W', W'.ownsRow B 5 1 v' (n + 1) (l ++ [byteV t]) → W.grownBy W' v.ownBlock → K (act.put o.dst v') W') :
    if Region.wanted o (yielded ops act.tmps) = true then Oper.wp Tryz.prog o act W K Q else E := by
  obtain ⟨i0, hi, hz0, hz1, hz2⟩ := info_of info_byte
  have hw : Region.wanted o (yielded ops act.tmps) = true := by simp [Region.wanted, hgd]
  rw [if_pos hw]
  refine wp_append_own W s x 41 ho B 5 i0 (.int .u8 0) 1 1 Tryz.underlying41 hi hz0 hz1 hz2 rfl (by decide) v n _ hs hown ⟨g, 0, none⟩ 1 1 [byteV t] hx rfl ?_ ?_ (by unfold maxLen; omega) (by omega) hB (fun v' W' h2 h3 _ => h v' W' h2 h3)
  · intro j u hj
    rw [Addr.add_lit, Nat.zero_add, hb.cell j]
    simpa using hj
  · simp [byteV, Value.oneCell']
theorem own_ge {W : World} {B z n : Nat} {e : TypeId} {v : Value} {xs : List Value} (h : W.ownsRow B e z v n xs) {g : Nat} (hg : v.ownBlock = some g) : B ≤ g := by
  rcases h.2 with ⟨e1, _⟩ | ⟨g', cap, cur, e1, hB, _⟩
  · subst e1; cases hg
  · subst e1
    simp only [Value.ownBlock, Option.some.injEq] at hg
    omega
/-- the route's row has grown -/
theorem RdIn.grow {W W' : World} {r : Nat} {s : List UInt8} {p : Nat} {v v' : Value} {st : Rs} {t : List UInt8} (h : RdIn W r s p v st) (ho : W'.ownsRow (r + 1) 9 1 v' (st.route.length + 1) (st.route.map textV ++ [textV t])) (hg : W.grownBy W' v.ownBlock) :
    Blk W' r 103 (rdCells s p st v) ∧ RdIn (W'.setCell ⟨r, 3, none⟩ v') r s p v' { st with route := st.route ++ [t] } ∧ Kp r W (W'.setCell ⟨r, 3, none⟩ v') := by
  have hne : some r ≠ v.ownBlock := blk_apart h.own h.cells (by decide)
  have hb : Blk W' r 103 (rdCells s p st v) := h.cells.kept hg hne
  have hlow : Below r W W' := ⟨hg.os, hg.tape, hg.output, hg.size, fun k hk => hg.block k (Nat.lt_trans hk h.lt) (fun e => by have := own_ge h.own e.symm; omega)⟩
  have hkp : Kp r W W' := ⟨hlow, fun k t' cs hk _ h2 => hk.kept hg (blk_apart h.own hk h2)⟩
  refine ⟨hb, ⟨?_, ?_, h.place, h.rest, h.len, ?_, h.low⟩, hkp.set_ hb 3 v'⟩
  · exact hb.set_ 3 v'
  · have := own_set ho hb (by decide) 3 v'
    simpa using this
  · have hb3 : Below r W (W'.setCell ⟨r, 3, none⟩ v') := hlow.setCell (p := ⟨r, 3, none⟩) (Nat.le_refl _) v'
    exact h.err.below hb3 h.low
def hopI (s : List UInt8) (st : Rs) : Prop := st.route.length + st.rest.length ≤ s.length
theorem labels_same (st : Rs) : Kept st (labelsR st).2 := keep_each (fun _ => ⟨rfl, rfl, rfl, rfl, rfl⟩) [46] st
theorem domain_same (st : Rs) : Kept st (domainR st).2 := by
  obtain ⟨h1, h2, h3, h4, h5⟩ := labels_same st
  exact ⟨h1, h2, h3, h4, h5⟩
theorem hopI2 (s : List UInt8) (st : Rs) (h : hopI s st) (hh : (hopR st).1 = true) : hopI s (hopR st).2 := by
  unfold hopR at hh ⊢
  split at hh
  · cases hh
  · rename_i h1
    split at hh
    · cases hh
    · rename_i h2
      rw [if_neg h1, if_neg h2]
      obtain ⟨x, e1, e2⟩ := one_some fix64 (by simpa using h1)
      have h3 := (suf_domain (takeR [64] st).2).length_le
      have h4 := (domain_same (takeR [64] st).2).route
      rw [e2] at h3 h4
      have e1l : st.rest.length = x.length + 1 := by rw [e1]; rfl
      unfold hopI at h ⊢
      simp only [e2, List.length_append, List.length_singleton]
      rw [h4]
      simp only at h3 ⊢
      omega
set_option maxRecDepth 100000 in
set_option maxHeartbeats 2000000 in
theorem hop_any (m : Nat) (hm : m ≤ 1099511627776) : Reads hopI m 120 hopR := by
  intro s r w st hs hI h
  have HT1 := Lib.hid (take_any h [64] (by decide))
  have HP := Lib.hid (fun (W : World) (hW : RdAt W r s (takeR [64] st).2) => piece_any (domain_any m (by omega)) ent_m_domain suf_domain hW hs trivial)
  have HIS := Lib.hid (fun W => inSmall_any (used (takeR [64] st).2 (domainR (takeR [64] st).2).2) (by have := used_len_le (takeR [64] st).2 (domainR (takeR [64] st).2).2; have := h.bound; have := (suf_take [64] st).length_le; omega) W)
  have HRL : Hid ((domainR (takeR [64] st).2).2.route.length ≤ 1099511627776) := by
    have h1 := (domain_same (takeR [64] st).2).route
    have h2 := (keep_take [64] st).route
    show _ ≤ _
    rw [h1, h2]
    unfold hopI at hI
    omega
  have HNO1 : Hid (∀ w1, (takeR [64] st).1 = false → RdAt w1 r s (takeR [64] st).2 → Kp r w w1 → ReadOut w r s hopR st (.returned (.bool false)) w1) := fun w1 hg h1 h2 => by
    unfold ReadOut hopR
    rw [if_pos hg]
    exact ⟨rfl, h1, h2⟩
  have HNO2 : Hid (∀ w1, (takeR [64] st).1 = true → (domainR (takeR [64] st).2).1 = false → RdAt w1 r s (domainR (takeR [64] st).2).2 → Kp r w w1 → ReadOut w r s hopR st (.returned (.bool false)) w1) := fun w1 hg hg2 h1 h2 => by
    unfold ReadOut hopR
    rw [if_neg (by simp [hg]), if_pos hg2]
    exact ⟨rfl, h1, h2⟩
  have HYES : Hid (∀ w1 p v, (takeR [64] st).1 = true → (domainR (takeR [64] st).2).1 = true → RdIn w1 r s p v { (domainR (takeR [64] st).2).2 with route := (domainR (takeR [64] st).2).2.route ++ [low (used (takeR [64] st).2 (domainR (takeR [64] st).2).2)] } → Kp r w w1 → ReadOut w r s hopR st (.returned (.bool true)) w1) := fun w1 p v hg hg2 h1 h2 => by
    unfold ReadOut hopR
    rw [if_neg (by simp [hg]), if_neg (by simp [hg2])]
    exact ⟨rfl, ⟨p, v, h1⟩, h2⟩
  generalize ReadOut w r s hopR st = Q at *
  have hmf : ∀ (fn : Fn) (first cap : Array Value) (w : World), (Instr.makeFunc fn first cap).run Tryz.prog w = .ok (.func fn first cap) w := fun _ _ _ _ => rfl
  clear h hI
  cases hg1 : (takeR [64] st).1 with
  | false =>
    have HG1 := Lib.hid hg1
    have HO := Lib.hid (fun w1 => HNO1.out w1 hg1)
    clear hg1 HNO1 HNO2 HYES HP HIS HRL
    go_enter Tryz.func120, Tryz.ntmps120
    go_wp2_with (go_at_call 107; refine HT1.out.mono ?_; rintro e w1 ⟨rfl, h1, hkp⟩; rw [HG1.out]; have H1 := Lib.hid h1; have HKP1 := Lib.hid hkp; clear h1 hkp HT1)
    exact HO.out w1 H1.out HKP1.out
  | true =>
    have HG1 := Lib.hid hg1
    cases hg2 : (domainR (takeR [64] st).2).1 with
    | false =>
      have HG2 := Lib.hid hg2
      have HO := Lib.hid (fun w1 => HNO2.out w1 hg1 hg2)
      clear hg1 hg2 HNO1 HNO2 HYES HIS HRL
      go_enter Tryz.func120, Tryz.ntmps120
      go_wp2_with (first | (go_at_call 107; refine HT1.out.mono ?_; rintro e w1 ⟨rfl, h1, hkp⟩; rw [HG1.out]; have H1 := Lib.hid h1; have HKP1 := Lib.hid hkp; clear h1 hkp HT1) | (go_at_call 85; refine (HP.out w1 H1.out).mono ?_; rintro e w2 ⟨rfl, h1, hkp⟩; rw [HG2.out]; have H2 := Lib.hid h1; have HKP2 := Lib.hid hkp; clear h1 hkp))
      exact HO.out w2 H2.out (HKP1.out.trans HKP2.out)
    | true =>
      have HG2 := Lib.hid hg2
      have HO := Lib.hid (fun w1 p v => HYES.out w1 p v hg1 hg2)
      clear hg1 hg2 HNO1 HNO2 HYES
      go_enter Tryz.func120, Tryz.ntmps120
      go_upto_region 5 with (first | (go_at_call 107; refine HT1.out.mono ?_; rintro e w1 ⟨rfl, h1, hkp⟩; rw [HG1.out]; have H1 := Lib.hid h1; have HKP1 := Lib.hid hkp; clear h1 hkp HT1) | (go_at_call 85; refine (HP.out w1 H1.out).mono ?_; rintro e w2 ⟨rfl, h1, hkp⟩; rw [HG2.out]; have H2 := Lib.hid h1; have HKP2 := Lib.hid hkp; clear h1 hkp))
      generalize used (takeR [64] st).2 (domainR (takeR [64] st).2).2 = X at *
      generalize (domainR (takeR [64] st).2).2 = st2 at *
      have HK0 := Lib.hid (HKP1.out.trans HKP2.out)
      obtain ⟨p, v, hr⟩ := H2.out
      have HR3 := Lib.hid (hr.drewN 1)
      have c3 := HR3.out.cells.cell 3
      simp only [rdCells] at c3
      simp at c3
      clear hr H2 HKP1 HKP2 HP H1
      go_region_law (first | (go_simp; go_at_call 75; refine (HIS.out _).mono ?_; rintro e w4 ⟨rfl, hb⟩; have HB4 := Lib.hid hb; have HR4 := Lib.hid (HR3.out.later hb); have hc4 := HR4.out.cells.cell 3; simp only [rdCells] at hc4; simp at hc4; have HR5 := Lib.hid (HR4.out.later ((Below.refl _ w4).alloc (Nat.le_refl _) (.cells #[.string (bs (low X))] 9))); have hc5 := HR5.out.cells.cell 3; simp only [rdCells] at hc5; simp at hc5; clear hb) | (refine step_text rfl _ _ rfl (r + 1) v _ _ (low X) rfl HR5.out.own (by rw [World.size_alloc]; have := HR4.out.lt; omega) w4.heap.size rfl (Blk.new _ _ _) HRL.out ?_; intro v6 W6 hown hgr; obtain ⟨g6, k6, rfl⟩ := own_there hown (Nat.succ_pos _); obtain ⟨hb6, hr7, hk7⟩ := HR5.out.grow hown hgr; have hc6 := hb6.cell 3; have hf6 := hb6.frozen 3; simp only [rdCells] at hc6; simp at hc6; have HR7 := Lib.hid hr7; have HK7 := Lib.hid hk7; clear hb6 hr7 hk7 hown hgr))
      all_goals go_wp2
      all_goals exact HO.out _ p _ HR7.out ((((HK0.out.drewN 1).of_low HB4.out (Nat.le_of_lt HR3.out.lt)).of_low ((Below.refl _ w4).alloc (Nat.le_refl _) _) (Nat.le_of_lt HR4.out.lt)).trans HK7.out)
end Go.Proofs.YtnkepdeegpampaaGreatDoor

/-
  A reader's method quoted. Conditions: the reader lies in memory; its text is of at most 2^40 bytes.
-/
namespace Go.Proofs.YtnkepdeegpampaaGreatDoor
open Go.RowKit Go.Shelf

/-- behind a backslash, if there was one -/
def quoE (acc l : List UInt8) : Bool × List UInt8 × List UInt8 :=
  match l with
  | [] => (false, acc, [])
  | c :: r => if notB c then (false, acc, c :: r) else quoS (acc ++ [c]) r
theorem quoE_nil (acc : List UInt8) : quoE acc [] = (false, acc, []) := rfl
theorem quoE_bad (acc r : List UInt8) (c : UInt8) (h : notB c = true) : quoE acc (c :: r) = (false, acc, c :: r) := by simp [quoE, h]
theorem quoE_on (acc r : List UInt8) (c : UInt8) (h : notB c = false) : quoE acc (c :: r) = quoS (acc ++ [c]) r := by simp [quoE, h]
theorem fix92 : ∀ e, sml e = 92 → e = 92 := all_u8 (by decide +kernel)
theorem quo_step (acc : List UInt8) (st : Rs) (h : (takeR [34] st).1 = false) : quoS acc st.rest = quoE acc (takeR [92] st).2.rest := by
  have h34 : st.rest.head? ≠ some 34 := by
    intro e
    cases hr : st.rest with
    | nil => rw [hr] at e; cases e
    | cons c r =>
      rw [hr] at e
      obtain rfl : c = 34 := by simpa using e
      rw [one_yes rfl st r hr] at h
      cases h
  cases ht : (takeR [92] st).1 with
  | true =>
    obtain ⟨x, e1, e2⟩ := one_some fix92 ht
    rw [e1, e2]
    cases x with
    | nil => simp [quoS, quoE]
    | cons c r => rw [quoS_esc]; rfl
  | false =>
    rw [takeR_no _ _ ht]
    have h92 : st.rest.head? ≠ some 92 := by
      intro e
      cases hr : st.rest with
      | nil => rw [hr] at e; cases e
      | cons c r =>
        rw [hr] at e
        obtain rfl : c = 92 := by simpa using e
        rw [one_yes rfl st r hr] at ht
        cases ht
    cases hr : st.rest with
    | nil => simp [quoS, quoE]
    | cons c r =>
      rw [hr] at h34 h92
      rw [quoS_on acc c r (by simpa using h34) (by simpa using h92)]
      rfl
theorem own_kp {r : Nat} {W W' : World} {B n : Nat} {v : Value} {xs : List Value} (h : W.ownsRow B 5 1 v n xs) (hk : Kp r W W') : W'.ownsRow B 5 1 v n xs :=
  ⟨h.1, h.2.elim Or.inl (fun ⟨g, cap, cur, hv, hg, hb, q⟩ => Or.inr ⟨g, cap, cur, hv, hg, hk.keep g _ _ hb (by decide) (by decide), q⟩)⟩
theorem Kp.grown {r : Nat} {w W W' : World} {B n : Nat} {v : Value} {xs : List Value} (h : Kp r w W) (ho : W.ownsRow B 5 1 v n xs) (hg : W.grownBy W' v.ownBlock) (hB : w.heap.size ≤ B) (hr : r ≤ w.heap.size) : Kp r w W' := by
  refine ⟨h.low.trans ⟨hg.os, hg.tape, hg.output, hg.size, fun k hk => hg.block k (Nat.lt_of_lt_of_le hk (Nat.le_trans hr (by have := h.low.size; exact this))) (fun e => by have := own_ge ho e.symm; omega)⟩, fun k t cs hk h1 h2 => ?_⟩
  exact (h.keep k t cs hk h1 h2).kept hg (fun e => by have := own_ge ho e.symm; have := hk.lt; omega)
theorem RdIn.beside {W W' : World} {r : Nat} {s : List UInt8} {p B n : Nat} {v u : Value} {st : Rs} {xs : List Value} (h : RdIn W r s p v st) (ho : W.ownsRow B 5 1 u n xs) (hg : W.grownBy W' u.ownBlock) (hB : r ≤ B) : RdIn W' r s p v st := by
  refine ⟨h.cells.kept hg (blk_apart ho h.cells (by decide)), h.own.kept hg ?_, h.place, h.rest, h.len, ?_, h.low⟩
  · exact own_apart h.own ho (by decide)
  · have hb : Below r W W' := ⟨hg.os, hg.tape, hg.output, hg.size, fun k hk => hg.block k (Nat.lt_trans hk h.lt) (fun e => by have := own_ge ho e.symm; omega)⟩
    exact h.err.below hb h.low
theorem RdAt.rest_eq {w : World} {r : Nat} {s : List UInt8} {a b : Rs} (h : RdAt w r s a) (e : a = b) : RdAt w r s b := e ▸ h
set_option maxRecDepth 100000 in
set_option maxHeartbeats 4000000 in
theorem quoted_any (m : Nat) (hm : m ≤ 1099511627776) : Reads anyI m 121 quotedR := by
  intro s r w st hs _ h
  have HT0 := Lib.hid (take_any h [34] (by decide))
  have HTQ := Lib.hid (fun (W : World) (t : Rs) (ht : RdAt W r s t) => take_any ht [34] (by decide))
  have HTB := Lib.hid (fun (W : World) (t : Rs) (ht : RdAt W r s t) => take_any ht [92] (by decide))
  have hrw := h.lt
  have HNO1 : Hid (∀ w1, (takeR [34] st).1 = false → RdAt w1 r s (takeR [34] st).2 → Kp r w w1 → ReadOut w r s quotedR st (.returned (.bool false)) w1) := fun w1 hg h1 h2 => by
    unfold ReadOut quotedR
    rw [if_pos hg]
    exact ⟨rfl, h1, h2⟩
  obtain ⟨sq, hsq⟩ : ∃ sq, sq = (takeR [34] st).2 := ⟨_, rfl⟩
  have HNO2 : Hid (∀ w1 a b, (takeR [34] st).1 = true → quoS [] sq.rest = (false, a, b) → RdAt w1 r s { sq with rest := b } → Kp r w w1 → ReadOut w r s quotedR st (.returned (.bool false)) w1) := fun w1 a b hg he h1 h2 => by
    unfold ReadOut quotedR
    rw [if_neg (by simp [hg]), ← hsq, he]
    simp only [if_true]
    exact ⟨trivial, h1, h2⟩
  have HYES : Hid (∀ w1 a b, (takeR [34] st).1 = true → quoS [] sq.rest = (true, a, b) → RdAt w1 r s (meanR a { sq with rest := b }) → Kp r w w1 → ReadOut w r s quotedR st (.returned (.bool true)) w1) := fun w1 a b hg he h1 h2 => by
    unfold ReadOut quotedR
    rw [if_neg (by simp [hg]), ← hsq, he]
    simp only [Bool.true_eq_false, if_false]
    exact ⟨trivial, h1, h2⟩
  generalize ReadOut w r s quotedR st = Q at *
  have hsz : (bs s).size = s.length := rfl
  cases hg1 : (takeR [34] st).1 with
  | false =>
    have HG1 := Lib.hid hg1
    have HO := Lib.hid (fun w1 => HNO1.out w1 hg1)
    clear hg1 HNO1 HNO2 HYES HTQ HTB h hsq
    go_enter Tryz.func121, Tryz.ntmps121
    go_wp2_with (go_at_call 107; refine HT0.out.mono ?_; rintro e w1 ⟨rfl, h1, hkp⟩; rw [HG1.out]; have H1 := Lib.hid h1; have HKP1 := Lib.hid hkp; clear h1 hkp HT0)
    exact HO.out w1 H1.out HKP1.out
  | true =>
    have HG1 := Lib.hid hg1
    have HON := Lib.hid (fun w1 a b => HNO2.out w1 a b hg1)
    have HOY := Lib.hid (fun w1 a b => HYES.out w1 a b hg1)
    clear hg1 HNO1 HNO2 HYES h
    have HSQ := Lib.hid hsq
    clear hsq
    go_enter Tryz.func121, Tryz.ntmps121
    go_wp2_with (go_at_call 107; refine HT0.out.mono ?_; rintro e w1 ⟨rfl, h1, hkp⟩; rw [HG1.out]; rw [← HSQ.out] at h1; have H1 := Lib.hid h1; have HKP1 := Lib.hid hkp; clear h1 hkp HT0)
    have HB := Lib.hid (show w.heap.size ≤ w1.heap.size from by have := HKP1.out.low.size; exact this)
    have HFS := Lib.hid H1.out.bound
    obtain ⟨B, hB⟩ : ∃ B, B = w1.heap.size := ⟨_, rfl⟩
    rw [← hB] at HB
    have HBW := Lib.hid hB
    have HLEN : Hid (s.length ≤ 1099511627776) := Nat.le_trans hs hm
    have HE0 : Hid (quoS [] sq.rest = quoS [] sq.rest) := rfl
    have HRW := Lib.hid hrw
    clear hB hm hs hrw
    go_loopw [3] (fun u wr => ∃ (acc : List UInt8) (l : List UInt8), Hid (wr.ownsRow B 5 1 u acc.length (acc.map byteV)) ∧ Hid (RdAt wr r s { sq with rest := l }) ∧ Hid (Kp r w wr) ∧ Hid (acc.length + l.length ≤ s.length) ∧ Hid (B ≤ wr.heap.size) ∧ Hid (quoS acc l = quoS [] sq.rest)) (fun _ wr => s.length - placeW wr r)
    case atStart => exact ⟨[], sq.rest, World.ownsRow_nil _ _ _ _, H1.out, HKP1.out, (by show _ ≤ _; have := HFS.out; simpa using this), (by show _ ≤ _; rw [HBW.out]; exact Nat.le_refl _), HE0.out⟩
    case round =>
      obtain ⟨acc, l, HO, HR, HK, HAL, HLW, HE⟩ := hrel
      have HTK := Lib.hid (HTQ.out wr { sq with rest := l } HR.out)
      cases hg3 : (takeR [34] { sq with rest := l }).1 with
      | true =>
        have HG3 := Lib.hid hg3
        obtain ⟨x, e1, e2⟩ := one_some fix34 hg3
        simp only at e1 e2
        have HE2 := Lib.hid HE.out
        rw [e1, quoS_end] at HE2
        have HX : Hid ((takeR [34] { sq with rest := l }).2 = { sq with rest := x }) := by show _ = _; rw [e2]
        have HAM : Hid (acc.length ≤ maxLen) := by show _ ≤ _; have := HAL.out; have := HLEN.out; unfold maxLen; omega
        clear hg3 e1 e2
        go_upto_region 10 with (go_at_call 107; refine HTK.out.mono ?_; rintro e w3 ⟨rfl, h1, hkp⟩; rw [HG3.out]; have H3 := Lib.hid h1; have HK3 := Lib.hid (HK.out.trans hkp); have HO3 := Lib.hid (own_kp HO.out hkp); have HL3 := Lib.hid (Nat.le_trans HLW.out hkp.low.size); clear h1 hkp HTK)
        obtain ⟨A, c, rfl, hrow⟩ := own_slice HO3.out (by rw [List.length_map]; exact HAM.out)
        have hcv := conv_any w3 A acc c hrow
        have HME := Lib.hid (mean_any (H3.out.rest_eq HX.out) acc)
        clear hrow
        go_wp2_with (go_at_call 131; refine HME.out.mono ?_; rintro e w5 ⟨rfl, h5, hk5⟩; have H5 := Lib.hid h5; have HK5 := Lib.hid (HK3.out.trans hk5); clear h5 hk5)
        exact HOY.out w5 acc x HE2.out.symm H5.out HK5.out
      | false =>
        have HG3 := Lib.hid hg3
        have HX : Hid ((takeR [34] { sq with rest := l }).2 = { sq with rest := l }) := takeR_no _ _ hg3
        have HE2 := Lib.hid HE.out
        rw [quo_step acc { sq with rest := l } hg3] at HE2
        have HX2 : Hid ((takeR [92] { sq with rest := l }).2 = { sq with rest := (takeR [92] { sq with rest := l }).2.rest }) := (by
          cases ht : (takeR [92] { sq with rest := l }).1 with
          | true => obtain ⟨_, _, _, e4⟩ := take_some ht; exact e4
          | false => show _ = _; rw [takeR_no _ _ ht])
        have HSL : Hid ((takeR [92] { sq with rest := l }).2.rest.length ≤ l.length) := (suf_take [92] { sq with rest := l }).length_le
        have HTL : Hid (∀ (W : World), RdAt W r s (takeR [34] { sq with rest := l }).2 → Calls Tryz.prog 107 #[.pointer (some ⟨r, 0, none⟩), .string (bs [92])] W (ReadOut W r s (takeR [92]) { sq with rest := l })) := fun W h => HTB.out W _ (h.rest_eq HX.out)
        clear hg3
        go_upto_region 6 with (first | (go_at_call 107; refine HTK.out.mono ?_; rintro e w3 ⟨rfl, h1, hkp⟩; rw [HG3.out]; have H3 := Lib.hid h1; have HK3 := Lib.hid (HK.out.trans hkp); have HO3 := Lib.hid (own_kp HO.out hkp); have HL3 := Lib.hid (Nat.le_trans HLW.out hkp.low.size); clear h1 hkp HTK) | (go_at_call 107; refine (HTL.out w3 H3.out).mono ?_; rintro e w4 ⟨rfl, h1, hkp⟩; have H4 := Lib.hid h1; have HK4 := Lib.hid (HK3.out.trans hkp); have HO4 := Lib.hid (own_kp HO3.out hkp); have HL4 := Lib.hid (Nat.le_trans HL3.out hkp.low.size); clear h1 hkp))
        have H5 := Lib.hid (H4.out.rest_eq HX2.out)
        clear H4
        generalize (takeR [92] { sq with rest := l }).2.rest = l2 at *
        obtain ⟨p4, v4, hr4⟩ := H5.out
        have HR4 := Lib.hid hr4
        have c0 := hr4.cells.cell 0
        have c1 := hr4.cells.cell 1
        simp only [rdCells] at c0 c1
        simp at c0 c1
        have hcnt := hr4.count
        simp only at hcnt
        have hrst := hr4.rest
        simp only at hrst
        clear hr4 H5
        cases l2 with
        | nil =>
          have hpd : decide ((p4 : Int) = (s.length : Int)) = true := by simp at hcnt; simp; omega
          have hpe : (p4 : Int) = (s.length : Int) := by simp at hcnt; omega
          have HE3 := Lib.hid HE2.out
          rw [quoE_nil] at HE3
          clear hcnt hrst
          go_quiet (fail)
          go_wp2
          exact HON.out _ acc [] HE3.out.symm ⟨p4, v4, HR4.out.drewN nq⟩ (HK4.out.drewN nq)
        | cons d l3 =>
          have hlt : p4 < s.length := by simp at hcnt; omega
          have hd : s[p4] = d := by
            have h1 : (s.drop p4)[0]? = some d := by rw [hrst]; rfl
            rw [List.getElem?_drop, Nat.add_zero] at h1
            exact (List.getElem?_eq_some_iff.1 h1).2
          have hs1 : ∀ W, (Instr.index 9 (.string (bs s)) (.int .i64 (p4 : Int))).run Tryz.prog W = .ok (.int .u8 (d.toNat : Int)) W := fun W => by rw [← hd]; exact str_at s p4 hlt W
          have hpd : ((p4 : Int) == (s.length : Int)) = false := by simp; omega
          have hp0 : (0 : Int) ≤ (p4 : Int) := by omega
          have hpm : (p4 : Int) + 1 ≤ 1099511627777 := by have := HLEN.out; omega
          have HNS := Lib.hid (fun W => isNotShown_any d W)
          have HCN := Lib.hid hcnt
          have HRS : Hid (s.drop (p4 + 1) = l3) := by
            show _ = _
            rw [← List.drop_drop, hrst]
            rfl
          clear hd hlt hcnt hrst
          cases hnb : notB d with
          | true =>
            rw [hnb] at HNS
            have HE3 := Lib.hid HE2.out
            rw [quoE_bad _ _ _ hnb] at HE3
            clear hnb
            go_quiet ((go_at_call 77; refine (HNS.out _).mono ?_; rintro e w' ⟨rfl, rfl⟩; exact ⟨rfl, _, rfl⟩))
            go_wp2
            exact HON.out _ acc _ HE3.out.symm ⟨p4, v4, HR4.out.drewN nq⟩ (HK4.out.drewN nq)
          | false =>
            rw [hnb] at HNS
            have HE3 := Lib.hid HE2.out
            rw [quoE_on _ _ _ hnb] at HE3
            clear hnb
            go_quiet ((go_at_call 77; refine (HNS.out _).mono ?_; rintro e w' ⟨rfl, rfl⟩; exact ⟨rfl, _, rfl⟩))
            have HR5 := Lib.hid (HR4.out.drewN nq)
            have HK5 := Lib.hid (HK4.out.drewN nq)
            have HO5 : Hid ((w4.drewN nq).ownsRow B 5 1 u3 acc.length (acc.map byteV)) := ownsRow_kept HO4.out ⟨rfl, rfl, rfl, Nat.le_refl _, fun _ _ => rfl⟩
            have HL5 : Hid (B ≤ (w4.drewN nq).heap.size) := HL4.out
            have HAL2 : Hid ((acc ++ [d]).length + l3.length ≤ s.length) := by
              show _ ≤ _
              have h1 := HAL.out
              have h2 := HSL.out
              simp at h2 ⊢
              omega
            have HPL : Hid (placeW wr r + l.length = s.length) := by
              obtain ⟨p0, v0, hr0⟩ := HR.out
              show _ = _
              rw [hr0.placeW]
              exact hr0.count
            clear HR4 HK4 HO4 HL4 c0 c1
            generalize w4.drewN nq = W5 at *
            go_upto_region 8 with (fail)
            have c0 := HR5.out.cells.cell 0
            have c1 := HR5.out.cells.cell 1
            simp only [rdCells] at c0 c1
            simp at c0 c1
            have HR6 := Lib.hid ((HR5.out.later ((Below.refl _ _).alloc (Nat.le_refl _) (.cells #[.int .u8 (d.toNat : Int)] 5))).drewN 1)
            have HK6 := Lib.hid ((HK5.out.of_low ((Below.refl _ _).alloc (Nat.le_refl _) (.cells #[.int .u8 (d.toNat : Int)] 5)) (Nat.le_of_lt HR5.out.lt)).drewN 1)
            have HO6 : Hid ((W5.alloc (.cells #[.int .u8 (d.toNat : Int)] 5)).drew.ownsRow B 5 1 u3 acc.length (acc.map byteV)) := ownsRow_kept HO5.out ((Below.refl _ _).alloc (Nat.le_refl _) _).drew
            have HL6 : Hid (B ≤ (W5.alloc (.cells #[.int .u8 (d.toNat : Int)] 5)).drew.heap.size) := by show B ≤ (W5.alloc (.cells #[.int .u8 (d.toNat : Int)] 5)).heap.size; rw [World.size_alloc]; exact Nat.le_succ_of_le HL5.out
            have HBN : Hid (Blk (W5.alloc (.cells #[.int .u8 (d.toNat : Int)] 5)).drew W5.heap.size 5 #[byteV d]) := (Blk.new _ _ _).drew
            have HAC : Hid (acc.length ≤ 1099511627776) := by show _ ≤ _; have := HAL.out; have := HLEN.out; omega
            go_region_law (refine step_byte rfl _ _ rfl B u3 _ _ d rfl HO6.out HL6.out W5.heap.size rfl HBN.out HAC.out ?_; intro v7 W7 hown hgr; have HR7 := Lib.hid (HR6.out.beside HO6.out hgr (Nat.le_trans (Nat.le_of_lt HRW.out) HB.out)); have HK7 := Lib.hid (HK6.out.grown HO6.out hgr HB.out (Nat.le_of_lt HRW.out)); have HO7 := Lib.hid hown; have HL7 := Lib.hid (show B ≤ W7.heap.size from Nat.le_trans HL6.out hgr.size); clear hown hgr)
            all_goals
              have c3 := HR7.out.cells.cell 1
              have f3 := HR7.out.cells.frozen 1
              simp only [rdCells] at c3
              simp at c3
              have HP8 := Lib.hid (HR7.out.put (q := p4 + 1) (st' := { sq with rest := l3 }) 1 (.int .i64 ((p4 : Int) + 1)) (by simp [rdCells]) rfl (by have := HCN.out; simp at this; omega) HRS.out)
              have HK8 := Lib.hid (HK7.out.set_ HR7.out.cells 1 (.int .i64 ((p4 : Int) + 1)))
              have HO8 : Hid ((W7.setCell ⟨r, 1, none⟩ (.int .i64 ((p4 : Int) + 1))).ownsRow B 5 1 v7 (acc ++ [d]).length ((acc ++ [d]).map byteV)) := by
                have h1 := own_set HO7.out HR7.out.cells (by decide) 1 (.int .i64 ((p4 : Int) + 1))
                show World.ownsRow _ _ _ _ _ _ _
                simpa using h1
              have HL8 : Hid (B ≤ (W7.setCell ⟨r, 1, none⟩ (.int .i64 ((p4 : Int) + 1))).heap.size) := by show _ ≤ _; simp [World.setCell]; exact HL7.out
              have HM8 := Lib.hid HP8.out.placeW
              clear c0 c1
              go_wp2
              go_roundw
            all_goals first
              | exact ⟨acc ++ [d], l3, HO8.out, ⟨_, _, HP8.out⟩, HK8.out, HAL2.out, HL8.out, HE3.out⟩
              | (have h1 := HM8.out; have h2 := HPL.out; have h3 := HSL.out; have h4 := HCN.out; rw [h1]; simp at h3 h4; omega)
end Go.Proofs.YtnkepdeegpampaaGreatDoor

/-
  A reader's methods null, alone, route. Conditions: the reader lies in memory; its text is of at most 2^40 bytes; there are fewer domains than bytes.
-/
namespace Go.Proofs.YtnkepdeegpampaaGreatDoor
open Go.RowKit Go.Shelf

set_option maxRecDepth 100000 in
set_option maxHeartbeats 1000000 in
theorem null_any (m : Nat) : Reads anyI m 93 nullR := by
  intro s r w st hs _ h
  have HT1 := Lib.hid (take_any h [60, 62] (by decide))
  have HOUT : Hid (∀ w1, RdAt w1 r s (takeR [60, 62] st).2 → Kp r w w1 → (w1.frozen? ⟨r, 2, none⟩ = false ∧ ∃ u, w1.cell? ⟨r, 2, none⟩ = some u) ∧ ReadOut w r s nullR st (.returned (.bool (takeR [60, 62] st).1)) (w1.setCell ⟨r, 2, none⟩ (.bool (takeR [60, 62] st).1))) := fun w1 h1 h2 => by
    obtain ⟨p, v, hr⟩ := h1
    exact ⟨⟨hr.cells.frozen 2, _, hr.cells.cell 2⟩, rfl, ⟨p, v, hr.put 2 _ rfl rfl hr.place hr.rest⟩, h2.set_ hr.cells 2 _⟩
  generalize ReadOut w r s nullR st = Q at *
  generalize hb : (takeR [60, 62] st).1 = b at *
  have HB := Lib.hid hb
  clear h hb
  go_enter Tryz.func93, Tryz.ntmps93
  go_wp2_with (go_at_call 107; refine HT1.out.mono ?_; rintro e w1 ⟨rfl, h1, hkp⟩; rw [HB.out]; obtain ⟨⟨f2, u, c2⟩, hq⟩ := HOUT.out w1 h1 hkp; have HQ := Lib.hid hq; clear h1 hkp HT1 hq)
  exact HQ.out
set_option maxRecDepth 100000 in
set_option maxHeartbeats 1000000 in
theorem alone_any (m : Nat) : Reads anyI m 94 aloneR := by
  intro s r w st hs _ h
  have HT1 := Lib.hid (take_any h (60 :: postP ++ [62]) (by decide))
  have HNO : Hid (∀ w1, (takeR (60 :: postP ++ [62]) st).1 = false → RdAt w1 r s (takeR (60 :: postP ++ [62]) st).2 → Kp r w w1 → ReadOut w r s aloneR st (.returned (.bool false)) w1) := fun w1 hg h1 h2 => by
    unfold ReadOut aloneR
    rw [if_neg (by rw [hg]; decide)]
    exact ⟨rfl, h1, h2⟩
  have HYES : Hid (∀ w1, (takeR (60 :: postP ++ [62]) st).1 = true → RdAt w1 r s (takeR (60 :: postP ++ [62]) st).2 → Kp r w w1 → (w1.frozen? ⟨r, 4, none⟩ = false ∧ ∃ u, w1.cell? ⟨r, 4, none⟩ = some u) ∧ ReadOut w r s aloneR st (.returned (.bool true)) (w1.setCell ⟨r, 4, none⟩ (.string (bs postP)))) := fun w1 hg h1 h2 => by
    unfold ReadOut aloneR
    rw [if_pos hg]
    obtain ⟨p, v, hr⟩ := h1
    exact ⟨⟨hr.cells.frozen 4, _, hr.cells.cell 4⟩, rfl, ⟨p, v, hr.put 4 _ rfl rfl hr.place hr.rest⟩, h2.set_ hr.cells 4 _⟩
  generalize ReadOut w r s aloneR st = Q at *
  clear h
  cases hg : (takeR (60 :: postP ++ [62]) st).1 with
  | false =>
    have HG1 := Lib.hid hg
    have HO := Lib.hid (fun w1 => HNO.out w1 hg)
    clear hg HNO HYES
    go_enter Tryz.func94, Tryz.ntmps94
    go_wp2_with (go_at_call 107; refine HT1.out.mono ?_; rintro e w1 ⟨rfl, h1, hkp⟩; rw [HG1.out]; have H1 := Lib.hid h1; have HKP1 := Lib.hid hkp; clear h1 hkp HT1)
    exact HO.out w1 H1.out HKP1.out
  | true =>
    have HG1 := Lib.hid hg
    have HO := Lib.hid (fun w1 => HYES.out w1 hg)
    clear hg HNO HYES
    go_enter Tryz.func94, Tryz.ntmps94
    go_wp2_with (go_at_call 107; refine HT1.out.mono ?_; rintro e w1 ⟨rfl, h1, hkp⟩; rw [HG1.out]; obtain ⟨⟨f4, u, c4⟩, hq⟩ := HO.out w1 h1 hkp; have HQ := Lib.hid hq; clear h1 hkp HT1 hq)
    exact HQ.out
theorem hopI1 (s : List UInt8) (st : Rs) (h : hopI s st) (_ : (takeR [44] st).1 = true) : hopI s (takeR [44] st).2 := by
  have h1 := (keep_take [44] st).route
  have h2 := (suf_take [44] st).length_le
  unfold hopI at *
  rw [h1]
  omega
theorem limit_val (n : Nat) (st : Rs) : limitR (decide ((20 : Int) < (n : Int))) st = limitR (decide (20 < n)) st := by
  congr 1
  by_cases h : 20 < n
  · rw [decide_eq_true h, decide_eq_true (by omega)]
  · rw [decide_eq_false h, decide_eq_false (by omega)]
set_option maxRecDepth 100000 in
set_option maxHeartbeats 1000000 in
theorem route_any (m : Nat) (hm : m ≤ 1099511627776) : Reads hopI m 110 routeR := by
  intro s r w st hs hI h
  have HE1 := Lib.hid (each_any (sep := [44]) (hop_any m hm) ent_m_hop suf_hop (by decide) (by decide) hopI1 hopI2 h hs (by omega) hI)
  have HL := Lib.hid (fun (W : World) (hW : RdAt W r s (eachR hopR [44] st).2) => limit_any hW (((eachR hopR [44] st).1 : Nat) : Int) 20)
  have HT := Lib.hid (fun (W : World) (hW : RdAt W r s (limitR (decide (20 < (eachR hopR [44] st).1)) (eachR hopR [44] st).2)) => take_any hW [58] (by decide))
  have HNO : Hid (∀ w1, (eachR hopR [44] st).1 = 0 → RdAt w1 r s (limitR (decide (20 < (eachR hopR [44] st).1)) (eachR hopR [44] st).2) → Kp r w w1 → ReadOut w r s routeR st (.returned (.bool true)) w1) := fun w1 hg h1 h2 => by
    unfold ReadOut routeR
    rw [if_pos hg]
    rw [hg] at h1
    exact ⟨rfl, h1, h2⟩
  have HYES : Hid (∀ w1, (eachR hopR [44] st).1 ≠ 0 → RdAt w1 r s (takeR [58] (limitR (decide (20 < (eachR hopR [44] st).1)) (eachR hopR [44] st).2)).2 → Kp r w w1 → ReadOut w r s routeR st (.returned (.bool (takeR [58] (limitR (decide (20 < (eachR hopR [44] st).1)) (eachR hopR [44] st).2)).1)) w1) := fun w1 hg h1 h2 => by
    unfold ReadOut routeR
    rw [if_neg hg]
    exact ⟨rfl, h1, h2⟩
  have HLV := Lib.hid (limit_val (eachR hopR [44] st).1 (eachR hopR [44] st).2)
  generalize ReadOut w r s routeR st = Q at *
  have hmf : ∀ (fn : Fn) (first cap : Array Value) (w : World), (Instr.makeFunc fn first cap).run Tryz.prog w = .ok (.func fn first cap) w := fun _ _ _ _ => rfl
  clear h hI
  by_cases hg : (eachR hopR [44] st).1 = 0
  · have HO := Lib.hid (fun w1 => HNO.out w1 hg)
    have hz : (((eachR hopR [44] st).1 : Nat) : Int) = 0 := by omega
    have hzb : ((((eachR hopR [44] st).1 : Nat) : Int) == 0) = true := by rw [hz]; rfl
    clear HNO HYES HT hg hz
    go_enter Tryz.func110, Tryz.ntmps110
    go_wp2_with (first | (go_at_call 101; refine HE1.out.mono ?_; rintro e w1 ⟨rfl, h1, hkp⟩; have H1 := Lib.hid h1; have HKP1 := Lib.hid hkp; clear h1 hkp) | (go_at_call 87; refine (HL.out _ H1.out).mono ?_; rintro e w2 ⟨rfl, h1, hkp⟩; rw [HLV.out] at h1; have H2 := Lib.hid h1; have HKP2 := Lib.hid hkp; clear h1 hkp))
    exact HO.out w2 H2.out (HKP1.out.trans HKP2.out)
  · have HO := Lib.hid (fun w1 => HYES.out w1 hg)
    have hzb : ((((eachR hopR [44] st).1 : Nat) : Int) == 0) = false := by simp; omega
    clear HNO HYES hg
    go_enter Tryz.func110, Tryz.ntmps110
    go_wp2_with (first | (go_at_call 101; refine HE1.out.mono ?_; rintro e w1 ⟨rfl, h1, hkp⟩; have H1 := Lib.hid h1; have HKP1 := Lib.hid hkp; clear h1 hkp) | (go_at_call 87; refine (HL.out _ H1.out).mono ?_; rintro e w2 ⟨rfl, h1, hkp⟩; rw [HLV.out] at h1; have H2 := Lib.hid h1; have HKP2 := Lib.hid hkp; clear h1 hkp) | (go_at_call 107; refine (HT.out _ H2.out).mono ?_; rintro e w3 ⟨rfl, h1, hkp⟩; have H3 := Lib.hid h1; have HKP3 := Lib.hid hkp; clear h1 hkp))
    exact HO.out w3 H3.out ((HKP1.out.trans HKP2.out).trans HKP3.out)
end Go.Proofs.YtnkepdeegpampaaGreatDoor

/-
  A reader's methods mailbox, full. Conditions: the reader lies in memory; its text is of at most 2^40 bytes; there are fewer domains than bytes.
-/
namespace Go.Proofs.YtnkepdeegpampaaGreatDoor
open Go.RowKit Go.Shelf

theorem Reads.weak {I J : List UInt8 → Rs → Prop} {m k : Nat} {g : Rd} (h : Reads I m k g) (hJ : ∀ s st, J s st → I s st) : Reads J m k g := fun s r w st h1 h2 h3 => h s r w st h1 (hJ s st h2) h3
/-- two methods, one behind the other: what is left of both -/
theorem and_out {w w1 w2 : World} {r : Nat} {s : List UInt8} {g h : Rd} {st : Rs} (k1 : Kp r w w1) (hg : (g st).1 = true) (k2 : ReadOut w1 r s h (g st).2 (.returned (.bool (h (g st).2).1)) w2) : ReadOut w r s (andR g h) st (.returned (.bool (h (g st).2).1)) w2 := by
  obtain ⟨_, h1, h2⟩ := k2
  unfold ReadOut andR
  rw [if_pos hg]
  exact ⟨rfl, h1, k1.trans h2⟩
theorem and_yes (g h : Rd) (st : Rs) (hg : (g st).1 = true) : andR g h st = h (g st).2 := by unfold andR; rw [if_pos hg]
theorem and_no (g h : Rd) (st : Rs) (hg : (g st).1 = false) : andR g h st = (false, (g st).2) := by unfold andR; rw [if_neg (by simp [hg])]
theorem loc_parts (m : Nat) (hm : m ≤ 1099511627776) : ∀ x ∈ [(121, quotedR), (122, plainR)], Reads anyI m x.1 x.2 ∧ Ent x.1 := by
  intro x hx
  simp only [List.mem_cons, List.mem_nil_iff, or_false] at hx
  rcases hx with rfl | rfl
  · exact ⟨quoted_any m hm, ent_m_quoted⟩
  · exact ⟨plain_any m (by omega), ent_m_plain⟩
theorem dom_parts (m : Nat) (hm : m ≤ 1099511627776) : ∀ x ∈ [(123, bracketR), (124, namedR)], Reads anyI m x.1 x.2 ∧ Ent x.1 := by
  intro x hx
  simp only [List.mem_cons, List.mem_nil_iff, or_false] at hx
  rcases hx with rfl | rfl
  · exact ⟨bracket_any m (by omega), ent_m_bracket⟩
  · exact ⟨named_any m (by omega), ent_m_named⟩
theorem RdAt.alloc {w : World} {r : Nat} {s : List UInt8} {st : Rs} (h : RdAt w r s st) (o : Obj) : RdAt (w.alloc o) r s st := h.later ((Below.refl _ w).alloc (Nat.le_refl _) o)
theorem Kp.alloc {r : Nat} {a b : World} (h : Kp r a b) (o : Obj) (hr : r ≤ b.heap.size) : Kp r a (b.alloc o) := h.of_low ((Below.refl _ b).alloc (Nat.le_refl _) o) hr
set_option maxRecDepth 100000 in
set_option maxHeartbeats 1000000 in
theorem mailbox_any (m : Nat) (hm : m ≤ 1099511627776) : Reads anyI m 111 mailboxR := by
  intro s r w st hs _ h
  obtain ⟨a, ha⟩ : ∃ a, a = eitherR [quotedR, plainR] st := ⟨_, rfl⟩
  have HA := Lib.hid (fun (W : World) (hW : RdAt W r s st) (b : Nat) (hb : Blk W b 34 #[meth 121 r, meth 122 r]) => either_any [(121, quotedR), (122, plainR)] (loc_parts m hm) (fun _ _ _ _ _ _ _ => trivial) 2 rfl (by decide) hW hs trivial hb 2)
  have HT := Lib.hid (fun (W : World) (hW : RdAt W r s a.2) => take_any hW [64] (by decide))
  have HD := Lib.hid (fun (W : World) (hW : RdAt W r s (takeR [64] a.2).2) (b : Nat) (hb : Blk W b 34 #[meth 123 r, meth 124 r]) => either_any [(123, bracketR), (124, namedR)] (dom_parts m hm) (fun _ _ _ _ _ _ _ => trivial) 2 rfl (by decide) hW hs trivial hb 2)
  have HAE : Hid (eitherR (([(121, quotedR), (122, plainR)] : List (Nat × Rd)).map (·.2)) st = a) := ha.symm
  have HNO1 : Hid (∀ w1, a.1 = false → RdAt w1 r s a.2 → Kp r w w1 → ReadOut w r s mailboxR st (.returned (.bool false)) w1) := fun w1 hg h1 h2 => by
    subst ha
    unfold ReadOut mailboxR
    rw [and_no _ _ _ hg]
    exact ⟨rfl, h1, h2⟩
  have HNO2 : Hid (∀ w1, a.1 = true → (takeR [64] a.2).1 = false → RdAt w1 r s (takeR [64] a.2).2 → Kp r w w1 → ReadOut w r s mailboxR st (.returned (.bool false)) w1) := fun w1 hg hg2 h1 h2 => by
    subst ha
    unfold ReadOut mailboxR
    rw [and_yes _ _ _ hg, and_no _ _ _ hg2]
    exact ⟨rfl, h1, h2⟩
  have HYES : Hid (∀ w1, a.1 = true → (takeR [64] a.2).1 = true → RdAt w1 r s (eitherR [bracketR, namedR] (takeR [64] a.2).2).2 → Kp r w w1 → ReadOut w r s mailboxR st (.returned (.bool (eitherR [bracketR, namedR] (takeR [64] a.2).2).1)) w1) := fun w1 hg hg2 h1 h2 => by
    subst ha
    unfold ReadOut mailboxR
    rw [and_yes _ _ _ hg, and_yes _ _ _ hg2]
    exact ⟨rfl, h1, h2⟩
  have HLT := Lib.hid h.lt
  have HH := Lib.hid (h.alloc (.cells #[meth 121 r, meth 122 r] 34))
  have HC1 := Lib.hid (HA.out _ HH.out w.heap.size (Blk.new _ _ _))
  have HK0 := Lib.hid ((Kp.refl r w).alloc (.cells #[meth 121 r, meth 122 r] 34) (Nat.le_of_lt h.lt))
  unfold meth at HC1 HK0
  generalize ReadOut w r s mailboxR st = Q at *
  have hmf : ∀ (fn : Fn) (first cap : Array Value) (w : World), (Instr.makeFunc fn first cap).run Tryz.prog w = .ok (.func fn first cap) w := fun _ _ _ _ => rfl
  clear h ha HA HH
  cases hg1 : a.1 with
  | false =>
    have HG1 := Lib.hid hg1
    have HO := Lib.hid (fun w1 => HNO1.out w1 hg1)
    clear hg1 HNO1 HNO2 HYES HT HD
    go_enter Tryz.func111, Tryz.ntmps111
    go_wp2_with (go_at_call 92; refine HC1.out.mono ?_; rintro e w1 ⟨rfl, h1, hkp⟩; rw [HAE.out] at h1 ⊢; rw [HG1.out]; have H1 := Lib.hid h1; have HKP1 := Lib.hid hkp; clear h1 hkp)
    exact HO.out w1 H1.out (HK0.out.trans HKP1.out)
  | true =>
    have HG1 := Lib.hid hg1
    cases hg2 : (takeR [64] a.2).1 with
    | false =>
      have HG2 := Lib.hid hg2
      have HO := Lib.hid (fun w1 => HNO2.out w1 hg1 hg2)
      clear hg1 hg2 HNO1 HNO2 HYES HD
      go_enter Tryz.func111, Tryz.ntmps111
      go_wp2_with (first | (go_at_call 92; refine HC1.out.mono ?_; rintro e w1 ⟨rfl, h1, hkp⟩; rw [HAE.out] at h1 ⊢; rw [HG1.out]; have H1 := Lib.hid h1; have HKP1 := Lib.hid hkp; clear h1 hkp) | (go_at_call 107; refine (HT.out w1 H1.out).mono ?_; rintro e w2 ⟨rfl, h1, hkp⟩; rw [HG2.out]; have H2 := Lib.hid h1; have HKP2 := Lib.hid hkp; clear h1 hkp))
      exact HO.out w2 H2.out ((HK0.out.trans HKP1.out).trans HKP2.out)
    | true =>
      have HG2 := Lib.hid hg2
      have HO := Lib.hid (fun w1 => HYES.out w1 hg1 hg2)
      clear hg1 hg2 HNO1 HNO2 HYES
      go_enter Tryz.func111, Tryz.ntmps111
      go_wp2_with (first | (go_at_call 92; refine HC1.out.mono ?_; rintro e w1 ⟨rfl, h1, hkp⟩; rw [HAE.out] at h1 ⊢; rw [HG1.out]; have H1 := Lib.hid h1; have HKP1 := Lib.hid hkp; clear h1 hkp) | (go_at_call 107; refine (HT.out w1 H1.out).mono ?_; rintro e w2 ⟨rfl, h1, hkp⟩; rw [HG2.out]; have H2 := Lib.hid h1; have HKP2 := Lib.hid hkp; have HC3 := Lib.hid (HD.out _ (h1.alloc (.cells #[meth 123 r, meth 124 r] 34)) w2.heap.size (Blk.new _ _ _)); have HK3 := Lib.hid ((Kp.refl r w2).alloc (.cells #[meth 123 r, meth 124 r] 34) (Nat.le_of_lt h1.lt)); unfold meth at HC3 HK3; clear h1 hkp HC1) | (go_at_call 92; refine HC3.out.mono ?_; rintro e w3 ⟨rfl, h1, hkp⟩; have H3 := Lib.hid h1; have HKP3 := Lib.hid hkp; clear h1 hkp))
      exact HO.out w3 H3.out ((((HK0.out.trans HKP1.out).trans HKP2.out).trans HK3.out).trans HKP3.out)
end Go.Proofs.YtnkepdeegpampaaGreatDoor

/-
  path's reader: full, verdict; path.Domain, path.Literal. Conditions: the text is of at most 2^40 bytes; the library's variable holds some value.
-/
namespace Go.Proofs.YtnkepdeegpampaaGreatDoor
open Go.RowKit Go.Shelf

theorem mailbox_hop (s : List UInt8) (st : Rs) (_ : hopI s st) : anyI s st := trivial
set_option maxRecDepth 100000 in
set_option maxHeartbeats 1000000 in
theorem full_any (m : Nat) (hm : m ≤ 1099511627776) : Reads hopI m 95 fullR := by
  intro s r w st hs hI h
  have HT1 := Lib.hid (take_any h [60] (by decide))
  have hI2 : hopI s (takeR [60] st).2 := by
    have h1 := (keep_take [60] st).route
    have h2 := (suf_take [60] st).length_le
    unfold hopI at *
    rw [h1]
    omega
  have HR := Lib.hid (fun (W : World) (hW : RdAt W r s (takeR [60] st).2) => route_any m hm s r W _ hs hI2 hW)
  have HB := Lib.hid (fun (W : World) (hW : RdAt W r s (routeR (takeR [60] st).2).2) => mailbox_any m hm s r W _ hs trivial hW)
  have HE := Lib.hid (fun (W : World) (hW : RdAt W r s (mailboxR (routeR (takeR [60] st).2).2).2) => take_any hW [62] (by decide))
  have HNO1 : Hid (∀ w1, (takeR [60] st).1 = false → RdAt w1 r s (takeR [60] st).2 → Kp r w w1 → ReadOut w r s fullR st (.returned (.bool false)) w1) := fun w1 hg h1 h2 => by
    unfold ReadOut fullR
    rw [and_no _ _ _ hg]
    exact ⟨rfl, h1, h2⟩
  have HNO2 : Hid (∀ w1, (takeR [60] st).1 = true → (routeR (takeR [60] st).2).1 = false → RdAt w1 r s (routeR (takeR [60] st).2).2 → Kp r w w1 → ReadOut w r s fullR st (.returned (.bool false)) w1) := fun w1 hg hg2 h1 h2 => by
    unfold ReadOut fullR
    rw [and_yes _ _ _ hg, and_no _ _ _ hg2]
    exact ⟨rfl, h1, h2⟩
  have HNO3 : Hid (∀ w1, (takeR [60] st).1 = true → (routeR (takeR [60] st).2).1 = true → (mailboxR (routeR (takeR [60] st).2).2).1 = false → RdAt w1 r s (mailboxR (routeR (takeR [60] st).2).2).2 → Kp r w w1 → ReadOut w r s fullR st (.returned (.bool false)) w1) := fun w1 hg hg2 hg3 h1 h2 => by
    unfold ReadOut fullR
    rw [and_yes _ _ _ hg, and_yes _ _ _ hg2, and_no _ _ _ hg3]
    exact ⟨rfl, h1, h2⟩
  have HYES : Hid (∀ w1, (takeR [60] st).1 = true → (routeR (takeR [60] st).2).1 = true → (mailboxR (routeR (takeR [60] st).2).2).1 = true → RdAt w1 r s (takeR [62] (mailboxR (routeR (takeR [60] st).2).2).2).2 → Kp r w w1 → ReadOut w r s fullR st (.returned (.bool (takeR [62] (mailboxR (routeR (takeR [60] st).2).2).2).1)) w1) := fun w1 hg hg2 hg3 h1 h2 => by
    unfold ReadOut fullR
    rw [and_yes _ _ _ hg, and_yes _ _ _ hg2, and_yes _ _ _ hg3]
    exact ⟨rfl, h1, h2⟩
  generalize ReadOut w r s fullR st = Q at *
  clear h hI hI2
  cases hg1 : (takeR [60] st).1 with
  | false =>
    have HG1 := Lib.hid hg1
    have HO := Lib.hid (fun w1 => HNO1.out w1 hg1)
    clear hg1 HNO1 HNO2 HNO3 HYES HR HB HE
    go_enter Tryz.func95, Tryz.ntmps95
    go_wp2_with (go_at_call 107; refine (HT1.out).mono ?_; rintro e w1 ⟨rfl, h1, hkp⟩; rw [HG1.out]; have H1 := Lib.hid h1; have HKP1 := Lib.hid hkp; clear h1 hkp HT1)
    exact HO.out w1 H1.out HKP1.out
  | true =>
    have HG1 := Lib.hid hg1
    cases hg2 : (routeR (takeR [60] st).2).1 with
    | false =>
      have HG2 := Lib.hid hg2
      have HO := Lib.hid (fun w1 => HNO2.out w1 hg1 hg2)
      clear hg1 hg2 HNO1 HNO2 HNO3 HYES HB HE
      go_enter Tryz.func95, Tryz.ntmps95
      go_wp2_with (first | (go_at_call 107; refine (HT1.out).mono ?_; rintro e w1 ⟨rfl, h1, hkp⟩; rw [HG1.out]; have H1 := Lib.hid h1; have HKP1 := Lib.hid hkp; clear h1 hkp HT1) | (go_at_call 110; refine (HR.out w1 H1.out).mono ?_; rintro e w2 ⟨rfl, h1, hkp⟩; rw [HG2.out]; have H2 := Lib.hid h1; have HKP2 := Lib.hid hkp; clear h1 hkp))
      exact HO.out w2 H2.out (HKP1.out.trans HKP2.out)
    | true =>
      have HG2 := Lib.hid hg2
      cases hg3 : (mailboxR (routeR (takeR [60] st).2).2).1 with
      | false =>
        have HG3 := Lib.hid hg3
        have HO := Lib.hid (fun w1 => HNO3.out w1 hg1 hg2 hg3)
        clear hg1 hg2 hg3 HNO1 HNO2 HNO3 HYES HE
        go_enter Tryz.func95, Tryz.ntmps95
        go_wp2_with (first | (go_at_call 107; refine (HT1.out).mono ?_; rintro e w1 ⟨rfl, h1, hkp⟩; rw [HG1.out]; have H1 := Lib.hid h1; have HKP1 := Lib.hid hkp; clear h1 hkp HT1) | (go_at_call 110; refine (HR.out w1 H1.out).mono ?_; rintro e w2 ⟨rfl, h1, hkp⟩; rw [HG2.out]; have H2 := Lib.hid h1; have HKP2 := Lib.hid hkp; clear h1 hkp) | (go_at_call 111; refine (HB.out w2 H2.out).mono ?_; rintro e w3 ⟨rfl, h1, hkp⟩; rw [HG3.out]; have H3 := Lib.hid h1; have HKP3 := Lib.hid hkp; clear h1 hkp))
        exact HO.out w3 H3.out ((HKP1.out.trans HKP2.out).trans HKP3.out)
      | true =>
        have HG3 := Lib.hid hg3
        have HO := Lib.hid (fun w1 => HYES.out w1 hg1 hg2 hg3)
        clear hg1 hg2 hg3 HNO1 HNO2 HNO3 HYES
        go_enter Tryz.func95, Tryz.ntmps95
        go_wp2_with (first | (go_at_call 107; refine (HT1.out).mono ?_; rintro e w1 ⟨rfl, h1, hkp⟩; rw [HG1.out]; have H1 := Lib.hid h1; have HKP1 := Lib.hid hkp; clear h1 hkp HT1) | (go_at_call 110; refine (HR.out w1 H1.out).mono ?_; rintro e w2 ⟨rfl, h1, hkp⟩; rw [HG2.out]; have H2 := Lib.hid h1; have HKP2 := Lib.hid hkp; clear h1 hkp) | (go_at_call 111; refine (HB.out w2 H2.out).mono ?_; rintro e w3 ⟨rfl, h1, hkp⟩; rw [HG3.out]; have H3 := Lib.hid h1; have HKP3 := Lib.hid hkp; clear h1 hkp) | (go_at_call 107; refine (HE.out w3 H3.out).mono ?_; rintro e w4 ⟨rfl, h1, hkp⟩; have H4 := Lib.hid h1; have HKP4 := Lib.hid hkp; clear h1 hkp))
        exact HO.out w4 H4.out (((HKP1.out.trans HKP2.out).trans HKP3.out).trans HKP4.out)
/-- what is said of what was read -/
def verdictP (b lg : Bool) : Int := if b = false then 150 else if lg then 3 else 0
set_option maxRecDepth 100000 in
set_option maxHeartbeats 1000000 in
theorem verdict_any {w : World} {r : Nat} {s : List UInt8} {st : Rs} (h : RdAt w r s st) (b : Bool) : Calls Tryz.prog 91 #[.pointer (some ⟨r, 0, none⟩), .bool b] w fun e w' => e = .returned (.int .i64 (verdictP b st.long)) ∧ w' = w := by
  obtain ⟨p, v, hr⟩ := h
  have c7 := hr.cells.cell 7
  simp only [rdCells] at c7
  simp at c7
  clear hr
  cases b with
  | false =>
    go_enter Tryz.func91, Tryz.ntmps91
    go_wp2
    go_ret
    exact ⟨rfl, rfl⟩
  | true =>
    cases hl : st.long with
    | true =>
      rw [hl] at c7
      go_enter Tryz.func91, Tryz.ntmps91
      go_wp2
      go_ret
      exact ⟨rfl, rfl⟩
    | false =>
      rw [hl] at c7
      go_enter Tryz.func91, Tryz.ntmps91
      go_wp2
      go_ret
      exact ⟨rfl, rfl⟩
/-- a new reader -/
theorem new_reader (w : World) (s : List UInt8) (hs : s.length ≤ 9223372036854775807) (he : ErrAt w) (hg : 4 < w.heap.size) : RdAt (w.alloc (.cells #[.string (bs s), .int .i64 0, .bool false, .slice none 0 0, .string ⟨#[]⟩, .string ⟨#[]⟩, .bool false, .bool false] 103)) w.heap.size s (st0 s) := by
  refine ⟨0, .slice none 0 0, Blk.new _ _ _, World.ownsRow_nil _ _ _ _, Nat.zero_le _, rfl, hs, he.below ((Below.refl _ w).alloc (Nat.le_refl _) _) hg, hg⟩
end Go.Proofs.YtnkepdeegpampaaGreatDoor

/-
  The contracts of path.Domain, path.Literal. Conditions: the text is of at most 2^40 bytes; the library's variable holds some value.
-/
namespace Go.Proofs.YtnkepdeegpampaaGreatDoor
open Go.RowKit Go.Shelf

abbrev ErrG : Nat := 4
set_option maxRecDepth 100000 in
set_option maxHeartbeats 1000000 in
theorem domain_fun (s : List UInt8) (hs : s.length ≤ 4611686018427387904) (w : World) (he : ErrAt w) (hg : ErrG < w.heap.size) : Calls Tryz.prog 49 #[.string (bs s)] w fun e w' => e = .returned (.bool (dB s && !dL s)) ∧ Below w.heap.size w w' := by
  have hr := new_reader w s (by omega) he hg
  have hb : Below w.heap.size w (w.alloc (.cells #[.string (bs s), .int .i64 0, .bool false, .slice none 0 0, .string ⟨#[]⟩, .string ⟨#[]⟩, .bool false, .bool false] 103)) := (Below.refl _ w).alloc (Nat.le_refl _) _
  have HW := Lib.hid (whole_any (domain_any 4611686018427387904 (Nat.le_refl _)) ent_m_domain hr hs trivial)
  have HB := Lib.hid hb
  have HWR : Hid (wholeR domainR (st0 s) = dB s) := rfl
  have HLL : Hid ((domainR (st0 s)).2.long = dL s) := rfl
  unfold meth at HW
  have hmf : ∀ (fn : Fn) (first cap : Array Value) (w : World), (Instr.makeFunc fn first cap).run Tryz.prog w = .ok (.func fn first cap) w := fun _ _ _ _ => rfl
  clear hr hb he hg hs
  cases hd : dB s with
  | false =>
    have HD := Lib.hid hd
    clear hd
    go_enter Tryz.func49, Tryz.ntmps49
    go_wp2_with (go_at_call 67; refine HW.out.mono ?_; rintro e w1 ⟨rfl, h1, hkp⟩; rw [HWR.out, HD.out]; have HKP1 := Lib.hid hkp; clear h1 hkp)
    go_ret
    exact ⟨rfl, HB.out.trans HKP1.out.low⟩
  | true =>
    have HD := Lib.hid hd
    clear hd
    go_enter Tryz.func49, Tryz.ntmps49
    go_wp2_with (go_at_call 67; refine HW.out.mono ?_; rintro e w1 ⟨rfl, h1, hkp⟩; rw [HWR.out, HD.out]; have HKP1 := Lib.hid hkp; obtain ⟨p1, v1, hr1⟩ := h1; have c7 := hr1.cells.cell 7; simp only [rdCells] at c7; simp at c7; rw [HLL.out] at c7; clear hr1 hkp)
    go_ret
    exact ⟨rfl, HB.out.trans HKP1.out.low⟩
set_option maxRecDepth 100000 in
set_option maxHeartbeats 1000000 in
theorem literal_fun (s : List UInt8) (hs : s.length ≤ 4611686018427387900) (w : World) (he : ErrAt w) (hg : ErrG < w.heap.size) : Calls Tryz.prog 71 #[.string (bs s)] w fun e w' => e = .returned (.bool (wB s)) ∧ Below w.heap.size w w' := by
  have hr := new_reader w s (by omega) he hg
  have hb : Below w.heap.size w (w.alloc (.cells #[.string (bs s), .int .i64 0, .bool false, .slice none 0 0, .string ⟨#[]⟩, .string ⟨#[]⟩, .bool false, .bool false] 103)) := (Below.refl _ w).alloc (Nat.le_refl _) _
  have HW := Lib.hid (whole_any (words_any 4611686018427387900 (Nat.le_refl _)) ent_m_words hr hs trivial)
  have HB := Lib.hid hb
  have HWR : Hid (wholeR wordsR (st0 s) = wB s) := rfl
  unfold meth at HW
  have hmf : ∀ (fn : Fn) (first cap : Array Value) (w : World), (Instr.makeFunc fn first cap).run Tryz.prog w = .ok (.func fn first cap) w := fun _ _ _ _ => rfl
  clear hr hb he hg hs
  go_enter Tryz.func71, Tryz.ntmps71
  go_wp2_with (go_at_call 67; refine HW.out.mono ?_; rintro e w1 ⟨rfl, h1, hkp⟩; rw [HWR.out]; have HKP1 := Lib.hid hkp; clear h1 hkp)
  go_ret
  exact ⟨rfl, HB.out.trans HKP1.out.low⟩
def boxCells (loc d : List UInt8) (lit : Bool) : Array Value := #[.string (bs loc), .string (bs d), .bool lit]
/-- what is told of a mailbox -/
def mailboxP (s : List UInt8) : Int × List UInt8 × List UInt8 × Bool :=
  if verdictP (wholeR mailboxR (st0 s)) (mailboxR (st0 s)).2.long = 0 then (0, (mailboxR (st0 s)).2.loc, (mailboxR (st0 s)).2.dom, (mailboxR (st0 s)).2.lit)
  else (verdictP (wholeR mailboxR (st0 s)) (mailboxR (st0 s)).2.long, [], [], false)
def rdNew (s : List UInt8) : Obj := .cells #[.string (bs s), .int .i64 0, .bool false, .slice none 0 0, .string ⟨#[]⟩, .string ⟨#[]⟩, .bool false, .bool false] 103
def MailOut (w : World) (s : List UInt8) (e : Ending) (w' : World) : Prop := e = .returned (.tuple #[.agg (boxCells (mailboxP s).2.1 (mailboxP s).2.2.1 (mailboxP s).2.2.2), .int .i64 (mailboxP s).1]) ∧ Below w.heap.size w w'
theorem infoBox : (Tryz.prog.info? 24).map (·.size) = some 3 := by kernel_rfl
theorem verdict_ne (b lg : Bool) (h : verdictP b lg ≠ 0) : verdictP b lg = 150 ∨ verdictP b lg = 3 := by
  unfold verdictP at *
  cases b <;> cases lg <;> simp_all
end Go.Proofs.YtnkepdeegpampaaGreatDoor

/-
  Paths in plain terms: a whole path is read just of what a path's text is; what is right is printed so that it is read as the same. No conditions.
-/
namespace Go.Proofs.YtnkepdeegpampaaGreatDoor

/-- a text that is a route, or nothing -/
def RouteT (t : List UInt8) (ds : List (List UInt8)) (lg : Bool) : Prop := (t = [] ∧ ds = [] ∧ lg = false) ∨ ∃ d L, (∀ e ∈ d :: L, dB e = true) ∧ t = 64 :: (d ++ (hopsT L ++ [58])) ∧ ds = (d :: L).map low ∧ lg = ((d :: L).any dL || decide (20 < (d :: L).length))
theorem col_stop : ∀ x, Stop (58 :: x) hopStop := fun x c h => by
  obtain rfl : 58 = c := by simpa using h
  decide
theorem hop_no {st : Rs} (h : st.rest.head? ≠ some 64) : hopR st = (false, st) := by
  unfold hopR
  rw [one_no fix64 st h]
  rfl
theorem route_all {t x : List UInt8} {ds : List (List UInt8)} {lg : Bool} (h : RouteT t ds lg) (hx : x.head? ≠ some 64) (st : Rs) (hr : st.rest = t ++ x) : routeR st = (true, { st with rest := x, route := st.route ++ ds, long := st.long || lg }) := by
  rcases h with ⟨rfl, rfl, rfl⟩ | ⟨d, L, h1, rfl, rfl, rfl⟩
  · have he : eachR hopR [44] st = (0, st) := by
      unfold eachR
      rw [eachF]
      simp only [sepR, if_true, Bool.true_eq_false, if_false]
      rw [hop_no (by rw [hr]; exact hx)]
      simp
    unfold routeR
    rw [he]
    have hr' : st.rest = x := hr
    simp [limitR, ← hr']
  · have he : eachR hopR [44] st = (1 + L.length, { st with rest := 58 :: x, route := st.route ++ (d :: L).map low, long := st.long || (d :: L).any dL }) := by
      unfold eachR
      rw [eachF]
      simp only [sepR, if_true, Bool.true_eq_false, if_false]
      rw [hop_all (d := d) (x := hopsT L ++ 58 :: x) (hops_stop L (hopStop_dom (col_stop x))) (h1 d (by simp)) st (by rw [hr]; simp)]
      simp only [Bool.true_eq_false, if_false]
      rw [hops_all (col_stop x) L _ 1 _ (by omega) (fun e he => h1 e (by simp [he])) ?_ rfl]
      · simp [Bool.or_assoc]
      · have : L.length ≤ (hopsT L).length := by
          unfold hopsT
          clear h1 hr
          induction L with
          | nil => simp
          | cons e L ih => simp at ih ⊢; omega
        rw [hr]
        simp
        omega
    unfold routeR
    rw [he]
    simp only [Nat.add_eq_zero_iff, Nat.one_ne_zero, false_and, if_false]
    rw [one_yes rfl _ x rfl]
    simp [limitR, Bool.or_assoc, Nat.add_comm]
theorem eachF_many {part : Rd} {sep : List UInt8} : ∀ (f many : Nat) (st : Rs), many ≤ (eachF part sep f many st).1
  | 0, _, _ => Nat.le_refl _
  | f + 1, many, st => by
    rw [eachF]
    split
    · exact Nat.le_refl _
    · split
      · exact Nat.le_refl _
      · exact Nat.le_trans (Nat.le_succ _) (eachF_many f (many + 1) _)
theorem route_some {st st' : Rs} (h : routeR st = (true, st')) (hx : st'.rest.head? ≠ some 64) : ∃ t ds lg, RouteT t ds lg ∧ st.rest = t ++ st'.rest ∧ st'.null = st.null ∧ st'.route = st.route ++ ds ∧ st'.loc = st.loc ∧ st'.dom = st.dom ∧ st'.lit = st.lit ∧ (st'.long = (st.long || lg)) := by
  unfold routeR at h
  split at h
  · rename_i h0
    have h1 : (hopR st).1 = false := by
      cases hp : (hopR st).1 with
      | false => rfl
      | true =>
        exfalso
        unfold eachR at h0
        rw [eachF] at h0
        simp only [sepR, if_true, Bool.true_eq_false, if_false, hp] at h0
        have := eachF_many (part := hopR) (sep := [44]) (st.rest.length + 1) (0 + 1) (hopR st).2
        omega
    have he : eachR hopR [44] st = (0, { (hopR st).2 with rest := st.rest }) := by
      unfold eachR
      rw [eachF]
      simp only [sepR, if_true, Bool.true_eq_false, if_false, h1]
    rw [he] at h
    injection h with _ h
    subst h
    have h64 : st.rest.head? ≠ some 64 := hx
    rw [hop_no h64]
    exact ⟨[], [], false, .inl ⟨rfl, rfl, rfl⟩, rfl, rfl, by simp [limitR], rfl, rfl, rfl, by simp [limitR]⟩
  · rename_i h0
    obtain ⟨x, e1, e2⟩ := one_some fix58 (by rw [h])
    rw [e2] at h
    injection h with _ h
    have h1 : (hopR st).1 = true := each_first (sep := [44]) (Nat.pos_of_ne_zero h0)
    have he : eachR hopR [44] st = eachF hopR [44] (st.rest.length + 1) 1 (hopR st).2 := by
      unfold eachR
      rw [eachF]
      simp only [sepR, if_true, Bool.true_eq_false, if_false, h1, Nat.zero_add]
    have hlen : (hopR st).2.rest.length ≤ st.rest.length := (suf_hop st).length_le
    have hst : Stop (eachF hopR [44] (st.rest.length + 1) 1 (hopR st).2).2.rest hopStop := by
      rw [← he]
      have : (eachR hopR [44] st).2.rest = 58 :: x := e1
      rw [this]
      exact col_stop x
    obtain ⟨L, k1, k2, k3, k4⟩ := hops_some _ 1 (hopR st).2 (by omega) (by omega) hst
    obtain ⟨d, m1, m2, m3⟩ := hop_some h1 (by rw [k2]; exact hops_stop L (hopStop_dom hst))
    rw [← he] at k2 k3 k4
    have hr1 : (eachR hopR [44] st).2.rest = 58 :: x := e1
    rw [hr1] at k2
    have hk := k4
    rw [m3] at hk
    subst h
    refine ⟨64 :: (d ++ (hopsT L ++ [58])), (d :: L).map low, _, .inr ⟨d, L, ?_, rfl, rfl, rfl⟩, ?_, ?_⟩
    · intro e he
      rcases List.mem_cons.1 he with rfl | he
      · exact m1
      · exact k1 e he
    · rw [m2, k2]
      simp
    · simp only [limitR]
      rw [hk, k3]
      refine ⟨rfl, by simp, rfl, rfl, rfl, ?_⟩
      simp [Bool.or_assoc, Nat.add_comm]

/-- what is told of a path -/
structure Pa where
  null : Bool := false
  route : List (List UInt8) := []
  loc : List UInt8 := []
  dom : List UInt8 := []
  lit : Bool := false
deriving DecidableEq
def paOf (st : Rs) : Pa := ⟨st.null, st.route, st.loc, st.dom, st.lit⟩
def withP (_st : Rs) (p : Pa) (r : List UInt8) (lg : Bool) : Rs := ⟨r, p.null, p.route, p.loc, p.dom, p.lit, lg⟩
def aloneT : List UInt8 := 60 :: postP ++ [62]
/-- a text that is a path; what is told of it; whether it is beyond the limits -/
def PathT (t : List UInt8) (p : Pa) (lg : Bool) : Prop :=
  (t = [60, 62] ∧ p = { null := true } ∧ lg = false) ∨ (low t = aloneT ∧ p = { loc := postP } ∧ lg = false) ∨
  ∃ rt ds l1 bt loc d lit l2, RouteT rt ds l1 ∧ BoxT bt loc d lit l2 ∧ t = 60 :: (rt ++ (bt ++ [62])) ∧ p = ⟨false, ds, loc, d, lit⟩ ∧ lg = (l1 || l2)
theorem gt_stop : ∀ x, Stop (62 :: x) domStop := fun x c h => by
  obtain rfl : 62 = c := by simpa using h
  decide
theorem loc_head {t m : List UInt8} (h : LocT t m) : ∃ c r, t = c :: r ∧ (c = 34 ∨ atmB c = true) := by
  rcases h with ⟨h1, _⟩ | ⟨ps, _, rfl, _⟩
  · obtain ⟨c, r, h2, h3⟩ := aB_head h1; exact ⟨c, r, h2, .inr h3⟩
  · exact ⟨34, _, rfl, .inl rfl⟩
theorem box_head {t loc d : List UInt8} {lit lg : Bool} (h : BoxT t loc d lit lg) : ∃ c r, t = c :: r ∧ (c = 34 ∨ atmB c = true) := by
  obtain ⟨l, u, g, h1, _, rfl, _⟩ := h
  obtain ⟨c, r, rfl, h2⟩ := loc_head h1
  exact ⟨c, r ++ 64 :: u, rfl, h2⟩
/-- atoms are of atoms' bytes, and dots -/
theorem atoms_bytes : ∀ (f many : Nat) (st : Rs), ∃ l, st.rest = l ++ (eachF atomR [46] f many st).2.rest ∧ ∀ c ∈ l, atmB c = true ∨ c = 46
  | 0, _, st => ⟨[], rfl, by simp⟩
  | f + 1, many, st => by
    rw [eachF]
    have hs : ∃ l, st.rest = l ++ (sepR [46] many st).2.rest ∧ ∀ c ∈ l, c = 46 := by
      unfold sepR
      split
      · exact ⟨[], rfl, by simp⟩
      · cases ht : (takeR [46] st).1 with
        | true =>
          have fix46 : ∀ e, sml e = 46 → e = 46 := all_u8 (by decide +kernel)
          obtain ⟨x, h1, h2⟩ := one_some fix46 ht
          exact ⟨[46], by rw [h2]; exact h1, by simp⟩
        | false => exact ⟨[], by rw [takeR_no _ _ ht]; rfl, by simp⟩
    split
    · exact ⟨[], rfl, by simp⟩
    · split
      · exact ⟨[], rfl, by simp⟩
      · obtain ⟨l1, h1, h2⟩ := hs
        obtain ⟨l2, h3, h4⟩ := atoms_bytes f (many + 1) (atomR (sepR [46] many st).2).2
        refine ⟨l1 ++ ((sepR [46] many st).2.rest.takeWhile atmB ++ l2), ?_, ?_⟩
        · rw [List.append_assoc, List.append_assoc, ← h3]
          conv => lhs; rw [h1]
          show l1 ++ (sepR [46] many st).2.rest = l1 ++ ((sepR [46] many st).2.rest.takeWhile atmB ++ (sepR [46] many st).2.rest.dropWhile atmB)
          rw [List.takeWhile_append_dropWhile]
        · intro c hc
          rcases List.mem_append.1 hc with hc | hc
          · exact .inr (h2 c hc)
          · rcases List.mem_append.1 hc with hc | hc
            · exact .inl (mem_run hc)
            · exact h4 c hc
theorem aB_bytes {l : List UInt8} (h : aB l = true) : ∀ c ∈ l, atmB c = true ∨ c = 46 := by
  obtain ⟨_, h2⟩ := allB_iff.1 h
  obtain ⟨m, h3, h4⟩ := atoms_bytes (l.length + 2) 0 (st0 l)
  have : (eachF atomR [46] (l.length + 2) 0 (st0 l)).2.rest = [] := h2
  rw [this, List.append_nil] at h3
  rw [show l = m from h3]
  exact h4
theorem alone_bytes : ∀ c, c ∈ aloneT → c = 60 ∨ c = 62 ∨ (97 ≤ c ∧ c ≤ 122) := all_u8 (by decide +kernel)
/-- a path that has a mailbox is not that of postmaster alone -/
theorem full_not_alone {rt bt loc d x : List UInt8} {ds : List (List UInt8)} {lit l1 l2 : Bool} (h1 : RouteT rt ds l1) (h2 : BoxT bt loc d lit l2) (st : Rs) (hr : st.rest = 60 :: (rt ++ (bt ++ x))) : takeR aloneT st = (false, st) := by
  refine take_fail ?_
  cases ht : (takeR aloneT st).1 with
  | false => rfl
  | true =>
    exfalso
    obtain ⟨a, ha, hb, _⟩ := take_some ht
    rw [hr] at hb
    have hlen : a.length = 12 := by rw [← low_len, ha]; rfl
    have hat : ∀ i, i < 12 → (low (60 :: (rt ++ (bt ++ x))))[i]? = aloneT[i]? := by
      intro i hi
      rw [hb, low_app, List.getElem?_append_left (by rw [low_len]; omega), ha]
    rcases h1 with ⟨rfl, _, _⟩ | ⟨e, L, _, rfl, _, _⟩
    · obtain ⟨l, u, g, h3, _, rfl, _⟩ := h2
      rcases h3 with ⟨h3, _⟩ | ⟨ps, _, rfl, _⟩
      · have hab := aB_bytes h3
        simp only [List.nil_append] at hat
        by_cases hl : l.length + 1 < 12
        · have := hat (l.length + 1) hl
          unfold low at this
          rw [List.getElem?_map, List.getElem?_cons_succ, List.append_assoc, List.getElem?_append_right (Nat.le_refl _), Nat.sub_self] at this
          simp only [List.cons_append, List.getElem?_cons_zero, Option.map_some] at this
          have hm := List.mem_of_getElem? this.symm
          exact absurd (alone_bytes _ hm) (by decide)
        · have := hat 11 (by omega)
          unfold low at this
          rw [List.getElem?_map, List.getElem?_cons_succ, List.append_assoc, List.getElem?_append_left (by omega)] at this
          have hm : l[10]? = some (l[10]'(by omega)) := List.getElem?_eq_getElem (by omega)
          rw [hm] at this
          have h62 : sml (l[10]'(by omega)) = 62 := by simpa [aloneT, postP] using this
          have := hab _ (List.getElem_mem (by omega : 10 < l.length))
          rw [fix62 _ h62] at this
          revert this
          decide
      · have := hat 1 (by omega)
        simp [low, aloneT, postP] at this
        revert this
        decide
    · have := hat 1 (by omega)
      simp [low, aloneT, postP] at this
      revert this
      decide
theorem null_no {st : Rs} (hn : st.null = false) {c : UInt8} {r : List UInt8} (h : st.rest = 60 :: c :: r) (hc : c ≠ 62) : nullR st = (false, st) := by
  have : takeR [60, 62] st = (false, st) := by
    refine take_fail ?_
    cases ht : (takeR [60, 62] st).1 with
    | false => rfl
    | true =>
      exfalso
      obtain ⟨a, ha, hb, _⟩ := take_some ht
      rw [h] at hb
      match a, ha, hb with
      | [], ha, _ => simp [low] at ha
      | [_], ha, _ => simp [low] at ha
      | a :: b :: _, ha, hb =>
        simp only [low, List.map_cons, List.cons.injEq] at ha
        injection hb with _ hb
        injection hb with hb _
        rw [← hb] at ha
        exact hc (fix62 _ ha.2.1)
  unfold nullR
  rw [this]
  simp only
  rw [← hn]
theorem alone_no {st : Rs} (h : takeR aloneT st = (false, st)) : aloneR st = (false, st) := by
  unfold aloneR
  unfold aloneT at h
  rw [h]
  rfl
/-- what a path's text is, is read -/
theorem parse_all {t x : List UInt8} {p : Pa} {lg : Bool} (h : PathT t p lg) : parseR (st0 (t ++ x)) = (true, withP (st0 []) p x lg) := by
  rcases h with ⟨rfl, rfl, rfl⟩ | ⟨h1, rfl, rfl⟩ | ⟨rt, ds, l1, bt, loc, d, lit, l2, h1, h2, rfl, rfl, rfl⟩
  · have : nullR (st0 ([60, 62] ++ x)) = (true, withP (st0 []) { null := true } x false) := by
      unfold nullR
      rw [take_all (l := [60, 62]) (x := x) (by decide) (st0 ([60, 62] ++ x)) rfl]
      rfl
    unfold parseR
    rw [eitherR, this]
    rfl
  · have hal : takeR aloneT (st0 (t ++ x)) = (true, st0 x) := take_all h1 _ rfl
    obtain ⟨c, r, hc, hne⟩ : ∃ c r, t = 60 :: c :: r ∧ c ≠ 62 := by
      match t, h1 with
      | [], h1 => simp [low, aloneT] at h1
      | [_], h1 => simp [low, aloneT, postP] at h1
      | a :: b :: r, h1 =>
        simp only [low, List.map_cons, aloneT, postP, List.cons_append, List.cons.injEq] at h1
        refine ⟨b, r, by rw [fix60 _ h1.1], ?_⟩
        rintro rfl
        exact absurd h1.2.1 (by decide)
    unfold parseR
    rw [eitherR, null_no (c := c) (r := r ++ x) rfl (by rw [hc]; rfl) hne]
    simp only [Bool.false_eq_true, if_false]
    rw [eitherR]
    have : aloneR (st0 (t ++ x)) = (true, withP (st0 []) { loc := postP } x false) := by
      unfold aloneR
      unfold aloneT at hal
      rw [hal]
      rfl
    rw [show ({ st0 (t ++ x) with rest := (st0 (t ++ x)).rest } : Rs) = st0 (t ++ x) from rfl, this]
    rfl
  · have hr : (st0 (60 :: (rt ++ (bt ++ [62])) ++ x)).rest = 60 :: (rt ++ (bt ++ 62 :: x)) := by simp [st0]
    obtain ⟨c, r, hc, hne⟩ : ∃ c r, (rt ++ (bt ++ 62 :: x)) = c :: r ∧ c ≠ 62 := by
      rcases h1 with ⟨rfl, _, _⟩ | ⟨e, L, _, rfl, _, _⟩
      · obtain ⟨c, r, rfl, h3⟩ := box_head h2
        refine ⟨c, _, rfl, ?_⟩
        rintro rfl
        rcases h3 with h3 | h3
        · exact absurd h3 (by decide)
        · revert h3; decide
      · exact ⟨64, _, rfl, by decide⟩
    have ha := full_not_alone (x := 62 :: x) h1 h2 _ hr
    unfold parseR
    rw [eitherR, null_no rfl (by rw [hr, hc]) hne]
    simp only [Bool.false_eq_true, if_false]
    rw [eitherR]
    rw [show ({ st0 (60 :: (rt ++ (bt ++ [62])) ++ x) with rest := (st0 (60 :: (rt ++ (bt ++ [62])) ++ x)).rest } : Rs) = st0 (60 :: (rt ++ (bt ++ [62])) ++ x) from rfl]
    rw [alone_no ha]
    simp only [Bool.false_eq_true, if_false]
    rw [eitherR]
    have hf : fullR (st0 (60 :: (rt ++ (bt ++ [62])) ++ x)) = (true, ⟨x, false, ds, loc, d, lit, l1 || l2⟩) := by
      unfold fullR andR
      rw [one_yes rfl _ _ hr]
      simp only [if_true]
      have hb64 : (bt ++ 62 :: x).head? ≠ some 64 := by
        obtain ⟨c, r, rfl, h3⟩ := box_head h2
        intro e
        obtain rfl : c = 64 := by simpa using e
        rcases h3 with h3 | h3
        · exact absurd h3 (by decide)
        · revert h3; decide
      rw [route_all h1 hb64 _ rfl]
      simp only [if_true]
      rw [box_all (x := 62 :: x) h2 (gt_stop x) _ rfl rfl]
      simp only [if_true]
      rw [one_yes rfl _ x rfl]
      simp [st0]
    rw [show ({ st0 (60 :: (rt ++ (bt ++ [62])) ++ x) with rest := (st0 (60 :: (rt ++ (bt ++ [62])) ++ x)).rest } : Rs) = st0 (60 :: (rt ++ (bt ++ [62])) ++ x) from rfl]
    rw [hf]
    rfl
theorem either_some : ∀ {ps : List Rd} {st st' : Rs}, eitherR ps st = (true, st') → (∀ p ∈ ps, ∀ s, (p s).1 = false → s.null = false → { (p s).2 with rest := s.rest } = s) → st.null = false → ∃ p ∈ ps, p st = (true, st')
  | [], _, _, h, _, _ => by rw [eitherR] at h; cases h
  | p :: ps, st, st', h, hk, hn => by
    rw [eitherR] at h
    split at h
    · exact ⟨p, by simp, h⟩
    · rename_i hp
      rw [hk p (by simp) st (by simpa using hp) hn] at h
      obtain ⟨q, hq, h2⟩ := either_some h (fun q hq => hk q (by simp [hq])) hn
      exact ⟨q, by simp [hq], h2⟩
theorem mailbox_head {st : Rs} (h : (mailboxR st).1 = true) : st.rest.head? ≠ some 64 := by
  unfold mailboxR at h
  obtain ⟨h1, _⟩ := and_some (st' := (mailboxR st).2) (Prod.ext h rfl)
  intro e
  have hq : quotedR st = (false, st) := by
    unfold quotedR
    rw [one_no fix34 st (by rw [e]; decide)]
    rfl
  rw [eitherR, hq] at h1
  simp only [Bool.false_eq_true, if_false] at h1
  rw [eitherR] at h1
  split at h1
  · rename_i h2
    obtain ⟨c, r, h3, h4⟩ := atoms_head (st := st) h2
    rw [h3] at e
    obtain rfl : c = 64 := by simpa using e
    revert h4
    decide
  · rw [eitherR] at h1; cases h1
/-- what is read is a path's text, and what is told of it -/
theorem parse_some {s : List UInt8} {st' : Rs} (h : parseR (st0 s) = (true, st')) : ∃ t p lg, PathT t p lg ∧ s = t ++ st'.rest ∧ st' = withP (st0 []) p st'.rest lg := by
  unfold parseR at h
  rw [eitherR] at h
  split at h
  · rename_i h1
    unfold nullR at h h1
    simp only at h h1
    obtain ⟨l, h2, h3, h4⟩ := take_some h1
    injection h with _ h
    have hl : l = [60, 62] := by
      match l, h2 with
      | [], h2 => simp [low] at h2
      | [_], h2 => simp [low] at h2
      | [a, b], h2 =>
        simp only [low, List.map_cons, List.map_nil, List.cons.injEq, and_true] at h2
        rw [fix60 _ h2.1, fix62 _ h2.2]
      | _ :: _ :: _ :: _, h2 => simp [low] at h2
    subst hl
    refine ⟨[60, 62], _, _, .inl ⟨rfl, rfl, rfl⟩, ?_, ?_⟩
    · rw [← h]; exact h3
    · rw [← h, h1, h4]; rfl
  · rename_i h1
    have hn : nullR (st0 s) = (false, st0 s) := by
      unfold nullR at h1 ⊢
      simp only [Bool.not_eq_true] at h1 ⊢
      rw [take_fail h1]
      rfl
    rw [hn, eitherR] at h
    rw [show ({ (false, st0 s).2 with rest := (st0 s).rest } : Rs) = st0 s from rfl] at h
    split at h
    · rename_i h2
      unfold aloneR at h h2
      cases ht : (takeR (60 :: postP ++ [62]) (st0 s)).1 with
      | false => rw [if_neg (by rw [ht]; decide)] at h2; cases h2
      | true =>
        rw [if_pos ht] at h
        obtain ⟨l, h3, h4, h5⟩ := take_some ht
        injection h with _ h
        refine ⟨l, _, _, .inr (.inl ⟨h3, rfl, rfl⟩), ?_, ?_⟩
        · rw [← h]; exact h4
        · rw [← h, h5]; rfl
    · rename_i h2
      have ha : aloneR (st0 s) = (false, st0 s) := by
        unfold aloneR at h2 ⊢
        cases ht : (takeR (60 :: postP ++ [62]) (st0 s)).1 with
        | false => rw [take_fail ht]; rfl
        | true => rw [if_pos ht] at h2; exact absurd rfl h2
      rw [ha, eitherR] at h
      rw [show ({ (false, st0 s).2 with rest := (st0 s).rest } : Rs) = st0 s from rfl] at h
      split at h
      · unfold fullR at h
        obtain ⟨k1, h⟩ := and_some h
        obtain ⟨k2, h⟩ := and_some h
        obtain ⟨k3, h⟩ := and_some h
        obtain ⟨x, e1, e2⟩ := one_some fix60 k1
        rw [e2] at k2 k3 h
        simp only at k2 k3 h
        obtain ⟨y, e3, e4⟩ := one_some fix62 (by rw [h])
        obtain ⟨rt, ds, l1, m1, m2, m3, m4, m5, m6, m7, m8⟩ := route_some (st' := (routeR { st0 s with rest := x }).2) (Prod.ext k2 rfl) (mailbox_head k3)
        obtain ⟨bt, loc, d, lit, l2, n1, n2, n3⟩ := box_some (st' := (mailboxR (routeR { st0 s with rest := x }).2).2) (Prod.ext k3 rfl) (by rw [e3]; exact gt_stop y) m7
        rw [h] at e4
        injection e4 with _ e4
        have e5 : st'.rest = y := by rw [e4]
        rw [e3] at n2 n3
        refine ⟨60 :: (rt ++ (bt ++ [62])), _, _, .inr (.inr ⟨rt, ds, l1, bt, loc, d, lit, l2, m1, n1, rfl, rfl, rfl⟩), ?_, ?_⟩
        · rw [e5]
          have : s = 60 :: x := e1
          rw [this]
          simp only at m2
          rw [m2, n2]
          simp
        · rw [e4, n3, m3, m4, m8]
          rfl
      · rw [eitherR] at h; cases h
end Go.Proofs.YtnkepdeegpampaaGreatDoor

/-
  The contract of path.Parse. Conditions: the text is of at most 2^40 bytes; the library's variable holds some value.
-/
namespace Go.Proofs.YtnkepdeegpampaaGreatDoor
open Go.RowKit Go.Shelf

/-- what is told of a text's beginning: the error, the path, how many bytes it has -/
def parseP (s : List UInt8) : Int × Pa × Nat :=
  if verdictP (parseR (st0 s)).1 (parseR (st0 s)).2.long = 0 then (0, paOf (parseR (st0 s)).2, s.length - (parseR (st0 s)).2.rest.length)
  else (verdictP (parseR (st0 s)).1 (parseR (st0 s)).2.long, {}, 0)
def paCells (p : Pa) (v : Value) : Array Value := #[.bool p.null, v, .string (bs p.loc), .string (bs p.dom), .bool p.lit]
def ParseOut (w : World) (s : List UInt8) (e : Ending) (w' : World) : Prop := ∃ v, e = .returned (.tuple #[.agg (paCells (parseP s).2.1 v), .int .i64 (((parseP s).2.2 : Nat) : Int), .int .i64 (parseP s).1]) ∧ w'.ownsRow w.heap.size 9 1 v (parseP s).2.1.route.length ((parseP s).2.1.route.map textV) ∧ Below w.heap.size w w'
theorem infoPath : (Tryz.prog.info? 26).map (·.size) = some 5 := by kernel_rfl
theorem path_parts (m : Nat) (hm : m ≤ 1099511627776) : ∀ x ∈ [(93, nullR), (94, aloneR), (95, fullR)], Reads hopI m x.1 x.2 ∧ Ent x.1 := by
  intro x hx
  simp only [List.mem_cons, List.mem_nil_iff, or_false] at hx
  rcases hx with rfl | rfl | rfl
  · exact ⟨(null_any m).weak fun _ _ _ => trivial, ent_m_null⟩
  · exact ⟨(alone_any m).weak fun _ _ _ => trivial, ent_m_alone⟩
  · exact ⟨full_any m hm, ent_m_full⟩
theorem path_keeps : ∀ (i : Nat) (x : Nat × Rd), [(93, nullR), (94, aloneR), (95, fullR)][i]? = some x → i + 1 < 3 → ∀ s st, hopI s st → hopI s { (x.2 st).2 with rest := st.rest }
  | 0, x, h, _, s, st, hI => by
    obtain rfl : (93, nullR) = x := by simpa using h
    have := (keep_take [60, 62] st).route
    unfold hopI nullR at *
    simpa [this] using hI
  | 1, x, h, _, s, st, hI => by
    obtain rfl : (94, aloneR) = x := by simpa using h
    have h1 : (aloneR st).2.route = st.route := by
      have := (keep_take (60 :: postP ++ [62]) st).route
      unfold aloneR
      split <;> exact this
    unfold hopI at *
    simp only
    rw [h1]
    exact hI
  | i + 2, _, _, h, _, _, _ => by omega
theorem own_form {W : World} {B z n : Nat} {e : TypeId} {v : Value} {xs : List Value} (h : W.ownsRow B e z v n xs) : ∃ a c, v = .slice a n c := by
  rcases h.2 with ⟨e1, e0⟩ | ⟨g, cap, cur, e1, _⟩
  · subst e0; exact ⟨none, 0, e1⟩
  · exact ⟨_, cap, e1⟩
set_option maxRecDepth 100000 in
set_option maxHeartbeats 1000000 in
theorem parse_fun (s : List UInt8) (hs : s.length ≤ 1099511627776) (w : World) (he : ErrAt w) (hg : ErrG < w.heap.size) : Calls Tryz.prog 72 #[.string (bs s)] w (ParseOut w s) := by
  obtain ⟨W0, hW0⟩ : ∃ W0, W0 = w.alloc (.cells #[.bool false, .slice none 0 0, .string ⟨#[]⟩, .string ⟨#[]⟩, .bool false] 26) := ⟨_, rfl⟩
  have hsz : W0.heap.size = w.heap.size + 1 := by rw [hW0, World.size_alloc]
  have hb0 : Below w.heap.size w W0 := by rw [hW0]; exact (Below.refl _ w).alloc (Nat.le_refl _) _
  have hx0 : Blk W0 w.heap.size 26 #[.bool false, .slice none 0 0, .string ⟨#[]⟩, .string ⟨#[]⟩, .bool false] := by rw [hW0]; exact Blk.new _ _ _
  obtain ⟨W1, hW1⟩ : ∃ W1, W1 = W0.alloc (rdNew s) := ⟨_, rfl⟩
  have hb1 : Below W0.heap.size W0 W1 := by rw [hW1]; exact (Below.refl _ W0).alloc (Nat.le_refl _) _
  have hr : RdAt W1 (w.heap.size + 1) s (st0 s) := by
    rw [hW1, ← hsz]
    exact new_reader W0 s (by omega) (he.below hb0 hg) (Nat.lt_of_lt_of_le hg (by omega))
  have hw1 : W1.heap.size = w.heap.size + 2 := by rw [hW1, World.size_alloc, hsz]
  unfold rdNew at hW1
  rw [hW0] at hW1
  obtain ⟨r, hrr⟩ : ∃ r, r = w.heap.size + 1 := ⟨_, rfl⟩
  rw [← hrr] at hr
  have HE := Lib.hid (either_any _ (path_parts 1099511627776 (Nat.le_refl _)) path_keeps 3 rfl (by decide) (hr.alloc (.cells #[meth 93 r, meth 94 r, meth 95 r] 34)) hs (by simp [hopI, st0]) (Blk.new W1 34 #[meth 93 r, meth 94 r, meth 95 r]) 3)
  have hpe : eitherR (([(93, nullR), (94, aloneR), (95, fullR)] : List (Nat × Rd)).map (·.2)) = parseR := rfl
  rw [hpe] at HE
  have HK0 := Lib.hid ((Kp.refl r W1).alloc (.cells #[meth 93 r, meth 94 r, meth 95 r] 34) (by omega))
  unfold meth at HE HK0
  rw [hrr] at HE HK0
  have HX := Lib.hid (fun W (hk : Kp (w.heap.size + 1) W1 W) => (show Blk W w.heap.size 26 #[.bool false, .slice none 0 0, .string ⟨#[]⟩, .string ⟨#[]⟩, .bool false] from (hx0.below hb1 hx0.lt).below hk.low (Nat.lt_succ_self _)))
  have HB := Lib.hid (fun W (hk : Kp (w.heap.size + 1) W1 W) => (show Below w.heap.size w W from low_trans hb0 (hb1.trans (hsz ▸ hk.low))))
  have HBS : Hid (∀ W' i u, Below w.heap.size w W' → Below w.heap.size w (W'.setCell ⟨w.heap.size, i, none⟩ u)) := fun W' i u h => h.setCell (p := ⟨w.heap.size, i, none⟩) (Nat.le_refl _) u
  have HYES : Hid (∀ W' v p, verdictP (parseR (st0 s)).1 (parseR (st0 s)).2.long = 0 → p + (parseR (st0 s)).2.rest.length = s.length → W'.ownsRow w.heap.size 9 1 v (parseR (st0 s)).2.route.length ((parseR (st0 s)).2.route.map textV) → Below w.heap.size w W' → ParseOut w s (.returned (.tuple #[.agg #[.bool (parseR (st0 s)).2.null, v, .string (bs (parseR (st0 s)).2.loc), .string (bs (parseR (st0 s)).2.dom), .bool (parseR (st0 s)).2.lit], .int .i64 ((p : Nat) : Int), .int .i64 0])) W') := fun W' v p hv hp ho h => by
    unfold ParseOut parseP
    rw [if_pos hv]
    refine ⟨v, ?_, ho, h⟩
    simp only [paCells, paOf]
    rw [show s.length - (parseR (st0 s)).2.rest.length = p from by omega]
  have HNO : Hid (∀ W' z, verdictP (parseR (st0 s)).1 (parseR (st0 s)).2.long = z → z ≠ 0 → Below w.heap.size w W' → ParseOut w s (.returned (.tuple #[.agg #[.bool false, .slice none 0 0, .string ⟨#[]⟩, .string ⟨#[]⟩, .bool false], .int .i64 0, .int .i64 z])) W') := fun W' z hv hz h => by
    unfold ParseOut parseP
    rw [if_neg (by rw [hv]; exact hz), hv]
    exact ⟨.slice none 0 0, rfl, World.ownsRow_nil _ _ _ _, h⟩
  generalize ParseOut w s = Q at *
  have hmf : ∀ (fn : Fn) (first cap : Array Value) (w : World), (Instr.makeFunc fn first cap).run Tryz.prog w = .ok (.func fn first cap) w := fun _ _ _ _ => rfl
  have HW1 := Lib.hid hW1
  clear hr he hg hs hb0 hb1 hx0 hW0 hW1 hsz hpe hw1
  clear hrr
  by_cases hv : verdictP (parseR (st0 s)).1 (parseR (st0 s)).2.long = 0
  · have HV := Lib.hid hv
    have HO := Lib.hid (fun W' v p => HYES.out W' v p hv)
    clear hv HYES HNO
    go_enter Tryz.func72, Tryz.ntmps72
    go_upto_region 2 with (fail)
    rw [← HW1.out]
    obtain ⟨r, hr⟩ : ∃ r, r = w.heap.size + 1 := ⟨_, rfl⟩
    rw [← hr] at HE HK0 HX HB ⊢
    clear HW1
    have HGR : Hid (w.heap.size < r) := by show _ < _; omega
    obtain ⟨g0, hg0⟩ : ∃ g0, g0 = w.heap.size := ⟨_, rfl⟩
    rw [← hg0] at HX HB HO HBS HGR ⊢
    clear hr hg0
    go_upto_region 5 with (first | (go_at_call 92; refine HE.out.mono ?_; rintro e w1 ⟨rfl, h1, hkp⟩; have H1 := Lib.hid h1; have HKP1 := Lib.hid (HK0.out.trans hkp); clear h1 hkp HE) | (go_at_call 91; refine (verdict_any H1.out _).mono ?_; rintro e w2 ⟨rfl, rfl⟩; rw [HV.out]))
    have hx := HX.out w2 HKP1.out
    obtain ⟨p1, v1, hr1⟩ := H1.out
    obtain ⟨va, vc, rfl⟩ := own_form hr1.own
    have c1 := hr1.cells.cell 1
    have c2 := hr1.cells.cell 2
    have c3 := hr1.cells.cell 3
    have c4 := hr1.cells.cell 4
    have c5 := hr1.cells.cell 5
    have c6 := hr1.cells.cell 6
    simp only [rdCells] at c1 c2 c3 c4 c5 c6
    simp at c1 c2 c3 c4 c5 c6
    have x0 := hx.cell 0
    have x1 := hx.cell 1
    have x2 := hx.cell 2
    have x3 := hx.cell 3
    have x4 := hx.cell 4
    have y0 := hx.frozen 0
    have y1 := hx.frozen 1
    have y2 := hx.frozen 2
    have y3 := hx.frozen 3
    have y4 := hx.frozen 4
    simp at x0 x1 x2 x3 x4
    have HX2 := Lib.hid hx
    have HR2 := Lib.hid hr1
    clear hx hr1
    have hn1 : ¬ g0 = r := by have := HGR.out; omega
    have hn2 : ¬ r = g0 := by have := HGR.out; omega
    go_region
    have HY := Lib.hid (((((((HX2.out.set_ 0 (.bool (parseR (st0 s)).2.null)).set_ 1 (.slice va (parseR (st0 s)).2.route.length vc)).set_ 2 (.string (bs (parseR (st0 s)).2.loc))).set_ 3 (.string (bs (parseR (st0 s)).2.dom))).set_ 4 (.bool (parseR (st0 s)).2.lit))).drew)
    have HL := Lib.hid ((HBS.out _ 4 (.bool (parseR (st0 s)).2.lit) (HBS.out _ 3 (.string (bs (parseR (st0 s)).2.dom)) (HBS.out _ 2 (.string (bs (parseR (st0 s)).2.loc)) (HBS.out _ 1 (.slice va (parseR (st0 s)).2.route.length vc) (HBS.out _ 0 (.bool (parseR (st0 s)).2.null) (HB.out w2 HKP1.out))))))).drew
    have HO2 := Lib.hid ((own_set (own_set (own_set (own_set (own_set HR2.out.own HX2.out (by decide) 0 (.bool (parseR (st0 s)).2.null)) (HX2.out.set_ 0 (.bool (parseR (st0 s)).2.null)) (by decide) 1 (.slice va (parseR (st0 s)).2.route.length vc)) ((HX2.out.set_ 0 (.bool (parseR (st0 s)).2.null)).set_ 1 (.slice va (parseR (st0 s)).2.route.length vc)) (by decide) 2 (.string (bs (parseR (st0 s)).2.loc))) (((HX2.out.set_ 0 (.bool (parseR (st0 s)).2.null)).set_ 1 (.slice va (parseR (st0 s)).2.route.length vc)).set_ 2 (.string (bs (parseR (st0 s)).2.loc))) (by decide) 3 (.string (bs (parseR (st0 s)).2.dom))) ((((HX2.out.set_ 0 (.bool (parseR (st0 s)).2.null)).set_ 1 (.slice va (parseR (st0 s)).2.route.length vc)).set_ 2 (.string (bs (parseR (st0 s)).2.loc))).set_ 3 (.string (bs (parseR (st0 s)).2.dom))) (by decide) 4 (.bool (parseR (st0 s)).2.lit)))
    have HCT := Lib.hid HR2.out.count
    clear HX2 HR2 hn1 hn2 x0 x1 x2 x3 x4 y0 y1 y2 y3 y4 c1 c2 c3 c4 c5 c6
    go_wp2
    refine bodyPost_ret (results_cell_tmp2 rfl _ _ g0 26 _ (0, 0) _ rfl HY.out Tryz.underlying26 rfl infoPath) rfl ?_
    exact HO.out _ _ p1 HCT.out (ownsRow_from (ownsRow_kept HO2.out (Below.refl _ _).drew) (by have := HGR.out; omega)) HL.out
  · have hz := verdict_ne _ _ hv
    obtain ⟨z, hzz⟩ : ∃ z, z = verdictP (parseR (st0 s)).1 (parseR (st0 s)).2.long := ⟨_, rfl⟩
    have HV := Lib.hid hzz.symm
    rw [← hzz] at hz hv
    have HO := Lib.hid (fun W' => HNO.out W' z HV.out hv)
    have hzb : (z == 0) = false := by simpa using hv
    clear HYES HNO hzz hz
    go_enter Tryz.func72, Tryz.ntmps72
    go_upto_region 2 with (fail)
    rw [← HW1.out]
    obtain ⟨r, hr⟩ : ∃ r, r = w.heap.size + 1 := ⟨_, rfl⟩
    rw [← hr] at HE HK0 HX HB ⊢
    clear HW1
    have HGR : Hid (w.heap.size < r) := by show _ < _; omega
    obtain ⟨g0, hg0⟩ : ∃ g0, g0 = w.heap.size := ⟨_, rfl⟩
    rw [← hg0] at HX HB HO HBS HGR ⊢
    clear hr hg0
    go_upto_region 4 with (first | (go_at_call 92; refine HE.out.mono ?_; rintro e w1 ⟨rfl, h1, hkp⟩; have H1 := Lib.hid h1; have HKP1 := Lib.hid (HK0.out.trans hkp); clear h1 hkp HE) | (go_at_call 91; refine (verdict_any H1.out _).mono ?_; rintro e w2 ⟨rfl, rfl⟩; rw [HV.out]))
    have hx := HX.out w2 HKP1.out
    have x0 := hx.cell 0
    have x1 := hx.cell 1
    have x2 := hx.cell 2
    have x3 := hx.cell 3
    have x4 := hx.cell 4
    have y0 := hx.frozen 0
    have y1 := hx.frozen 1
    have y2 := hx.frozen 2
    have y3 := hx.frozen 3
    have y4 := hx.frozen 4
    simp at x0 x1 x2 x3 x4
    have HX2 := Lib.hid hx
    clear hx
    have HY := Lib.hid ((((((HX2.out.set_ 0 (.bool false)).set_ 1 (.slice none 0 0)).set_ 2 (.string ⟨#[]⟩)).set_ 3 (.string ⟨#[]⟩)).set_ 4 (.bool false)))
    have HL := Lib.hid ((HBS.out _ 4 (.bool false) (HBS.out _ 3 (.string ⟨#[]⟩) (HBS.out _ 2 (.string ⟨#[]⟩) (HBS.out _ 1 (.slice none 0 0) (HBS.out _ 0 (.bool false) (HB.out w2 HKP1.out)))))))
    go_wp2
    refine bodyPost_ret (results_cell_tmp2 rfl _ _ g0 26 _ (0, 0) _ rfl HY.out Tryz.underlying26 rfl infoPath) rfl ?_
    exact HO.out _ HL.out
end Go.Proofs.YtnkepdeegpampaaGreatDoor

/-
  The contract of frankinglaw15.Same. Conditions: the routes lie in memory.
-/
namespace Go.Proofs.YtnkepdeegpampaaGreatDoor
open Go.RowKit Go.Shelf

def paV (p : Pa) (a : Option Addr) (c : Nat) : Value := .agg (paCells p (.slice a p.route.length c))
theorem toL_eq (a b : List UInt8) : ((bs a).toList == (bs b).toList) = decide (a = b) := by
  rw [bs_toL, bs_toL]
  by_cases h : a = b
  · subst h; simp
  · rw [decide_eq_false h]; simpa using h
theorem pa_ne {p q : Pa} (h : p.null ≠ q.null ∨ p.loc ≠ q.loc ∨ p.dom ≠ q.dom ∨ p.lit ≠ q.lit ∨ p.route ≠ q.route) : decide (p = q) = false := by
  refine decide_eq_false ?_
  rintro rfl
  rcases h with h | h | h | h | h <;> exact h rfl
theorem pa_eq {p q : Pa} (h1 : p.null = q.null) (h2 : p.loc = q.loc) (h3 : p.dom = q.dom) (h4 : p.lit = q.lit) (h5 : p.route = q.route) : decide (p = q) = true := by
  refine decide_eq_true ?_
  cases p
  cases q
  simp_all
def SameOut (w : World) (b : Bool) (e : Ending) (w' : World) : Prop := e = .returned (.bool b) ∧ Below w.heap.size w w'
set_option maxRecDepth 100000 in
set_option maxHeartbeats 2000000 in
theorem same_any (p q : Pa) (a1 a2 : Option Addr) (c1 c2 : Nat) (w : World) (h1 : TextsAt w a1 p.route) (h2 : TextsAt w a2 q.route) : Calls Tryz.prog 27 #[paV p a1 c1, paV q a2 c2] w (SameOut w (decide (p = q))) := by
  unfold paV paCells
  have HB : Hid (∀ o1 o2, Below w.heap.size w ((w.alloc o1).alloc o2)) := fun o1 o2 => (((Below.refl _ w).alloc (Nat.le_refl _) _).alloc (by rw [World.size_alloc]; omega) _)
  have HQ : Hid (∀ b w', b = decide (p = q) → Below w.heap.size w w' → SameOut w (decide (p = q)) (.returned (.bool b)) w') := fun b w' hb h => by subst hb; exact ⟨rfl, h⟩
  have hl := toL_eq p.loc q.loc
  have hd := toL_eq p.dom q.dom
  have HP := Lib.hid h1
  have HR := Lib.hid h2
  have hm1 := h1.len
  have hm2 := h2.len
  have HMX : Hid (p.route.length ≤ maxLen) := hm1
  generalize SameOut w (decide (p = q)) = Q at *
  clear h1 h2 hm1 hm2
  have HF : Hid (p.null ≠ q.null ∨ p.loc ≠ q.loc ∨ p.dom ≠ q.dom ∨ p.lit ≠ q.lit ∨ p.route ≠ q.route → ∀ w', Below w.heap.size w w' → Q (.returned (.bool false)) w') := fun h w' hb => HQ.out false w' (pa_ne h).symm hb
  by_cases e1 : p.null = q.null
  · have e1b : (p.null == q.null) = true := by simpa using e1
    by_cases e2 : p.loc = q.loc
    · rw [decide_eq_true e2] at hl
      by_cases e3 : p.dom = q.dom
      · rw [decide_eq_true e3] at hd
        by_cases e4 : p.lit = q.lit
        · have e4b : (p.lit == q.lit) = true := by simpa using e4
          by_cases e5 : p.route.length = q.route.length
          · have HT := Lib.hid (fun (h : p.route = q.route) w' (hb : Below w.heap.size w w') => HQ.out true w' (pa_eq e1 e2 e3 e4 h).symm hb)
            have HF2 := Lib.hid (fun (h : p.route ≠ q.route) => HF.out (.inr (.inr (.inr (.inr h)))))
            clear HF HQ e1 e2 e3 e4
            obtain ⟨n, hn⟩ : ∃ n, n = p.route.length := ⟨_, rfl⟩
            rw [← e5, ← hn]
            have HN1 := Lib.hid hn
            have HN2 := Lib.hid (hn.trans e5)
            clear hn e5
            generalize bs p.loc = x1 at *
            generalize bs q.loc = x2 at *
            generalize bs p.dom = x3 at *
            generalize bs q.dom = x4 at *
            generalize p.null = y1 at *
            generalize q.null = y2 at *
            generalize p.lit = y3 at *
            generalize q.lit = y4 at *
            go_enter Tryz.func27, Tryz.ntmps27
            go_wp2
            obtain ⟨W1, hW1⟩ : ∃ W1, W1 = w.alloc (.cells #[.bool y1, .slice a1 n c1, .string x1, .string x3, .bool y3] 26) := ⟨_, rfl⟩
            have hB1 : Blk W1 w.heap.size 26 #[.bool y1, .slice a1 n c1, .string x1, .string x3, .bool y3] := by rw [hW1]; exact Blk.new _ _ _
            have hs1 : W1.heap.size = w.heap.size + 1 := by rw [hW1, World.size_alloc]
            rw [← hW1]
            obtain ⟨W2, hW2⟩ : ∃ W2, W2 = W1.alloc (.cells #[.bool y2, .slice a2 n c2, .string x2, .string x4, .bool y4] 26) := ⟨_, rfl⟩
            have hB2 : Blk W2 (w.heap.size + 1) 26 #[.bool y2, .slice a2 n c2, .string x2, .string x4, .bool y4] := by rw [hW2, ← hs1]; exact Blk.new _ _ _
            have hB3 : Blk W2 w.heap.size 26 #[.bool y1, .slice a1 n c1, .string x1, .string x3, .bool y3] := by rw [hW2]; exact hB1.alloc _
            have hL : Below w.heap.size w W2 := by rw [hW2, hW1]; exact HB.out _ _
            rw [← hW2]
            have HL := Lib.hid hL
            have HG1 := Lib.hid hB3
            have HG2 := Lib.hid hB2
            have HP2 := Lib.hid (RowAt.below HP.out hL)
            have HR2 := Lib.hid (RowAt.below HR.out hL)
            obtain ⟨g1, hg1⟩ : ∃ g1, g1 = w.heap.size := ⟨_, rfl⟩
            obtain ⟨g2, hg2⟩ : ∃ g2, g2 = w.heap.size + 1 := ⟨_, rfl⟩
            rw [← hg2] at HG2 ⊢
            rw [← hg1] at HG1 HL ⊢
            have HT2 : Hid (p.route = q.route → ∀ m, Q (.returned (.bool true)) (W2.drewN m)) := fun h m => HT.out h _ (by rw [← hg1]; exact ⟨HL.out.os, HL.out.tape, HL.out.output, HL.out.size, HL.out.block⟩)
            have HF3 : Hid (p.route ≠ q.route → ∀ m, Q (.returned (.bool false)) (W2.drewN m)) := fun h m => HF2.out h _ (by rw [← hg1]; exact ⟨HL.out.os, HL.out.tape, HL.out.output, HL.out.size, HL.out.block⟩)
            clear hW1 hB1 hs1 hW2 hB2 hB3 hL hg1 hg2 HT HF2 HL HP HR HB
            have hnb : (n : Int) ≤ 9223372036854775807 := by have h1 := HMX.out; have h2 : n = p.route.length := HN1.out; unfold maxLen at h1; omega
            go_loopw [30] (fun i wr => ∃ k m : Nat, k ≤ n ∧ i = .int .i64 k ∧ Hid (p.route.take k = q.route.take k) ∧ Hid (wr = W2.drewN m)) (fun i _ => n - (intOf i).toNat)
            case atStart => exact ⟨0, 0, Nat.zero_le _, rfl, rfl, rfl⟩
            case round =>
              obtain ⟨k, m, hk, rfl, HE, HW⟩ := hrel
              have hk0 : (0 : Int) ≤ (k : Int) := by omega
              by_cases hlt : k < n
              · have hkp : k < p.route.length := by rw [← HN1.out]; exact hlt
                have hkq : k < q.route.length := by rw [← HN2.out]; exact hlt
                have hkz : (k : Int) < (n : Int) := by omega
                obtain ⟨b1, o1, rfl, r1⟩ := TextsAt.at_ HP2.out hkp
                obtain ⟨b2, o2, rfl, r2⟩ := TextsAt.at_ HR2.out hkq
                have d1 := HG1.out.cell 1
                have d2 := HG2.out.cell 1
                simp at d1 d2
                have hx := toL_eq p.route[k] q.route[k]
                have HST : Hid (p.route[k] = q.route[k] → p.route.take (k + 1) = q.route.take (k + 1)) := fun h => by
                  rw [List.take_succ_eq_append_getElem hkp, List.take_succ_eq_append_getElem hkq, h, HE.out]
                have HNE : Hid (p.route[k] ≠ q.route[k] → p.route ≠ q.route) := fun h e => h (by
                  have : p.route[k]? = q.route[k]? := by rw [e]
                  rw [List.getElem?_eq_getElem hkp, List.getElem?_eq_getElem hkq] at this
                  exact Option.some.inj this)
                have r1' : wr.cell? ⟨b1, o1 + k, none⟩ = some (.string (bs p.route[k])) := by rw [HW.out]; exact r1
                have r2' : wr.cell? ⟨b2, o2 + k, none⟩ = some (.string (bs q.route[k])) := by rw [HW.out]; exact r2
                have d1' : wr.cell? ⟨g1, 1, none⟩ = some (.slice (some ⟨b1, o1, none⟩) n c1) := by rw [HW.out]; exact d1
                have d2' : wr.cell? ⟨g2, 1, none⟩ = some (.slice (some ⟨b2, o2, none⟩) n c2) := by rw [HW.out]; exact d2
                clear r1 r2 d1 d2
                generalize hu : p.route[k] = u at *
                generalize hv : q.route[k] = v at *
                clear hu hv hkp hkq
                by_cases huv : u = v
                · rw [decide_eq_true huv] at hx
                  have HNX := Lib.hid (HST.out huv)
                  clear HST HNE huv
                  generalize bs u = su at *
                  generalize bs v = sv at *
                  go_wp2
                  go_quiet (fail)
                  go_wp2
                  go_roundw
                  case rel => exact ⟨k + 1, m + nq, by omega, by go_num, HNX.out, (by show _ = _; rw [HW.out]; exact drewN_add W2 m nq)⟩
                  case measure => simp [intOf]; omega
                · rw [decide_eq_false huv] at hx
                  have HNX := Lib.hid (HNE.out huv)
                  clear HST HNE huv
                  generalize bs u = su at *
                  generalize bs v = sv at *
                  go_wp2
                  go_quiet (fail)
                  go_wp2
                  rw [HW.out, drewN_add]
                  exact HF3.out HNX.out _
              · have hke : k = n := by omega
                have hkz : ¬ (k : Int) < (n : Int) := by omega
                have HRR : Hid (p.route = q.route) := by
                  have h1 := HE.out
                  rw [hke] at h1
                  rw [show n = p.route.length from HN1.out, List.take_length] at h1
                  rw [show p.route.length = q.route.length from HN1.out.symm.trans HN2.out, List.take_length] at h1
                  exact h1
                clear hke HE
                go_wp2
                rw [HW.out]
                exact HT2.out HRR.out m
          · have HO := Lib.hid (HF.out (.inr (.inr (.inr (.inr (fun h => e5 (by rw [h])))))))
            have e5z : ((p.route.length : Int) == (q.route.length : Int)) = false := by simp; omega
            clear HF HQ e1 e2 e3 e4 e5
            generalize bs p.loc = x1 at *
            generalize bs q.loc = x2 at *
            generalize bs p.dom = x3 at *
            generalize bs q.dom = x4 at *
            go_enter Tryz.func27, Tryz.ntmps27
            go_wp2
            exact HO.out _ (HB.out _ _)
        · have HO := Lib.hid (HF.out (.inr (.inr (.inr (.inl e4)))))
          have e4b : (p.lit == q.lit) = false := by simpa using e4
          clear HF HQ e1 e2 e3 e4
          generalize bs p.loc = x1 at *
          generalize bs q.loc = x2 at *
          generalize bs p.dom = x3 at *
          generalize bs q.dom = x4 at *
          go_enter Tryz.func27, Tryz.ntmps27
          go_wp2
          exact HO.out _ (HB.out _ _)
      · have HO := Lib.hid (HF.out (.inr (.inr (.inl e3))))
        rw [decide_eq_false e3] at hd
        clear HF HQ e1 e2 e3
        generalize bs p.loc = x1 at *
        generalize bs q.loc = x2 at *
        generalize bs p.dom = x3 at *
        generalize bs q.dom = x4 at *
        go_enter Tryz.func27, Tryz.ntmps27
        go_wp2
        exact HO.out _ (HB.out _ _)
    · have HO := Lib.hid (HF.out (.inr (.inl e2)))
      rw [decide_eq_false e2] at hl
      clear HF HQ e1 e2
      generalize bs p.loc = x1 at *
      generalize bs q.loc = x2 at *
      generalize bs p.dom = x3 at *
      generalize bs q.dom = x4 at *
      go_enter Tryz.func27, Tryz.ntmps27
      go_wp2
      exact HO.out _ (HB.out _ _)
  · have HO := Lib.hid (HF.out (.inl e1))
    clear HF HQ
    generalize p.null = n1 at *
    generalize q.null = n2 at *
    clear hl hd
    go_enter Tryz.func27, Tryz.ntmps27
    go_wp2
    exact HO.out _ (HB.out _ _)
end Go.Proofs.YtnkepdeegpampaaGreatDoor

/-
  What Parse told, as a path that lies in memory. No conditions.
-/
namespace Go.Proofs.YtnkepdeegpampaaGreatDoor
open Go.RowKit Go.Shelf

theorem ErrAt.later {w w' : World} (h : ErrAt w ∧ ErrG < w.heap.size) (hb : Below w.heap.size w w') : ErrAt w' ∧ ErrG < w'.heap.size := ⟨h.1.below hb h.2, Nat.lt_of_lt_of_le h.2 hb.size⟩
theorem bs_app (a b : List UInt8) : bs a ++ bs b = bs (a ++ b) := by
  unfold bs
  exact ByteArray.mk_append_mk a b
theorem parse_short (s : List UInt8) : (parseP s).2.2 ≤ s.length := by
  unfold parseP
  split
  · simp only; omega
  · exact Nat.zero_le _
/-- what Parse told, as a path that lies in memory -/
theorem told_form {w w' : World} {s : List UInt8} {e : Ending} (h : ParseOut w s e w') (hl : (parseP s).2.1.route.length ≤ maxLen) : ∃ a c, e = .returned (.tuple #[paV (parseP s).2.1 a c, .int .i64 (((parseP s).2.2 : Nat) : Int), .int .i64 (parseP s).1]) ∧ TextsAt w' a (parseP s).2.1.route ∧ Below w.heap.size w w' := by
  obtain ⟨v, h1, h2, h3⟩ := h
  obtain ⟨a, c, rfl, h4⟩ := own_slice h2 (by rw [List.length_map]; exact hl)
  exact ⟨a, c, h1, h4, h3⟩
theorem noTexts (w : World) (a : Option Addr) : TextsAt w a [] := ⟨by simp, fun h => by simp at h⟩
end Go.Proofs.YtnkepdeegpampaaGreatDoor
