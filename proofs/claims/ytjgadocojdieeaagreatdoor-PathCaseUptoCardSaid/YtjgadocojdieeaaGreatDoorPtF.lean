/-
  Paths in plain terms: what a text must be to be read as a path, and what is told of it; what is printed. No conditions.
-/
import Derived.Test.YtjgadocojdieeaaGreatDoorPtP
namespace Go.Proofs.YtjgadocojdieeaaGreatDoor

def dB (l : List UInt8) : Bool := allB domainR l
def dL (l : List UInt8) : Bool := (domainR (st0 l)).2.long
def aB (l : List UInt8) : Bool := allB atomsR l
def wB (l : List UInt8) : Bool := allB wordsR l
/-- what never says that there is too much -/
def NoL (g : Rd) : Prop := ∀ st, (g st).2.long = st.long
theorem nol_take (w : List UInt8) : NoL (takeR w) := by
  intro st
  unfold takeR
  split <;> rfl
theorem nol_eachF {part : Rd} (hp : NoL part) (sep : List UInt8) : ∀ (f many : Nat) (st : Rs), (eachF part sep f many st).2.long = st.long
  | 0, _, _ => rfl
  | f + 1, many, st => by
    have hs : (sepR sep many st).2.long = st.long := by
      unfold sepR
      split
      · rfl
      · exact nol_take sep st
    rw [eachF]
    split
    · exact hs
    · split
      · exact (hp _).trans hs
      · exact (nol_eachF hp sep f (many + 1) _).trans ((hp _).trans hs)
theorem nol_each {part : Rd} (hp : NoL part) (sep : List UInt8) (st : Rs) : (eachR part sep st).2.long = st.long := nol_eachF hp sep _ _ _
theorem nol_atoms : NoL atomsR := fun st => nol_each (fun _ => rfl) _ st
theorem nol_words : NoL wordsR := by
  intro st
  unfold wordsR
  have hg : NoL groupR := fun _ => rfl
  split
  · refine Eq.trans ?_ (nol_take ipv6P st)
    unfold addressR
    split
    · exact (nol_take _ _).trans (nol_each hg _ _)
    · exact (nol_each hg _ _).trans ((nol_take _ _).trans (nol_each hg _ _))
  · exact (nol_each (part := numberR) (fun _ => rfl) _ _).trans (nol_take ipv6P st)

/-- a domain, atoms, a literal's words, at a place of a text -/
theorem domain_all {x l : List UInt8} (hx : Stop x domStop) (h : dB l = true) (st : Rs) (hr : st.rest = l ++ x) : domainR st = (true, { st with rest := x, long := st.long || dL l }) := read_all (sim_domain hx) h st hr
theorem atoms_all {x l : List UInt8} (hx : Stop x atmStop) (h : aB l = true) (st : Rs) (hr : st.rest = l ++ x) : atomsR st = (true, { st with rest := x }) := by
  rw [read_all (sim_atoms hx) h st hr, nol_atoms]
  simp [st0]
theorem words_all {x l : List UInt8} (hx : Stop x litStop) (h : wB l = true) (st : Rs) (hr : st.rest = l ++ x) : wordsR st = (true, { st with rest := x }) := by
  rw [read_all (sim_words hx) h st hr, nol_words]
  simp [st0]
theorem domain_some (st : Rs) (hx : Stop (domainR st).2.rest domStop) (h : (domainR st).1 = true) : ∃ l, st.rest = l ++ (domainR st).2.rest ∧ l = used st (domainR st).2 ∧ dB l = true ∧ (domainR st).2 = { st with rest := (domainR st).2.rest, long := st.long || dL l } := by
  obtain ⟨h1, h2, h3⟩ := read_some suf_domain st (sim_domain hx) h
  exact ⟨_, h1, rfl, h2, h3⟩
theorem atoms_some (st : Rs) (hx : Stop (atomsR st).2.rest atmStop) (h : (atomsR st).1 = true) : ∃ l, st.rest = l ++ (atomsR st).2.rest ∧ l = used st (atomsR st).2 ∧ aB l = true ∧ (atomsR st).2 = { st with rest := (atomsR st).2.rest } := by
  obtain ⟨h1, h2, h3⟩ := read_some suf_atoms st (sim_atoms hx) h
  refine ⟨_, h1, rfl, h2, ?_⟩
  rw [nol_atoms] at h3
  simpa [st0] using h3
theorem words_some (st : Rs) (hx : Stop (wordsR st).2.rest litStop) (h : (wordsR st).1 = true) : ∃ l, st.rest = l ++ (wordsR st).2.rest ∧ l = used st (wordsR st).2 ∧ wB l = true ∧ (wordsR st).2 = { st with rest := (wordsR st).2.rest } := by
  obtain ⟨h1, h2, h3⟩ := read_some suf_words st (sim_words hx) h
  refine ⟨_, h1, rfl, h2, ?_⟩
  rw [nol_words] at h3
  simpa [st0] using h3
theorem used_app {st : Rs} {l x : List UInt8} {st' : Rs} (h : st.rest = l ++ x) (h' : st'.rest = x) : used st st' = l := by
  unfold used
  rw [h, h', List.length_append, Nat.add_sub_cancel, List.take_left]

/-- a fixed text at a place -/
theorem take_all {w l x : List UInt8} (h : low l = w) (st : Rs) (hr : st.rest = l ++ x) : takeR w st = (true, { st with rest := x }) := by
  have hl : l.length = w.length := by rw [← h, low_len]
  unfold takeR
  rw [hr, ← hl, List.take_left, if_pos h, List.drop_left]
theorem take_some {w : List UInt8} {st : Rs} (h : (takeR w st).1 = true) : ∃ l, low l = w ∧ st.rest = l ++ (takeR w st).2.rest ∧ (takeR w st).2 = { st with rest := (takeR w st).2.rest } := by
  obtain ⟨h1, h2, h3⟩ := takeR_yes w st h
  refine ⟨_, h1, ?_, by rw [h2]⟩
  rw [h2]
  exact (List.take_append_drop _ _).symm
theorem low_one {c : UInt8} (hc : ∀ e, sml e = c → e = c) {l : List UInt8} (h : low l = [c]) : l = [c] := by
  cases l with
  | nil => simp [low] at h
  | cons e r =>
    simp only [low, List.map_cons, List.cons.injEq] at h
    rw [hc e h.1, List.map_eq_nil_iff.1 h.2]
theorem fix34 : ∀ e, sml e = 34 → e = 34 := all_u8 (by decide +kernel)
theorem fix44 : ∀ e, sml e = 44 → e = 44 := all_u8 (by decide +kernel)
theorem fix58 : ∀ e, sml e = 58 → e = 58 := all_u8 (by decide +kernel)
theorem fix60 : ∀ e, sml e = 60 → e = 60 := all_u8 (by decide +kernel)
theorem fix62 : ∀ e, sml e = 62 → e = 62 := all_u8 (by decide +kernel)
theorem fix64 : ∀ e, sml e = 64 → e = 64 := all_u8 (by decide +kernel)
theorem fix91 : ∀ e, sml e = 91 → e = 91 := all_u8 (by decide +kernel)
theorem fix93 : ∀ e, sml e = 93 → e = 93 := all_u8 (by decide +kernel)
/-- one byte, that is no letter -/
theorem one_yes {c : UInt8} (hc : sml c = c) (st : Rs) (x : List UInt8) (h : st.rest = c :: x) : takeR [c] st = (true, { st with rest := x }) := take_all (l := [c]) (by simp [low, hc]) st h
theorem one_some {c : UInt8} (hc : ∀ e, sml e = c → e = c) {st : Rs} (h : (takeR [c] st).1 = true) : ∃ x, st.rest = c :: x ∧ takeR [c] st = (true, { st with rest := x }) := by
  obtain ⟨l, h1, h2, h3⟩ := take_some h
  have := low_one hc h1
  subst this
  exact ⟨(takeR [c] st).2.rest, h2, Prod.ext h h3⟩
theorem one_no {c : UInt8} (hc : ∀ e, sml e = c → e = c) (st : Rs) (h : st.rest.head? ≠ some c) : takeR [c] st = (false, st) := by
  cases ht : (takeR [c] st).1 with
  | true =>
    obtain ⟨x, h1, _⟩ := one_some hc ht
    rw [h1] at h
    exact absurd rfl h
  | false => exact Prod.ext ht (takeR_no _ _ ht)

/-- what stands in quotes: bytes as they are, and bytes behind a backslash -/
def quoT (ps : List (Bool × UInt8)) : List UInt8 := ps.flatMap fun p => if p.1 then [92, p.2] else [p.2]
def okQ (p : Bool × UInt8) : Prop := notB p.2 = false ∧ (p.1 = false → p.2 ≠ 34 ∧ p.2 ≠ 92)
theorem quoS_esc (acc : List UInt8) (c : UInt8) (r : List UInt8) : quoS acc (92 :: c :: r) = if notB c then (false, acc, c :: r) else quoS (acc ++ [c]) r := by rw [quoS]
theorem quoS_end (acc r : List UInt8) : quoS acc (34 :: r) = (true, acc, r) := by rw [quoS]
theorem quoS_on (acc : List UInt8) (c : UInt8) (r : List UInt8) (h : c ≠ 34) (h' : c ≠ 92) : quoS acc (c :: r) = if notB c then (false, acc, c :: r) else quoS (acc ++ [c]) r := by
  rw [quoS]
  · exact h
  · intro e; exact fun _ => h' e
  · intro _ _ e; exact fun _ => h' e
theorem quoS_all : ∀ (ps : List (Bool × UInt8)) (acc r : List UInt8), (∀ p ∈ ps, okQ p) → quoS acc (quoT ps ++ 34 :: r) = (true, acc ++ ps.map (·.2), r)
  | [], acc, r, _ => by simp [quoT, quoS_end]
  | (b, c) :: ps, acc, r, h => by
    have ih := quoS_all ps (acc ++ [c]) r (fun p hp => h p (by simp [hp]))
    obtain ⟨h1, h2⟩ := h (b, c) (by simp)
    have e : quoT ((b, c) :: ps) ++ 34 :: r = (if b then [92, c] else [c]) ++ (quoT ps ++ 34 :: r) := by simp [quoT]
    rw [e]
    simp only at h1 h2
    cases b with
    | true => simp only [if_true, List.cons_append, List.nil_append]; rw [quoS_esc, h1, if_neg (by simp), ih]; simp
    | false => simp only [Bool.false_eq_true, if_false, List.cons_append, List.nil_append]; rw [quoS_on _ _ _ (h2 rfl).1 (h2 rfl).2, h1, if_neg (by simp), ih]; simp
theorem quoS_some : ∀ (n : Nat) (l acc : List UInt8), l.length ≤ n → (quoS acc l).1 = true → ∃ ps, (∀ p ∈ ps, okQ p) ∧ l = quoT ps ++ 34 :: (quoS acc l).2.2 ∧ (quoS acc l).2.1 = acc ++ ps.map (·.2) := by
  intro n
  induction n with
  | zero => intro l acc h ht; obtain rfl := List.length_eq_zero_iff.1 (Nat.le_zero.1 h); simp [quoS] at ht
  | succ n ih =>
    intro l acc h ht
    match l, h, ht with
    | [], _, ht => simp [quoS] at ht
    | [c], h, ht =>
      by_cases h1 : c = 34
      · subst h1; exact ⟨[], by simp, by simp [quoT, quoS_end], by simp [quoS_end]⟩
      · by_cases h2 : c = 92
        · subst h2; simp [quoS] at ht
        · rw [quoS_on _ _ _ h1 h2] at ht
          split at ht <;> simp [quoS] at ht
    | c :: d :: r, h, ht =>
      by_cases h1 : c = 34
      · subst h1; exact ⟨[], by simp, by simp [quoT, quoS_end], by simp [quoS_end]⟩
      · by_cases h2 : c = 92
        · subst h2
          rw [quoS_esc] at ht ⊢
          cases hn : notB d with
          | true => rw [hn] at ht; simp at ht
          | false =>
            rw [hn] at ht
            simp only [Bool.false_eq_true, if_false] at ht ⊢
            obtain ⟨ps, h3, h4, h5⟩ := ih r (acc ++ [d]) (by simp at h; omega) ht
            refine ⟨(true, d) :: ps, ?_, ?_, ?_⟩
            · intro p hp
              rcases List.mem_cons.1 hp with rfl | hp
              · exact ⟨hn, by simp⟩
              · exact h3 p hp
            · have e : quoT ((true, d) :: ps) = 92 :: d :: quoT ps := by simp [quoT]
              rw [e, List.cons_append, List.cons_append, ← h4]
            · rw [h5]; simp
        · rw [quoS_on _ _ _ h1 h2] at ht ⊢
          cases hn : notB c with
          | true => rw [hn] at ht; simp at ht
          | false =>
            rw [hn] at ht
            simp only [Bool.false_eq_true, if_false] at ht ⊢
            obtain ⟨ps, h3, h4, h5⟩ := ih (d :: r) (acc ++ [c]) (by simp at h ⊢; omega) ht
            refine ⟨(false, c) :: ps, ?_, ?_, ?_⟩
            · intro p hp
              rcases List.mem_cons.1 hp with rfl | hp
              · exact ⟨hn, fun _ => ⟨h1, h2⟩⟩
              · exact h3 p hp
            · have e : quoT ((false, c) :: ps) = c :: quoT ps := by simp [quoT]
              rw [e, List.cons_append, ← h4]
            · rw [h5]; simp

/-- a text that is a local part, and how it is meant -/
def LocT (t m : List UInt8) : Prop := (aB t = true ∧ m = t) ∨ ∃ ps, (∀ p ∈ ps, okQ p) ∧ t = 34 :: (quoT ps ++ [34]) ∧ m = ps.map (·.2)
/-- a text that stands behind a mailbox's @, and what is told of it; whether it is too long -/
def DomT (t d : List UInt8) (lit lg : Bool) : Prop := (lit = false ∧ dB t = true ∧ d = low t ∧ lg = dL t) ∨ (lit = true ∧ lg = false ∧ ∃ w, wB w = true ∧ t = 91 :: (w ++ [93]) ∧ d = low w)
def BoxT (t loc d : List UInt8) (lit lg : Bool) : Prop := ∃ l u g, LocT l loc ∧ DomT u d lit g ∧ t = l ++ 64 :: u ∧ lg = (decide (64 < loc.length) || g)
theorem run_ne {p : UInt8 → Bool} {l : List UInt8} (h : l.takeWhile p ≠ []) : ∃ c r, l = c :: r ∧ p c = true := by
  cases l with
  | nil => simp at h
  | cons c r =>
    rw [List.takeWhile_cons] at h
    cases hc : p c with
    | true => exact ⟨c, r, rfl, hc⟩
    | false => rw [hc] at h; simp at h
theorem each_first {part : Rd} {sep : List UInt8} {st : Rs} (h : 0 < (eachR part sep st).1) : (part st).1 = true := by
  unfold eachR at h
  rw [eachF] at h
  cases hp : (part st).1 with
  | true => rfl
  | false => simp [sepR, hp] at h
/-- what atoms and domains begin with -/
theorem atoms_head {st : Rs} (h : (atomsR st).1 = true) : ∃ c r, st.rest = c :: r ∧ atmB c = true := by
  unfold atomsR at h
  have := each_first (of_decide_eq_true h)
  unfold atomR at this
  exact run_ne (by simpa [runL] using this)
theorem domain_head {st : Rs} (h : (domainR st).1 = true) : ∃ c r, st.rest = c :: r ∧ labB c = true := by
  unfold domainR labelsR at h
  have := each_first (of_decide_eq_true h)
  unfold labelR labOk at this
  refine run_ne (p := labB) (l := st.rest) ?_
  intro e
  simp [runL, e] at this
theorem aB_head {l : List UInt8} (h : aB l = true) : ∃ c r, l = c :: r ∧ atmB c = true := atoms_head (st := st0 l) (allB_iff.1 h).1
theorem dB_head {l : List UInt8} (h : dB l = true) : ∃ c r, l = c :: r ∧ labB c = true := domain_head (st := st0 l) (allB_iff.1 h).1
theorem at_stop : ∀ x, Stop (64 :: x) atmStop := fun x c h => by
  obtain rfl : 64 = c := by simpa using h
  decide
theorem loc_all {t m x : List UInt8} (h : LocT t m) (st : Rs) (hr : st.rest = t ++ 64 :: x) : eitherR [quotedR, plainR] st = (true, { st with rest := 64 :: x, loc := m, long := st.long || decide (64 < m.length) }) := by
  rcases h with ⟨h1, rfl⟩ | ⟨ps, h1, rfl, rfl⟩
  · obtain ⟨c, r, h2, h3⟩ := aB_head h1
    have hq : quotedR st = (false, st) := by
      unfold quotedR
      rw [one_no fix34 st (by rw [hr, h2]; simp; rintro rfl; revert h3; decide)]
      rfl
    have ha := atoms_all (at_stop x) h1 st hr
    have hp : plainR st = (true, { st with rest := 64 :: x, loc := m, long := st.long || decide (64 < m.length) }) := by
      unfold plainR
      rw [ha]
      simp only [meanR]
      rw [used_app hr rfl]
    rw [eitherR, hq]
    simp only [Bool.false_eq_true, if_false]
    rw [eitherR, hp]
    rfl
  · have hq : quotedR st = (true, { st with rest := 64 :: x, loc := ps.map (·.2), long := st.long || decide (64 < (ps.map (·.2)).length) }) := by
      unfold quotedR
      have h2 := quoS_all ps [] (64 :: x) h1
      rw [one_yes rfl st (quoT ps ++ 34 :: (64 :: x)) (by rw [hr]; simp)]
      simp only [h2]
      simp [meanR]
    rw [eitherR, hq]
    rfl
theorem br_stop : ∀ x, Stop (93 :: x) litStop := fun x c h => by
  obtain rfl : 93 = c := by simpa using h
  decide
theorem dom_all {t d x : List UInt8} {lit lg : Bool} (h : DomT t d lit lg) (hx : Stop x domStop) (st : Rs) (hl : st.lit = false) (hr : st.rest = t ++ x) : eitherR [bracketR, namedR] st = (true, { st with rest := x, dom := d, lit := lit, long := st.long || lg }) := by
  rcases h with ⟨rfl, h1, rfl, rfl⟩ | ⟨rfl, rfl, w, h1, rfl, rfl⟩
  · obtain ⟨c, r, h2, h3⟩ := dB_head h1
    have hb : bracketR st = (false, st) := by
      unfold bracketR
      rw [one_no fix91 st (by rw [hr, h2]; simp; rintro rfl; revert h3; decide)]
      rfl
    have hn : namedR st = (true, { st with rest := x, dom := low t, lit := false, long := st.long || dL t }) := by
      unfold namedR
      rw [domain_all hx h1 st hr]
      simp only
      rw [used_app hr rfl, hl]
    rw [eitherR, hb]
    simp only [Bool.false_eq_true, if_false]
    rw [eitherR, hn]
    rfl
  · have hb : bracketR st = (true, { st with rest := x, dom := low w, lit := true, long := st.long || false }) := by
      unfold bracketR
      rw [one_yes rfl st (w ++ 93 :: x) (by rw [hr]; simp)]
      rw [words_all (br_stop x) h1 _ rfl, one_yes rfl _ x rfl]
      simp only [Bool.true_eq_false, if_false]
      rw [used_app (l := w) (x := 93 :: x) rfl rfl]
      simp
    rw [eitherR, hb]
    rfl
theorem box_all {t loc d x : List UInt8} {lit lg : Bool} (h : BoxT t loc d lit lg) (hx : Stop x domStop) (st : Rs) (hl : st.lit = false) (hr : st.rest = t ++ x) : mailboxR st = (true, { st with rest := x, loc := loc, dom := d, lit := lit, long := st.long || lg }) := by
  obtain ⟨l, u, g, h1, h2, rfl, rfl⟩ := h
  unfold mailboxR andR
  rw [loc_all (x := u ++ x) h1 st (by rw [hr]; simp)]
  simp only [if_true]
  rw [one_yes rfl _ (u ++ x) rfl]
  simp only [if_true]
  rw [dom_all (lit := lit) (lg := g) (d := d) (x := x) h2 hx { st with rest := u ++ x, loc := loc, long := st.long || decide (64 < loc.length) } hl rfl]
  simp [Bool.or_assoc]

theorem either2 {g h : Rd} {st st' : Rs} (e : eitherR [g, h] st = (true, st')) : g st = (true, st') ∨ h { (g st).2 with rest := st.rest } = (true, st') ∧ (g st).1 = false := by
  rw [eitherR] at e
  split at e
  · exact .inl e
  · rename_i hg
    rw [eitherR] at e
    split at e
    · exact .inr ⟨e, by simpa using hg⟩
    · rw [eitherR] at e; cases e
/-- a reader that says no has changed nothing but its place, and what it knows of limits -/
theorem take_fail {w : List UInt8} {st : Rs} (h : (takeR w st).1 = false) : takeR w st = (false, st) := Prod.ext h (takeR_no w st h)
theorem quoted_some {st st' : Rs} (h : quotedR st = (true, st')) : ∃ t m, LocT t m ∧ st.rest = t ++ st'.rest ∧ st' = { st with rest := st'.rest, loc := m, long := st.long || decide (64 < m.length) } := by
  unfold quotedR at h
  split at h
  · cases h
  · rename_i h1
    obtain ⟨x, hx, e⟩ := one_some fix34 (by simpa using h1)
    rw [e] at h
    simp only at h
    split at h
    · cases h
    · rename_i h2
      obtain ⟨ps, h3, h4, h5⟩ := quoS_some _ x [] (Nat.le_refl _) (by simpa using h2)
      injection h with _ h
      rw [h5, List.nil_append] at h
      subst h
      refine ⟨34 :: (quoT ps ++ [34]), ps.map (·.2), .inr ⟨ps, h3, rfl, rfl⟩, ?_, rfl⟩
      rw [hx]
      conv => lhs; rw [h4]
      simp [meanR]
theorem quoted_no {st : Rs} (h : (quotedR st).1 = false) : (quotedR st).2 = { st with rest := (quotedR st).2.rest } := by
  unfold quotedR at h ⊢
  split
  · rename_i h1; rw [takeR_no _ _ h1]
  · rename_i h1
    rw [if_neg h1] at h
    obtain ⟨x, hx, e⟩ := one_some fix34 (by simpa using h1)
    split
    · rw [e]
    · rename_i h2; rw [if_neg h2] at h; cases h
theorem loc_some {st st' : Rs} {x : List UInt8} (h : eitherR [quotedR, plainR] st = (true, st')) (hx : st'.rest = 64 :: x) : ∃ t m, LocT t m ∧ st.rest = t ++ 64 :: x ∧ st' = { st with rest := 64 :: x, loc := m, long := st.long || decide (64 < m.length) } := by
  rcases either2 h with h | ⟨h, hq⟩
  · obtain ⟨t, m, h1, h2, h3⟩ := quoted_some h
    rw [hx] at h2 h3
    exact ⟨t, m, h1, h2, h3⟩
  · have e : ({ (quotedR st).2 with rest := st.rest } : Rs) = st := by rw [quoted_no hq]
    rw [e] at h
    unfold plainR at h
    injection h with h1 h2
    have hr : (atomsR st).2.rest = 64 :: x := by rw [← hx, ← h2]; rfl
    obtain ⟨l, h3, h4, h5, h6⟩ := atoms_some st (by rw [hr]; exact at_stop x) h1
    rw [hr] at h3 h6
    refine ⟨l, l, .inl ⟨h5, rfl⟩, h3, ?_⟩
    rw [← h2, ← h4]
    rw [h6]
    rfl
theorem words_long (st : Rs) : (wordsR st).2.long = st.long := nol_words st
/-- what a reader never touches -/
structure Kept (a b : Rs) : Prop where
  null : b.null = a.null
  route : b.route = a.route
  loc : b.loc = a.loc
  dom : b.dom = a.dom
  lit : b.lit = a.lit
theorem Kept.refl (a : Rs) : Kept a a := ⟨rfl, rfl, rfl, rfl, rfl⟩
theorem Kept.trans {a b c : Rs} (h : Kept a b) (k : Kept b c) : Kept a c := ⟨k.null.trans h.null, k.route.trans h.route, k.loc.trans h.loc, k.dom.trans h.dom, k.lit.trans h.lit⟩
theorem Kept.eq {a b : Rs} (h : Kept a b) (hl : b.long = a.long) : b = { a with rest := b.rest } := by
  obtain ⟨h1, h2, h3, h4, h5⟩ := h
  cases a
  cases b
  simp_all
theorem Kept.rest {a b : Rs} (h : Kept a b) (r : List UInt8) : Kept a { b with rest := r } := ⟨h.null, h.route, h.loc, h.dom, h.lit⟩
def KeepF (g : Rd) : Prop := ∀ st, Kept st (g st).2
theorem keep_take (w : List UInt8) : KeepF (takeR w) := by
  intro st
  unfold takeR
  split
  · exact ⟨rfl, rfl, rfl, rfl, rfl⟩
  · exact Kept.refl _
theorem keep_eachF {part : Rd} (hp : KeepF part) (sep : List UInt8) : ∀ (f many : Nat) (st : Rs), Kept st (eachF part sep f many st).2
  | 0, _, _ => Kept.refl _
  | f + 1, many, st => by
    have hs : Kept st (sepR sep many st).2 := by
      unfold sepR
      split
      · exact Kept.refl _
      · exact keep_take sep st
    rw [eachF]
    split
    · exact hs.rest _
    · split
      · exact (hs.trans (hp _)).rest _
      · exact (hs.trans (hp _)).trans (keep_eachF hp sep f (many + 1) _)
theorem keep_each {part : Rd} (hp : KeepF part) (sep : List UInt8) (st : Rs) : Kept st (eachR part sep st).2 := keep_eachF hp sep _ _ _
theorem keep_words : KeepF wordsR := by
  intro st
  unfold wordsR
  have hg : KeepF groupR := fun _ => ⟨rfl, rfl, rfl, rfl, rfl⟩
  have hn : KeepF numberR := fun _ => ⟨rfl, rfl, rfl, rfl, rfl⟩
  have h1 := keep_take ipv6P st
  split
  · unfold addressR
    have h2 := h1.trans (keep_each hg [58] (takeR ipv6P st).2)
    have h3 := h2.trans (keep_take [58, 58] (eachR groupR [58] (takeR ipv6P st).2).2)
    split
    · exact h3
    · exact h3.trans (keep_each hg [58] _)
  · exact h1.trans (keep_each hn [46] _)
theorem bracket_some {st st' : Rs} (h : bracketR st = (true, st')) : ∃ w, wB w = true ∧ st.rest = 91 :: (w ++ 93 :: st'.rest) ∧ st' = { st with rest := st'.rest, dom := low w, lit := true } := by
  unfold bracketR at h
  split at h
  · cases h
  · rename_i h1
    obtain ⟨x, hx, e⟩ := one_some fix91 (by simpa using h1)
    rw [e] at h
    simp only at h
    split at h
    · cases h
    · rename_i h2
      split at h
      · cases h
      · rename_i h3
        obtain ⟨y, hy, e2⟩ := one_some fix93 (by simpa using h3)
        obtain ⟨w, h4, h5, h6, h7⟩ := words_some { st with rest := x } (by rw [hy]; exact br_stop y) (by simpa using h2)
        rw [e2] at h
        injection h with _ h
        rw [← h5] at h
        rw [hy] at h4
        subst h
        refine ⟨w, h6, by rw [hx]; simp only at h4; rw [h4], ?_⟩
        rw [h7]
theorem bracket_no {st : Rs} (h : (bracketR st).1 = false) : (bracketR st).2 = { st with rest := (bracketR st).2.rest } := by
  unfold bracketR at h ⊢
  split
  · rename_i h1; rw [takeR_no _ _ h1]
  · rename_i h1
    rw [if_neg h1] at h
    obtain ⟨x, hx, e⟩ := one_some fix91 (by simpa using h1)
    rw [e] at h ⊢
    simp only at h ⊢
    have hk := (keep_words { st with rest := x }).eq (words_long _)
    split
    · rw [hk]
    · rename_i h2
      rw [if_neg h2] at h
      split
      · rename_i h3; rw [takeR_no _ _ h3, hk]
      · rename_i h3; rw [if_neg h3] at h; cases h
theorem dom_some {st st' : Rs} (h : eitherR [bracketR, namedR] st = (true, st')) (hx : Stop st'.rest domStop) (hl : st.lit = false) : ∃ t d lit lg, DomT t d lit lg ∧ st.rest = t ++ st'.rest ∧ st' = { st with rest := st'.rest, dom := d, lit := lit, long := st.long || lg } := by
  rcases either2 h with h | ⟨h, hq⟩
  · obtain ⟨w, h1, h2, h3⟩ := bracket_some h
    exact ⟨91 :: (w ++ [93]), low w, true, false, .inr ⟨rfl, rfl, w, h1, rfl, rfl⟩, by rw [h2]; simp, by rw [Bool.or_false]; exact h3⟩
  · have e : ({ (bracketR st).2 with rest := st.rest } : Rs) = st := by rw [bracket_no hq]
    rw [e] at h
    unfold namedR at h
    injection h with h1 h2
    have hr : (domainR st).2.rest = st'.rest := by rw [← h2]
    obtain ⟨l, h3, h4, h5, h6⟩ := domain_some st (by rw [hr]; exact hx) h1
    rw [hr] at h3 h6
    refine ⟨l, low l, false, dL l, .inl ⟨rfl, h5, rfl, rfl⟩, h3, ?_⟩
    rw [← h4, h6] at h2
    rw [← h2, ← hl]
theorem and_some {g h : Rd} {st st' : Rs} (e : andR g h st = (true, st')) : (g st).1 = true ∧ h (g st).2 = (true, st') := by
  unfold andR at e
  split at e
  · rename_i h1; exact ⟨h1, e⟩
  · cases e
theorem box_some {st st' : Rs} (h : mailboxR st = (true, st')) (hx : Stop st'.rest domStop) (hl : st.lit = false) : ∃ t loc d lit lg, BoxT t loc d lit lg ∧ st.rest = t ++ st'.rest ∧ st' = { st with rest := st'.rest, loc := loc, dom := d, lit := lit, long := st.long || lg } := by
  unfold mailboxR at h
  obtain ⟨h1, h2⟩ := and_some h
  obtain ⟨h3, h4⟩ := and_some h2
  obtain ⟨x, h5, h6⟩ := one_some fix64 h3
  obtain ⟨t, m, k1, k2, k3⟩ := loc_some (st' := (eitherR [quotedR, plainR] st).2) (Prod.ext h1 rfl) h5
  rw [h6, k3] at h4
  obtain ⟨u, d, lit, lg, m1, m2, m3⟩ := dom_some h4 hx hl
  simp only at m2
  refine ⟨t ++ 64 :: u, m, d, lit, _, ⟨t, u, lg, k1, m1, rfl, rfl⟩, by rw [k2, m2]; simp, ?_⟩
  rw [← Bool.or_assoc]
  exact m3

/-- domains of a route behind the first one -/
def hopsT (L : List (List UInt8)) : List UInt8 := L.flatMap fun d => 44 :: 64 :: d
theorem hop_all {d x : List UInt8} (hx : Stop x domStop) (h : dB d = true) (st : Rs) (hr : st.rest = 64 :: (d ++ x)) : hopR st = (true, { st with rest := x, route := st.route ++ [low d], long := st.long || dL d }) := by
  unfold hopR
  rw [one_yes rfl st _ hr, domain_all hx h _ rfl]
  simp only [Bool.true_eq_false, if_false]
  rw [used_app (l := d) (x := x) rfl rfl]
/-- what may stand behind a route's domains -/
def hopStop (c : UInt8) : Bool := domStop c && c != 44
theorem hopStop_dom {x : List UInt8} (h : Stop x hopStop) : Stop x domStop := h.mono (fun c hc => by unfold hopStop at hc; revert hc; cases domStop c <;> simp)
theorem hops_stop (L : List (List UInt8)) {x : List UInt8} (hx : Stop x domStop) : Stop (hopsT L ++ x) domStop := by
  cases L with
  | nil => exact hx
  | cons d L =>
    intro c hc
    obtain rfl : 44 = c := by simpa [hopsT] using hc
    decide
theorem stop_ne {x : List UInt8} (hx : Stop x hopStop) : x.head? ≠ some 44 := by
  intro e
  have := hx 44 e
  revert this
  decide
theorem hops_all {x : List UInt8} (hx : Stop x hopStop) : ∀ (L : List (List UInt8)) (f many : Nat) (st : Rs), many ≠ 0 → (∀ d ∈ L, dB d = true) → L.length + 1 ≤ f → st.rest = hopsT L ++ x →
    eachF hopR [44] f many st = (many + L.length, { st with rest := x, route := st.route ++ L.map low, long := st.long || L.any dL })
  | [], 0, _, _, _, _, h, _ => by simp at h
  | [], f + 1, many, st, hm, _, _, hr => by
    have hs : sepR [44] many st = (false, st) := by
      unfold sepR
      rw [if_neg hm]
      exact one_no fix44 st (by rw [hr]; exact stop_ne hx)
    rw [eachF, hs]
    have hr' : st.rest = x := hr
    simp [hr']
  | d :: L, 0, _, _, _, _, h, _ => by simp at h
  | d :: L, f + 1, many, st, hm, hd, hf, hr => by
    have hs : sepR [44] many st = (true, { st with rest := 64 :: (d ++ (hopsT L ++ x)) }) := by
      unfold sepR
      rw [if_neg hm]
      exact one_yes rfl st _ (by rw [hr]; simp [hopsT])
    rw [eachF, hs]
    simp only [Bool.true_eq_false, if_false]
    rw [hop_all (hops_stop L (hopStop_dom hx)) (hd d (by simp)) _ rfl]
    simp only [Bool.true_eq_false, if_false]
    rw [hops_all hx L f (many + 1) _ (by omega) (fun e he => hd e (by simp [he])) (by simp at hf ⊢; omega) rfl]
    simp only [List.length_cons, List.map_cons, List.any_cons, List.append_assoc, List.singleton_append, Bool.or_assoc]
    rw [show many + 1 + L.length = many + (L.length + 1) from by omega]
theorem hop_some {st : Rs} (h : (hopR st).1 = true) (hx : Stop (hopR st).2.rest domStop) : ∃ d, dB d = true ∧ st.rest = 64 :: (d ++ (hopR st).2.rest) ∧ (hopR st).2 = { st with rest := (hopR st).2.rest, route := st.route ++ [low d], long := st.long || dL d } := by
  unfold hopR at h hx ⊢
  split at h
  · cases h
  · rename_i h1
    split at h
    · cases h
    · rename_i h2
      rw [if_neg h1, if_neg h2] at hx ⊢
      obtain ⟨x, e1, e2⟩ := one_some fix64 (by simpa using h1)
      rw [e2] at h2 hx ⊢
      obtain ⟨d, k1, k2, k3, k4⟩ := domain_some _ hx (by simpa using h2)
      refine ⟨d, k3, by rw [e1]; exact congrArg _ k1, ?_⟩
      rw [← k2]
      rw [k4]
theorem hops_some : ∀ (f many : Nat) (st : Rs), many ≠ 0 → st.rest.length + 1 ≤ f → Stop (eachF hopR [44] f many st).2.rest hopStop →
    ∃ L, (∀ d ∈ L, dB d = true) ∧ st.rest = hopsT L ++ (eachF hopR [44] f many st).2.rest ∧ (eachF hopR [44] f many st).1 = many + L.length ∧ (eachF hopR [44] f many st).2 = { st with rest := (eachF hopR [44] f many st).2.rest, route := st.route ++ L.map low, long := st.long || L.any dL }
  | 0, _, _, _, h, _ => by omega
  | f + 1, many, st, hm, hf, hx => by
    rw [eachF] at hx ⊢
    split
    · rename_i h1
      have hs : sepR [44] many st = takeR [44] st := by unfold sepR; rw [if_neg hm]
      rw [hs] at h1 ⊢
      refine ⟨[], by simp, by simp [hopsT], by simp, ?_⟩
      rw [takeR_no _ _ h1]
      simp
    · rename_i h1
      rw [if_neg h1] at hx
      have hs : sepR [44] many st = takeR [44] st := by unfold sepR; rw [if_neg hm]
      rw [hs] at h1 hx ⊢
      obtain ⟨y, e1, e2⟩ := one_some fix44 (by simpa using h1)
      rw [e2] at hx ⊢
      split
      · rename_i h2
        simp only [h2, if_true] at hx
        exfalso
        exact stop_ne hx (by rw [e1]; rfl)
      · rename_i h2
        rw [if_neg h2] at hx
        have hlen : (hopR { st with rest := y }).2.rest.length ≤ y.length := (suf_hop _).length_le
        have hy : st.rest.length = y.length + 1 := by rw [e1]; rfl
        obtain ⟨L, k1, k2, k3, k4⟩ := hops_some f (many + 1) (hopR { st with rest := y }).2 (by omega) (by omega) hx
        obtain ⟨d, m1, m2, m3⟩ := hop_some (by simpa using h2) (by rw [k2]; exact hops_stop L (hopStop_dom hx))
        refine ⟨d :: L, ?_, ?_, ?_, ?_⟩
        · intro e he
          rcases List.mem_cons.1 he with rfl | he
          · exact m1
          · exact k1 e he
        · refine (e1.trans (congrArg (List.cons 44) (m2.trans (congrArg (fun z => 64 :: (d ++ z)) k2)))).trans ?_
          simp [hopsT]
        · rw [k3]; simp; omega
        · rw [k4, m3]
          simp [Bool.or_assoc]
end Go.Proofs.YtjgadocojdieeaaGreatDoor
