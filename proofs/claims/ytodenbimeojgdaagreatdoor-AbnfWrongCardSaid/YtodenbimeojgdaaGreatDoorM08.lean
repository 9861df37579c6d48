/-
  Merged texts (BackP, BackQ, Nd, GrA, GrB, GrC, GrD, BackN, BrQ), each under a head of its own that says what it proves and under which conditions.
-/
import Derived.Test.YtodenbimeojgdaaGreatDoorM07
import Derived.Test.YtodenbimeojgdaaGreatDoorM06
import Derived.BigQuiet
/-
  A rule's text is read as that rule, and how long it is: in plain terms. No conditions.
-/
namespace Go.Proofs.YtodenbimeojgdaaGreatDoor
open Go.RowKit

theorem timesText_len (mn mx : Int) (h : timesB mn mx = true) : (timesTextP mn mx).length ≤ 9 := by
  have hb : (0 ≤ mn ∧ mn ≤ 9999) ∧ (mx = -1 ∨ mn ≤ mx ∧ mx ≤ 9999) := by
    unfold timesB at h
    simpa using h
  obtain ⟨⟨h0, h1⟩, h2⟩ := hb
  obtain ⟨_, _, _, i1⟩ := itoa_facts mn h0 h1
  unfold timesTextP
  split
  · omega
  · by_cases hx : 0 ≤ mx
    · obtain ⟨_, _, _, i2⟩ := itoa_facts mx hx (by omega)
      rw [if_pos hx]
      split
      · simp only [List.length_append, List.length_cons, List.length_nil]; omega
      · simp only [List.length_append, List.length_cons, List.length_nil]; omega
    · rw [if_neg hx]
      split
      · simp only [List.length_append, List.length_cons, List.length_nil]; omega
      · simp
theorem hexes_len (b : List UInt8) (hb : b.length ≤ 1) : ∀ (l a : List UInt8), (hexesP a b l).length ≤ a.length + 3 * l.length := by
  intro l
  induction l with
  | nil => intro a; simp [hexesP]
  | cons x r ih =>
    intro a
    have := ih b
    show (a ++ pairP x ++ hexesP b b r).length ≤ _
    simp only [List.length_append, pairP, List.length_cons, List.length_nil]
    omega
theorem kids_mass (d : Nat) (br : List Int) (b : List UInt8) (hb : b.length ≤ 3) : ∀ (ks : List Tr) (a : List UInt8), a.length ≤ 3 → (∀ k ∈ ks, (printD d k).length + 5 ≤ 16 * massD d k) → (kidsF (printD d) a b br ks).length ≤ 16 * (ks.map (massD d)).sum := by
  intro ks
  induction ks with
  | nil => intro a _ _; simp [kidsF]
  | cons k r ih =>
    intro a ha hk
    have h1 := ih b hb (fun k' hk' => hk k' (List.mem_cons_of_mem _ hk'))
    have h2 := hk k (by simp)
    have h3 : (kidP (printD d) br k).length ≤ (printD d k).length + 2 := by
      unfold kidP
      split
      · simp only [List.length_append, List.length_cons, List.length_nil]; omega
      · omega
    show (a ++ kidP (printD d) br k ++ kidsF (printD d) b b br r).length ≤ _
    simp only [List.length_append, List.map_cons, List.sum_cons]
    omega
theorem print_mass : ∀ (d : Nat) (t : Tr), rightD d t = true → (printD d t).length + 5 ≤ 16 * massD d t := by
  intro d
  induction d with
  | zero => intro t h; cases h
  | succ d ih =>
    intro t h
    have h : (aloneB t && t.kids.all (rightD d)) = true := h
    rw [Bool.and_eq_true] at h
    obtain ⟨ha, hk⟩ := h
    have hkids : ∀ k ∈ t.kids, (printD d k).length + 5 ≤ 16 * massD d k := fun k hm => ih k (List.all_eq_true.1 hk k hm)
    show (printD (d + 1) t).length + 5 ≤ 16 * (t.text.length + 1 + (t.kids.map (massD d)).sum)
    unfold printD
    unfold aloneB at ha
    split
    · omega
    · rename_i n1
      rw [if_neg n1] at ha
      split
      · simp only [List.length_append, List.length_cons, List.length_nil]; omega
      · rename_i n2
        rw [if_neg n2] at ha
        split
        · have := hexes_len [46] (by simp) t.text [37, 120]
          simp only [List.length_cons, List.length_nil] at this
          omega
        · rename_i n3
          rw [if_neg n3] at ha
          split
          · have := hexes_len [45] (by simp) [byteOf t.lo, byteOf t.hi] [37, 120]
            simp only [List.length_cons, List.length_nil] at this
            omega
          · rename_i n4
            rw [if_neg n4] at ha
            split
            · rename_i n7
              rw [if_neg (by omega), if_pos n7] at ha
              have ht : timesB t.mn t.mx = true := by
                simp only [Bool.and_eq_true] at ha
                exact ha.1.2
              have h1 := timesText_len _ _ ht
              have h2 := kids_mass d [7, 5, 6] [] (by simp) t.kids [] (by simp) hkids
              have h2 : (kidsP (printD d) [] [7, 5, 6] t.kids).length ≤ 16 * (t.kids.map (massD d)).sum := h2
              rw [List.length_append]
              omega
            · split
              · have h2 : (kidsP (printD d) [32] [5, 6] t.kids).length ≤ 16 * (t.kids.map (massD d)).sum := kids_mass d [5, 6] [32] (by simp) t.kids [] (by simp) hkids
                omega
              · split
                · have h2 : (kidsP (printD d) [32, 47, 32] [6] t.kids).length ≤ 16 * (t.kids.map (massD d)).sum := kids_mass d [6] [32, 47, 32] (by simp) t.kids [] (by simp) hkids
                  omega
                · simp only [List.length_nil]; omega

theorem small_same (c : UInt8) (h : smallZ c.toNat = true ∨ digitZ c.toNat = true ∨ c.toNat = 45) : smallC c = c := by
  unfold smallC
  rw [if_neg]
  rintro ⟨h1, h2⟩
  have h1 : 65 ≤ c.toNat := UInt8.le_iff_toNat_le.1 h1
  have h2 : c.toNat ≤ 90 := UInt8.le_iff_toNat_le.1 h2
  rcases h with h | h | h
  · unfold smallZ at h
    simp only [Bool.and_eq_true, decide_eq_true_eq] at h
    omega
  · unfold digitZ at h
    simp only [Bool.and_eq_true, decide_eq_true_eq] at h
    omega
  · omega
theorem tail_kinds (c : UInt8) (h : nameTailZ c.toNat = true) : smallZ c.toNat = true ∨ digitZ c.toNat = true ∨ c.toNat = 45 := by
  unfold nameTailZ at h
  simp only [Bool.or_eq_true, beq_iff_eq] at h
  rcases h with (h | h) | h
  · exact .inl h
  · exact .inr (.inl h)
  · exact .inr (.inr (by omega))
theorem small_letter (c : UInt8) (h : smallZ c.toNat = true) : letterZ c.toNat = true := by
  unfold letterZ
  unfold smallZ at h
  rw [h]
  rfl
theorem tail_named (c : UInt8) (h : nameTailZ c.toNat = true) : namedZ c.toNat = true := by
  unfold nameTailZ at h
  unfold namedZ
  simp only [Bool.or_eq_true] at h ⊢
  rcases h with (h | h) | h
  · exact .inl (.inl (small_letter c h))
  · exact .inl (.inr h)
  · exact .inr h
/-- a right name is a name, and its own small one -/
theorem name_facts (n : List UInt8) (h : nameB n = true) : (∃ c r, n = c :: r ∧ letterZ c.toNat = true ∧ ∀ d ∈ n, namedZ d.toNat = true) ∧ n.map smallC = n := by
  cases n with
  | nil => cases h
  | cons c r =>
    have h : (smallZ c.toNat && r.all (fun c => nameTailZ c.toNat)) = true := h
    rw [Bool.and_eq_true] at h
    obtain ⟨h1, h2⟩ := h
    have h2 : ∀ d ∈ r, nameTailZ d.toNat = true := List.all_eq_true.1 h2
    have hc : nameTailZ c.toNat = true := by unfold nameTailZ; rw [h1]; rfl
    have hall : ∀ d ∈ c :: r, nameTailZ d.toNat = true := fun d hd => by
      rcases List.mem_cons.1 hd with rfl | hd
      · exact hc
      · exact h2 d hd
    refine ⟨⟨c, r, rfl, small_letter c h1, fun d hd => tail_named d (hall d hd)⟩, ?_⟩
    have : (c :: r).map smallC = (c :: r).map id := List.map_congr_left (fun d hd => small_same d (tail_kinds d (hall d hd)))
    rw [this, List.map_id]
/-- a printed rule is read as that rule -/
theorem printed_back (name : List UInt8) (more : Bool) (t : Tr) (hb : byteD 100 t) (s : List UInt8) (h : printP name more t = (s, 0)) (hl : s.length ≤ 60000) : ∃ p, ofP s = ([{ name := name, place := p, more := more, tree := t }], 0, 0) := by
  unfold printP at h
  by_cases hn : (nameB name && rightB t) = true
  · rw [if_pos hn] at h
    rw [Bool.and_eq_true] at hn
    obtain ⟨h1, h2⟩ := hn
    obtain ⟨f1, f2⟩ := name_facts name h1
    have hs : name ++ (if more then [32, 61, 47, 32] else [32, 61, 32]) ++ printD 100 t = s := congrArg Prod.fst h
    have hm : Mid (printD 100 t) (toksD 100 t) := by
      have := print_reads 100 t h2 hb [] [] (.inl rfl) mid_nil
      rw [List.append_nil, List.append_nil] at this
      exact this
    have := of_line name f1 (by rw [f2]; exact h1) more (printD 100 t) (toksD 100 t) t hm (no10_print 100 t h2) (contT_of t h2) h2 (by rw [hs]; omega)
    rw [hs, f2] at this
    exact this
  · rw [if_neg hn] at h
    have := congrArg Prod.snd h
    simp at this
/-- what is not printed -/
theorem printed_not (name : List UInt8) (more : Bool) (t : Tr) (h : (printP name more t).2 ≠ 0) : printP name more t = ([], 2) ∧ (nameB name && rightB t) = false := by
  unfold printP at *
  by_cases hn : (nameB name && rightB t) = true
  · rw [if_pos hn] at h
    exact absurd rfl h
  · rw [if_neg hn]
    exact ⟨rfl, by simpa using hn⟩
theorem printed_len (name : List UInt8) (more : Bool) (t : Tr) (m : Nat) (hm : massD 100 t ≤ m) (hn : name.length + m ≤ 1048576) : (printP name more t).1.length ≤ 16777220 := by
  unfold printP
  by_cases h : (nameB name && rightB t) = true
  · rw [if_pos h]
    rw [Bool.and_eq_true] at h
    have := print_mass 100 t h.2
    show (name ++ (if more = true then [32, 61, 47, 32] else [32, 61, 32]) ++ printD 100 t).length ≤ _
    have h4 : (if more = true then [32, 61, 47, 32] else [32, 61, 32] : List UInt8).length ≤ 4 := by cases more <;> simp
    simp only [List.length_append]
    omega
  · rw [if_neg h]
    simp
end Go.Proofs.YtodenbimeojgdaaGreatDoor

/-
  What any text's rules are like: bytes that are bytes, texts and sizes within bounds. No conditions.
-/
namespace Go.Proofs.YtodenbimeojgdaaGreatDoor
open Go.RowKit

/-! ### a range's ends are bytes -/
def RangeOk (t : Tk) : Prop := t.kind = 12 → (0 ≤ t.lo ∧ t.lo ≤ 255) ∧ (0 ≤ t.hi ∧ t.hi ≤ 255)
theorem rng_none (p : Pc) (h : p.tok = {}) : RangeOk p.tok := by
  rw [h]
  intro h
  exact absurd h (by decide)
theorem rng_not {t : Tk} (h : t.kind ≠ 12) : RangeOk t := fun e => absurd e h
theorem rng_times (l : List UInt8) : RangeOk (timesP l).tok := by
  unfold timesP
  have ht : ∀ a b k, RangeOk (timesTok a b k).tok := fun a b k => rng_not (by simp [timesTok])
  split
  · exact rng_none _ rfl
  · split
    · split
      · exact rng_none _ rfl
      · split
        · split
          · exact rng_none _ rfl
          · exact ht _ _ _
        · exact ht _ _ _
    · exact ht _ _ _
theorem rng_chars (l : List UInt8) : RangeOk (charsP l).tok := by
  unfold charsP
  cases quoteAt (l.drop 1) with
  | none => exact rng_none _ rfl
  | some i => exact rng_not (by show ¬ (10 : Int) = 12; omega)
theorem rng_values (l : List UInt8) : RangeOk (valuesP l).tok := by
  obtain ⟨hb0, hb1⟩ := baseZ_bd l
  unfold valuesP
  cases hv : valueZ l 2 (baseZ l) with
  | none => exact rng_none _ rfl
  | some ak =>
    obtain ⟨a, k⟩ := ak
    have hb := valueZ_bd hb0 hb1 hv
    rw [valuesOf]
    split
    · cases hv2 : valueZ l (k + 1) (baseZ l) with
      | none => exact rng_none _ rfl
      | some bk =>
        obtain ⟨b, k2⟩ := bk
        have hb2 := valueZ_bd hb0 hb1 hv2
        rw [rangeOf]
        split
        · exact rng_none _ rfl
        · exact fun _ => ⟨⟨hb.1, hb.2.1⟩, ⟨hb2.1, hb2.2.1⟩⟩
    · cases hm : moreVals l (baseZ l) (l.length + 1) k [a] with
      | none => exact rng_none _ rfl
      | some nk => exact rng_not (by show ¬ (11 : Int) = 12; omega)
theorem rng_sign (kind : Int) (t : List UInt8) (l : List UInt8) (h : kind ≠ 12) : RangeOk ((signRow kind t).2 l).tok := rng_not h
theorem rng_table (l : List UInt8) : ∀ row ∈ table, RangeOk (row.2 l).tok := by
  intro row h
  simp only [table, List.mem_cons, List.not_mem_nil, or_false] at h
  rcases h with rfl | rfl | rfl | rfl | rfl | rfl | rfl | rfl | rfl | rfl | rfl | rfl | rfl | rfl | rfl
  · exact rng_none _ rfl
  · exact rng_none _ rfl
  · exact rng_not (by show ¬ (1 : Int) = 12; omega)
  · exact rng_sign _ _ l (by decide)
  · exact rng_sign _ _ l (by decide)
  · exact rng_sign _ _ l (by decide)
  · exact rng_sign _ _ l (by decide)
  · exact rng_sign _ _ l (by decide)
  · exact rng_sign _ _ l (by decide)
  · exact rng_sign _ _ l (by decide)
  · exact rng_times l
  · exact rng_chars l
  · exact rng_values l
  · exact rng_none _ rfl
  · exact rng_none _ rfl
theorem rng_pick (l : List UInt8) (rows : List Row) (hr : ∀ row ∈ rows, RangeOk (row.2 l).tok) : RangeOk (pick rows l).tok := by
  induction rows with
  | nil => exact rng_none _ rfl
  | cons row rows ih =>
    obtain ⟨p, r⟩ := row
    rw [pick]
    split
    · exact hr (p, r) (by simp)
    · exact ih fun row h => hr row (by simp [h])
theorem rng_read (l : List UInt8) : RangeOk (readP l).tok := rng_pick l table (rng_table l)
def AllRng (toks : List Tk) : Prop := ∀ t ∈ toks, RangeOk t
theorem AllRng.snoc {toks : List Tk} {t : Tk} (h : AllRng toks) (ht : RangeOk t) : AllRng (toks ++ [t]) := fun x hx => by
  rcases List.mem_append.1 hx with hx | hx
  · exact h x hx
  · rw [List.mem_singleton] at hx; subst hx; exact ht
theorem rng_end (k : Nat) : RangeOk (endTok k) := rng_not (by simp [endTok])
theorem tokens_rng (ln : List UInt8) (start : Nat) : ∀ (f at_ : Nat) (toks : List Tk), AllRng toks → AllRng (tokensF ln start f at_ toks).1 := by
  intro f
  induction f with
  | zero => intro at_ toks h; exact h
  | succ f ih =>
    intro at_ toks h
    rw [tokensF]
    split
    · exact h
    · split
      · exact h
      · refine ih _ _ ?_
        have hr : RangeOk (readP (ln.drop at_)).tok := rng_read (ln.drop at_)
        split
        · exact h.snoc hr
        · exact h
theorem line_rng (ln : List UInt8) (k : Nat) (toks : List Tk) (o : Bool) (h : AllRng toks) : AllRng (lineP ln k toks o).toks := by
  unfold lineP
  split
  · exact h
  · split
    · refine tokens_rng ln k _ _ _ ?_
      split
      · exact h.snoc (rng_end _)
      · exact h
    · split
      · exact tokens_rng ln k _ _ _ h
      · exact h
theorem closed_rng (l : List UInt8) (toks : List Tk) (o : Bool) (h : AllRng toks) : AllRng (closed l toks o) := by
  unfold closed
  split
  · exact h.snoc (rng_end _)
  · exact h
theorem lexF_rng (l : List UInt8) : ∀ (f k : Nat) (toks : List Tk) (o : Bool), AllRng toks → AllRng (lexF l f k toks o).1 := by
  intro f
  induction f with
  | zero => intro k toks o h; exact closed_rng l _ _ h
  | succ f ih =>
    intro k toks o h
    rw [lexF]
    split
    · exact closed_rng l _ _ h
    · split
      · exact fun t ht => by cases ht
      · exact ih _ _ _ (line_rng _ _ _ _ h)
theorem lex_rng (l : List UInt8) : AllRng (lexP l).1 := by
  unfold lexP
  split
  · exact fun t ht => by cases ht
  · exact lexF_rng l _ _ _ _ (fun t ht => by cases ht)

/-! ### a tree's facts from its leaves -/
def leafMass (l : List Tk) : Nat := (l.map fun t => t.text.length + 1).sum
theorem leafMass_append (a b : List Tk) : leafMass (a ++ b) = leafMass a + leafMass b := by simp [leafMass, List.sum_append]
theorem leaf_in_kids {ks : List Tr} {k : Tr} (h : k ∈ ks) : ∀ x ∈ leavesT k, x ∈ leavesL ks := by
  induction ks with
  | nil => cases h
  | cons a r ih =>
    intro x hx
    rw [leavesL, List.mem_append]
    rcases List.mem_cons.1 h with rfl | h
    · exact .inl hx
    · exact .inr (ih h x hx)
theorem mass_kids (d : Nat) : ∀ (ks : List Tr), (∀ k ∈ ks, massD d k ≤ d * leafMass (leavesT k) ∧ 1 ≤ leafMass (leavesT k)) → (ks.map (massD d)).sum ≤ d * leafMass (leavesL ks) ∧ (0 < ks.length → 1 ≤ leafMass (leavesL ks)) := by
  intro ks
  induction ks with
  | nil => intro _; exact ⟨by simp, fun h => by simp at h⟩
  | cons k r ih =>
    intro h
    obtain ⟨h1, _⟩ := ih fun k' hk' => h k' (List.mem_cons_of_mem _ hk')
    obtain ⟨h2, h3⟩ := h k (by simp)
    rw [leavesL, leafMass_append, List.map_cons, List.sum_cons, Nat.mul_add]
    exact ⟨by omega, fun _ => by omega⟩
theorem tree_facts (M : Nat) (hM : M ≤ maxLen) : ∀ (d : Nat) (t : Tr), rightD d t = true → (∀ x ∈ leavesT t, RangeOk x ∧ x.text.length ≤ M) → byteD d t ∧ textD d t ∧ massD d t ≤ d * leafMass (leavesT t) ∧ 1 ≤ leafMass (leavesT t) := by
  intro d
  induction d with
  | zero => intro t h; cases h
  | succ d ih =>
    intro t h hx
    obtain ⟨e, he, ha, hkids⟩ := right_kinds h
    obtain rfl : d = e := by omega
    have z : (0 : Int) ≤ 0 ∧ (0 : Int) ≤ 255 := by omega
    have leaf : ∀ (t : Tr) (x : Tk), leavesT t = [x] → t.kids = [] → (0 ≤ t.lo ∧ t.lo ≤ 255) → (0 ≤ t.hi ∧ t.hi ≤ 255) → t.text.length ≤ M → t.text.length = x.text.length → byteD (d + 1) t ∧ textD (d + 1) t ∧ massD (d + 1) t ≤ (d + 1) * leafMass (leavesT t) ∧ 1 ≤ leafMass (leavesT t) := by
      intro t x hl hk h1 h2 h3 h4
      refine ⟨⟨h1, h2, fun k hk' => by rw [hk] at hk'; cases hk'⟩, ⟨by omega, fun k hk' => by rw [hk] at hk'; cases hk'⟩, ?_, ?_⟩
      · show t.text.length + 1 + (t.kids.map (massD d)).sum ≤ _
        rw [hl, hk]
        show t.text.length + 1 + 0 ≤ (d + 1) * ((x.text.length + 1) + 0)
        rw [h4, Nat.add_zero, Nat.add_zero]
        exact Nat.le_mul_of_pos_left _ (by omega)
      · rw [hl]
        show 1 ≤ (x.text.length + 1) + 0
        omega
    have inner : ∀ (t : Tr), leavesT t = leavesL t.kids → 0 < t.kids.length → t.lo = 0 → t.hi = 0 → t.text = [] → (∀ k ∈ t.kids, rightD d k = true) → (∀ x ∈ leavesT t, RangeOk x ∧ x.text.length ≤ M) → byteD (d + 1) t ∧ textD (d + 1) t ∧ massD (d + 1) t ≤ (d + 1) * leafMass (leavesT t) ∧ 1 ≤ leafMass (leavesT t) := by
      intro t hl hn h1 h2 h3 hk hx
      have each : ∀ k ∈ t.kids, _ := fun k hm => ih k (hk k hm) (fun x hx' => hx x (by rw [hl]; exact leaf_in_kids hm x hx'))
      obtain ⟨m1, m2⟩ := mass_kids d t.kids (fun k hm => (each k hm).2.2)
      have m2 := m2 hn
      refine ⟨⟨by rw [h1]; exact z, by rw [h2]; exact z, fun k hm => (each k hm).1⟩, ⟨by rw [h3]; exact Nat.zero_le _, fun k hm => (each k hm).2.1⟩, ?_, by rw [hl]; exact m2⟩
      show t.text.length + 1 + (t.kids.map (massD d)).sum ≤ _
      rw [hl, h3, Nat.add_mul]
      show 0 + 1 + _ ≤ _
      omega
    rcases alone_kind ha with k1 | k2 | k3 | k4 | k5 | k6 | k7
    · obtain ⟨_, e⟩ := alone_1 ha k1
      generalize t.text = tx at e
      subst e
      have := hx _ (by rw [leavesT_eq, if_pos (.inl rfl)]; exact List.mem_singleton.2 rfl)
      exact leaf _ (leafTok 1 tx 0 0) (by rw [leavesT_eq, if_pos (.inl rfl)]; rfl) rfl z z this.2 rfl
    · obtain ⟨_, e⟩ := alone_2 ha k2
      generalize t.text = tx at e
      subst e
      have := hx _ (by rw [leavesT_eq, if_pos (.inr (.inl rfl))]; exact List.mem_singleton.2 rfl)
      exact leaf _ (leafTok 2 tx 0 0) (by rw [leavesT_eq, if_pos (.inr (.inl rfl))]; rfl) rfl z z this.2 rfl
    · obtain ⟨_, e⟩ := alone_3 ha k3
      generalize t.text = tx at e
      subst e
      have := hx _ (by rw [leavesT_eq, if_pos (.inr (.inr (.inl rfl)))]; exact List.mem_singleton.2 rfl)
      exact leaf _ (leafTok 3 tx 0 0) (by rw [leavesT_eq, if_pos (.inr (.inr (.inl rfl)))]; rfl) rfl z z this.2 rfl
    · obtain ⟨_, e⟩ := alone_4 ha k4
      generalize t.lo = lo at e
      generalize t.hi = hi at e
      subst e
      have := hx _ (by rw [leavesT_eq, if_pos (.inr (.inr (.inr rfl)))]; exact List.mem_singleton.2 rfl)
      obtain ⟨r1, r2⟩ := this.1 rfl
      exact leaf _ (leafTok 4 [] lo hi) (by rw [leavesT_eq, if_pos (.inr (.inr (.inr rfl)))]; rfl) rfl r1 r2 (Nat.zero_le _) rfl
    · obtain ⟨h2, e⟩ := alone_56 ha (.inl k5)
      refine inner t (by rw [leavesT_eq, if_neg (by omega)]) (by omega) (by rw [e]; rfl) (by rw [e]; rfl) (by rw [e]; rfl) hkids hx
    · obtain ⟨h2, e⟩ := alone_56 ha (.inr k6)
      refine inner t (by rw [leavesT_eq, if_neg (by omega)]) (by omega) (by rw [e]; rfl) (by rw [e]; rfl) (by rw [e]; rfl) hkids hx
    · obtain ⟨_, kid, e⟩ := alone_7 ha k7
      refine inner t (by rw [leavesT_eq, if_neg (by omega)]) (by rw [e]; exact Nat.zero_lt_one) (by rw [e]; rfl) (by rw [e]; rfl) (by rw [e]; rfl) hkids hx

/-! ### any text's rules -/
/-- what the printer asks of a rule -/
structure Fit (r : Rl) : Prop where
  bytes : byteD 100 r.tree
  texts : textD 100 r.tree
  name : r.name.length ≤ maxLen
  len : (printP r.name r.more r.tree).1.length ≤ 140737488355328
theorem printed_most (name : List UInt8) (more : Bool) (t : Tr) (m : Nat) (hm : massD 100 t ≤ m) : (printP name more t).1.length ≤ name.length + 4 + 16 * m := by
  unfold printP
  by_cases h : (nameB name && rightB t) = true
  · rw [if_pos h]
    rw [Bool.and_eq_true] at h
    have := print_mass 100 t h.2
    show (name ++ (if more = true then [32, 61, 47, 32] else [32, 61, 32]) ++ printD 100 t).length ≤ _
    have h4 : (if more = true then [32, 61, 47, 32] else [32, 61, 32] : List UInt8).length ≤ 4 := by cases more <;> simp
    simp only [List.length_append]
    omega
  · rw [if_neg h]
    simp
theorem mem_mass {l : List Tk} {B : Nat} (h : ∀ t ∈ l, t.text.length ≤ B) : leafMass l ≤ l.length * (B + 1) := by
  induction l with
  | nil => simp [leafMass]
  | cons a r ih =>
    have h1 := h a (by simp)
    have h2 := ih fun t ht => h t (List.mem_cons_of_mem _ ht)
    show (a.text.length + 1) + leafMass r ≤ (r.length + 1) * (B + 1)
    rw [Nat.add_mul]
    omega
theorem sub_mass {rs : List Rl} {r : Rl} (h : r ∈ rs) : leafMass (leavesT r.tree) ≤ leafMass (rs.flatMap ruleLeaves) := by
  induction rs with
  | nil => cases h
  | cons a q ih =>
    have e : (a :: q).flatMap ruleLeaves = [nameTok a.name] ++ (leavesT a.tree ++ q.flatMap ruleLeaves) := by simp [ruleLeaves]
    rw [e, leafMass_append, leafMass_append]
    rcases List.mem_cons.1 h with rfl | h
    · omega
    · have := ih h
      omega
theorem rules_fit (l : List UInt8) (hl : l.length ≤ 2000) (he : (ofP l).2.2 = 0) : ∀ r ∈ (ofP l).1, Fit r := by
  intro r hr
  unfold ofP at he hr
  by_cases h0 : (lexP l).2.2 = 0
  · rw [if_pos h0] at he hr
    obtain ⟨h1, _, h3⟩ := leaves_ok l (by omega) h0 he
    obtain ⟨hright, p, x, _, hnm, hlen, _, _⟩ := h3 r hr
    have hwant : ∀ y ∈ wantL (lexP l).1, RangeOk y ∧ y.text.length ≤ 2000 := by
      intro y hy
      obtain ⟨tk, htk, rfl⟩ := List.mem_map.1 hy
      have htk := (List.mem_filter.1 htk).1
      refine ⟨lex_rng l tk htk, ?_⟩
      have hf := (lex_fine l tk htk).2
      show (if tk.kind = 1 then tk.text.map smallC else tk.text).length ≤ 2000
      split
      · rw [List.length_map]; omega
      · omega
    have hin : ∀ y ∈ leavesT r.tree, RangeOk y ∧ y.text.length ≤ 2000 := by
      intro y hy
      refine hwant y ?_
      rw [← h1, List.mem_flatMap]
      exact ⟨r, hr, List.mem_cons_of_mem _ hy⟩
    obtain ⟨b1, b2, b3, _⟩ := tree_facts 2000 (by unfold maxLen; omega) 100 r.tree hright hin
    have hm : leafMass (leavesT r.tree) ≤ 4001 * 2001 := by
      refine Nat.le_trans (sub_mass hr) ?_
      rw [h1]
      refine Nat.le_trans (mem_mass (B := 2000) fun t ht => (hwant t ht).2) ?_
      have g1 := wantL_len (lexP l).1
      have g2 := lexP_len l
      exact Nat.mul_le_mul_right _ (by omega)
    have hname : r.name.length ≤ 2000 := by rw [hnm, List.length_map]; omega
    have hp := printed_most r.name r.more r.tree _ b3
    exact ⟨b1, b2, by unfold maxLen; omega, by omega⟩
  · rw [if_neg h0] at he
    exact absurd he (by simp only; omega)
end Go.Proofs.YtodenbimeojgdaaGreatDoor

/-
  The contract of frankinglow's Nodes: it answers some number from 1 to one above the bound. Conditions: the tree lies in memory; a bound of at most 300.
-/
namespace Go.Proofs.YtodenbimeojgdaaGreatDoor
open Go.RowKit

def NodesOut (most : Nat) (e : Ending) : Prop := ∃ m : Nat, e = .returned (.int .i64 m) ∧ 1 ≤ m ∧ m ≤ most + 1

set_option maxRecDepth 100000 in
set_option maxHeartbeats 1600000 in
theorem nodes_aux {w : World} {S : Nat → Prop} {ks : List Tr} {sl : Value} (h : KidsAt w S ks sl) : ∀ (t : Tr), t.kids = ks → ∀ (most deep : Nat) (w' : World), most ≤ 300 → deep ≤ 201 → Below w.heap.size w w' →
    Calls Tryz.prog 23 #[treeV t sl, .int .i64 most, .int .i64 deep] w' fun e w2 => NodesOut most e ∧ Below w'.heap.size w' w2 := by
  induction h with
  | nil p cap =>
    intro t ht most deep w' hmost hdeep hw
    unfold treeV
    go_enter Tryz.func23, Tryz.ntmps23
    go_wp2
    go_loopw [7, 12] (fun c i wr => c = .int .i64 1 ∧ i = .int .i64 0 ∧ Below w'.heap.size w' wr) (fun _ _ _ => 0)
    case atStart => exact ⟨rfl, rfl, (Below.refl _ _).alloc (Nat.le_refl _) _⟩
    case round =>
      obtain ⟨rfl, rfl, hbel⟩ := hrel
      go_wp2
      go_ret
      exact ⟨⟨1, rfl, Nat.le_refl _, by omega⟩, hbel⟩
  | row kids b off cap sls hS hlt hn hcap hm htx hc hk ih =>
    intro t ht most deep w' hmost hdeep hw
    have HIH : Hid (∀ i x, kids[i]? = some x → ∀ (most deep : Nat) (w' : World), most ≤ 300 → deep ≤ 201 → Below w.heap.size w w' → Calls Tryz.prog 23 #[treeV x (sls i), .int .i64 most, .int .i64 deep] w' fun e w2 => NodesOut most e ∧ Below w'.heap.size w' w2) := by
      intro i x hx
      obtain ⟨hi, he⟩ := List.getElem?_eq_some_iff.1 hx
      subst he
      exact ih i hi _ rfl
    have HC : Hid (∀ i x, kids[i]? = some x → (w.cell? ⟨b, off + i * 7, none⟩ = some (.int .u8 x.kind) ∧ w.cell? ⟨b, off + i * 7 + 1, none⟩ = some (.string (bs x.text)) ∧ w.cell? ⟨b, off + i * 7 + 2, none⟩ = some (.int .u8 x.lo) ∧ w.cell? ⟨b, off + i * 7 + 3, none⟩ = some (.int .u8 x.hi) ∧ w.cell? ⟨b, off + i * 7 + 4, none⟩ = some (.int .i64 x.mn) ∧ w.cell? ⟨b, off + i * 7 + 5, none⟩ = some (.int .i64 x.mx) ∧ w.cell? ⟨b, off + i * 7 + 6, none⟩ = some (sls i)) ∧ ∃ p c, sls i = .slice p x.kids.length c) := by
      intro i x hx
      obtain ⟨hi, he⟩ := List.getElem?_eq_some_iff.1 hx
      subst he
      have key := hc i hi
      obtain ⟨p, c, hp, _⟩ := (hk i hi).form
      exact ⟨⟨key 0 _ rfl, key 1 _ rfl, key 2 _ rfl, key 3 _ rfl, key 4 _ rfl, key 5 _ rfl, key 6 _ rfl⟩, p, c, hp⟩
    have hm' := hm
    unfold maxLen at hm'
    clear ih hc hk htx hS ht hm hcap
    have HW := Lib.hid hw
    have hwz := hw.size
    clear hw
    generalize hlen : kids.length = n at *
    have HL := Lib.hid hlen
    clear hlen
    have hB0 : Below w'.heap.size w' (w'.alloc (.cells #[.int .u8 t.kind, .string (bs t.text), .int .u8 t.lo, .int .u8 t.hi, .int .i64 t.mn, .int .i64 t.mx, .slice (some ⟨b, off, none⟩) n cap] 25)) := (Below.refl _ _).alloc (Nat.le_refl _) _
    have hBa : Blk (w'.alloc (.cells #[.int .u8 t.kind, .string (bs t.text), .int .u8 t.lo, .int .u8 t.hi, .int .i64 t.mn, .int .i64 t.mx, .slice (some ⟨b, off, none⟩) n cap] 25)) w'.heap.size 25 #[.int .u8 t.kind, .string (bs t.text), .int .u8 t.lo, .int .u8 t.hi, .int .i64 t.mn, .int .i64 t.mx, .slice (some ⟨b, off, none⟩) n cap] := Blk.new _ _ _
    have HB0 := Lib.hid hB0
    have HBa := Lib.hid hBa
    clear hB0 hBa
    unfold treeV
    go_enter Tryz.func23, Tryz.ntmps23
    go_wp2
    generalize w'.alloc (.cells #[.int .u8 t.kind, .string (bs t.text), .int .u8 t.lo, .int .u8 t.hi, .int .i64 t.mn, .int .i64 t.mx, .slice (some ⟨b, off, none⟩) n cap] 25) = W0 at *
    go_loopw [7, 8, 12] (fun c _ i wr => ∃ k m : Nat, k ≤ n ∧ i = .int .i64 k ∧ c = .int .i64 m ∧ 1 ≤ m ∧ m ≤ most + 1 ∧ Below W0.heap.size W0 wr) (fun _ _ i _ => n - (intOf i).toNat)
    case atStart => exact ⟨0, 1, Nat.zero_le _, rfl, rfl, Nat.le_refl _, by omega, Below.refl _ _⟩
    case round =>
      obtain ⟨k, m, hk, rfl, rfl, hm1, hm2, hbel⟩ := hrel
      have hBW : Below w'.heap.size w' wr := HB0.out.trans (hbel.mono HB0.out.size)
      have hWW : Below w.heap.size w wr := HW.out.trans (hBW.mono hwz)
      by_cases hlt2 : k < n
      · have hlt' : (k : Int) < n := by omega
        have h0' : (0 : Int) ≤ k := by omega
        by_cases h1 : m ≤ most
        · have h1' : ¬ (most : Int) < m := by omega
          by_cases h2 : deep ≤ 200
          · have h2' : ¬ (200 : Int) < deep := by omega
            obtain ⟨x, hx⟩ : ∃ x, kids[k]? = some x := ⟨_, List.getElem?_eq_getElem (by rw [HL.out]; exact hlt2)⟩
            obtain ⟨⟨a0, a1, a2, a3, a4, a5, a6⟩, q1, d1, hsl⟩ := HC.out k x hx
            have HREC : Hid (∀ (W' : World), Below w.heap.size w W' → Calls Tryz.prog 23 #[treeV x (sls k), .int .i64 ((most : Int) - m), .int .i64 ((deep : Int) + 1)] W' fun e w2 => NodesOut (most - m) e ∧ Below W'.heap.size W' w2) := by
              intro W' hW'
              have := HIH.out k x hx (most - m) (deep + 1) W' (by omega) (by omega) hW'
              rw [Int.ofNat_sub h1] at this
              exact this
            rw [hsl] at HREC a6
            have hcw : ∀ b o, b < w.heap.size → wr.cell? ⟨b, o, none⟩ = w.cell? ⟨b, o, none⟩ := fun b o hb => hWW.cell (p := ⟨b, o, none⟩) hb
            have hca := (HBa.out.below hbel HBa.out.lt).cell
            have HBEL := Lib.hid hbel
            have HWW := Lib.hid hWW
            unfold treeV at HREC
            clear hx hsl hbel hWW hBW
            generalize x.kids.length = xl at *
            go_wp2_with (go_at_call 23; refine (HREC.out _ HWW.out).mono ?_)
            rintro e w5 ⟨m2, rfl, hm3, hm4⟩ hb5
            have hbel5 : Below W0.heap.size W0 w5 := HBEL.out.trans (hb5.mono HBEL.out.size)
            clear hca hcw
            go_wp2
            go_roundw
            case rel => exact ⟨k + 1, m + m2, by omega, by go_num, by go_num, by omega, by omega, hbel5⟩
            case measure => simp [intOf]; omega
          · have h2' : (200 : Int) < deep := by omega
            go_wp2
            go_ret
            exact ⟨⟨most + 1, by go_num, by omega, Nat.le_refl _⟩, hBW⟩
        · have h1' : (most : Int) < m := by omega
          go_wp2
          go_ret
          exact ⟨⟨most + 1, by go_num, by omega, Nat.le_refl _⟩, hBW⟩
      · go_wp2
        go_ret
        exact ⟨⟨m, rfl, hm1, hm2⟩, hBW⟩
theorem Nodes_any (t : Tr) (sl : Value) (w : World) (h : KidsAt w (· < w.heap.size) t.kids sl) :
    Calls Tryz.prog 7 #[treeV t sl, .int .i64 300] w fun e w2 => NodesOut 300 e ∧ Below w.heap.size w w2 := by
  obtain ⟨p, c, hsl, _⟩ := h.form
  have HN : Hid (∀ W', Below w.heap.size w W' → Calls Tryz.prog 23 #[treeV t sl, .int .i64 300, .int .i64 0] W' fun e w2 => NodesOut 300 e ∧ Below W'.heap.size W' w2) := fun W' hW' => nodes_aux h t rfl 300 0 W' (by omega) (by omega) hW'
  subst hsl
  unfold treeV at *
  have HB : Hid (Below w.heap.size w (w.alloc (.cells #[.int .u8 t.kind, .string (bs t.text), .int .u8 t.lo, .int .u8 t.hi, .int .i64 t.mn, .int .i64 t.mx, .slice p t.kids.length c] 25))) := (Below.refl _ _).alloc (Nat.le_refl _) _
  clear h
  generalize t.kids.length = n at *
  go_enter Tryz.func7, Tryz.ntmps7
  go_wp2_with (go_at_call 23; refine (HN.out _ HB.out).mono ?_)
  rintro e w1 ⟨⟨m, rfl, h1, h2⟩, hb⟩
  have HE : Hid (Below w.heap.size w w1) := HB.out.trans (hb.mono HB.out.size)
  clear hb
  go_wp2
  go_ret
  exact ⟨⟨m, rfl, h1, h2⟩, HE.out⟩
end Go.Proofs.YtodenbimeojgdaaGreatDoor

/-
  The grower in memory, and the contract of its next. Conditions: the grower, its numbers and its names lie in memory; at most 200 numbers, at most 100 names.
-/
namespace Go.Proofs.YtodenbimeojgdaaGreatDoor
open Go.RowKit

/-- the grower in block gb -/
structure GrowAt (w : World) (gb : Nat) (UA : Option Addr) (uc : Nat) (u : List Nat) (NA : Option Addr) (nc : Nat) (names : List (List UInt8)) (at_ : Nat) : Prop where
  blk : Blk w gb 93 #[.slice UA u.length uc, .int .i64 at_, .slice NA names.length nc]
  nums : ∀ i n, u[i]? = some n → ∃ g off, UA = some ⟨g, off, none⟩ ∧ g < gb ∧ w.cell? ⟨g, off + i, none⟩ = some (.int .u16 (n : Nat))
  words : ∀ i n, names[i]? = some n → ∃ g off, NA = some ⟨g, off, none⟩ ∧ g < gb ∧ w.cell? ⟨g, off + i, none⟩ = some (.string (bs n))
  le : at_ ≤ u.length
  few : u.length ≤ 200
  small : ∀ n ∈ u, n < 65536
  fewN : names.length ≤ 100 ∧ ∀ n ∈ names, n.length ≤ 1000
theorem GrowAt.turn {w w' : World} {gb : Nat} {UA : Option Addr} {uc : Nat} {u : List Nat} {NA : Option Addr} {nc : Nat} {names : List (List UInt8)} {at_ at2 : Nat} (h : GrowAt w gb UA uc u NA nc names at_) (hs : ∀ b, b < gb → w'.heap[b]? = w.heap[b]?) (hb : Blk w' gb 93 #[.slice UA u.length uc, .int .i64 at2, .slice NA names.length nc]) (hle : at2 ≤ u.length) : GrowAt w' gb UA uc u NA nc names at2 := by
  refine ⟨hb, fun i n hi => ?_, fun i n hi => ?_, hle, h.few, h.small, h.fewN⟩
  · obtain ⟨g, off, e, hg, hc⟩ := h.nums i n hi
    refine ⟨g, off, e, hg, ?_⟩
    rw [World.cell?_of_block (w := w) (hs g hg)]
    exact hc
  · obtain ⟨g, off, e, hg, hc⟩ := h.words i n hi
    refine ⟨g, off, e, hg, ?_⟩
    rw [World.cell?_of_block (w := w) (hs g hg)]
    exact hc
theorem GrowAt.keep {w w' : World} {gb : Nat} {UA : Option Addr} {uc : Nat} {u : List Nat} {NA : Option Addr} {nc : Nat} {names : List (List UInt8)} {at_ : Nat} (h : GrowAt w gb UA uc u NA nc names at_) (hs : ∀ b, b ≤ gb → w'.heap[b]? = w.heap[b]?) : GrowAt w' gb UA uc u NA nc names at_ :=
  h.turn (fun b hb => hs b (by omega)) ((hs gb (Nat.le_refl _)).trans h.blk) h.le
theorem GrowAt.only {w w' : World} {gb : Nat} {UA : Option Addr} {uc : Nat} {u : List Nat} {NA : Option Addr} {nc : Nat} {names : List (List UInt8)} {at_ at2 : Nat} (h : GrowAt w gb UA uc u NA nc names at_) (ho : Only gb w w') (hb : Blk w' gb 93 #[.slice UA u.length uc, .int .i64 at2, .slice NA names.length nc]) (hle : at2 ≤ u.length) : GrowAt w' gb UA uc u NA nc names at2 :=
  h.turn (fun b hl => ho.block b (by have := h.blk.lt; omega) (fun e => by have := Option.some.inj e; omega)) hb hle
theorem GrowAt.later {w w' : World} {gb : Nat} {UA : Option Addr} {uc : Nat} {u : List Nat} {NA : Option Addr} {nc : Nat} {names : List (List UInt8)} {at_ : Nat} (h : GrowAt w gb UA uc u NA nc names at_) (hb : Below w.heap.size w w') : GrowAt w' gb UA uc u NA nc names at_ :=
  h.only (Only.of_below hb) (h.blk.below hb h.blk.lt) h.le
theorem GrowAt.word {w : World} {gb : Nat} {UA : Option Addr} {uc : Nat} {u : List Nat} {g off nc : Nat} {names : List (List UInt8)} {at_ : Nat} (h : GrowAt w gb UA uc u (some ⟨g, off, none⟩) nc names at_) {i : Nat} {nm : List UInt8} (hi : names[i]? = some nm) : w.cell? ⟨g, off + i, none⟩ = some (.string (bs nm)) := by
  obtain ⟨g', off', e, _, hc⟩ := h.words i nm hi
  cases e
  exact hc
theorem Only.drewN {r : Nat} {a w : World} (h : Only r a w) (m : Nat) : Only r a (w.drewN m) := h.trans (Only.of_below (below_drewN (Below.refl _ _) m))
theorem mod_nat (n m : Nat) : (n : Int).tmod (m : Int) = ((n % m : Nat) : Int) := by
  rw [Int.tmod_eq_emod_of_nonneg (by omega)]
  rfl

set_option maxHeartbeats 2000000 in
theorem next_any (w : World) (gb : Nat) (UA : Option Addr) (uc : Nat) (u : List Nat) (NA : Option Addr) (nc : Nat) (names : List (List UInt8)) (at_ : Nat) (h : GrowAt w gb UA uc u NA nc names at_) (below : Nat) (h0 : 0 < below) (h1 : below ≤ 1000) :
    Calls Tryz.prog 83 #[.pointer (some ⟨gb, 0, none⟩), .int .i64 (below : Nat)] w fun e w' => e = .returned (.int .i64 ((nextP u at_ below).1 : Nat)) ∧ GrowAt w' gb UA uc u NA nc names (nextP u at_ below).2 ∧ Only gb w w' := by
  have hc := h.blk.cell
  have hf := h.blk.frozen
  have c0 : w.cell? ⟨gb, 0, none⟩ = some (.slice UA u.length uc) := hc 0
  have c1 : w.cell? ⟨gb, 1, none⟩ = some (.int .i64 at_) := hc 1
  have f1 := hf 1
  have hle := h.le
  have hfew := h.few
  have H := Lib.hid h
  by_cases hlt : u.length ≤ at_
  · have HN : Hid (nextP u at_ below = (0, at_)) := by
      show _ = _
      unfold nextP
      rw [if_pos hlt]
    have hd : decide ((u.length : Int) ≤ (at_ : Int)) = true := by rw [decide_eq_true_iff]; omega
    rw [HN.out]
    generalize hul : u.length = n at *
    clear h hc hf hul
    go_enter Tryz.func83, Tryz.ntmps83
    go_wp2_with fail
    go_quiet (fail)
    go_wp2
    go_ret
    exact ⟨rfl, H.out.later (below_drewN (Below.refl _ _) _), (Only.refl _ _).drewN _⟩
  · obtain ⟨x, hx⟩ : ∃ x, u[at_]? = some x := ⟨_, List.getElem?_eq_getElem (by omega)⟩
    have HN : Hid (nextP u at_ below = (x % below, at_ + 1)) := by
      show _ = _
      unfold nextP
      rw [if_neg hlt, List.getD_eq_getElem?_getD, hx]
      rfl
    obtain ⟨g, off, hUA, hg, hcx⟩ := h.nums at_ x hx
    have hgl : g < w.heap.size := Nat.lt_trans hg h.blk.lt
    have hne : ¬ g = gb := by omega
    have hxs := h.small x (List.mem_of_getElem? hx)
    have hd : decide ((u.length : Int) ≤ (at_ : Int)) = false := by rw [decide_eq_false_iff_not]; omega
    rw [HN.out]
    have hl1 : (at_ : Int) < (u.length : Int) := by omega
    have hl0 : (0 : Int) ≤ (at_ : Int) := by omega
    have ha1 : at_ + 1 ≤ u.length := by omega
    have HA1 := Lib.hid ha1
    have HS : Hid (∀ m, GrowAt ((w.drewN m).setCell ⟨gb, 1, none⟩ (.int .i64 ((at_ : Int) + 1))) gb UA uc u NA nc names (at_ + 1) ∧ Only gb w ((w.drewN m).setCell ⟨gb, 1, none⟩ (.int .i64 ((at_ : Int) + 1)))) := by
      intro m
      have ho : Only gb w ((w.drewN m).setCell ⟨gb, 1, none⟩ (.int .i64 ((at_ : Int) + 1))) := ((Only.refl _ _).drewN m).set 1 _
      have hb : Blk (w.drewN m) gb _ _ := h.blk.below (below_drewN (Below.refl _ _) m) h.blk.lt
      exact ⟨h.only ho (hb.set_ 1 _) ha1, ho⟩
    have hmod := mod_nat x below
    subst hUA
    generalize hul : u.length = n at *
    have HUL := Lib.hid hul
    clear h hul hx
    go_enter Tryz.func83, Tryz.ntmps83
    go_wp2_with fail
    go_quiet (fail)
    go_upto_region 4 with fail
    obtain ⟨hg2, ho2⟩ := HS.out nq
    have HG2 := Lib.hid hg2
    have HO2 := Lib.hid ho2
    have hcx2 : ((w.drewN nq).setCell ⟨gb, 1, none⟩ (.int .i64 ((at_ : Int) + 1))).cell? ⟨g, off + at_, none⟩ = some (.int .u16 (x : Nat)) := by
      rw [World.cell?_of_block (w := w) (ho2.block g hgl (fun e => hne (Option.some.inj e)))]
      exact hcx
    have d0 := hg2.blk.cell 0
    rw [HUL.out] at d0
    have d1 := hg2.blk.cell 1
    have e1 : IntKind.i64.wrap ((at_ : Int) + 1 - 1) = at_ := by rw [IntWalk.i64_in _ (by omega)]; omega
    have e2 : IntKind.i64.wrap (at_ : Int) = at_ := IntWalk.i64_in _ (by omega)
    have hb0 : ¬ (below : Int) = 0 := by omega
    clear hg2 ho2 HS c0 c1 f1 hcx hc hf
    generalize (w.drewN nq).setCell ⟨gb, 1, none⟩ (.int .i64 ((at_ : Int) + 1)) = W2 at *
    go_quiet (fail)
    go_wp2
    go_ret
    exact ⟨rfl, HG2.out.later (below_drewN (Below.refl _ _) _), HO2.out.drewN _⟩
end Go.Proofs.YtodenbimeojgdaaGreatDoor

/-
  The contract of the grower's some: two or three kids. Conditions: those of the grower's tree, which is asked at one depth more.
-/
namespace Go.Proofs.YtodenbimeojgdaaGreatDoor
open Go.RowKit

/-- what the grower's tree hands back -/
def GrOut (gb : Nat) (UA : Option Addr) (uc : Nat) (u : List Nat) (NA : Option Addr) (nc : Nat) (names : List (List UInt8)) (w : World) (R : Tr × Nat) (e : Ending) (w' : World) : Prop :=
  ∃ sl, e = .returned (treeV R.1 sl) ∧ KidsAt w' (fun b => w.heap.size ≤ b) R.1.kids sl ∧ R.1.text.length ≤ maxLen ∧ GrowAt w' gb UA uc u NA nc names R.2 ∧ Only gb w w'
/-- the grower's tree, with so much depth left -/
def TreeG (gb : Nat) (UA : Option Addr) (uc : Nat) (u : List Nat) (NA : Option Addr) (nc : Nat) (names : List (List UInt8)) (r : Nat) : Prop :=
  ∀ (w : World) (at_ deep : Nat), deep + r = 6 → GrowAt w gb UA uc u NA nc names at_ → Calls Tryz.prog 41 #[.pointer (some ⟨gb, 0, none⟩), .int .i64 (deep : Nat)] w fun e w' => GrOut gb UA uc u NA nc names w (growT names u r at_) e w'
def zeroG : Array Value := #[.int .u8 0, .string ⟨#[]⟩, .int .u8 0, .int .u8 0, .int .i64 0, .int .i64 0, .slice none 0 0]
/-- within some -/
structure SomeIn (gb : Nat) (UA : Option Addr) (uc : Nat) (u : List Nat) (NA : Option Addr) (nc : Nat) (names : List (List UInt8)) (w : World) (kind : Int) (R : List Tr × Nat) (ps : Trow) (v : Value) (wr : World) : Prop where
  res : Blk wr w.heap.size 25 zeroG
  blk : Blk wr (w.heap.size + 1) 25 #[.int .u8 kind, .string ⟨#[]⟩, .int .u8 0, .int .u8 0, .int .i64 0, .int .i64 0, v]
  own : wr.ownsRow (w.heap.size + 2) 25 7 v ps.length (flatT ps)
  kids : KidsAll wr (fun b => w.heap.size + 2 ≤ b ∧ v.ownBlock ≠ some b) ps
  same : trees ps = R.1
  grow : GrowAt wr gb UA uc u NA nc names R.2
  only : Only gb w wr
  size : w.heap.size + 2 ≤ wr.heap.size
theorem SomeIn.more {gb : Nat} {UA : Option Addr} {uc : Nat} {u : List Nat} {NA : Option Addr} {nc : Nat} {names : List (List UInt8)} {w wr w1 w2 w3 : World} {kind : Int} {R : List Tr × Nat} {ps : Trow} {v : Value} {T : Tr × Nat} {sl : Value} {gg cap : Nat}
    (h : SomeIn gb UA uc u NA nc names w kind R ps v wr) (hgb : gb < w.heap.size) (ho : Only gb wr w1) (hk : KidsAt w1 (fun b => wr.heap.size ≤ b) T.1.kids sl) (htx : T.1.text.length ≤ maxLen) (hg : GrowAt w1 gb UA uc u NA nc names T.2)
    (hb2 : Below w1.heap.size w1 w2) (hgrow : w2.grownBy w3 v.ownBlock) (hown : w3.ownsRow (w.heap.size + 2) 25 7 (.slice (some ⟨gg, 0, none⟩) (ps.length + 1) cap) (ps.length + 1) (flatT ps ++ headCells T.1 sl)) (hat : v.ownBlock = some gg ∨ w1.heap.size ≤ gg) :
    SomeIn gb UA uc u NA nc names w kind (R.1 ++ [T.1], T.2) (ps ++ [(T.1, sl)]) (.slice (some ⟨gg, 0, none⟩) (ps.length + 1) cap) (w3.setCell ⟨w.heap.size + 1, 6, none⟩ (.slice (some ⟨gg, 0, none⟩) (ps.length + 1) cap)) := by
  have hvlt : ∀ b, v.ownBlock = some b → w.heap.size + 2 ≤ b ∧ b < wr.heap.size := fun b hb => h.own.lt b hb
  have hgg := (hown.lt gg rfl).1
  have hsz1 := ho.size
  have hsz2 := hb2.size
  have hsz3 := hgrow.size
  have hsz := h.size
  -- blocks that stay from wr to w3
  have stay : ∀ b, b < wr.heap.size → b ≠ gb → v.ownBlock ≠ some b → w3.heap[b]? = wr.heap[b]? := fun b hl hne hv =>
    (hgrow.block b (by omega) (fun e => hv e.symm)).trans ((hb2.block b (by omega)).trans (ho.block b hl (fun e => hne (Option.some.inj e))))
  have stay1 : ∀ b, b < w1.heap.size → v.ownBlock ≠ some b → w3.heap[b]? = w1.heap[b]? := fun b hl hv =>
    (hgrow.block b (by omega) (fun e => hv e.symm)).trans (hb2.block b hl)
  have setS : ∀ b, b ≠ w.heap.size + 1 → (w3.setCell ⟨w.heap.size + 1, 6, none⟩ (.slice (some ⟨gg, 0, none⟩) (ps.length + 1) cap)).heap[b]? = w3.heap[b]? := fun b hb => Below.heap_setCell _ _ _ _ hb
  have setSz : (w3.setCell ⟨w.heap.size + 1, 6, none⟩ (.slice (some ⟨gg, 0, none⟩) (ps.length + 1) cap)).heap.size = w3.heap.size := by simp [World.setCell]
  have noV : ∀ b, b < w.heap.size + 2 → v.ownBlock ≠ some b := fun b hb e => by have := (hvlt b e).1; omega
  have hres3 : Blk w3 w.heap.size 25 zeroG := (stay _ h.res.lt (by omega) (noV _ (by omega))).trans h.res
  have hblk3 : Blk w3 (w.heap.size + 1) 25 #[.int .u8 kind, .string ⟨#[]⟩, .int .u8 0, .int .u8 0, .int .i64 0, .int .i64 0, v] := (stay _ h.blk.lt (by omega) (noV _ (by omega))).trans h.blk
  have hgl : gb < w.heap.size + 2 := by omega
  have hgrow3 : GrowAt (w3.setCell ⟨w.heap.size + 1, 6, none⟩ (.slice (some ⟨gg, 0, none⟩) (ps.length + 1) cap)) gb UA uc u NA nc names T.2 :=
    hg.keep (fun b hb => (setS b (by omega)).trans (stay1 b (by omega) (noV b (by omega))))
  refine ⟨(setS _ (by omega)).trans hres3, hblk3.set_ 6 _, ?_, ?_, ?_, hgrow3, ?_, by rw [setSz]; omega⟩
  · rw [flatT_snoc, List.length_append, List.length_singleton]
    exact ownsRow_same hown (fun b hb => setS b (by have : gg = b := Option.some.inj hb; omega))
  · intro p hp
    rcases List.mem_append.1 hp with hp | hp
    · refine ⟨(h.kids p hp).1.later (by rw [setSz]; omega) (fun b hl hF => ⟨⟨hF.1, fun e => ?_⟩, (setS b (by omega)).trans (stay b hl (by omega) hF.2)⟩), (h.kids p hp).2⟩
      have he : gg = b := Option.some.inj e
      rcases hat with hat | hat
      · exact hF.2 (by rw [hat, he])
      · omega
    · have : p = (T.1, sl) := by simpa using hp
      subst this
      refine ⟨hk.later (by rw [setSz]; omega) (fun b hl hF => ⟨⟨by omega, fun e => ?_⟩, (setS b (by omega)).trans (stay1 b hl (fun e => by have := (hvlt b e).2; omega))⟩), htx⟩
      have he : gg = b := Option.some.inj e
      rcases hat with hat | hat
      · have := (hvlt gg hat).2
        omega
      · omega
  · simp [trees]
    have := h.same
    simpa [trees] using this
  · refine ⟨hgrow.os.trans (hb2.os.trans (ho.os.trans h.only.os)), hgrow.tape.trans (hb2.tape.trans (ho.tape.trans h.only.tape)), hgrow.output.trans (hb2.output.trans (ho.output.trans h.only.output)), by rw [setSz]; omega, fun k hk hne => ?_⟩
    exact (setS k (by omega)).trans ((stay k (by omega) (fun e => hne (by rw [e])) (noV k (by omega))).trans (h.only.block k hk hne))

theorem only_put7 {gb : Nat} {w wr : World} (h : Only gb w wr) (t : Tr) (sl : Value) : Only gb w (put7 wr w.heap.size 0 t sl) := by
  unfold put7
  iterate 7 refine Only.new ?_ (Nat.le_refl _) _
  exact h
set_option maxRecDepth 100000 in
set_option maxHeartbeats 4000000 in
theorem some_any (gb : Nat) (UA : Option Addr) (uc : Nat) (u : List Nat) (NA : Option Addr) (nc : Nat) (names : List (List UInt8)) (r deep : Nat) (hr : deep + (r + 1) = 6) (HT : TreeG gb UA uc u NA nc names r) (kind : Int) (w : World) (at_ : Nat) (h : GrowAt w gb UA uc u NA nc names at_) :
    Calls Tryz.prog 84 #[.pointer (some ⟨gb, 0, none⟩), .int .u8 kind, .int .i64 (deep : Nat)] w fun e w' => GrOut gb UA uc u NA nc names w (someG (growT names u r) u kind at_) e w' := by
  obtain ⟨i0, hi0, hz0, hz1, hz2⟩ := info_parts Tryz.infoTree
  have hgb := h.blk.lt
  have HTR := Lib.hid HT
  have hb2 : Below w.heap.size w ((w.alloc (.cells zeroG 25)).alloc (.cells #[.int .u8 kind, .string ⟨#[]⟩, .int .u8 0, .int .u8 0, .int .i64 0, .int .i64 0, .slice none 0 0] 25)) := ((Below.refl _ _).alloc (Nat.le_refl _) _).alloc (by simp) _
  have hB0 : Blk ((w.alloc (.cells zeroG 25)).alloc (.cells #[.int .u8 kind, .string ⟨#[]⟩, .int .u8 0, .int .u8 0, .int .i64 0, .int .i64 0, .slice none 0 0] 25)) w.heap.size 25 zeroG := (Blk.new _ _ _).alloc _
  have hB1 : Blk ((w.alloc (.cells zeroG 25)).alloc (.cells #[.int .u8 kind, .string ⟨#[]⟩, .int .u8 0, .int .u8 0, .int .i64 0, .int .i64 0, .slice none 0 0] 25)) (w.heap.size + 1) 25 #[.int .u8 kind, .string ⟨#[]⟩, .int .u8 0, .int .u8 0, .int .i64 0, .int .i64 0, .slice none 0 0] := Blk.new_at _ _ _ _ (by simp)
  have hsz2 : ((w.alloc (.cells zeroG 25)).alloc (.cells #[.int .u8 kind, .string ⟨#[]⟩, .int .u8 0, .int .u8 0, .int .i64 0, .int .i64 0, .slice none 0 0] 25)).heap.size = w.heap.size + 2 := by simp
  have HNX := Lib.hid (next_any _ gb UA uc u NA nc names at_ (h.later hb2) 2 (by omega) (by omega))
  have hm := nextP_lt u at_ 2 (by omega)
  have HS : Hid (someG (growT names u r) u kind at_ = (.mk kind [] 0 0 0 0 (kidsG (growT names u r) (2 + (nextP u at_ 2).1) (nextP u at_ 2).2).1, (kidsG (growT names u r) (2 + (nextP u at_ 2).1) (nextP u at_ 2).2).2)) := show _ = _ from rfl
  rw [HS.out]
  generalize nextP u at_ 2 = P at *
  obtain ⟨q, a0⟩ := P
  simp only at hm HNX ⊢
  have HB2 := Lib.hid hb2
  have HB0 := Lib.hid hB0
  have HB1 := Lib.hid hB1
  have HZ2 := Lib.hid hsz2
  unfold zeroG at HB2 HB0 HB1 HNX HZ2
  clear hb2 hB0 hB1 h HT HS hsz2
  go_enter Tryz.func84, Tryz.ntmps84
  go_wp2_with fail
  refine HNX.out.mono ?_
  rintro e w1 ⟨rfl, hg1, ho1⟩
  have hIN : SomeIn gb UA uc u NA nc names w kind ([], a0) [] (.slice none 0 0) w1 := by
    have hne : ∀ b, b < w.heap.size + 2 → b ≠ gb → w1.heap[b]? = _ := fun b hb hne => ho1.block b (by rw [HZ2.out]; exact hb) (fun e => hne (Option.some.inj e))
    refine ⟨(hne _ (by omega) (by omega)).trans HB0.out, (hne _ (by omega) (by omega)).trans HB1.out, World.ownsRow_nil _ _ _ _, fun p hp => (by cases hp), rfl, hg1, (Only.of_below HB2.out).trans ho1, ?_⟩
    have := ho1.size
    rw [HZ2.out] at this
    exact this
  have HIN := Lib.hid hIN
  clear hIN hg1 ho1 HNX HB0 HB1 HB2 HZ2
  go_wp2
  go_loopw [13] (fun i wr => ∃ (ps : Trow) (v : Value), ps.length ≤ 2 + q ∧ i = .int .i64 ps.length ∧ Hid (SomeIn gb UA uc u NA nc names w kind (kidsG (growT names u r) ps.length a0) ps v wr)) (fun i _ => (2 + q) - (intOf i).toNat)
  case atStart => exact ⟨[], _, Nat.zero_le _, rfl, HIN⟩
  case round =>
    clear HIN
    obtain ⟨ps, v, hk, rfl, HIN⟩ := hrel
    obtain ⟨vA, vc, hv⟩ := row_form HIN.out.own
    have hc := HIN.out.blk.cell
    have hf := HIN.out.blk.frozen
    have hlt := HIN.out.blk.lt
    have hszr := HIN.out.size
    by_cases hlt2 : ps.length < 2 + q
    · have HKG : Hid (kidsG (growT names u r) (ps.length + 1) a0 = ((kidsG (growT names u r) ps.length a0).1 ++ [(growT names u r (kidsG (growT names u r) ps.length a0).2).1], (growT names u r (kidsG (growT names u r) ps.length a0).2).2)) := show _ = _ from rfl
      have HCA := Lib.hid (HTR.out wr.drew (kidsG (growT names u r) ps.length a0).2 (deep + 1) (by omega) (HIN.out.grow.later (Below.refl _ _).drew))
      rw [show ((deep + 1 : Nat) : Int) = (deep : Int) + 1 from by omega] at HCA
      generalize kidsG (growT names u r) ps.length a0 = KG at *
      generalize growT names u r KG.2 = T at *
      have hd1 : (ps.length : Int) < 2 + (q : Int) := by omega
      have e5 : IntKind.i64.wrap ((deep : Int) + 1) = (deep : Int) + 1 := IntWalk.i64_in _ (by omega)
      subst hv
      have c6 : wr.cell? ⟨w.heap.size + 1, 6, none⟩ = some (.slice vA ps.length vc) := hc 6
      clear hc hf
      go_wp2_with fail
      go_region_law (first
        | (go_simp; go_at_call 41; refine HCA.out.mono ?_; rintro e w2 ⟨sl, rfl, hk2, htx2, hg2, ho2⟩; unfold treeV; obtain ⟨kp, kc, rfl, _⟩ := hk2.form; have hoW : Only gb wr w2 := (Only.refl gb wr).drew.trans ho2; have hbT : Blk w2 (w.heap.size + 1) _ _ := (hoW.block (w.heap.size + 1) hlt (fun e => by have := Option.some.inj e; omega)).trans HIN.out.blk; have c62 : w2.cell? ⟨w.heap.size + 1, 6, none⟩ = some (.slice vA ps.length vc) := hbT.cell 6; have HOW := Lib.hid hoW; have HBT := Lib.hid hbT; have HOWN2 := Lib.hid (ownsRow_same HIN.out.own (fun b hb => hoW.block b (HIN.out.own.lt b hb).2 (fun e => by have := Option.some.inj e; have := (HIN.out.own.lt b hb).1; omega))); have HK2 := Lib.hid hk2; have HG2 := Lib.hid hg2; have hsz2 : wr.heap.size ≤ w2.heap.size := hoW.size; have hltT : w.heap.size + 1 < w2.heap.size := Nat.lt_of_lt_of_le hlt hsz2; clear hk2 hg2 ho2 hoW hbT)
        | (refine step_append_lies _ (by rfl) _ _ _ (by rfl) (w.heap.size + 2) 25 i0 _ 7 72 Tryz.underlying23 hi0 hz0 hz1 hz2 rfl (by omega) (.slice vA ps.length vc) ps.length (flatT ps) (by rfl) (HOWN2.out.alloc _) ⟨w2.heap.size, 0, none⟩ 1 1 (headCells T.1 (.slice kp T.1.kids.length kc)) (by rfl) (by rfl) (by exact World.news_of_block (heap_alloc_new w2 _)) (by simp [headCells, Value.oneCell']) (by omega) (by unfold maxLen; omega) (by omega) (by simp; omega) (w2.heap.size + 1) (by simp) ?_; intro gg cap w3 hown3 hgrow3 hat3 hlt3; have hbT3 := (HBT.out.alloc (.cells (headCells T.1 (.slice kp T.1.kids.length kc)).toArray 25)).grown hgrow3 (fun e => by have := (HIN.out.own.lt _ e.symm).1; omega); have c63 := hbT3.cell; have f63 := hbT3.frozen; have HM := Lib.hid (HIN.out.more hgb HOW.out HK2.out htx2 HG2.out ((Below.refl _ _).alloc (Nat.le_refl _) (.cells (headCells T.1 (.slice kp T.1.kids.length kc)).toArray 25)) hgrow3 hown3 (hat3.imp id (fun e => by omega))); clear hown3 hgrow3 hat3 hbT3))
      all_goals
        have hpl : (ps ++ [(T.1, Value.slice kp T.1.kids.length kc)]).length = ps.length + 1 := by simp
        have HPL := Lib.hid hpl
        clear hpl
        go_wp2
        go_roundw
        case rel => exact ⟨ps ++ [(T.1, .slice kp T.1.kids.length kc)], _, by rw [HPL.out]; omega, by rw [HPL.out]; go_num, by rw [HPL.out, HKG.out]; exact HM⟩
        case measure => simp [intOf]; omega
    · have HKQ : Hid (ps.length = 2 + q) := (show _ = _ by omega)
      subst hv
      have c0 := HIN.out.blk.cell
      have r0 := HIN.out.res.cell
      have rf := HIN.out.res.frozen
      have hrl := HIN.out.res.lt
      unfold zeroG at r0
      clear hc hf
      go_wp2
      refine bodyPost_ret (v := treeV (.mk kind [] 0 0 0 0 (kidsG (growT names u r) (2 + q) a0).1) (.slice vA ps.length vc)) ?_ rfl ⟨_, rfl, ?_, ?_, ?_, ?_⟩
      · simp [results, Tryz.results84, go_sem, r0]
        rfl
      · change KidsAt (put7 wr w.heap.size 0 (.mk kind [] 0 0 0 0 []) (.slice vA ps.length vc)) (fun b => w.heap.size ≤ b) (kidsG (growT names u r) (2 + q) a0).1 (.slice vA ps.length vc)
        have hkk := KidsAt.of_row (F := fun b => w.heap.size + 2 ≤ b) HIN.out.own (fun p hp => ⟨(HIN.out.kids p hp).1.mono (fun b _ hF => hF.1), (HIN.out.kids p hp).2⟩) (fun b hb => (HIN.out.own.lt b hb).1)
        rw [HIN.out.same, HKQ.out] at hkk
        rw [HKQ.out]
        exact hkk.later (by rw [put7_size]; exact Nat.le_refl _) (fun b _ hF => ⟨by omega, put7_block _ _ _ _ _ b (by omega)⟩)
      · exact Nat.zero_le _
      · change GrowAt (put7 wr w.heap.size 0 (.mk kind [] 0 0 0 0 []) (.slice vA ps.length vc)) gb UA uc u NA nc names (kidsG (growT names u r) (2 + q) a0).2
        have := HIN.out.grow.keep (w' := put7 wr w.heap.size 0 (.mk kind [] 0 0 0 0 []) (.slice vA ps.length vc)) (fun b hb => put7_block _ _ _ _ _ b (by omega))
        rw [HKQ.out] at this ⊢
        exact this
      · exact only_put7 HIN.out.only (.mk kind [] 0 0 0 0 []) (.slice vA ps.length vc)
end Go.Proofs.YtodenbimeojgdaaGreatDoor

/-
  The contract of the grower's tree, and of frankinglow's Grown. Conditions: the numbers and the names lie in memory; at most 200 numbers, at most 100 names.
-/
namespace Go.Proofs.YtodenbimeojgdaaGreatDoor
open Go.RowKit

/-- within tree: the result's cells, still zero -/
structure InTree (gb : Nat) (UA : Option Addr) (uc : Nat) (u : List Nat) (NA : Option Addr) (nc : Nat) (names : List (List UInt8)) (w W : World) (at_ : Nat) : Prop where
  res : Blk W w.heap.size 25 zeroG
  grow : GrowAt W gb UA uc u NA nc names at_
  only : Only gb w W
  hgb : gb < w.heap.size
theorem InTree.step {gb : Nat} {UA : Option Addr} {uc : Nat} {u : List Nat} {NA : Option Addr} {nc : Nat} {names : List (List UInt8)} {w W W' : World} {at_ at2 : Nat} (h : InTree gb UA uc u NA nc names w W at_) (ho : Only gb W W') (hg : GrowAt W' gb UA uc u NA nc names at2) : InTree gb UA uc u NA nc names w W' at2 :=
  ⟨(ho.block _ h.res.lt (fun e => by have := Option.some.inj e; have := h.hgb; omega)).trans h.res, hg, h.only.trans ho, h.hgb⟩
theorem InTree.later {gb : Nat} {UA : Option Addr} {uc : Nat} {u : List Nat} {NA : Option Addr} {nc : Nat} {names : List (List UInt8)} {w W W' : World} {at_ : Nat} (h : InTree gb UA uc u NA nc names w W at_) (hb : Below W.heap.size W W') : InTree gb UA uc u NA nc names w W' at_ := h.step (Only.of_below hb) (h.grow.later hb)
theorem next_in {gb : Nat} {UA : Option Addr} {uc : Nat} {u : List Nat} {NA : Option Addr} {nc : Nat} {names : List (List UInt8)} {w W : World} {at_ : Nat} (h : InTree gb UA uc u NA nc names w W at_) (below : Nat) (h0 : 0 < below) (h1 : below ≤ 1000) :
    Calls Tryz.prog 83 #[.pointer (some ⟨gb, 0, none⟩), .int .i64 (below : Nat)] W fun e w' => e = .returned (.int .i64 ((nextP u at_ below).1 : Nat)) ∧ InTree gb UA uc u NA nc names w w' (nextP u at_ below).2 ∧ Only gb W w' :=
  (next_any W gb UA uc u NA nc names at_ h.grow below h0 h1).mono fun _ _ ⟨he, hg, ho⟩ => ⟨he, h.step ho hg, ho⟩
/-- the end -/
theorem gr_end {gb : Nat} {UA : Option Addr} {uc : Nat} {u : List Nat} {NA : Option Addr} {nc : Nat} {names : List (List UInt8)} {w W : World} {at_ : Nat} (h : InTree gb UA uc u NA nc names w W at_) (t : Tr) (sl : Value) (hk : KidsAt W (fun b => w.heap.size + 1 ≤ b) t.kids sl) (htx : t.text.length ≤ maxLen) : GrOut gb UA uc u NA nc names w (t, at_) (.returned (treeV t sl)) (put7 W w.heap.size 0 t sl) := by
  have hgb := h.hgb
  refine ⟨sl, rfl, ?_, htx, ?_, only_put7 h.only t sl⟩
  · exact hk.later (by rw [put7_size]; exact Nat.le_refl _) (fun b _ hF => ⟨by omega, put7_block _ _ _ _ _ b (by omega)⟩)
  · exact h.grow.keep (fun b hb => put7_block _ _ _ _ _ b (by omega))
theorem kid_one {W : World} {S : Nat → Prop} {B : Nat} (t : Tr) (sl : Value) (hb : Blk W B 25 (headCells t sl).toArray) (hk : KidsAt W S t.kids sl) (hS : S B) (htx : t.text.length ≤ maxLen) : KidsAt W S [t] (.slice (some ⟨B, 0, none⟩) 1 1) := by
  refine .row [t] B 0 1 (fun _ => sl) hS hb.lt (by simp) (by simp) (by unfold maxLen; simp) (fun i hi => ?_) (fun i hi j u hu => ?_) (fun i hi => ?_)
  · have : i = 0 := by simpa using hi
    subst this
    exact htx
  · have : i = 0 := by simpa using hi
    subst this
    rw [hb.cell]
    simpa using hu
  · have : i = 0 := by simpa using hi
    subst this
    exact hk
theorem InTree.new {gb : Nat} {UA : Option Addr} {uc : Nat} {u : List Nat} {NA : Option Addr} {nc : Nat} {names : List (List UInt8)} {w W : World} {at_ : Nat} (h : InTree gb UA uc u NA nc names w W at_) (T i : Nat) (hT : w.heap.size < T) (v : Value) : InTree gb UA uc u NA nc names w (W.setCell ⟨T, i, none⟩ v) at_ := by
  have hgb := h.hgb
  exact ⟨h.res.other (by simp only; omega) _, h.grow.keep (fun b hb => Below.heap_setCell _ _ _ _ (by simp only; omega)), h.only.new (by simp only; omega) _, hgb⟩
theorem word_at {W : World} {B : Nat} {T : TypeId} {cs : Array Value} (h : Blk W B T cs) (ws : List (List UInt8)) (hcs : cs = (ws.map fun x => Value.string (bs x)).toArray) (i : Nat) (hi : i < ws.length) : W.cell? ⟨B, i, none⟩ = some (.string (bs (ws.getD i []))) := by
  rw [h.cell i, hcs, List.getD_eq_getElem?_getD]
  simp [hi]

set_option maxRecDepth 100000 in
set_option maxHeartbeats 4000000 in
theorem tree_all (gb : Nat) (UA : Option Addr) (uc : Nat) (u : List Nat) (NA : Option Addr) (nc : Nat) (names : List (List UInt8)) (r deep : Nat) (hr : deep + r = 6) (w : World) (at_ : Nat) (h : GrowAt w gb UA uc u NA nc names at_) (HT : ∀ r', r = r' + 1 → TreeG gb UA uc u NA nc names r') :
    Calls Tryz.prog 41 #[.pointer (some ⟨gb, 0, none⟩), .int .i64 (deep : Nat)] w fun e w' => GrOut gb UA uc u NA nc names w (growT names u r at_) e w' := by
  have hgb := h.blk.lt
  have hIN : InTree gb UA uc u NA nc names w (w.alloc (.cells #[.int .u8 0, .string ⟨#[]⟩, .int .u8 0, .int .u8 0, .int .i64 0, .int .i64 0, .slice none 0 0] 25)) at_ := ⟨Blk.new _ _ _, h.later ((Below.refl _ _).alloc (Nat.le_refl _) _), (Only.refl _ _).alloc _, hgb⟩
  have hc := (h.blk.below ((Below.refl w.heap.size w).alloc (Nat.le_refl _) (.cells #[.int .u8 0, .string ⟨#[]⟩, .int .u8 0, .int .u8 0, .int .i64 0, .int .i64 0, .slice none 0 0] 25)) hgb).cell
  have hle := h.le
  have hfew := h.few
  have hfewN := h.fewN.1
  have HSN := Lib.hid h.fewN.2
  obtain ⟨bt, hbt⟩ : ∃ bt : Bool, bt = (decide (r = 0) || decide (u.length ≤ at_)) := ⟨_, rfl⟩
  have HBT := Lib.hid hbt
  have HIN := Lib.hid hIN
  have HTR := Lib.hid HT
  clear h hIN hbt HT
  go_enter Tryz.func41, Tryz.ntmps41
  go_upto_region 2 with fail
  go_cut [23] (fun b wx => b = .bool bt ∧ Hid (InTree gb UA uc u NA nc names w wx at_))
  case first =>
    by_cases h0 : r = 0
    · have hb : bt = true := by rw [HBT.out]; simp [h0]
      subst hb
      have hd6 : decide ((6 : Int) ≤ (deep : Int)) = true := by rw [decide_eq_true_iff]; omega
      go_quiet (fail)
      go_wp2
      go_meet
      exact ⟨rfl, HIN.out.later (below_drewN (Below.refl _ _) _)⟩
    · have hd6 : decide ((6 : Int) ≤ (deep : Int)) = false := by rw [decide_eq_false_iff_not]; omega
      by_cases hl : u.length ≤ at_
      · have hb : bt = true := by rw [HBT.out]; simp [hl]
        subst hb
        have hd : decide ((u.length : Int) ≤ (at_ : Int)) = true := by rw [decide_eq_true_iff]; omega
        go_quiet (fail)
        go_wp2
        go_meet
        exact ⟨rfl, HIN.out.later (below_drewN (Below.refl _ _) _)⟩
      · have hb : bt = false := by rw [HBT.out]; simp [h0, hl]
        subst hb
        have hd : decide ((u.length : Int) ≤ (at_ : Int)) = false := by rw [decide_eq_false_iff_not]; omega
        go_quiet (fail)
        go_wp2
        go_meet
        exact ⟨rfl, HIN.out.later (below_drewN (Below.refl _ _) _)⟩
  case rest =>
    clear HIN hc
    obtain ⟨rfl, HIN⟩ := hcut
    obtain ⟨K, hK⟩ : ∃ K : Nat, K = if bt = true then 4 else 10 := ⟨_, rfl⟩
    have HK := Lib.hid hK
    clear hK
    go_upto_if 23 with fail
    go_cut [5] (fun b wx => b = .int .i64 (K : Nat) ∧ Hid (InTree gb UA uc u NA nc names w wx at_))
    case first =>
      cases bt with
      | true =>
        have hk4 : K = 4 := HK.out
        subst hk4
        go_wp2
        go_meet
        exact ⟨rfl, HIN⟩
      | false =>
        have hk4 : K = 10 := HK.out
        subst hk4
        go_wp2
        go_meet
        exact ⟨rfl, HIN⟩
    case rest =>
      clear HIN
      obtain ⟨rfl, HIN⟩ := hcut
      have hK0 : 0 < K ∧ K ≤ 10 := by have := HK.out; split at this <;> omega
      have HNX := Lib.hid (next_in HIN.out K hK0.1 (by omega))
      have hnK := nextP_lt u at_ K hK0.1
      have HG : Hid (((nextP u at_ K).1 < 4 → growT names u r at_ = leafG names u (nextP u at_ K).1 (nextP u at_ K).2) ∧ (4 ≤ (nextP u at_ K).1 → ∃ r', r = r' + 1 ∧ growT names u r at_ = pickG (growT names u r') names u (nextP u at_ K).1 (nextP u at_ K).2)) := by
        have hb := HBT.out
        have hk := HK.out
        cases bt with
        | true =>
          rw [if_pos rfl] at hk
          subst hk
          refine ⟨fun _ => ?_, fun h => by omega⟩
          cases r with
          | zero => rfl
          | succ r =>
            have hl : u.length ≤ at_ := by simpa using hb.symm
            rw [growT, if_pos hl]
        | false =>
          rw [if_neg (by decide)] at hk
          subst hk
          cases r with
          | zero => simp at hb
          | succ r =>
            have hl : ¬ u.length ≤ at_ := by simpa using hb.symm
            refine ⟨fun h => ?_, fun h => ⟨r, rfl, by rw [growT, if_neg hl]⟩⟩
            rw [growT, if_neg hl, pickG, if_pos h]
      have hn10 : (nextP u at_ K).1 < 10 := by omega
      clear hK0 HK HBT HIN
      generalize nextP u at_ K = N at *
      obtain ⟨n, a1⟩ := N
      simp only at hnK HNX HG hn10
      go_wp2_with (go_at_call 83; refine HNX.out.mono ?_)
      rintro e w2 ⟨rfl, hIN2, _⟩
      have HIN2 := Lib.hid hIN2
      clear hIN2 HNX
      have hgl2 : gb < w2.heap.size := HIN2.out.grow.blk.lt
      rcases (show n = 0 ∨ n = 1 ∨ n = 2 ∨ n = 3 ∨ (n = 4 ∨ n = 5 ∨ n = 6) ∨ (n = 7 ∨ n = 8) ∨ n = 9 by omega) with rfl | rfl | rfl | rfl | hn | hn | rfl
      · -- a name, or chars
        have c2 := HIN2.out.grow.blk.cell 2
        by_cases hnl : names.length = 0
        · have HT0 : Hid (growT names u r at_ = (.mk 2 [98] 0 0 0 0 [], a1)) := by
            show _ = _
            rw [HG.out.1 (by omega), leafG, if_pos rfl, if_pos hnl]
          rw [hnl] at c2
          have r0 := HIN2.out.res.cell
          have rf := HIN2.out.res.frozen
          have hrl := HIN2.out.res.lt
          unfold zeroG at r0
          clear HG
          go_wp2
          refine bodyPost_ret (v := treeV (.mk 2 [98] 0 0 0 0 []) (.slice none 0 0)) ?_ rfl ?_
          · simp [results, Tryz.results41, go_sem, r0]
            rfl
          · rw [HT0.out]
            exact gr_end HIN2.out (.mk 2 [98] 0 0 0 0 []) (.slice none 0 0) (.nil _ _) (by show 1 ≤ maxLen; unfold maxLen; omega)
        · have hx := nextP_lt u a1 names.length (by omega)
          have HT0 : Hid (growT names u r at_ = (.mk 1 (names.getD (nextP u a1 names.length).1 []) 0 0 0 0 [], (nextP u a1 names.length).2)) := by
            show _ = _
            rw [HG.out.1 (by omega), leafG, if_pos rfl, if_neg hnl]
          have HN2 := Lib.hid (next_in (HIN2.out.later (Below.refl w2.heap.size w2).drew) names.length (by omega) (by omega))
          obtain ⟨nm, hnm⟩ : ∃ nm, names[(nextP u a1 names.length).1]? = some nm := ⟨_, List.getElem?_eq_getElem hx⟩
          rw [List.getD_eq_getElem?_getD, hnm, Option.getD_some] at HT0
          generalize nextP u a1 names.length = N2 at *
          obtain ⟨n2, a2⟩ := N2
          simp only at hx HN2 hnm HT0
          obtain ⟨g, off, rfl, hg, hcw⟩ := HIN2.out.grow.words n2 nm hnm
          have HNM := Lib.hid hnm
          have hl1 : (n2 : Int) < (names.length : Int) := by omega
          have hl0 : (0 : Int) ≤ (n2 : Int) := by omega
          have hnn : (0 : Int) < (names.length : Int) := by omega
          have htx : nm.length ≤ maxLen := by have := HSN.out nm (List.mem_of_getElem? hnm); unfold maxLen; omega
          have HTX := Lib.hid htx
          clear HG hnm hcw htx
          go_wp2_with fail
          go_region_law (first
            | (go_simp; go_at_call 83; refine HN2.out.mono ?_; rintro e w3 ⟨rfl, hIN3, _⟩; have c23 := hIN3.grow.blk.cell 2; have hcw3 := hIN3.grow.word HNM.out; have HIN3 := Lib.hid hIN3; have r0 := hIN3.res.cell; have rf := hIN3.res.frozen; have hrl := hIN3.res.lt; unfold zeroG at r0; clear hIN3))
          all_goals
            clear c2 hgl2
            go_wp2
            refine bodyPost_ret (v := treeV (.mk 1 nm 0 0 0 0 []) (.slice none 0 0)) ?_ rfl ?_
            · simp [results, Tryz.results41, go_sem, r0]
              rfl
            · rw [HT0.out]
              exact gr_end HIN3.out (.mk 1 nm 0 0 0 0 []) (.slice none 0 0) (.nil _ _) HTX.out
      · have hx := nextP_lt u a1 6 (by omega)
        have HT0 : Hid (growT names u r at_ = (.mk 2 (charWords.getD (nextP u a1 6).1 []) 0 0 0 0 [], (nextP u a1 6).2)) := by
          show _ = _
          rw [HG.out.1 (by omega), leafG]
          rfl
        have hbA : Below w2.heap.size w2 (w2.alloc (.cells #[.string ⟨#[97]⟩, .string ⟨#[97, 98]⟩, .string ⟨#[]⟩, .string ⟨#[98, 32, 99]⟩, .string ⟨#[65, 45, 98]⟩, .string ⟨#[43]⟩] 9)) := (Below.refl _ _).alloc (Nat.le_refl _) _
        have HN2 := Lib.hid (next_in (HIN2.out.later hbA) 6 (by omega) (by omega))
        have HBK : Hid (Blk (w2.alloc (.cells #[.string ⟨#[97]⟩, .string ⟨#[97, 98]⟩, .string ⟨#[]⟩, .string ⟨#[98, 32, 99]⟩, .string ⟨#[65, 45, 98]⟩, .string ⟨#[43]⟩] 9)) w2.heap.size 9 #[.string ⟨#[97]⟩, .string ⟨#[97, 98]⟩, .string ⟨#[]⟩, .string ⟨#[98, 32, 99]⟩, .string ⟨#[65, 45, 98]⟩, .string ⟨#[43]⟩]) := Blk.new _ _ _
        generalize nextP u a1 6 = N2 at *
        obtain ⟨n2, a2⟩ := N2
        simp only at hx HN2 HT0
        clear HG hbA
        go_wp2_with (go_at_call 83; refine HN2.out.mono ?_)
        rintro e w3 ⟨rfl, hIN3, ho3⟩
        have hcw : w3.cell? ⟨w2.heap.size, n2, none⟩ = some (.string (bs (charWords.getD n2 []))) := word_at ((ho3.block _ HBK.out.lt (fun e => by have := Option.some.inj e; omega)).trans HBK.out) charWords rfl n2 hx
        have HIN3 := Lib.hid hIN3
        have htx : (charWords.getD n2 []).length ≤ maxLen := by
          have : ∀ x ∈ charWords, x.length ≤ 100 := by decide
          have := this _ (getD_mem charWords n2 [] hx)
          unfold maxLen
          omega
        have HTX := Lib.hid htx
        have hl1 : (n2 : Int) < 6 := by omega
        have hl0 : (0 : Int) ≤ (n2 : Int) := by omega
        generalize charWords.getD n2 [] = wd at *
        have r0 := HIN3.out.res.cell
        have rf := HIN3.out.res.frozen
        have hrl := HIN3.out.res.lt
        unfold zeroG at r0
        clear hIN3 ho3 HN2 HBK htx
        go_wp2
        refine bodyPost_ret (v := treeV (.mk 2 wd 0 0 0 0 []) (.slice none 0 0)) ?_ rfl ?_
        · simp [results, Tryz.results41, go_sem, r0]
          rfl
        · rw [HT0.out]
          exact gr_end HIN3.out (.mk 2 wd 0 0 0 0 []) (.slice none 0 0) (.nil _ _) HTX.out
      · have hx := nextP_lt u a1 5 (by omega)
        have HT0 : Hid (growT names u r at_ = (.mk 3 (byteWords.getD (nextP u a1 5).1 []) 0 0 0 0 [], (nextP u a1 5).2)) := by
          show _ = _
          rw [HG.out.1 (by omega), leafG]
          rfl
        have hbA : Below w2.heap.size w2 (w2.alloc (.cells #[.string ⟨#[97]⟩, .string ⟨#[13, 10]⟩, .string ⟨#[65]⟩, .string ⟨#[0, 255]⟩, .string ⟨#[128]⟩] 9)) := (Below.refl _ _).alloc (Nat.le_refl _) _
        have HN2 := Lib.hid (next_in (HIN2.out.later hbA) 5 (by omega) (by omega))
        have HBK : Hid (Blk (w2.alloc (.cells #[.string ⟨#[97]⟩, .string ⟨#[13, 10]⟩, .string ⟨#[65]⟩, .string ⟨#[0, 255]⟩, .string ⟨#[128]⟩] 9)) w2.heap.size 9 #[.string ⟨#[97]⟩, .string ⟨#[13, 10]⟩, .string ⟨#[65]⟩, .string ⟨#[0, 255]⟩, .string ⟨#[128]⟩]) := Blk.new _ _ _
        generalize nextP u a1 5 = N2 at *
        obtain ⟨n2, a2⟩ := N2
        simp only at hx HN2 HT0
        clear HG hbA
        go_wp2_with (go_at_call 83; refine HN2.out.mono ?_)
        rintro e w3 ⟨rfl, hIN3, ho3⟩
        have hcw : w3.cell? ⟨w2.heap.size, n2, none⟩ = some (.string (bs (byteWords.getD n2 []))) := word_at ((ho3.block _ HBK.out.lt (fun e => by have := Option.some.inj e; omega)).trans HBK.out) byteWords rfl n2 hx
        have HIN3 := Lib.hid hIN3
        have htx : (byteWords.getD n2 []).length ≤ maxLen := by
          have : ∀ x ∈ byteWords, x.length ≤ 100 := by decide
          have := this _ (getD_mem byteWords n2 [] hx)
          unfold maxLen
          omega
        have HTX := Lib.hid htx
        have hl1 : (n2 : Int) < 5 := by omega
        have hl0 : (0 : Int) ≤ (n2 : Int) := by omega
        generalize byteWords.getD n2 [] = wd at *
        have r0 := HIN3.out.res.cell
        have rf := HIN3.out.res.frozen
        have hrl := HIN3.out.res.lt
        unfold zeroG at r0
        clear hIN3 ho3 HN2 HBK htx
        go_wp2
        refine bodyPost_ret (v := treeV (.mk 3 wd 0 0 0 0 []) (.slice none 0 0)) ?_ rfl ?_
        · simp [results, Tryz.results41, go_sem, r0]
          rfl
        · rw [HT0.out]
          exact gr_end HIN3.out (.mk 3 wd 0 0 0 0 []) (.slice none 0 0) (.nil _ _) HTX.out
      · have hlo := nextP_lt u a1 256 (by omega)
        have HT0 : Hid (growT names u r at_ = (.mk 4 [] ((nextP u a1 256).1 : Nat) (((nextP u a1 256).1 + (nextP u (nextP u a1 256).2 (256 - (nextP u a1 256).1)).1 : Nat) : Int) 0 0 [], (nextP u (nextP u a1 256).2 (256 - (nextP u a1 256).1)).2)) := by
          show _ = _
          rw [HG.out.1 (by omega), leafG]
          rfl
        have HN2 := Lib.hid (next_in HIN2.out 256 (by omega) (by omega))
        generalize nextP u a1 256 = N2 at *
        obtain ⟨lo, a2⟩ := N2
        simp only at hlo HN2 HT0
        clear HG
        go_wp2_with (go_at_call 83; refine HN2.out.mono ?_)
        rintro e w3 ⟨rfl, hIN3, _⟩
        have hhi := nextP_lt u a2 (256 - lo) (by omega)
        have HN3 := Lib.hid (next_in hIN3 (256 - lo) (by omega) (by omega))
        rw [show ((256 - lo : Nat) : Int) = 256 - (lo : Int) from by omega] at HN3
        generalize nextP u a2 (256 - lo) = N3 at *
        obtain ⟨hi, a3⟩ := N3
        simp only at hhi HN3 HT0
        rw [show (((lo + hi : Nat)) : Int) = (lo : Int) + hi from by omega] at HT0
        have e1 : IntKind.i64.wrap (256 - (lo : Int)) = 256 - (lo : Int) := IntWalk.i64_in _ (by omega)
        have e2 : IntKind.u8.wrap (lo : Int) = lo := by unfold IntKind.wrap; simp [IntKind.bits, IntKind.signed]; omega
        have e3 : IntKind.u8.wrap ((lo : Int) + (hi : Int)) = (lo : Int) + hi := by unfold IntKind.wrap; simp [IntKind.bits, IntKind.signed]; omega
        clear hIN3 HN2
        go_wp2_with (go_at_call 83; refine HN3.out.mono ?_)
        rintro e w4 ⟨rfl, hIN4, _⟩
        have HIN4 := Lib.hid hIN4
        have r0 := HIN4.out.res.cell
        have rf := HIN4.out.res.frozen
        have hrl := HIN4.out.res.lt
        unfold zeroG at r0
        clear hIN4 HN3
        go_wp2
        refine bodyPost_ret (v := treeV (.mk 4 [] (lo : Int) ((lo : Int) + hi) 0 0 []) (.slice none 0 0)) ?_ rfl ?_
        · simp [results, Tryz.results41, go_sem, r0]
          rfl
        · rw [HT0.out]
          exact gr_end HIN4.out (.mk 4 [] (lo : Int) ((lo : Int) + hi) 0 0 []) (.slice none 0 0) (.nil _ _) (Nat.zero_le _)
      · obtain ⟨r', rfl, hgt⟩ := HG.out.2 (by omega)
        have HT0 : Hid (growT names u (r' + 1) at_ = someG (growT names u r') u 5 a1) := by
          show _ = _
          rw [hgt, pickG, if_neg (by omega)]
          rw [if_pos (by omega)]
        have HSO := Lib.hid (some_any gb UA uc u NA nc names r' deep hr (HTR.out r' rfl) 5 w2 a1 HIN2.out.grow)
        generalize someG (growT names u r') u 5 a1 = SG at *
        obtain ⟨t, a5⟩ := SG
        have hn' := hn
        clear HG hgt
        rcases hn' with rfl | rfl | rfl
        all_goals
          go_wp2_with (go_at_call 84; refine HSO.out.mono ?_)
          rintro e w3 ⟨sl, rfl, hk3, htx3, hg3, ho3⟩
          have hIN3 := HIN2.out.step ho3 hg3
          have HIN3 := Lib.hid hIN3
          have HK3 : Hid (KidsAt w3 (fun b => w.heap.size + 1 ≤ b) t.kids sl) := hk3.mono (fun b _ hb => Nat.le_trans HIN2.out.res.lt hb)
          obtain ⟨kp, kc, rfl, _⟩ := hk3.form
          have HTX := Lib.hid htx3
          have r0 := HIN3.out.res.cell
          have rf := HIN3.out.res.frozen
          have hrl := HIN3.out.res.lt
          unfold zeroG at r0
          unfold treeV
          clear hIN3 hk3 hg3 ho3 htx3
          simp only at HT0 HK3 HTX
          go_wp2
          refine bodyPost_ret (v := treeV t (.slice kp t.kids.length kc)) ?_ rfl ?_
          · simp [results, Tryz.results41, go_sem, r0]
            rfl
          · rw [HT0.out]
            exact gr_end HIN3.out t (.slice kp t.kids.length kc) HK3.out HTX.out
      · obtain ⟨r', rfl, hgt⟩ := HG.out.2 (by omega)
        have HT0 : Hid (growT names u (r' + 1) at_ = someG (growT names u r') u 6 a1) := by
          show _ = _
          rw [hgt, pickG, if_neg (by omega)]
          rw [if_neg (by omega), if_pos (by omega)]
        have HSO := Lib.hid (some_any gb UA uc u NA nc names r' deep hr (HTR.out r' rfl) 6 w2 a1 HIN2.out.grow)
        generalize someG (growT names u r') u 6 a1 = SG at *
        obtain ⟨t, a5⟩ := SG
        have hn' := hn
        clear HG hgt
        rcases hn' with rfl | rfl
        all_goals
          go_wp2_with (go_at_call 84; refine HSO.out.mono ?_)
          rintro e w3 ⟨sl, rfl, hk3, htx3, hg3, ho3⟩
          have hIN3 := HIN2.out.step ho3 hg3
          have HIN3 := Lib.hid hIN3
          have HK3 : Hid (KidsAt w3 (fun b => w.heap.size + 1 ≤ b) t.kids sl) := hk3.mono (fun b _ hb => Nat.le_trans HIN2.out.res.lt hb)
          obtain ⟨kp, kc, rfl, _⟩ := hk3.form
          have HTX := Lib.hid htx3
          have r0 := HIN3.out.res.cell
          have rf := HIN3.out.res.frozen
          have hrl := HIN3.out.res.lt
          unfold zeroG at r0
          unfold treeV
          clear hIN3 hk3 hg3 ho3 htx3
          simp only at HT0 HK3 HTX
          go_wp2
          refine bodyPost_ret (v := treeV t (.slice kp t.kids.length kc)) ?_ rfl ?_
          · simp [results, Tryz.results41, go_sem, r0]
            rfl
          · rw [HT0.out]
            exact gr_end HIN3.out t (.slice kp t.kids.length kc) HK3.out HTX.out
      · obtain ⟨r', rfl, hgt⟩ := HG.out.2 (by omega)
        have HT0 : Hid (growT names u (r' + 1) at_ = (.mk 7 [] 0 0 (oftenG u a1).1 (oftenG u a1).2.1 [(growT names u r' (oftenG u a1).2.2).1], (growT names u r' (oftenG u a1).2.2).2)) := by
          show _ = _
          rw [hgt, pickG, if_neg (by omega), if_neg (by omega), if_neg (by omega)]
          rfl
        have hbA : Below w2.heap.size w2 (w2.alloc (.cells #[.int .u8 7, .string ⟨#[]⟩, .int .u8 0, .int .u8 0, .int .i64 0, .int .i64 (-1), .slice none 0 0] 25)) := (Below.refl _ _).alloc (Nat.le_refl _) _
        have HN2 := Lib.hid (next_in (HIN2.out.later hbA) 5 (by omega) (by omega))
        have HBK : Hid (Blk (w2.alloc (.cells #[.int .u8 7, .string ⟨#[]⟩, .int .u8 0, .int .u8 0, .int .i64 0, .int .i64 (-1), .slice none 0 0] 25)) w2.heap.size 25 #[.int .u8 7, .string ⟨#[]⟩, .int .u8 0, .int .u8 0, .int .i64 0, .int .i64 (-1), .slice none 0 0]) := Blk.new _ _ _
        have hq := nextP_lt u a1 5 (by omega)
        have hw2 : w.heap.size < w2.heap.size := HIN2.out.res.lt
        have HOF : Hid (oftenG u a1 = (if (nextP u a1 5).1 = 1 then (0, 1, (nextP u a1 5).2) else if (nextP u a1 5).1 = 2 then (1, -1, (nextP u a1 5).2) else if (nextP u a1 5).1 = 3 then (2, 2, (nextP u a1 5).2) else if (nextP u a1 5).1 = 4 then (((nextP u (nextP u a1 5).2 3).1 : Nat), (((nextP u (nextP u a1 5).2 3).1 : Nat) : Int) + ((nextP u (nextP u (nextP u a1 5).2 3).2 3).1 : Nat), (nextP u (nextP u (nextP u a1 5).2 3).2 3).2) else (0, -1, (nextP u a1 5).2) : Int × Int × Nat)) := show _ = _ from rfl
        generalize nextP u a1 5 = N2 at *
        obtain ⟨q, a2⟩ := N2
        simp only at hq HN2 HOF
        clear HG hgt hbA
        go_wp2_with (go_at_call 83; refine HN2.out.mono ?_)
        rintro e w3 ⟨rfl, hIN3, ho3⟩
        have hT3 : Blk w3 w2.heap.size 25 #[.int .u8 7, .string ⟨#[]⟩, .int .u8 0, .int .u8 0, .int .i64 0, .int .i64 (-1), .slice none 0 0] := (ho3.block _ HBK.out.lt (fun e => by have := Option.some.inj e; omega)).trans HBK.out
        have HIN3 := Lib.hid hIN3
        have HT3 := Lib.hid hT3
        have hc3 := hT3.cell
        have hf3 := hT3.frozen
        clear hIN3 ho3 HN2 HBK hT3
        rcases (show q = 0 ∨ q = 1 ∨ q = 2 ∨ q = 3 ∨ q = 4 by omega) with rfl | rfl | rfl | rfl | rfl
        · have hof : oftenG u a1 = (0, (-1), a2) := HOF.out
          rw [hof] at HT0
          simp only at HT0
          have HIN5 : Hid (InTree gb UA uc u NA nc names w (w3) a2) := HIN3.out
          have HB5 : Hid (Blk (w3) w2.heap.size 25 #[.int .u8 7, .string ⟨#[]⟩, .int .u8 0, .int .u8 0, .int .i64 0, .int .i64 (-1), .slice none 0 0]) := HT3.out
          clear HOF hof HIN3 HT3
          go_upto_region 36 with fail
          clear hc3 hf3
          generalize w3 = W5 at *
          have HTC := Lib.hid (HTR.out r' rfl W5 a2 (deep + 1) (by omega) HIN5.out.grow)
          rw [show ((deep + 1 : Nat) : Int) = (deep : Int) + 1 from by omega] at HTC
          have e5 : IntKind.i64.wrap ((deep : Int) + 1) = (deep : Int) + 1 := IntWalk.i64_in _ (by omega)
          generalize growT names u r' a2 = KT at *
          obtain ⟨t, a6⟩ := KT
          go_wp2_with (go_at_call 41; refine HTC.out.mono ?_)
          rintro e w6 ⟨sl, rfl, hk6, htx6, hg6, ho6⟩
          have hIN6 := HIN5.out.step ho6 hg6
          have hT6 : Blk w6 w2.heap.size 25 #[.int .u8 7, .string ⟨#[]⟩, .int .u8 0, .int .u8 0, .int .i64 0, .int .i64 (-1), .slice none 0 0] := (ho6.block _ HB5.out.lt (fun e => by have := Option.some.inj e; omega)).trans HB5.out
          have hk6' : KidsAt w6 (fun b => w.heap.size + 1 ≤ b ∧ b ≠ w2.heap.size) t.kids sl := hk6.mono (fun b _ hb => ⟨by have := HB5.out.lt; omega, by have := HB5.out.lt; omega⟩)
          obtain ⟨kp, kc, rfl, _⟩ := hk6.form
          unfold treeV
          have hsz6 : w2.heap.size < w6.heap.size := hT6.lt
          have hW7 : InTree gb UA uc u NA nc names w ((w6.setCell ⟨w2.heap.size, 6, none⟩ (.slice (some ⟨w6.heap.size, 0, none⟩) 1 1)).alloc (.cells #[.int .u8 t.kind, .string (bs t.text), .int .u8 t.lo, .int .u8 t.hi, .int .i64 t.mn, .int .i64 t.mx, .slice kp t.kids.length kc] 25)) a6 := (hIN6.new w2.heap.size 6 hw2 _).later ((Below.refl _ _).alloc (Nat.le_refl _) _)
          have hB7 : Blk ((w6.setCell ⟨w2.heap.size, 6, none⟩ (.slice (some ⟨w6.heap.size, 0, none⟩) 1 1)).alloc (.cells #[.int .u8 t.kind, .string (bs t.text), .int .u8 t.lo, .int .u8 t.hi, .int .i64 t.mn, .int .i64 t.mx, .slice kp t.kids.length kc] 25)) w2.heap.size 25 #[.int .u8 7, .string ⟨#[]⟩, .int .u8 0, .int .u8 0, .int .i64 0, .int .i64 (-1), .slice (some ⟨w6.heap.size, 0, none⟩) 1 1] := (hT6.set_ 6 _).alloc _
          have hK7 : KidsAt ((w6.setCell ⟨w2.heap.size, 6, none⟩ (.slice (some ⟨w6.heap.size, 0, none⟩) 1 1)).alloc (.cells #[.int .u8 t.kind, .string (bs t.text), .int .u8 t.lo, .int .u8 t.hi, .int .i64 t.mn, .int .i64 t.mx, .slice kp t.kids.length kc] 25)) (fun b => w.heap.size + 1 ≤ b) [t] (.slice (some ⟨w6.heap.size, 0, none⟩) 1 1) := by
            refine kid_one t (.slice kp t.kids.length kc) (Blk.new_at _ _ _ _ (by simp [World.setCell])) (hk6'.later (by simp [World.setCell]) (fun b hl hb => ⟨hb.1, ?_⟩)) (by omega) htx6
            exact (Below.heap_alloc _ _ b (by simp [World.setCell]; omega)).trans (Below.heap_setCell _ _ _ _ hb.2)
          have hc6 := hT6.cell
          have hf6 := hT6.frozen
          have HW7 := Lib.hid hW7
          have HB7 := Lib.hid hB7
          have HK7 := Lib.hid hK7
          clear hW7 hB7 hK7 hk6 hk6' hg6 ho6 hIN6 hT6 HTC HIN5 HB5 htx6
          go_upto_region 37 with fail
          clear hc6 hf6
          generalize (w6.setCell ⟨w2.heap.size, 6, none⟩ (.slice (some ⟨w6.heap.size, 0, none⟩) 1 1)).alloc (.cells #[.int .u8 t.kind, .string (bs t.text), .int .u8 t.lo, .int .u8 t.hi, .int .i64 t.mn, .int .i64 t.mx, .slice kp t.kids.length kc] 25) = W7 at *
          have hc7 := HB7.out.cell
          have r0 := HW7.out.res.cell
          have rf := HW7.out.res.frozen
          have hrl := HW7.out.res.lt
          unfold zeroG at r0
          go_wp2
          refine bodyPost_ret (v := treeV (.mk 7 [] 0 0 0 (-1) [t]) (.slice (some ⟨w6.heap.size, 0, none⟩) 1 1)) ?_ rfl ?_
          · simp [results, Tryz.results41, go_sem, r0]
            rfl
          · rw [HT0.out]
            exact gr_end HW7.out (.mk 7 [] 0 0 0 (-1) [t]) (.slice (some ⟨w6.heap.size, 0, none⟩) 1 1) HK7.out (Nat.zero_le _)
        · have hof : oftenG u a1 = (0, 1, a2) := HOF.out
          rw [hof] at HT0
          simp only at HT0
          have HIN5 : Hid (InTree gb UA uc u NA nc names w (w3.setCell ⟨w2.heap.size, 5, none⟩ (.int .i64 1)) a2) := HIN3.out.new w2.heap.size 5 hw2 _
          have HB5 : Hid (Blk (w3.setCell ⟨w2.heap.size, 5, none⟩ (.int .i64 1)) w2.heap.size 25 #[.int .u8 7, .string ⟨#[]⟩, .int .u8 0, .int .u8 0, .int .i64 0, .int .i64 1, .slice none 0 0]) := HT3.out.set_ 5 _
          clear HOF hof HIN3 HT3
          go_upto_region 36 with fail
          clear hc3 hf3
          generalize w3.setCell ⟨w2.heap.size, 5, none⟩ (.int .i64 1) = W5 at *
          have HTC := Lib.hid (HTR.out r' rfl W5 a2 (deep + 1) (by omega) HIN5.out.grow)
          rw [show ((deep + 1 : Nat) : Int) = (deep : Int) + 1 from by omega] at HTC
          have e5 : IntKind.i64.wrap ((deep : Int) + 1) = (deep : Int) + 1 := IntWalk.i64_in _ (by omega)
          generalize growT names u r' a2 = KT at *
          obtain ⟨t, a6⟩ := KT
          go_wp2_with (go_at_call 41; refine HTC.out.mono ?_)
          rintro e w6 ⟨sl, rfl, hk6, htx6, hg6, ho6⟩
          have hIN6 := HIN5.out.step ho6 hg6
          have hT6 : Blk w6 w2.heap.size 25 #[.int .u8 7, .string ⟨#[]⟩, .int .u8 0, .int .u8 0, .int .i64 0, .int .i64 1, .slice none 0 0] := (ho6.block _ HB5.out.lt (fun e => by have := Option.some.inj e; omega)).trans HB5.out
          have hk6' : KidsAt w6 (fun b => w.heap.size + 1 ≤ b ∧ b ≠ w2.heap.size) t.kids sl := hk6.mono (fun b _ hb => ⟨by have := HB5.out.lt; omega, by have := HB5.out.lt; omega⟩)
          obtain ⟨kp, kc, rfl, _⟩ := hk6.form
          unfold treeV
          have hsz6 : w2.heap.size < w6.heap.size := hT6.lt
          have hW7 : InTree gb UA uc u NA nc names w ((w6.setCell ⟨w2.heap.size, 6, none⟩ (.slice (some ⟨w6.heap.size, 0, none⟩) 1 1)).alloc (.cells #[.int .u8 t.kind, .string (bs t.text), .int .u8 t.lo, .int .u8 t.hi, .int .i64 t.mn, .int .i64 t.mx, .slice kp t.kids.length kc] 25)) a6 := (hIN6.new w2.heap.size 6 hw2 _).later ((Below.refl _ _).alloc (Nat.le_refl _) _)
          have hB7 : Blk ((w6.setCell ⟨w2.heap.size, 6, none⟩ (.slice (some ⟨w6.heap.size, 0, none⟩) 1 1)).alloc (.cells #[.int .u8 t.kind, .string (bs t.text), .int .u8 t.lo, .int .u8 t.hi, .int .i64 t.mn, .int .i64 t.mx, .slice kp t.kids.length kc] 25)) w2.heap.size 25 #[.int .u8 7, .string ⟨#[]⟩, .int .u8 0, .int .u8 0, .int .i64 0, .int .i64 1, .slice (some ⟨w6.heap.size, 0, none⟩) 1 1] := (hT6.set_ 6 _).alloc _
          have hK7 : KidsAt ((w6.setCell ⟨w2.heap.size, 6, none⟩ (.slice (some ⟨w6.heap.size, 0, none⟩) 1 1)).alloc (.cells #[.int .u8 t.kind, .string (bs t.text), .int .u8 t.lo, .int .u8 t.hi, .int .i64 t.mn, .int .i64 t.mx, .slice kp t.kids.length kc] 25)) (fun b => w.heap.size + 1 ≤ b) [t] (.slice (some ⟨w6.heap.size, 0, none⟩) 1 1) := by
            refine kid_one t (.slice kp t.kids.length kc) (Blk.new_at _ _ _ _ (by simp [World.setCell])) (hk6'.later (by simp [World.setCell]) (fun b hl hb => ⟨hb.1, ?_⟩)) (by omega) htx6
            exact (Below.heap_alloc _ _ b (by simp [World.setCell]; omega)).trans (Below.heap_setCell _ _ _ _ hb.2)
          have hc6 := hT6.cell
          have hf6 := hT6.frozen
          have HW7 := Lib.hid hW7
          have HB7 := Lib.hid hB7
          have HK7 := Lib.hid hK7
          clear hW7 hB7 hK7 hk6 hk6' hg6 ho6 hIN6 hT6 HTC HIN5 HB5 htx6
          go_upto_region 37 with fail
          clear hc6 hf6
          generalize (w6.setCell ⟨w2.heap.size, 6, none⟩ (.slice (some ⟨w6.heap.size, 0, none⟩) 1 1)).alloc (.cells #[.int .u8 t.kind, .string (bs t.text), .int .u8 t.lo, .int .u8 t.hi, .int .i64 t.mn, .int .i64 t.mx, .slice kp t.kids.length kc] 25) = W7 at *
          have hc7 := HB7.out.cell
          have r0 := HW7.out.res.cell
          have rf := HW7.out.res.frozen
          have hrl := HW7.out.res.lt
          unfold zeroG at r0
          go_wp2
          refine bodyPost_ret (v := treeV (.mk 7 [] 0 0 0 1 [t]) (.slice (some ⟨w6.heap.size, 0, none⟩) 1 1)) ?_ rfl ?_
          · simp [results, Tryz.results41, go_sem, r0]
            rfl
          · rw [HT0.out]
            exact gr_end HW7.out (.mk 7 [] 0 0 0 1 [t]) (.slice (some ⟨w6.heap.size, 0, none⟩) 1 1) HK7.out (Nat.zero_le _)
        · have hof : oftenG u a1 = (1, (-1), a2) := HOF.out
          rw [hof] at HT0
          simp only at HT0
          have HIN5 : Hid (InTree gb UA uc u NA nc names w (w3.setCell ⟨w2.heap.size, 4, none⟩ (.int .i64 1)) a2) := HIN3.out.new w2.heap.size 4 hw2 _
          have HB5 : Hid (Blk (w3.setCell ⟨w2.heap.size, 4, none⟩ (.int .i64 1)) w2.heap.size 25 #[.int .u8 7, .string ⟨#[]⟩, .int .u8 0, .int .u8 0, .int .i64 1, .int .i64 (-1), .slice none 0 0]) := HT3.out.set_ 4 _
          clear HOF hof HIN3 HT3
          go_upto_region 36 with fail
          clear hc3 hf3
          generalize w3.setCell ⟨w2.heap.size, 4, none⟩ (.int .i64 1) = W5 at *
          have HTC := Lib.hid (HTR.out r' rfl W5 a2 (deep + 1) (by omega) HIN5.out.grow)
          rw [show ((deep + 1 : Nat) : Int) = (deep : Int) + 1 from by omega] at HTC
          have e5 : IntKind.i64.wrap ((deep : Int) + 1) = (deep : Int) + 1 := IntWalk.i64_in _ (by omega)
          generalize growT names u r' a2 = KT at *
          obtain ⟨t, a6⟩ := KT
          go_wp2_with (go_at_call 41; refine HTC.out.mono ?_)
          rintro e w6 ⟨sl, rfl, hk6, htx6, hg6, ho6⟩
          have hIN6 := HIN5.out.step ho6 hg6
          have hT6 : Blk w6 w2.heap.size 25 #[.int .u8 7, .string ⟨#[]⟩, .int .u8 0, .int .u8 0, .int .i64 1, .int .i64 (-1), .slice none 0 0] := (ho6.block _ HB5.out.lt (fun e => by have := Option.some.inj e; omega)).trans HB5.out
          have hk6' : KidsAt w6 (fun b => w.heap.size + 1 ≤ b ∧ b ≠ w2.heap.size) t.kids sl := hk6.mono (fun b _ hb => ⟨by have := HB5.out.lt; omega, by have := HB5.out.lt; omega⟩)
          obtain ⟨kp, kc, rfl, _⟩ := hk6.form
          unfold treeV
          have hsz6 : w2.heap.size < w6.heap.size := hT6.lt
          have hW7 : InTree gb UA uc u NA nc names w ((w6.setCell ⟨w2.heap.size, 6, none⟩ (.slice (some ⟨w6.heap.size, 0, none⟩) 1 1)).alloc (.cells #[.int .u8 t.kind, .string (bs t.text), .int .u8 t.lo, .int .u8 t.hi, .int .i64 t.mn, .int .i64 t.mx, .slice kp t.kids.length kc] 25)) a6 := (hIN6.new w2.heap.size 6 hw2 _).later ((Below.refl _ _).alloc (Nat.le_refl _) _)
          have hB7 : Blk ((w6.setCell ⟨w2.heap.size, 6, none⟩ (.slice (some ⟨w6.heap.size, 0, none⟩) 1 1)).alloc (.cells #[.int .u8 t.kind, .string (bs t.text), .int .u8 t.lo, .int .u8 t.hi, .int .i64 t.mn, .int .i64 t.mx, .slice kp t.kids.length kc] 25)) w2.heap.size 25 #[.int .u8 7, .string ⟨#[]⟩, .int .u8 0, .int .u8 0, .int .i64 1, .int .i64 (-1), .slice (some ⟨w6.heap.size, 0, none⟩) 1 1] := (hT6.set_ 6 _).alloc _
          have hK7 : KidsAt ((w6.setCell ⟨w2.heap.size, 6, none⟩ (.slice (some ⟨w6.heap.size, 0, none⟩) 1 1)).alloc (.cells #[.int .u8 t.kind, .string (bs t.text), .int .u8 t.lo, .int .u8 t.hi, .int .i64 t.mn, .int .i64 t.mx, .slice kp t.kids.length kc] 25)) (fun b => w.heap.size + 1 ≤ b) [t] (.slice (some ⟨w6.heap.size, 0, none⟩) 1 1) := by
            refine kid_one t (.slice kp t.kids.length kc) (Blk.new_at _ _ _ _ (by simp [World.setCell])) (hk6'.later (by simp [World.setCell]) (fun b hl hb => ⟨hb.1, ?_⟩)) (by omega) htx6
            exact (Below.heap_alloc _ _ b (by simp [World.setCell]; omega)).trans (Below.heap_setCell _ _ _ _ hb.2)
          have hc6 := hT6.cell
          have hf6 := hT6.frozen
          have HW7 := Lib.hid hW7
          have HB7 := Lib.hid hB7
          have HK7 := Lib.hid hK7
          clear hW7 hB7 hK7 hk6 hk6' hg6 ho6 hIN6 hT6 HTC HIN5 HB5 htx6
          go_upto_region 37 with fail
          clear hc6 hf6
          generalize (w6.setCell ⟨w2.heap.size, 6, none⟩ (.slice (some ⟨w6.heap.size, 0, none⟩) 1 1)).alloc (.cells #[.int .u8 t.kind, .string (bs t.text), .int .u8 t.lo, .int .u8 t.hi, .int .i64 t.mn, .int .i64 t.mx, .slice kp t.kids.length kc] 25) = W7 at *
          have hc7 := HB7.out.cell
          have r0 := HW7.out.res.cell
          have rf := HW7.out.res.frozen
          have hrl := HW7.out.res.lt
          unfold zeroG at r0
          go_wp2
          refine bodyPost_ret (v := treeV (.mk 7 [] 0 0 1 (-1) [t]) (.slice (some ⟨w6.heap.size, 0, none⟩) 1 1)) ?_ rfl ?_
          · simp [results, Tryz.results41, go_sem, r0]
            rfl
          · rw [HT0.out]
            exact gr_end HW7.out (.mk 7 [] 0 0 1 (-1) [t]) (.slice (some ⟨w6.heap.size, 0, none⟩) 1 1) HK7.out (Nat.zero_le _)
        · have hof : oftenG u a1 = (2, 2, a2) := HOF.out
          rw [hof] at HT0
          simp only at HT0
          have HIN5 : Hid (InTree gb UA uc u NA nc names w ((w3.setCell ⟨w2.heap.size, 4, none⟩ (.int .i64 2)).setCell ⟨w2.heap.size, 5, none⟩ (.int .i64 2)) a2) := (HIN3.out.new w2.heap.size 4 hw2 _).new w2.heap.size 5 hw2 _
          have HB5 : Hid (Blk ((w3.setCell ⟨w2.heap.size, 4, none⟩ (.int .i64 2)).setCell ⟨w2.heap.size, 5, none⟩ (.int .i64 2)) w2.heap.size 25 #[.int .u8 7, .string ⟨#[]⟩, .int .u8 0, .int .u8 0, .int .i64 2, .int .i64 2, .slice none 0 0]) := (HT3.out.set_ 4 _).set_ 5 _
          clear HOF hof HIN3 HT3
          go_upto_region 36 with fail
          clear hc3 hf3
          generalize (w3.setCell ⟨w2.heap.size, 4, none⟩ (.int .i64 2)).setCell ⟨w2.heap.size, 5, none⟩ (.int .i64 2) = W5 at *
          have HTC := Lib.hid (HTR.out r' rfl W5 a2 (deep + 1) (by omega) HIN5.out.grow)
          rw [show ((deep + 1 : Nat) : Int) = (deep : Int) + 1 from by omega] at HTC
          have e5 : IntKind.i64.wrap ((deep : Int) + 1) = (deep : Int) + 1 := IntWalk.i64_in _ (by omega)
          generalize growT names u r' a2 = KT at *
          obtain ⟨t, a6⟩ := KT
          go_wp2_with (go_at_call 41; refine HTC.out.mono ?_)
          rintro e w6 ⟨sl, rfl, hk6, htx6, hg6, ho6⟩
          have hIN6 := HIN5.out.step ho6 hg6
          have hT6 : Blk w6 w2.heap.size 25 #[.int .u8 7, .string ⟨#[]⟩, .int .u8 0, .int .u8 0, .int .i64 2, .int .i64 2, .slice none 0 0] := (ho6.block _ HB5.out.lt (fun e => by have := Option.some.inj e; omega)).trans HB5.out
          have hk6' : KidsAt w6 (fun b => w.heap.size + 1 ≤ b ∧ b ≠ w2.heap.size) t.kids sl := hk6.mono (fun b _ hb => ⟨by have := HB5.out.lt; omega, by have := HB5.out.lt; omega⟩)
          obtain ⟨kp, kc, rfl, _⟩ := hk6.form
          unfold treeV
          have hsz6 : w2.heap.size < w6.heap.size := hT6.lt
          have hW7 : InTree gb UA uc u NA nc names w ((w6.setCell ⟨w2.heap.size, 6, none⟩ (.slice (some ⟨w6.heap.size, 0, none⟩) 1 1)).alloc (.cells #[.int .u8 t.kind, .string (bs t.text), .int .u8 t.lo, .int .u8 t.hi, .int .i64 t.mn, .int .i64 t.mx, .slice kp t.kids.length kc] 25)) a6 := (hIN6.new w2.heap.size 6 hw2 _).later ((Below.refl _ _).alloc (Nat.le_refl _) _)
          have hB7 : Blk ((w6.setCell ⟨w2.heap.size, 6, none⟩ (.slice (some ⟨w6.heap.size, 0, none⟩) 1 1)).alloc (.cells #[.int .u8 t.kind, .string (bs t.text), .int .u8 t.lo, .int .u8 t.hi, .int .i64 t.mn, .int .i64 t.mx, .slice kp t.kids.length kc] 25)) w2.heap.size 25 #[.int .u8 7, .string ⟨#[]⟩, .int .u8 0, .int .u8 0, .int .i64 2, .int .i64 2, .slice (some ⟨w6.heap.size, 0, none⟩) 1 1] := (hT6.set_ 6 _).alloc _
          have hK7 : KidsAt ((w6.setCell ⟨w2.heap.size, 6, none⟩ (.slice (some ⟨w6.heap.size, 0, none⟩) 1 1)).alloc (.cells #[.int .u8 t.kind, .string (bs t.text), .int .u8 t.lo, .int .u8 t.hi, .int .i64 t.mn, .int .i64 t.mx, .slice kp t.kids.length kc] 25)) (fun b => w.heap.size + 1 ≤ b) [t] (.slice (some ⟨w6.heap.size, 0, none⟩) 1 1) := by
            refine kid_one t (.slice kp t.kids.length kc) (Blk.new_at _ _ _ _ (by simp [World.setCell])) (hk6'.later (by simp [World.setCell]) (fun b hl hb => ⟨hb.1, ?_⟩)) (by omega) htx6
            exact (Below.heap_alloc _ _ b (by simp [World.setCell]; omega)).trans (Below.heap_setCell _ _ _ _ hb.2)
          have hc6 := hT6.cell
          have hf6 := hT6.frozen
          have HW7 := Lib.hid hW7
          have HB7 := Lib.hid hB7
          have HK7 := Lib.hid hK7
          clear hW7 hB7 hK7 hk6 hk6' hg6 ho6 hIN6 hT6 HTC HIN5 HB5 htx6
          go_upto_region 37 with fail
          clear hc6 hf6
          generalize (w6.setCell ⟨w2.heap.size, 6, none⟩ (.slice (some ⟨w6.heap.size, 0, none⟩) 1 1)).alloc (.cells #[.int .u8 t.kind, .string (bs t.text), .int .u8 t.lo, .int .u8 t.hi, .int .i64 t.mn, .int .i64 t.mx, .slice kp t.kids.length kc] 25) = W7 at *
          have hc7 := HB7.out.cell
          have r0 := HW7.out.res.cell
          have rf := HW7.out.res.frozen
          have hrl := HW7.out.res.lt
          unfold zeroG at r0
          go_wp2
          refine bodyPost_ret (v := treeV (.mk 7 [] 0 0 2 2 [t]) (.slice (some ⟨w6.heap.size, 0, none⟩) 1 1)) ?_ rfl ?_
          · simp [results, Tryz.results41, go_sem, r0]
            rfl
          · rw [HT0.out]
            exact gr_end HW7.out (.mk 7 [] 0 0 2 2 [t]) (.slice (some ⟨w6.heap.size, 0, none⟩) 1 1) HK7.out (Nat.zero_le _)
        · have hof : oftenG u a1 = ((((nextP u a2 3).1 : Nat) : Int), (((nextP u a2 3).1 : Nat) : Int) + ((nextP u (nextP u a2 3).2 3).1 : Nat), (nextP u (nextP u a2 3).2 3).2) := HOF.out
          rw [hof] at HT0
          have hlo := nextP_lt u a2 3 (by omega)
          have HN3 := Lib.hid (next_in HIN3.out 3 (by omega) (by omega))
          generalize nextP u a2 3 = N3 at *
          obtain ⟨lo, a3⟩ := N3
          simp only at hlo HN3 HT0
          clear HOF hof
          go_wp2_with (go_at_call 83; refine HN3.out.mono ?_)
          rintro e w4 ⟨rfl, hIN4, ho4⟩
          have hT4 : Blk w4 w2.heap.size 25 #[.int .u8 7, .string ⟨#[]⟩, .int .u8 0, .int .u8 0, .int .i64 0, .int .i64 (-1), .slice none 0 0] := (ho4.block _ HT3.out.lt (fun e => by have := Option.some.inj e; omega)).trans HT3.out
          have HIN5 : Hid (InTree gb UA uc u NA nc names w (w4.setCell ⟨w2.heap.size, 4, none⟩ (.int .i64 (lo : Nat))) a3) := hIN4.new w2.heap.size 4 hw2 _
          have HB5 : Hid (Blk (w4.setCell ⟨w2.heap.size, 4, none⟩ (.int .i64 (lo : Nat))) w2.heap.size 25 #[.int .u8 7, .string ⟨#[]⟩, .int .u8 0, .int .u8 0, .int .i64 (lo : Nat), .int .i64 (-1), .slice none 0 0]) := hT4.set_ 4 _
          have hc4 := hT4.cell
          have hf4 := hT4.frozen
          clear hIN4 ho4 hT4 HIN3 HT3 hc3 hf3 HN3
          go_upto_region 35 with fail
          clear hc4 hf4
          generalize w4.setCell ⟨w2.heap.size, 4, none⟩ (.int .i64 (lo : Nat)) = W4 at *
          have hhi := nextP_lt u a3 3 (by omega)
          have HN4 := Lib.hid (next_in (HIN5.out.later (Below.refl W4.heap.size W4).drew) 3 (by omega) (by omega))
          generalize nextP u a3 3 = N4 at *
          obtain ⟨hi, a4⟩ := N4
          simp only at hhi HN4 HT0
          have c4 : W4.cell? ⟨w2.heap.size, 4, none⟩ = some (.int .i64 (lo : Nat)) := HB5.out.cell 4
          have e6 : IntKind.i64.wrap ((lo : Int) + (hi : Int)) = (lo : Int) + hi := IntWalk.i64_in _ (by omega)
          have hT4l := HB5.out.lt
          go_region_law (first
            | (go_simp; go_at_call 83; refine HN4.out.mono ?_; rintro e w5 ⟨rfl, hIN5b, ho5⟩; have hT5 : Blk w5 w2.heap.size 25 #[.int .u8 7, .string ⟨#[]⟩, .int .u8 0, .int .u8 0, .int .i64 (lo : Nat), .int .i64 (-1), .slice none 0 0] := (ho5.block w2.heap.size hT4l (fun e => by have := Option.some.inj e; omega)).trans HB5.out; have c45 := hT5.cell; have f45 := hT5.frozen; have HIN6b := Lib.hid (hIN5b.new w2.heap.size 5 hw2 (.int .i64 ((lo : Int) + (hi : Int)))); have HB6b : Hid (Blk (w5.setCell ⟨w2.heap.size, 5, none⟩ (.int .i64 ((lo : Int) + (hi : Int)))) w2.heap.size 25 #[.int .u8 7, .string ⟨#[]⟩, .int .u8 0, .int .u8 0, .int .i64 (lo : Nat), .int .i64 ((lo : Int) + (hi : Int)), .slice none 0 0]) := hT5.set_ 5 _; clear hIN5b ho5 hT5))
          all_goals
            clear c4 c45 f45 HIN5 HB5 HN4 hT4l e6
            generalize w5.setCell ⟨w2.heap.size, 5, none⟩ (.int .i64 ((lo : Int) + (hi : Int))) = W5 at *
            have HIN5 := HIN6b
            have HB5 := HB6b
            clear HIN6b HB6b
            have HTC := Lib.hid (HTR.out r' rfl W5 a4 (deep + 1) (by omega) HIN5.out.grow)
            rw [show ((deep + 1 : Nat) : Int) = (deep : Int) + 1 from by omega] at HTC
            have e5 : IntKind.i64.wrap ((deep : Int) + 1) = (deep : Int) + 1 := IntWalk.i64_in _ (by omega)
            generalize growT names u r' a4 = KT at *
            obtain ⟨t, a6⟩ := KT
            go_wp2_with (go_at_call 41; refine HTC.out.mono ?_)
            rintro e w6 ⟨sl, rfl, hk6, htx6, hg6, ho6⟩
            have hIN6 := HIN5.out.step ho6 hg6
            have hT6 : Blk w6 w2.heap.size 25 #[.int .u8 7, .string ⟨#[]⟩, .int .u8 0, .int .u8 0, .int .i64 (lo : Int), .int .i64 ((lo : Int) + (hi : Int)), .slice none 0 0] := (ho6.block _ HB5.out.lt (fun e => by have := Option.some.inj e; omega)).trans HB5.out
            have hk6' : KidsAt w6 (fun b => w.heap.size + 1 ≤ b ∧ b ≠ w2.heap.size) t.kids sl := hk6.mono (fun b _ hb => ⟨by have := HB5.out.lt; omega, by have := HB5.out.lt; omega⟩)
            obtain ⟨kp, kc, rfl, _⟩ := hk6.form
            unfold treeV
            have hsz6 : w2.heap.size < w6.heap.size := hT6.lt
            have hW7 : InTree gb UA uc u NA nc names w ((w6.setCell ⟨w2.heap.size, 6, none⟩ (.slice (some ⟨w6.heap.size, 0, none⟩) 1 1)).alloc (.cells #[.int .u8 t.kind, .string (bs t.text), .int .u8 t.lo, .int .u8 t.hi, .int .i64 t.mn, .int .i64 t.mx, .slice kp t.kids.length kc] 25)) a6 := (hIN6.new w2.heap.size 6 hw2 _).later ((Below.refl _ _).alloc (Nat.le_refl _) _)
            have hB7 : Blk ((w6.setCell ⟨w2.heap.size, 6, none⟩ (.slice (some ⟨w6.heap.size, 0, none⟩) 1 1)).alloc (.cells #[.int .u8 t.kind, .string (bs t.text), .int .u8 t.lo, .int .u8 t.hi, .int .i64 t.mn, .int .i64 t.mx, .slice kp t.kids.length kc] 25)) w2.heap.size 25 #[.int .u8 7, .string ⟨#[]⟩, .int .u8 0, .int .u8 0, .int .i64 (lo : Int), .int .i64 ((lo : Int) + (hi : Int)), .slice (some ⟨w6.heap.size, 0, none⟩) 1 1] := (hT6.set_ 6 _).alloc _
            have hK7 : KidsAt ((w6.setCell ⟨w2.heap.size, 6, none⟩ (.slice (some ⟨w6.heap.size, 0, none⟩) 1 1)).alloc (.cells #[.int .u8 t.kind, .string (bs t.text), .int .u8 t.lo, .int .u8 t.hi, .int .i64 t.mn, .int .i64 t.mx, .slice kp t.kids.length kc] 25)) (fun b => w.heap.size + 1 ≤ b) [t] (.slice (some ⟨w6.heap.size, 0, none⟩) 1 1) := by
              refine kid_one t (.slice kp t.kids.length kc) (Blk.new_at _ _ _ _ (by simp [World.setCell])) (hk6'.later (by simp [World.setCell]) (fun b hl hb => ⟨hb.1, ?_⟩)) (by omega) htx6
              exact (Below.heap_alloc _ _ b (by simp [World.setCell]; omega)).trans (Below.heap_setCell _ _ _ _ hb.2)
            have hc6 := hT6.cell
            have hf6 := hT6.frozen
            have HW7 := Lib.hid hW7
            have HB7 := Lib.hid hB7
            have HK7 := Lib.hid hK7
            clear hW7 hB7 hK7 hk6 hk6' hg6 ho6 hIN6 hT6 HTC HIN5 HB5 htx6
            go_upto_region 37 with fail
            clear hc6 hf6
            generalize (w6.setCell ⟨w2.heap.size, 6, none⟩ (.slice (some ⟨w6.heap.size, 0, none⟩) 1 1)).alloc (.cells #[.int .u8 t.kind, .string (bs t.text), .int .u8 t.lo, .int .u8 t.hi, .int .i64 t.mn, .int .i64 t.mx, .slice kp t.kids.length kc] 25) = W7 at *
            have hc7 := HB7.out.cell
            have r0 := HW7.out.res.cell
            have rf := HW7.out.res.frozen
            have hrl := HW7.out.res.lt
            unfold zeroG at r0
            go_wp2
            refine bodyPost_ret (v := treeV (.mk 7 [] 0 0 (lo : Int) ((lo : Int) + (hi : Int)) [t]) (.slice (some ⟨w6.heap.size, 0, none⟩) 1 1)) ?_ rfl ?_
            · simp [results, Tryz.results41, go_sem, r0]
              rfl
            · rw [HT0.out]
              exact gr_end HW7.out (.mk 7 [] 0 0 (lo : Int) ((lo : Int) + (hi : Int)) [t]) (.slice (some ⟨w6.heap.size, 0, none⟩) 1 1) HK7.out (Nat.zero_le _)
theorem tree_any (gb : Nat) (UA : Option Addr) (uc : Nat) (u : List Nat) (NA : Option Addr) (nc : Nat) (names : List (List UInt8)) : ∀ r, TreeG gb UA uc u NA nc names r := by
  intro r
  induction r with
  | zero => exact fun w at_ deep hr h => tree_all gb UA uc u NA nc names 0 deep hr w at_ h (fun r' e => by omega)
  | succ r ih => exact fun w at_ deep hr h => tree_all gb UA uc u NA nc names (r + 1) deep hr w at_ h (fun r' e => by obtain rfl : r = r' := (by omega); exact ih)
end Go.Proofs.YtodenbimeojgdaaGreatDoor

/-
  The contract of frankinglow's Grown. Conditions: the numbers and the names lie in memory; at most 200 numbers, at most 100 names.
-/
namespace Go.Proofs.YtodenbimeojgdaaGreatDoor
open Go.RowKit

/-- numbers in memory -/
structure NumsAt (w : World) (UA : Option Addr) (u : List Nat) : Prop where
  nums : ∀ i n, u[i]? = some n → ∃ g off, UA = some ⟨g, off, none⟩ ∧ g < w.heap.size ∧ w.cell? ⟨g, off + i, none⟩ = some (.int .u16 (n : Nat))
  small : ∀ n ∈ u, n < 65536
theorem NumsAt.below {w w' : World} {UA : Option Addr} {u : List Nat} (h : NumsAt w UA u) (hb : Below w.heap.size w w') : NumsAt w' UA u := by
  refine ⟨fun i n hi => ?_, h.small⟩
  obtain ⟨g, off, e, hg, hc⟩ := h.nums i n hi
  exact ⟨g, off, e, by have := hb.size; omega, (hb.cell (p := ⟨g, off + i, none⟩) hg).trans hc⟩
/-- names in memory -/
structure WordsAt (w : World) (NA : Option Addr) (names : List (List UInt8)) : Prop where
  words : ∀ i n, names[i]? = some n → ∃ g off, NA = some ⟨g, off, none⟩ ∧ g < w.heap.size ∧ w.cell? ⟨g, off + i, none⟩ = some (.string (bs n))
  few : names.length ≤ 100 ∧ ∀ n ∈ names, n.length ≤ 1000
theorem words_none (w : World) : WordsAt w none [] := ⟨fun i n h => by simp at h, by simp⟩

set_option maxRecDepth 100000 in
set_option maxHeartbeats 2000000 in
theorem Grown_any (UA : Option Addr) (uc : Nat) (u : List Nat) (NA : Option Addr) (nc : Nat) (names : List (List UInt8)) (w : World) (hu : NumsAt w UA u) (hfew : u.length ≤ 200) (hn : WordsAt w NA names) :
    Calls Tryz.prog 17 #[.slice UA u.length uc, .slice NA names.length nc] w fun e w' => ∃ sl, e = .returned (treeV (growT names u 6 0).1 sl) ∧ KidsAt w' (fun b => w.heap.size ≤ b) (growT names u 6 0).1.kids sl ∧ Below w.heap.size w w' := by
  have hb1 : Below w.heap.size w ((w.alloc (.cells #[.int .u8 0, .string ⟨#[]⟩, .int .u8 0, .int .u8 0, .int .i64 0, .int .i64 0, .slice none 0 0] 25)).alloc (.cells #[.slice UA u.length uc, .int .i64 0, .slice NA names.length nc] 93)) := ((Below.refl _ _).alloc (Nat.le_refl _) _).alloc (by simp) _
  have hz1 : ((w.alloc (.cells #[.int .u8 0, .string ⟨#[]⟩, .int .u8 0, .int .u8 0, .int .i64 0, .int .i64 0, .slice none 0 0] 25)).alloc (.cells #[.slice UA u.length uc, .int .i64 0, .slice NA names.length nc] 93)).heap.size = w.heap.size + 2 := by simp
  have hB0 : Blk ((w.alloc (.cells #[.int .u8 0, .string ⟨#[]⟩, .int .u8 0, .int .u8 0, .int .i64 0, .int .i64 0, .slice none 0 0] 25)).alloc (.cells #[.slice UA u.length uc, .int .i64 0, .slice NA names.length nc] 93)) w.heap.size 25 zeroG := (Blk.new _ _ _).alloc _
  have hG : GrowAt ((w.alloc (.cells #[.int .u8 0, .string ⟨#[]⟩, .int .u8 0, .int .u8 0, .int .i64 0, .int .i64 0, .slice none 0 0] 25)).alloc (.cells #[.slice UA u.length uc, .int .i64 0, .slice NA names.length nc] 93)) (w.heap.size + 1) UA uc u NA nc names 0 := by
    refine ⟨Blk.new_at _ _ _ _ (by simp), fun i n hi => ?_, fun i n hi => ?_, Nat.zero_le _, hfew, hu.small, hn.few⟩
    · obtain ⟨g, off, e, hg, hc⟩ := hu.nums i n hi
      exact ⟨g, off, e, by omega, (hb1.cell (p := ⟨g, off + i, none⟩) hg).trans hc⟩
    · obtain ⟨g, off, e, hg, hc⟩ := hn.words i n hi
      exact ⟨g, off, e, by omega, (hb1.cell (p := ⟨g, off + i, none⟩) hg).trans hc⟩
  have HTC := Lib.hid (tree_any (w.heap.size + 1) UA uc u NA nc names 6 _ 0 0 (by omega) hG)
  have HB1 := Lib.hid hb1
  have HB0 := Lib.hid hB0
  have HZ1 := Lib.hid hz1
  generalize growT names u 6 0 = T at *
  obtain ⟨t, a⟩ := T
  simp only
  rw [show ((0 : Nat) : Int) = 0 from rfl] at HTC
  clear hb1 hz1 hB0 hG hu hn
  go_enter Tryz.func17, Tryz.ntmps17
  go_wp2_with (go_at_call 41; refine HTC.out.mono ?_)
  rintro e w2 ⟨sl, rfl, hk2, htx2, hg2, ho2⟩
  obtain ⟨kp, kc, rfl, _⟩ := hk2.form
  have hres : Blk w2 w.heap.size 25 zeroG := (ho2.block _ (by rw [HZ1.out]; omega) (fun e => by have := Option.some.inj e; omega)).trans HB0.out
  have hb2 : Below w.heap.size w w2 := ⟨ho2.os.trans HB1.out.os, ho2.tape.trans HB1.out.tape, ho2.output.trans HB1.out.output, Nat.le_trans HB1.out.size ho2.size, fun k hk => (ho2.block k (by rw [HZ1.out]; omega) (fun e => by have := Option.some.inj e; omega)).trans (HB1.out.block k hk)⟩
  have hk3 : KidsAt w2 (fun b => w.heap.size + 1 ≤ b) t.kids (.slice kp t.kids.length kc) := hk2.mono (fun b _ hb => by rw [HZ1.out] at hb; omega)
  have HK3 := Lib.hid hk3
  have HB2 := Lib.hid hb2
  have r0 := hres.cell
  have rf := hres.frozen
  have hrl := hres.lt
  unfold zeroG at r0
  unfold treeV
  clear hk2 hk3 hb2 hres hg2 ho2 HTC HB0 HB1 HZ1
  go_wp2
  refine bodyPost_ret (v := treeV t (.slice kp t.kids.length kc)) ?_ rfl ⟨_, rfl, ?_, ?_⟩
  · simp [results, Tryz.results17, go_sem, r0]
    rfl
  · change KidsAt (put7 w2 w.heap.size 0 t (.slice kp t.kids.length kc)) (fun b => w.heap.size ≤ b) t.kids (.slice kp t.kids.length kc)
    exact HK3.out.later (by rw [put7_size]; exact Nat.le_refl _) (fun b _ hF => ⟨by omega, put7_block _ _ _ _ _ b (by omega)⟩)
  · exact put7_below HB2.out w.heap.size 0 t (.slice kp t.kids.length kc) (Nat.le_refl _)
end Go.Proofs.YtodenbimeojgdaaGreatDoor

/-
  The contract of frankinglow's Names, and an append of a row that may be empty. No conditions.
-/
namespace Go.Proofs.YtodenbimeojgdaaGreatDoor
open Go.RowKit

def namesL : List (List UInt8) := [[97], [98], [99, 50], [100, 45, 101], [102], [103], [104], [105]]
theorem namesL_ok : NamesOk namesL := ⟨by decide, by decide⟩
theorem namesL_7 : ∀ n ∈ namesL, n.length ≤ 7 := by decide
theorem Names_any (w : World) : Calls Tryz.prog 18 #[] w fun e w' => ∃ g, e = .returned (.slice (some ⟨g, 0, none⟩) 8 8) ∧ WordsAt w' (some ⟨g, 0, none⟩) namesL ∧ Below w.heap.size w w' := by
  have HB : Hid (∀ t, Blk (w.alloc (.cells (namesL.map fun n => .string (bs n)).toArray t)) w.heap.size t (namesL.map fun n => .string (bs n)).toArray) := fun t => Blk.new _ _ _
  go_enter Tryz.func18, Tryz.ntmps18
  go_wp2
  go_ret
  refine ⟨w.heap.size, rfl, ⟨fun i n hi => ⟨w.heap.size, 0, rfl, by simp, ?_⟩, by decide⟩, (Below.refl _ _).alloc (Nat.le_refl _) _⟩
  have := (HB.out 9).cell i
  rw [Nat.zero_add]
  refine this.trans ?_
  rw [List.getElem?_toArray, List.getElem?_map, hi]
  rfl
/-- append of no element at all -/
theorem run_append_zero {P : Program} {w : World} (base : Nat) (t ty e : TypeId) (i : TypeInfo) (size : Nat) (ht : P.underlying t = some (.slice e)) (hi : P.info? e = some i)
    (v : Value) (n : Nat) (xs : List Value) (hown : w.ownsRow base e size v n xs) (A : Option Addr) (c : Nat) :
    (Builtin.append_ #[t, t] ty #[v, .slice A 0 c]).run P w = .ok v w := by
  rcases hown.2 with ⟨rfl, rfl⟩ | ⟨g, cap, cur, rfl, _, _, hnc, _⟩
  · cases A <;> simp [Builtin.append_, run_underlying ht, sizeOf, typeInfo, hi, Builtin.lenOf, Builtin.firstCells, loadCells, loadCellsFrom]
  · cases A <;> simp [Builtin.append_, run_underlying ht, sizeOf, typeInfo, hi, Builtin.lenOf, Builtin.firstCells, hnc, storeCells, loadCells, loadCellsFrom]
theorem wpList_append_zero {P : Program} {w : World} {ops : Array Oper} {rest : List Oper} {o : Oper} {a : Act} {Q : Exit → Act → World → Prop} (hgd : o.guard = none) (s x : Operand) (t : TypeId)
    (ho : o.op = .call { callee := .builtin .append, args := #[s, x], argTypes := #[t, t] })
    (base : Nat) (e : TypeId) (i : TypeInfo) (size : Nat) (ht : P.underlying t = some (.slice e)) (hi : P.info? e = some i)
    (v : Value) (n : Nat) (xs : List Value) (hs : a.eval s = v) (hown : w.ownsRow base e size v n xs) (A : Option Addr) (c : Nat) (hx : a.eval x = .slice A 0 c)
    (h : wpList P ops Q rest (a.put o.dst v) w) : wpList P ops Q (o :: rest) a w := by
  refine wpList_plain hgd fun K hK => ?_
  have hrun := run_append_zero (P := P) (w := w) base t o.type e i size ht hi v n xs hown A c
  unfold Oper.wp
  simp [execOp, ho, resolve, invoke, builtin, hs, hx, hrun, Result.andThen]
  exact hK _ _ h
section
variable {P : Program} {w : World}
/-- append of a row that may be empty, to a row of one's own that is not -/
theorem wpList_append_any {ops : Array Oper} {rest : List Oper} {o : Oper} {a : Act} {Q : Exit → Act → World → Prop} (hgd : o.guard = none) (s x : Operand) (t : TypeId)
    (ho : o.op = .call { callee := .builtin .append, args := #[s, x], argTypes := #[t, t] })
    (base : Nat) (e : TypeId) (i : TypeInfo) (z : Value) (size bytes : Nat) (ht : P.underlying t = some (.slice e)) (hi : P.info? e = some i) (hz : i.zero = some z)
    (hsize : i.size = size) (hby : i.bytes = bytes) (hzs : z.cells.size = size) (hsz : 0 < size)
    (g0 n c0 : Nat) (xs : List Value) (hs : a.eval s = .slice (some ⟨g0, 0, none⟩) n c0) (hown : w.ownsRow base e size (.slice (some ⟨g0, 0, none⟩) n c0) n xs)
    (A : Option Addr) (m c : Nat) (news : List Value) (hx : a.eval x = .slice A m c) (hl : news.length = m * size) (hnews : 0 < m → ∃ ad, A = some ad ∧ ∀ j u, news[j]? = some u → w.cell? (ad.add j) = some u) (h1 : ∀ u ∈ news, u.oneCell' = true)
    (h63 : n + m ≤ maxLen) (hbytes : (n + m) * bytes ≤ 140737488355328) (hbase : base ≤ w.heap.size)
    (h : ∀ g cap w', w'.ownsRow base e size (.slice (some ⟨g, 0, none⟩) (n + m) cap) (n + m) (xs ++ news) → w.grownBy w' (some g0) → wpList P ops Q rest (a.put o.dst (.slice (some ⟨g, 0, none⟩) (n + m) cap)) w') : wpList P ops Q (o :: rest) a w := by
  by_cases hm : m = 0
  · subst hm
    have hn : news = [] := List.eq_nil_of_length_eq_zero (by omega)
    subst hn
    refine wpList_append_zero hgd s x t ho base e i size ht hi _ n xs hs hown A c hx ?_
    exact h g0 c0 w (by rw [List.append_nil]; exact hown) (World.grownBy.refl _ _)
  · obtain ⟨ad, rfl, hc⟩ := hnews (by omega)
    exact wpList_append_lies w hgd s x t ho base e i z size bytes ht hi hz hsize hby hzs hsz _ n xs hs hown ad m c news hx hl hc h1 (by omega) h63 hbytes hbase _ rfl (fun g cap w' k1 k2 _ _ => h g cap w' k1 k2)
end
theorem rules_few (l : List UInt8) (hl : l.length ≤ 2000) (he : (ofP l).2.2 = 0) : (ofP l).1.length ≤ 4001 := by
  unfold ofP at he ⊢
  by_cases h0 : (lexP l).2.2 = 0
  · rw [if_pos h0] at he ⊢
    obtain ⟨h1, _, _⟩ := leaves_ok l (by omega) h0 he
    have g1 := wantL_len (lexP l).1
    have g2 := lexP_len l
    rw [← h1] at g1
    have hlen : ∀ rs : List Rl, rs.length ≤ (rs.flatMap ruleLeaves).length := by
      intro rs
      induction rs with
      | nil => exact Nat.le_refl _
      | cons a q ih =>
        have e : (a :: q).flatMap ruleLeaves = [nameTok a.name] ++ (leavesT a.tree ++ q.flatMap ruleLeaves) := by simp [ruleLeaves]
        rw [e, List.length_append, List.length_append]
        simp only [List.length_cons, List.length_nil]
        omega
    have := hlen (parseP (lexP l).1).1
    omega
  · rw [if_neg h0] at he
    exact absurd he (by simp only; omega)
end Go.Proofs.YtodenbimeojgdaaGreatDoor

/-
  What every statement about printed rules asks: Of at a short text; a text of one rule in memory. Conditions: the table abnf.leaves lies where it does.
-/
namespace Go.Proofs.YtodenbimeojgdaaGreatDoor
open Go.RowKit

theorem of_short (text : List UInt8) (hl : text.length ≤ 65536) (w : World) (hlv : LeavesAt w) : Calls Tryz.prog 19 #[.string (bs text)] w fun e w' => ParseOut w (ofP text) e w' :=
  Of_any text (by have := lexP_len text; omega) (lex_short text hl) w hlv
theorem print_x (t : Tr) (ht : rightB t = true) : printP [120] false t = ([120] ++ [32, 61, 32] ++ printD 100 t, 0) := by
  unfold printP
  rw [ht]
  rfl
theorem bs_app (x y : List UInt8) : bs x ++ bs y = bs (x ++ y) := by
  apply ByteArray.ext
  simp [bs, ByteArray.data_append]
theorem names_nil : NamesOk [] := ⟨by simp, fun n hn => by cases hn⟩
/-- what a rule's text, back, is in memory -/
theorem one_rule {w w' : World} {x : Rl} {e : Ending} (h : ParseOut w ([x], 0, 0) e w') : ∃ A c sl, e = .returned (.tuple #[.slice A 1 c, .int .i64 0, .int .i64 0]) ∧ RRow w' (.slice A 1 c) [(x, sl)] ∧ Below w.heap.size w w' := by
  obtain ⟨v, rfl, ⟨⟨ps, hps, hown, hkids⟩⟩, hb⟩ := h
  obtain ⟨sl, rfl⟩ : ∃ sl, ps = [(x, sl)] := by
    match ps, hps with
    | [(y, sl)], h =>
      have : y = x := by simpa using h
      subst this
      exact ⟨sl, rfl⟩
  have hrow := RRow.of_own hown hkids
  obtain ⟨A, c, rfl, _⟩ := hrow.row
  exact ⟨A, c, sl, rfl, hrow, hb⟩

end Go.Proofs.YtodenbimeojgdaaGreatDoor
