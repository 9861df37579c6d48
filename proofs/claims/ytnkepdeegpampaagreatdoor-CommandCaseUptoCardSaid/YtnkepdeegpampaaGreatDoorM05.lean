/-
  Merged texts (PtY, PtH, PtZa, FrM, PtZb, PtZc, PtZd, PtZe, PtZf, PtZg, PtZr, PtZm, CdP, CdA), each under a head of its own that says what it proves and under which conditions.
-/
import Derived.Test.YtnkepdeegpampaaGreatDoorM04
import Derived.Test.YtnkepdeegpampaaGreatDoorM03
import Derived.OwnWalk
import Derived.Laws.CopyRow
import Derived.Lib.AppendStr
import Derived.Lib.SmallJoins
/-
  What path.Parse tells, and that no path is the beginning of another one. Conditions: the text is of at most 2^40 bytes; the library's variable holds some value.
-/
namespace Go.Proofs.YtnkepdeegpampaaGreatDoor
open Go.RowKit Go.Shelf

theorem verdict_ok {b lg : Bool} (h : verdictP b lg = 0) : b = true ∧ lg = false := by
  unfold verdictP at h
  cases b <;> cases lg <;> simp_all
theorem verdict_no (lg : Bool) : verdictP false lg = 150 := rfl
/-- what Parse tells of a text -/
theorem parseP_ok {s : List UInt8} (h : (parseP s).1 = 0) : ∃ t x, PathT t (parseP s).2.1 false ∧ s = t ++ x ∧ (parseP s).2.2 = t.length := by
  unfold parseP at h ⊢
  split at h
  · rename_i hv
    rw [if_pos hv]
    obtain ⟨h1, h2⟩ := verdict_ok hv
    obtain ⟨t, p, lg, k1, k2, k3⟩ := parse_some (s := s) (st' := (parseR (st0 s)).2) (Prod.ext h1 rfl)
    rw [k3] at h2
    have hlg : lg = false := h2
    subst hlg
    refine ⟨t, (parseR (st0 s)).2.rest, ?_, k2, ?_⟩
    · have : paOf (parseR (st0 s)).2 = p := by rw [k3]; rfl
      simp only
      rw [this]
      exact k1
    · simp only
      have := congrArg List.length k2
      rw [List.length_append] at this
      omega
  · rename_i hv
    simp only at h
    exact absurd h hv
theorem parseP_all {t : List UInt8} {p : Pa} (h : PathT t p false) (x : List UInt8) : parseP (t ++ x) = (0, p, t.length) := by
  have := parse_all (x := x) h
  unfold parseP
  rw [this]
  have hv : verdictP (true, withP (st0 []) p x false).1 (true, withP (st0 []) p x false).2.long = 0 := rfl
  rw [if_pos hv]
  simp [paOf, withP]
theorem pathT_pos {t : List UInt8} {p : Pa} {lg : Bool} (h : PathT t p lg) : 1 ≤ t.length := by
  rcases h with ⟨rfl, _⟩ | ⟨h1, _⟩ | ⟨rt, ds, l1, bt, loc, d, lit, l2, _, _, rfl, _⟩
  · simp
  · have := congrArg List.length h1
    rw [low_len] at this
    simp [aloneT, postP] at this
    omega
  · simp
/-- no path is the beginning of another one -/
theorem parseP_cut {s : List UInt8} (h : (parseP s).1 = 0) (c : Nat) (hc : c < (parseP s).2.2) : parseP (s.take c) = (150, {}, 0) := by
  obtain ⟨t, x, h1, h2, h3⟩ := parseP_ok h
  rw [h3] at hc
  have hn : (parseR (st0 (s.take c))).1 = false := by
    cases hp : (parseR (st0 (s.take c))).1 with
    | false => rfl
    | true =>
      exfalso
      obtain ⟨u, q, lg, k1, k2, _⟩ := parse_some (s := s.take c) (st' := (parseR (st0 (s.take c))).2) (Prod.ext hp rfl)
      have e : s = u ++ ((parseR (st0 (s.take c))).2.rest ++ s.drop c) := by
        conv => lhs; rw [← List.take_append_drop c s]
        rw [← List.append_assoc, ← k2]
      have e1 := parse_all (x := (parseR (st0 (s.take c))).2.rest ++ s.drop c) k1
      have e2 := parse_all (x := x) h1
      rw [← e] at e1
      rw [← h2, e1] at e2
      have e3 := congrArg (fun z : Bool × Rs => z.2.rest.length) e2
      simp only [withP] at e3
      have e4 := congrArg List.length h2
      rw [List.length_append] at e3 e4
      rw [List.length_drop] at e3
      omega
  unfold parseP
  rw [hn]
  rfl
theorem parseP_more {s : List UInt8} (h : (parseP s).1 = 0) (more : List UInt8) : parseP (s.take (parseP s).2.2 ++ more) = (0, (parseP s).2.1, (parseP s).2.2) ∧ 1 ≤ (parseP s).2.2 := by
  obtain ⟨t, x, h1, h2, h3⟩ := parseP_ok h
  have ht : s.take (parseP s).2.2 = t := by rw [h3]; conv => lhs; rw [h2]
                                            rw [List.take_left]
  rw [ht, h3]
  exact ⟨parseP_all h1 more, pathT_pos h1⟩
/-- a route is no longer than its text -/
theorem hopsT_len (L : List (List UInt8)) : L.length ≤ (hopsT L).length := by
  unfold hopsT
  induction L with
  | nil => simp
  | cons e L ih => simp at ih ⊢; omega
theorem pathT_route {t : List UInt8} {p : Pa} {lg : Bool} (h : PathT t p lg) : p.route.length ≤ t.length := by
  rcases h with ⟨rfl, rfl, _⟩ | ⟨_, rfl, _⟩ | ⟨rt, ds, l1, bt, loc, d, lit, l2, h1, _, rfl, rfl, _⟩
  · simp
  · simp
  · rcases h1 with ⟨_, rfl, _⟩ | ⟨e, L, _, rfl, rfl, _⟩
    · simp
    · have := hopsT_len L
      simp
      omega
theorem parseP_route (s : List UInt8) : (parseP s).2.1.route.length ≤ s.length := by
  by_cases h : (parseP s).1 = 0
  · obtain ⟨t, x, h1, h2, h3⟩ := parseP_ok h
    have e := congrArg List.length h2
    rw [List.length_append] at e
    have := pathT_route h1
    omega
  · unfold parseP at h ⊢
    split
    · rename_i hv; rw [if_pos hv] at h; exact absurd rfl h
    · simp
theorem parse_told (s : List UInt8) (hs : s.length ≤ 1099511627776) (w : World) (he : ErrAt w ∧ ErrG < w.heap.size) : Calls Tryz.prog 72 #[.string (bs s)] w fun e w' => ∃ a c, e = .returned (.tuple #[paV (parseP s).2.1 a c, .int .i64 (((parseP s).2.2 : Nat) : Int), .int .i64 (parseP s).1]) ∧ TextsAt w' a (parseP s).2.1.route ∧ Below w.heap.size w w' :=
  (parse_fun s hs w he.1 he.2).mono fun _ _ h => told_form h (by have := parseP_route s; unfold maxLen; omega)
theorem str_to (s : List UInt8) (j : Nat) (hj : j ≤ s.length) (W : World) : (Instr.slice 9 (.string (bs s)) none (some (.int .i64 (j : Int))) none).run Tryz.prog W = .ok (.string (bs (s.take j))) W := by
  rw [run_slice_string_h W 9 (bs s) Tryz.underlying9 .i64 (j : Int) (by omega) (by rw [bs_size]; omega)]
  congr 2
  simp only [Int.toNat_natCast]
  have : ((bs s).extract 0 j).data = (bs (s.take j)).data := by
    rw [ByteArray.data_extract]
    apply Array.toList_inj.1
    simp [bs, List.extract_eq_take_drop]
  cases h1 : (bs s).extract 0 j
  rw [h1] at this
  cases h2 : bs (s.take j)
  rw [h2] at this
  simp only at this
  rw [this]
end Go.Proofs.YtnkepdeegpampaaGreatDoor

/-
  Paths in plain terms: what is right, and how it is printed; printed, it is read as the same. No conditions.
-/
namespace Go.Proofs.YtnkepdeegpampaaGreatDoor

def quoteD (l : List UInt8) : List UInt8 := l.flatMap fun c => if c = 34 ∨ c = 92 then [92, c] else [c]
def locD (l : List UInt8) : List UInt8 := if aB l = true then l else 34 :: (quoteD l ++ [34])
def domD (d : List UInt8) (lit : Bool) : List UInt8 := if lit = true then 91 :: (d ++ [93]) else d
def boxD (loc d : List UInt8) (lit : Bool) : List UInt8 := locD loc ++ 64 :: domD d lit
def fineB (d : List UInt8) : Bool := dB d && !dL d
def toldB (is : List UInt8 → Bool) (d : List UInt8) : Bool := is d && decide (d = low d)
def rightBoxD (loc d : List UInt8) (lit : Bool) : Bool := decide (loc.length ≤ 64) && !loc.any notB && (if lit = true then toldB wB d else toldB fineB d)
def aloneB (p : Pa) : Bool := decide (p.loc = postP) && decide (p.dom = []) && !p.lit
def rightD (p : Pa) : Bool :=
  if p.null = true then decide (p.route.length = 0) && (decide (p.loc = []) && decide (p.dom = []) && !p.lit)
  else if aloneB p = true then decide (p.route.length = 0)
  else decide (p.route.length ≤ 20) && p.route.all (toldB fineB) && rightBoxD p.loc p.dom p.lit
def routeD : List (List UInt8) → List UInt8
  | [] => []
  | d :: L => 64 :: (d ++ (hopsT L ++ [58]))
def printD (p : Pa) : List UInt8 := if p.null = true then [60, 62] else if aloneB p = true then aloneT else 60 :: (routeD p.route ++ (boxD p.loc p.dom p.lit ++ [62]))

theorem quote_pieces (l : List UInt8) : quoteD l = quoT (l.map fun c => (decide (c = 34 ∨ c = 92), c)) := by
  unfold quoteD quoT
  rw [List.flatMap_map]
  congr 1
  funext c
  by_cases h : c = 34 ∨ c = 92
  · rw [if_pos h, decide_eq_true h]; rfl
  · rw [if_neg h, decide_eq_false h]; rfl
theorem loc_print {l : List UInt8} (h : l.any notB = false) : LocT (locD l) l := by
  unfold locD
  by_cases ha : aB l = true
  · rw [if_pos ha]; exact .inl ⟨ha, rfl⟩
  · rw [if_neg ha]
    refine .inr ⟨l.map fun c => (decide (c = 34 ∨ c = 92), c), ?_, by rw [quote_pieces], by rw [List.map_map]; exact (List.map_id l).symm⟩
    intro p hp
    obtain ⟨c, hc, rfl⟩ := List.mem_map.1 hp
    refine ⟨?_, fun hd => ?_⟩
    · simp only [List.any_eq_false, Bool.not_eq_true] at h
      exact h c hc
    · simp only [decide_eq_false_iff_not, not_or] at hd
      exact hd
theorem box_print {loc d : List UInt8} {lit : Bool} (h : rightBoxD loc d lit = true) : BoxT (boxD loc d lit) loc d lit false := by
  unfold rightBoxD at h
  simp only [Bool.and_eq_true, decide_eq_true_eq, Bool.not_eq_true'] at h
  obtain ⟨⟨h1, h2⟩, h3⟩ := h
  refine ⟨locD loc, domD d lit, false, loc_print h2, ?_, rfl, ?_⟩
  · cases lit with
    | true =>
      simp only [if_true, toldB, Bool.and_eq_true, decide_eq_true_eq] at h3
      exact .inr ⟨rfl, rfl, d, h3.1, rfl, h3.2⟩
    | false =>
      simp only [Bool.false_eq_true, if_false, toldB, fineB, Bool.and_eq_true, decide_eq_true_eq, Bool.not_eq_true'] at h3
      exact .inl ⟨rfl, h3.1.1, h3.2, h3.1.2.symm⟩
  · rw [decide_eq_false (by omega)]; rfl
theorem route_print {ds : List (List UInt8)} (hl : ds.length ≤ 20) (h : ds.all (toldB fineB) = true) : RouteT (routeD ds) ds false := by
  cases ds with
  | nil => exact .inl ⟨rfl, rfl, rfl⟩
  | cons d L =>
    have hall : ∀ e ∈ d :: L, toldB fineB e = true := by simpa [List.all_eq_true] using h
    have hd : ∀ e ∈ d :: L, dB e = true ∧ dL e = false ∧ low e = e := fun e he => by
      have := hall e he
      simp only [toldB, fineB, Bool.and_eq_true, decide_eq_true_eq, Bool.not_eq_true'] at this
      exact ⟨this.1.1, this.1.2, this.2.symm⟩
    refine .inr ⟨d, L, fun e he => (hd e he).1, rfl, ?_, ?_⟩
    · conv => lhs; rw [← List.map_id (d :: L)]
      exact List.map_congr_left fun e he => (hd e he).2.2.symm
    · have h1 : (d :: L).any dL = false := by
        rw [List.any_eq_false]
        intro e he
        rw [(hd e he).2.1]
        simp
      rw [h1, decide_eq_false (by omega)]
      rfl
theorem pa_alone {p : Pa} (hn : p.null = false) (h : aloneB p = true) (hr : p.route.length = 0) : p = { loc := postP } := by
  unfold aloneB at h
  simp only [Bool.and_eq_true, decide_eq_true_eq, Bool.not_eq_true'] at h
  obtain ⟨⟨h1, h2⟩, h3⟩ := h
  have := List.eq_nil_of_length_eq_zero hr
  cases p
  simp_all
/-- what is right is printed as a text that says it -/
theorem print_path {p : Pa} (h : rightD p = true) : PathT (printD p) p false := by
  unfold rightD at h
  unfold printD
  split at h
  · rename_i hn
    rw [if_pos hn]
    simp only [Bool.and_eq_true, decide_eq_true_eq, Bool.not_eq_true'] at h
    obtain ⟨h1, ⟨h2, h3⟩, h4⟩ := h
    refine .inl ⟨rfl, ?_, rfl⟩
    have := List.eq_nil_of_length_eq_zero h1
    cases p
    simp_all
  · rename_i hn
    rw [if_neg hn]
    split at h
    · rename_i ha
      rw [if_pos ha]
      refine .inr (.inl ⟨by decide, pa_alone (by simpa using hn) ha (by simpa using h), rfl⟩)
    · rename_i ha
      rw [if_neg ha]
      simp only [Bool.and_eq_true, decide_eq_true_eq] at h
      obtain ⟨⟨h1, h2⟩, h3⟩ := h
      refine .inr (.inr ⟨routeD p.route, p.route, false, boxD p.loc p.dom p.lit, p.loc, p.dom, p.lit, false, route_print h1 h2, box_print h3, rfl, ?_, rfl⟩)
      have : p.null = false := by simpa using hn
      cases p
      simp_all
theorem dom_all_low {l m : List UInt8} (h : low l = low m) : dB l = dB m ∧ dL l = dL m := all_low (sim_domain (stop_nil _)) h
theorem words_all_low {l m : List UInt8} (h : low l = low m) : wB l = wB m := (all_low (sim_words (stop_nil _)) h).1
theorem fine_low {l : List UInt8} (h : dB l = true) (h2 : dL l = false) : toldB fineB (low l) = true := by
  have := dom_all_low (l := low l) (m := l) (low_low l)
  unfold toldB fineB
  rw [this.1, this.2, h, h2, low_low]
  simp
theorem words_low {l : List UInt8} (h : wB l = true) : toldB wB (low l) = true := by
  unfold toldB
  rw [words_all_low (l := low l) (m := l) (low_low l), h, low_low]
  simp
theorem atm_shown : ∀ c, atmB c = true ∨ c = 46 → notB c = false := all_u8 (by decide +kernel)
theorem loc_shown {t m : List UInt8} (h : LocT t m) : m.any notB = false := by
  rw [List.any_eq_false]
  intro c hc
  rcases h with ⟨h1, rfl⟩ | ⟨ps, h1, _, rfl⟩
  · rw [atm_shown c (aB_bytes h1 c hc)]; simp
  · obtain ⟨p, hp, rfl⟩ := List.mem_map.1 hc
    rw [(h1 p hp).1]; simp
theorem box_right {t loc d : List UInt8} {lit : Bool} (h : BoxT t loc d lit false) : rightBoxD loc d lit = true ∧ (lit = true ∨ d ≠ []) := by
  obtain ⟨l, u, g, h1, h2, rfl, h4⟩ := h
  have h4' : (decide (64 < loc.length) || g) = false := h4.symm
  rw [Bool.or_eq_false_iff] at h4'
  obtain ⟨h5, h6⟩ := h4'
  have h5' : ¬ 64 < loc.length := of_decide_eq_false h5
  subst h6
  unfold rightBoxD
  rw [loc_shown h1, decide_eq_true (by omega : loc.length ≤ 64)]
  rcases h2 with ⟨rfl, k1, rfl, k2⟩ | ⟨rfl, _, w, k1, _, rfl⟩
  · refine ⟨by simp [fine_low k1 k2.symm], .inr ?_⟩
    obtain ⟨c, r, rfl, _⟩ := dB_head k1
    simp [low]
  · exact ⟨by simp [words_low k1], .inl rfl⟩
theorem route_right {t : List UInt8} {ds : List (List UInt8)} (h : RouteT t ds false) : ds.length ≤ 20 ∧ ds.all (toldB fineB) = true := by
  rcases h with ⟨_, rfl, _⟩ | ⟨d, L, h1, _, rfl, h2⟩
  · exact ⟨by simp, rfl⟩
  · have h2' : ((d :: L).any dL || decide (20 < (d :: L).length)) = false := h2.symm
    rw [Bool.or_eq_false_iff] at h2'
    obtain ⟨h3, h4⟩ := h2'
    have h4' : ¬ 20 < (d :: L).length := of_decide_eq_false h4
    refine ⟨by rw [List.length_map]; omega, ?_⟩
    rw [List.all_eq_true]
    intro e he
    obtain ⟨x, hx, rfl⟩ := List.mem_map.1 he
    rw [List.any_eq_false] at h3
    exact fine_low (h1 x hx) (by simpa using h3 x hx)
/-- what a text says is right -/
theorem path_right {t : List UInt8} {p : Pa} (h : PathT t p false) : rightD p = true := by
  rcases h with ⟨_, rfl, _⟩ | ⟨_, rfl, _⟩ | ⟨rt, ds, l1, bt, loc, d, lit, l2, h1, h2, _, rfl, h3⟩
  · decide
  · decide
  · have h3' : (l1 || l2) = false := h3.symm
    rw [Bool.or_eq_false_iff] at h3'
    obtain ⟨rfl, rfl⟩ := h3'
    obtain ⟨k1, k2⟩ := box_right h2
    obtain ⟨k3, k4⟩ := route_right h1
    have ha : aloneB ⟨false, ds, loc, d, lit⟩ = false := by
      unfold aloneB
      simp only
      rcases k2 with k2 | k2
      · rw [k2]; simp
      · rw [decide_eq_false k2]; simp
    unfold rightD
    simp only [Bool.false_eq_true, if_false]
    rw [ha]
    simp only [Bool.false_eq_true, if_false]
    rw [k1, k4, decide_eq_true k3]
    rfl
/-- what is printed is no longer than what was read -/
theorem quote_len : ∀ ps : List (Bool × UInt8), (∀ p ∈ ps, okQ p) → (quoteD (ps.map (·.2))).length ≤ (quoT ps).length
  | [], _ => by simp [quoteD, quoT]
  | (b, c) :: ps, h => by
    have ih := quote_len ps (fun p hp => h p (by simp [hp]))
    obtain ⟨_, h2⟩ := h (b, c) (by simp)
    simp only at h2
    unfold quoteD quoT at *
    rw [List.map_cons, List.flatMap_cons, List.flatMap_cons, List.length_append, List.length_append]
    have : (if c = 34 ∨ c = 92 then [92, c] else [c]).length ≤ (if b = true then [92, c] else [c]).length := by
      cases b with
      | true => split <;> simp
      | false =>
        rw [if_neg (by simp [h2 rfl])]
        simp
    simp only at this ⊢
    omega
theorem meant_len (ps : List (Bool × UInt8)) : (ps.map (·.2)).length ≤ (quoT ps).length := by
  unfold quoT
  induction ps with
  | nil => simp
  | cons p ps ih =>
    rw [List.map_cons, List.flatMap_cons, List.length_append, List.length_cons]
    have : 1 ≤ (if p.1 = true then [92, p.2] else [p.2]).length := by split <;> simp
    omega
theorem loc_len {t m : List UInt8} (h : LocT t m) : (locD m).length ≤ t.length := by
  unfold locD
  rcases h with ⟨h1, rfl⟩ | ⟨ps, h1, rfl, rfl⟩
  · rw [if_pos h1]; exact Nat.le_refl _
  · have := quote_len ps h1
    split
    · have h3 := meant_len ps
      simp at h3 ⊢
      omega
    · simp at this ⊢
      omega
theorem dom_len {t d : List UInt8} {lit lg : Bool} (h : DomT t d lit lg) : (domD d lit).length = t.length := by
  rcases h with ⟨rfl, _, rfl, _⟩ | ⟨rfl, _, w, _, rfl, rfl⟩
  · simp [domD, low_len]
  · simp [domD, low_len]
theorem hops_low (L : List (List UInt8)) : (hopsT (L.map low)).length = (hopsT L).length := by
  unfold hopsT
  induction L with
  | nil => rfl
  | cons d L ih =>
    rw [List.map_cons, List.flatMap_cons, List.flatMap_cons, List.length_append, List.length_append, ih]
    simp [low_len]
theorem print_len {t : List UInt8} {p : Pa} (h : PathT t p false) : (printD p).length ≤ t.length := by
  have hr := path_right h
  rcases h with ⟨rfl, rfl, _⟩ | ⟨h1, rfl, _⟩ | ⟨rt, ds, l1, bt, loc, d, lit, l2, h1, h2, rfl, rfl, h3⟩
  · decide
  · have := congrArg List.length h1
    rw [low_len] at this
    have e : printD { loc := postP } = aloneT := by decide
    rw [e, ← this]
    exact Nat.le_refl _
  · unfold printD
    have h3' : (l1 || l2) = false := h3.symm
    rw [Bool.or_eq_false_iff] at h3'
    obtain ⟨rfl, rfl⟩ := h3'
    have ha : aloneB ⟨false, ds, loc, d, lit⟩ = false := by
      obtain ⟨k1, k2⟩ := box_right h2
      unfold aloneB
      simp only
      rcases k2 with k2 | k2
      · rw [k2]; simp
      · rw [decide_eq_false k2]; simp
    simp only [Bool.false_eq_true, if_false, ha]
    obtain ⟨l, u, g, k1, k2, rfl, _⟩ := h2
    have m1 := loc_len k1
    have m2 := dom_len k2
    have m3 : (routeD ds).length = rt.length := by
      rcases h1 with ⟨rfl, rfl, _⟩ | ⟨e, L, _, rfl, rfl, _⟩
      · rfl
      · have := hops_low L
        simp [routeD, low_len, this]
    unfold boxD
    simp only [List.length_cons, List.length_append, List.length_nil]
    omega
end Go.Proofs.YtnkepdeegpampaaGreatDoor

/-
  The contracts of path.isAlone, path.isTold, path.rightBox. Conditions: texts of at most 2^62 bytes; the library's variable holds some value.
-/
namespace Go.Proofs.YtnkepdeegpampaaGreatDoor
open Go.RowKit Go.Shelf

theorem ent_shown : Ent 77 := enters_of Tryz.func77 (by kernel_rfl) rfl
set_option maxRecDepth 100000 in
set_option maxHeartbeats 1000000 in
theorem index_any {k : Nat} {q : UInt8 → Bool} (hk : IsB k q) (ek : Ent k) (l : List UInt8) (n : Nat) (hn : n = l.length) (hnm : n ≤ 4611686018427387904) (a : Option Addr) (c : Nat) (w : World) (h : BytesAt w a l) : Calls Tryz.prog 100 #[.slice a n c, .func (.func k) #[] #[]] w fun e w' => ∃ z : Int, e = .returned (.int .i64 z) ∧ w' = w ∧ decide (0 ≤ z) = l.any q := by
  have ek' : ∀ args w, (callFunc k args).run Tryz.prog w = .ok (.enter k args) w := ek
  have HK := Lib.hid (fun c W => hk c W)
  have HN := Lib.hid hn
  have HB := Lib.hid h
  clear hk ek hn h
  have HYES : Hid (∀ i (hi : i < l.length), q l[i] = true → decide ((0 : Int) ≤ (i : Int)) = l.any q) := fun i hi hq => by
    rw [decide_eq_true (by omega), eq_comm, List.any_eq_true]
    exact ⟨l[i], List.getElem_mem hi, hq⟩
  go_enter Tryz.func100, Tryz.ntmps100
  go_wp2
  go_loopw [8] (fun i wr => ∃ j : Nat, j ≤ n ∧ i = .int .i64 j ∧ Hid ((l.take j).any q = false) ∧ wr = w) (fun i _ => n - (intOf i).toNat)
  case atStart => exact ⟨0, Nat.zero_le _, rfl, rfl, rfl⟩
  case round =>
    obtain ⟨j, hj, rfl, HA, rfl⟩ := hrel
    have hj0 : (0 : Int) ≤ (j : Int) := by omega
    by_cases hlt : j < n
    · have hjl : j < l.length := by rw [← HN.out]; exact hlt
      have hjz : (j : Int) < (n : Int) := by omega
      obtain ⟨g, off, rfl, hcell⟩ := BytesAt.at_ HB.out hjl
      have HFN := Lib.hid (fun W => HK.out l[j] W)
      have HY := Lib.hid (HYES.out j hjl)
      have HNX : Hid (q l[j] = false → (l.take (j + 1)).any q = false) := fun hq => by
        rw [List.take_succ_eq_append_getElem hjl, List.any_append, HA.out]
        simp [hq]
      generalize l[j] = u at *
      clear hjl
      cases hq : q u with
      | true =>
        rw [hq] at HFN
        have HO := Lib.hid (HY.out hq)
        clear hq HY HNX
        go_wp2_with (go_at_fn k; refine (HFN.out _).mono ?_; rintro e w1 ⟨rfl, rfl⟩)
        go_ret
        exact ⟨_, rfl, rfl, HO.out⟩
      | false =>
        rw [hq] at HFN
        have HO := Lib.hid (HNX.out hq)
        clear hq HY HNX
        go_wp2_with (go_at_fn k; refine (HFN.out _).mono ?_; rintro e w1 ⟨rfl, rfl⟩)
        go_roundw
        case rel => exact ⟨j + 1, by omega, by go_num, HO.out, trivial⟩
        case measure => simp [intOf]; omega
    · have hje : j = n := by omega
      have hjz : ¬ (j : Int) < (n : Int) := by omega
      have HO : Hid (decide ((0 : Int) ≤ -1) = l.any q) := by
        have h1 := HA.out
        rw [hje, HN.out, List.take_length] at h1
        show _ = _
        rw [h1]
        rfl
      clear hje HA
      go_wp2
      go_ret
      exact ⟨_, rfl, rfl, HO.out⟩
set_option maxRecDepth 100000 in
set_option maxHeartbeats 1000000 in
theorem contains_any {k : Nat} {q : UInt8 → Bool} (hk : IsB k q) (ek : Ent k) (l : List UInt8) (n : Nat) (hn : n = l.length) (hnm : n ≤ 4611686018427387904) (a : Option Addr) (c : Nat) (w : World) (h : BytesAt w a l) : Calls Tryz.prog 76 #[.slice a n c, .func (.func k) #[] #[]] w fun e w' => e = .returned (.bool (l.any q)) ∧ w' = w := by
  have HI := Lib.hid (index_any hk ek l n hn hnm a c w h)
  clear hk ek hn h
  go_enter Tryz.func76, Tryz.ntmps76
  go_wp2_with (go_at_call 100; refine HI.out.mono ?_; rintro e w1 ⟨z, rfl, rfl, hz⟩; have HZ := Lib.hid hz; clear hz HI)
  go_ret
  exact ⟨ret_bool HZ.out, rfl⟩
theorem any_bytes (W : World) (l : List UInt8) (hl : l.length ≤ maxLen) : BytesAt (Lib.bytesWorld W 5 (bs l)) (some ⟨W.heap.size, 0, none⟩) l := (BuW.new W l).bytes hl
set_option maxRecDepth 100000 in
set_option maxHeartbeats 1000000 in
theorem isAlone_any (loc d : List UInt8) (lit : Bool) (w : World) : Calls Tryz.prog 30 #[.agg (boxCells loc d lit)] w (SameOut w (decide (loc = postP) && decide (d = []) && !lit)) := by
  have HQ : Hid (∀ b w', b = (decide (loc = postP) && decide (d = []) && !lit) → Below w.heap.size w w' → SameOut w (decide (loc = postP) && decide (d = []) && !lit) (.returned (.bool b)) w') := fun b w' hb h => by subst hb; exact ⟨rfl, h⟩
  generalize SameOut w (decide (loc = postP) && decide (d = []) && !lit) = Q at *
  have hl := toL_eq loc postP
  have hd := toL_eq d []
  have HB : Hid (∀ o, Below w.heap.size w (w.alloc o)) := fun o => (Below.refl _ w).alloc (Nat.le_refl _) o
  unfold boxCells
  go_enter Tryz.func30, Tryz.ntmps30
  go_wp2
  all_goals refine HQ.out _ _ ?_ (HB.out _)
  all_goals simp only [bs_toL] at *
  all_goals simp_all [postP]
/-- a function that tells something of a text -/
def IsT (k : Nat) (q : List UInt8 → Bool) (m : Nat) : Prop := ∀ (l : List UInt8), l.length ≤ m → ∀ (w : World), ErrAt w ∧ ErrG < w.heap.size → Calls Tryz.prog k #[.string (bs l)] w fun e w' => e = .returned (.bool (q l)) ∧ Below w.heap.size w w'
theorem domain_is : IsT 49 fineB 4611686018427387904 := fun l hl w he => domain_fun l hl w he.1 he.2
theorem literal_is : IsT 71 wB 4611686018427387900 := fun l hl w he => literal_fun l hl w he.1 he.2
theorem ent_domain : Ent 49 := enters_of Tryz.func49 (by kernel_rfl) rfl
theorem ent_literal : Ent 71 := enters_of Tryz.func71 (by kernel_rfl) rfl
set_option maxRecDepth 100000 in
set_option maxHeartbeats 1000000 in
theorem isTold_any {k : Nat} {q : List UInt8 → Bool} {m : Nat} (hk : IsT k q m) (ek : Ent k) (l : List UInt8) (hl : l.length ≤ m) (hm : m ≤ 4611686018427387904) (w : World) (he : ErrAt w ∧ ErrG < w.heap.size) : Calls Tryz.prog 56 #[.string (bs l), .func (.func k) #[] #[]] w (SameOut w (toldB q l)) := by
  have ek' : ∀ args w, (callFunc k args).run Tryz.prog w = .ok (.enter k args) w := ek
  have HC := Lib.hid (hk l hl w he)
  have HS := Lib.hid (fun W => inSmall_any l (by omega) W)
  have HQ : Hid (∀ b w', b = toldB q l → Below w.heap.size w w' → SameOut w (toldB q l) (.returned (.bool b)) w') := fun b w' hb h => by subst hb; exact ⟨rfl, h⟩
  generalize SameOut w (toldB q l) = Q at *
  unfold toldB at HQ
  have hx := toL_eq l (low l)
  clear hk ek
  cases hq : q l with
  | false =>
    rw [hq] at HC HQ
    clear hq
    go_enter Tryz.func56, Tryz.ntmps56
    go_wp2_with (go_at_fn k; refine HC.out.mono ?_; rintro e w1 ⟨rfl, hb⟩; have HB := Lib.hid hb; clear hb)
    exact HQ.out _ _ rfl HB.out
  | true =>
    rw [hq] at HC HQ
    clear hq
    generalize decide (l = low l) = d at *
    go_enter Tryz.func56, Tryz.ntmps56
    go_wp2_with (first | (go_at_fn k; refine HC.out.mono ?_; rintro e w1 ⟨rfl, hb⟩; have HB := Lib.hid hb; clear hb) | (go_at_call 75; refine (HS.out _).mono ?_; rintro e w2 ⟨rfl, hb⟩; have HB2 := Lib.hid (low_trans HB.out hb); clear hb))
    exact HQ.out _ _ (by rw [Bool.true_and]) HB2.out
set_option maxRecDepth 100000 in
set_option maxHeartbeats 1000000 in
theorem rightBox_any (loc d : List UInt8) (lit : Bool) (hl : loc.length ≤ 4611686018427387900) (hd : d.length ≤ 4611686018427387900) (w : World) (he : ErrAt w ∧ ErrG < w.heap.size) : Calls Tryz.prog 57 #[.agg (boxCells loc d lit)] w (SameOut w (rightBoxD loc d lit)) := by
  obtain ⟨W1, hW1⟩ : ∃ W1, W1 = w.alloc (.cells (boxCells loc d lit) 24) := ⟨_, rfl⟩
  obtain ⟨g1, hg1⟩ : ∃ g1, g1 = w.heap.size := ⟨_, rfl⟩
  have hb1 : Below w.heap.size w W1 := by rw [hW1]; exact (Below.refl _ w).alloc (Nat.le_refl _) _
  have HK1 : Hid (Blk W1 g1 24 (boxCells loc d lit)) := by rw [hW1, hg1]; exact Blk.new _ _ _
  have HL1 := Lib.hid hb1
  have HE := Lib.hid he
  have hcv := Lib.run_convert_string_bytes (P := Tryz.prog) W1 9 41 5 (bs loc) (u := .string) Tryz.underlying9 Tryz.underlying41 Tryz.underlying5
  rw [bs_size] at hcv
  have HBY := Lib.hid (any_bytes W1 loc (by unfold maxLen; omega))
  have HL2 := Lib.hid (low_trans hb1 (bytesWorld_low W1 5 (bs loc)))
  have HK2 := Lib.hid (HK1.out.below (bytesWorld_low W1 5 (bs loc)) HK1.out.lt)
  have HCF := Lib.hid (fun cp => contains_any isNotShown_any ent_shown loc loc.length rfl (by omega) (some ⟨W1.heap.size, 0, none⟩) cp _ HBY.out)
  have HQ : Hid (∀ b w', b = rightBoxD loc d lit → Below w.heap.size w w' → SameOut w (rightBoxD loc d lit) (.returned (.bool b)) w') := fun b w' hb h => by subst hb; exact ⟨rfl, h⟩
  have HTD := Lib.hid (fun W (hW : Below w.heap.size w W) => isTold_any domain_is ent_domain d (by omega) (Nat.le_refl _) W (ErrAt.later he hW))
  have HTL := Lib.hid (fun W (hW : Below w.heap.size w W) => isTold_any literal_is ent_literal d hd (by omega) W (ErrAt.later he hW))
  generalize SameOut w (rightBoxD loc d lit) = Q at *
  generalize grownCap W1 loc.length 0 5 = cp at *
  generalize Lib.bytesWorld W1 5 (bs loc) = W2 at *
  unfold rightBoxD at HQ
  have HW1 := Lib.hid hW1
  have HG1 := Lib.hid hg1
  have hsz : ((bs loc).size : Int) = (loc.length : Int) := rfl
  unfold boxCells at HW1 HK1 HK2 ⊢
  obtain ⟨x0, x1, x2⟩ : W1.cell? ⟨g1, 0, none⟩ = some (.string (bs loc)) ∧ W1.cell? ⟨g1, 1, none⟩ = some (.string (bs d)) ∧ W1.cell? ⟨g1, 2, none⟩ = some (.bool lit) := ⟨HK1.out.cell 0, HK1.out.cell 1, HK1.out.cell 2⟩
  obtain ⟨y0, y1, y2⟩ : W2.cell? ⟨g1, 0, none⟩ = some (.string (bs loc)) ∧ W2.cell? ⟨g1, 1, none⟩ = some (.string (bs d)) ∧ W2.cell? ⟨g1, 2, none⟩ = some (.bool lit) := ⟨HK2.out.cell 0, HK2.out.cell 1, HK2.out.cell 2⟩
  clear hW1 hg1 hb1 he
  by_cases hlen : loc.length ≤ 64
  · have hlz : ¬ (64 : Int) < (loc.length : Int) := by omega
    have hld : decide ((64 : Int) < (loc.length : Int)) = false := decide_eq_false hlz
    rw [decide_eq_true hlen] at HQ
    clear hlen hlz hl hd
    cases hany : loc.any notB with
    | true =>
      rw [hany] at HQ HCF
      clear hany
      go_enter Tryz.func57, Tryz.ntmps57
      go_upto_region 1 with (fail)
      rw [← HW1.out, ← HG1.out]
      go_wp2_with (go_at_call 76; refine (HCF.out _).mono ?_; rintro e w3 ⟨rfl, rfl⟩)
      exact HQ.out _ _ rfl HL2.out
    | false =>
      rw [hany] at HQ HCF
      clear hany
      cases lit with
      | true =>
        go_enter Tryz.func57, Tryz.ntmps57
        go_upto_region 1 with (fail)
        rw [← HW1.out, ← HG1.out]
        go_wp2_with (first | (go_at_call 76; refine (HCF.out _).mono ?_; rintro e w3 ⟨rfl, rfl⟩) | (go_at_call 56; refine (HTL.out _ HL2.out).mono ?_; rintro e w4 ⟨rfl, hb⟩; have HL4 := Lib.hid (low_trans HL2.out hb); clear hb))
        exact HQ.out _ _ (by simp) HL4.out
      | false =>
        go_enter Tryz.func57, Tryz.ntmps57
        go_upto_region 1 with (fail)
        rw [← HW1.out, ← HG1.out]
        go_wp2_with (first | (go_at_call 76; refine (HCF.out _).mono ?_; rintro e w3 ⟨rfl, rfl⟩) | (go_at_call 56; refine (HTD.out _ HL2.out).mono ?_; rintro e w4 ⟨rfl, hb⟩; have HL4 := Lib.hid (low_trans HL2.out hb); clear hb))
        exact HQ.out _ _ (by simp) HL4.out
  · have hlz : (64 : Int) < (loc.length : Int) := by omega
    have hld : decide ((64 : Int) < (loc.length : Int)) = true := decide_eq_true hlz
    rw [decide_eq_false hlen] at HQ
    clear hlen
    go_enter Tryz.func57, Tryz.ntmps57
    go_upto_region 1 with (fail)
    rw [← HW1.out, ← HG1.out]
    go_wp2
    exact HQ.out _ _ rfl HL1.out
end Go.Proofs.YtnkepdeegpampaaGreatDoor

/-
  A row of bytes of one's own whose mark, if it bears one, is on none of its cells ('[]byte(s)'): how it lies, what an append of one byte leaves. No conditions but the cells.
-/
namespace Go.Proofs.YtnkepdeegpampaaGreatDoor
open Go.RowKit

theorem info8 : (Tryz.prog.info? 5).map (fun i => (i.zero, i.size, i.bytes)) = some (some (.int .u8 0), 1, 1) := by kernel_rfl

/-- the bytes l lie in the row g, which is the call's own; no cell of it is frozen -/
structure OwnQ (w : World) (base g c : Nat) (l : List UInt8) : Prop where
  len : l.length ≤ c
  cap : c ≤ maxLen
  base_le : base ≤ g
  row : ∃ cur fz, w.heap[g]? = some (.cells cur 5 fz) ∧ (∀ j, j < cur.size → ¬ (fz.1 ≤ j ∧ j < fz.2)) ∧ cur.size = c ∧ cur.toList.take l.length = l.map byteV
theorem OwnQ.lt {w : World} {base g c : Nat} {l : List UInt8} (h : OwnQ w base g c l) : g < w.heap.size := by
  obtain ⟨cur, fz, h1, _⟩ := h.row
  exact (Array.getElem?_eq_some_iff.1 h1).1
theorem OwnQ.kept {w w' : World} {base g c : Nat} {l : List UInt8} (h : OwnQ w base g c l) (hb : w'.heap[g]? = w.heap[g]?) : OwnQ w' base g c l := by
  refine ⟨h.len, h.cap, h.base_le, ?_⟩
  obtain ⟨cur, fz, h1, h2⟩ := h.row
  exact ⟨cur, fz, hb.trans h1, h2⟩
theorem OwnQ.below {w w' : World} {B base g c : Nat} {l : List UInt8} (h : OwnQ w base g c l) (hb : Below B w w') (hB : g < B) : OwnQ w' base g c l := h.kept (hb.block g hB)
theorem OwnQ.alloc {w : World} {base g c : Nat} {l : List UInt8} (h : OwnQ w base g c l) (o : Obj) : OwnQ (w.alloc o) base g c l := h.kept (Below.heap_alloc w o g h.lt)
theorem OwnQ.cut {w : World} {base g c : Nat} {l : List UInt8} (h : OwnQ w base g c l) : OwnQ w base g c [] := by
  obtain ⟨cur, fz, h1, h2, h3, _⟩ := h.row
  exact ⟨Nat.zero_le _, h.cap, h.base_le, cur, fz, h1, h2, h3, by simp⟩
theorem OwnQ.cellAt {w : World} {base g c : Nat} {l : List UInt8} (h : OwnQ w base g c l) (j : Nat) (hj : j < l.length) : w.cell? ⟨g, j, none⟩ = some (byteV l[j]) := by
  obtain ⟨cur, fz, h1, h2, h3, h4⟩ := h.row
  rw [cell_of_row w g j cur 5 fz h1]
  have : (cur.toList.take l.length)[j]? = (l.map byteV)[j]? := by rw [h4]
  rw [List.getElem?_take, if_pos hj, List.getElem?_map, List.getElem?_eq_getElem hj] at this
  simpa using this
theorem OwnQ.bytes {w : World} {base g c : Nat} {l : List UInt8} (h : OwnQ w base g c l) : BytesAt w (some ⟨g, 0, none⟩) l := by
  refine ⟨by rw [List.length_map]; exact Nat.le_trans h.len h.cap, fun _ => ⟨g, 0, rfl, h.lt, fun j hj => ?_⟩⟩
  rw [Nat.zero_add, h.cellAt j (by simpa using hj), List.getElem_map]
/-- such a row and a block of another type are two -/
theorem OwnQ.ne {w : World} {base g c B : Nat} {l : List UInt8} {t : TypeId} {cs : Array Value} (h : OwnQ w base g c l) (hb : Blk w B t cs) (ht : t ≠ 5) : B ≠ g := by
  obtain ⟨cur, fz, h1, _⟩ := h.row
  intro e
  subst e
  unfold Blk at hb
  rw [hb] at h1
  injection h1 with h1
  injection h1 with _ h1 _
  exact ht h1
/-- what '[]byte(s)' leaves -/
theorem OwnQ.conv (w : World) (base : Nat) (l : List UInt8) (hl : l.length ≤ maxLen) (hb : base ≤ w.heap.size) : OwnQ (Lib.bytesWorld w 5 (bs l)) base w.heap.size (grownCap w l.length 0 5) l := by
  refine ⟨grownCap_ge w l.length 0 _, grownCap_le_maxLen w l.length 0 _ hl, hb, _, _, Lib.bytesWorld_at_new w 5 (bs l), fun j hj h => by have := h.1; simp only at this; omega, ?_, ?_⟩
  · have := grownCap_ge w l.length 0 5
    simp [Lib.bytesCells, bs_size]
    show l.length + (grownCap w l.length 0 5 - l.length) = _
    omega
  · simp [Lib.bytesCells]
    rw [show (bs l).data.toList = l from rfl, List.take_append_of_le_length (by simp)]
    rw [List.take_of_length_le (by simp)]
    rfl
/-- one byte is appended -/
theorem run_append_q (w : World) (base g c : Nat) (l : List UInt8) (ty : TypeId) (h : OwnQ w base g c l) (a : Addr) (k : Nat) (x : UInt8) (hx : w.cell? a = some (byteV x)) (hle : l.length + 1 ≤ 1000000) (hbase : base ≤ w.heap.size) :
    ∃ g' c' w', (Builtin.append_ #[41, 41] ty #[.slice (some ⟨g, 0, none⟩) l.length c, .slice (some a) 1 k]).run Tryz.prog w = .ok (.slice (some ⟨g', 0, none⟩) (l.length + 1) c') w' ∧ OwnQ w' base g' c' (l ++ [x]) ∧ w.grownBy w' (some g) := by
  obtain ⟨i, hi, hz, hs, hy⟩ := info_parts info8
  have hnews : ∀ j u, [byteV x][j]? = some u → w.cell? (a.add j) = some u := by
    intro j u hj
    match j, hj with
    | 0, hj =>
      simp at hj
      subst hj
      have e : a.add 0 = a := by unfold Addr.add; split <;> simp_all
      rw [e]
      exact hx
  by_cases hroom : l.length + 1 ≤ c
  · obtain ⟨cur, fz, h1, h2, h3, h4⟩ := h.row
    have hcell : w.cell? ⟨g, l.length, none⟩ = some (cur[l.length]'(by omega)) := by
      rw [cell_of_row w g l.length cur 5 fz h1]
      exact Array.getElem?_eq_getElem _
    have hfro : w.frozen? ⟨g, l.length, none⟩ = false := by
      have := h2 l.length (by omega)
      simp only [World.frozen?, h1, Bool.and_eq_false_iff, decide_eq_false_iff_not]
      omega
    have hf := run_firstCells_some (P := Tryz.prog) w 1 1 a 1 k [byteV x] rfl hnews
    have hadd : (⟨g, l.length, none⟩ : Addr).add 0 = ⟨g, l.length, none⟩ := by unfold Addr.add; split <;> simp_all
    have hst : (storeCells ⟨g, l.length, none⟩ [byteV x] 0).run Tryz.prog w = .ok () (w.setRow g (cur.setIfInBounds l.length (byteV x))) := by
      simp only [storeCells, Sem.run_bind, hadd]
      rw [run_store Tryz.prog w _ _ _ rfl, hcell]
      simp [hfro, setCell_eq_setRow w g l.length cur 5 fz _ h1, Result.andThen_ok]
    refine ⟨g, c, w.setRow g (cur.setIfInBounds l.length (byteV x)), ?_, ⟨by simpa using hroom, h.cap, h.base_le, _, fz, setRow_heap w g cur _ 5 fz h1, by simpa using h2, by simpa using h3, ?_⟩, ⟨rfl, rfl, rfl, by simp, fun q _ hq => setRow_other w g q _ (fun e => hq (by rw [e]))⟩⟩
    · simp [Builtin.append_, run_underlying Tryz.underlying41, sizeOf, typeInfo, hi, hs, Builtin.lenOf, hroom, hf, Addr.add_lit, hst]
    · rw [Array.toList_setIfInBounds, List.length_append, List.map_append, List.length_singleton, List.take_add_one, List.take_set_of_le (Nat.le_refl _), h4, List.getElem?_set_self (by have e : cur.toList.length = cur.size := Array.length_toList; omega)]
      rfl
  · have holds : ∀ j u, (l.map byteV)[j]? = some u → w.cell? ((⟨g, 0, none⟩ : Addr).add j) = some u := by
      intro j u hj
      obtain ⟨hj2, rfl⟩ := List.getElem?_eq_some_iff.1 hj
      rw [Addr.add_lit, Nat.zero_add, h.cellAt j (by simpa using hj2), List.getElem_map]
    have hc := h.len
    have hcc : c = l.length := by omega
    have hr := run_append_grow (P := Tryz.prog) w 41 ty 5 i (.int .u8 0) Tryz.underlying41 hi hz ⟨g, 0, none⟩ l.length c (l.map byteV) (by rw [List.length_map, hs, Nat.mul_one]) holds a 1 k [byteV x] (by rw [hs]; rfl) hnews (by omega) (by omega) (growslice_fits (by omega) (by rw [hy]; omega))
    refine ⟨w.heap.size, _, _, hr, ⟨by rw [List.length_append]; exact grownCap_ge w (l.length + 1) c _, grownCap_le_maxLen w (l.length + 1) c _ (by unfold maxLen; omega), hbase, _, (0, 0), heap_alloc_new w.drew _, fun j _ hj => by have := hj.2; simp at this, ?_, ?_⟩, ⟨rfl, rfl, rfl, by simp, fun q hq _ => heap_alloc_old w.drew _ hq⟩⟩
    · have := grownCap_ge w (l.length + 1) c 5
      have hz1 : (Value.int IntKind.u8 0).cells.size = 1 := rfl
      simp only [Array.size_append, List.size_toArray, size_zeroCells, hz1, List.length_map, List.length_singleton]
      omega
    · simp only [Array.toList_append, List.append_assoc, List.length_append, List.length_singleton, List.map_append]
      rw [← List.append_assoc]
      rw [List.take_append_of_le_length (by simp)]
      rw [List.take_of_length_le (by simp)]
      rfl
end Go.Proofs.YtnkepdeegpampaaGreatDoor

/-
  A row of bytes that '[]byte("..")' of a constant made, or that grew out of it: an append of a text of one byte. No conditions but the cells.
-/
namespace Go.Proofs.YtnkepdeegpampaaGreatDoor
open Go.RowKit

/-- a text of one byte is appended -/
theorem run_append_qs (w : World) (base g c : Nat) (l : List UInt8) (ty : TypeId) (h : OwnQ w base g c l) (x : UInt8) (hle : l.length + 1 ≤ 1000000) (hbase : base ≤ w.heap.size) :
    ∃ g' c' w', (Builtin.append_ #[41, 9] ty #[.slice (some ⟨g, 0, none⟩) l.length c, .string (bs [x])]).run Tryz.prog w = .ok (.slice (some ⟨g', 0, none⟩) (l.length + 1) c') w' ∧ OwnQ w' base g' c' (l ++ [x]) ∧ w.grownBy w' (some g) ∧ (g' = g ∨ g' = w.heap.size) := by
  obtain ⟨i, hi, hz, hs, hy⟩ := info_parts info8
  have hsx : (bs [x]).size = 1 := rfl
  have hcx : Lib.strCells (bs [x]) = [byteV x] := rfl
  by_cases hroom : l.length + 1 ≤ c
  · obtain ⟨cur, fz, h1, h2, h3, h4⟩ := h.row
    have hcell : w.cell? ⟨g, l.length, none⟩ = some (cur[l.length]'(by omega)) := by
      rw [cell_of_row w g l.length cur 5 fz h1]
      exact Array.getElem?_eq_getElem _
    have hfro : w.frozen? ⟨g, l.length, none⟩ = false := by
      have := h2 l.length (by omega)
      simp only [World.frozen?, h1, Bool.and_eq_false_iff, decide_eq_false_iff_not]
      omega
    have hf := Lib.run_firstCells_string (P := Tryz.prog) w 1 (bs [x])
    rw [hcx, hsx] at hf
    have hadd : (⟨g, l.length, none⟩ : Addr).add 0 = ⟨g, l.length, none⟩ := by unfold Addr.add; split <;> simp_all
    have hst : (storeCells ⟨g, l.length, none⟩ [byteV x] 0).run Tryz.prog w = .ok () (w.setRow g (cur.setIfInBounds l.length (byteV x))) := by
      simp only [storeCells, Sem.run_bind, hadd]
      rw [run_store Tryz.prog w _ _ _ rfl, hcell]
      simp [hfro, setCell_eq_setRow w g l.length cur 5 fz _ h1, Result.andThen_ok]
    refine ⟨g, c, w.setRow g (cur.setIfInBounds l.length (byteV x)), ?_, ⟨by simpa using hroom, h.cap, h.base_le, _, fz, setRow_heap w g cur _ 5 fz h1, by simpa using h2, by simpa using h3, ?_⟩, ⟨rfl, rfl, rfl, by simp, fun q _ hq => setRow_other w g q _ (fun e => hq (by rw [e]))⟩, .inl rfl⟩
    · simp [Builtin.append_, run_underlying Tryz.underlying41, run_underlying Tryz.underlying9, sizeOf, typeInfo, hi, hs, hsx, Builtin.lenOf, hroom, hf, Addr.add_lit, hst]
    · rw [Array.toList_setIfInBounds, List.length_append, List.map_append, List.length_singleton, List.take_add_one, List.take_set_of_le (Nat.le_refl _), h4, List.getElem?_set_self (by have e : cur.toList.length = cur.size := Array.length_toList; omega)]
      rfl
  · have holds : ∀ j u, (l.map byteV)[j]? = some u → w.cell? ((⟨g, 0, none⟩ : Addr).add j) = some u := by
      intro j u hj
      obtain ⟨hj2, rfl⟩ := List.getElem?_eq_some_iff.1 hj
      rw [Addr.add_lit, Nat.zero_add, h.cellAt j (by simpa using hj2), List.getElem_map]
    have hc := h.len
    have hcc : c = l.length := by omega
    have hr := Lib.run_append_grow_string (P := Tryz.prog) w 41 9 ty 5 i (.int .u8 0) Tryz.underlying41 Tryz.underlying9 hi hz ⟨g, 0, none⟩ l.length c (l.map byteV) (by rw [List.length_map, hs, Nat.mul_one]) holds (bs [x]) (by rw [hsx]; omega) (by rw [hsx]; omega) (growslice_fits (by rw [hsx]; omega) (by rw [hy, hsx]; omega))
    rw [hsx, hcx] at hr
    refine ⟨w.heap.size, _, _, hr, ⟨by rw [List.length_append]; exact grownCap_ge w (l.length + 1) c _, grownCap_le_maxLen w (l.length + 1) c _ (by unfold maxLen; omega), hbase, _, (0, 0), heap_alloc_new w.drew _, fun j _ hj => by have := hj.2; simp at this, ?_, ?_⟩, ⟨rfl, rfl, rfl, by simp, fun q hq _ => heap_alloc_old w.drew _ hq⟩, .inr rfl⟩
    · have := grownCap_ge w (l.length + 1) c 5
      have hz1 : (Value.int IntKind.u8 0).cells.size = 1 := rfl
      simp only [Array.size_append, List.size_toArray, size_zeroCells, hz1, List.length_map, List.length_singleton]
      omega
    · simp only [Array.toList_append, List.append_assoc, List.length_append, List.length_singleton, List.map_append]
      rw [← List.append_assoc]
      rw [List.take_append_of_le_length (by simp)]
      rw [List.take_of_length_le (by simp)]
      rfl
/-- one byte is appended -/
theorem run_append_q2 (w : World) (base g c : Nat) (l : List UInt8) (ty : TypeId) (h : OwnQ w base g c l) (a : Addr) (k : Nat) (x : UInt8) (hx : w.cell? a = some (byteV x)) (hle : l.length + 1 ≤ 1000000) (hbase : base ≤ w.heap.size) :
    ∃ g' c' w', (Builtin.append_ #[41, 41] ty #[.slice (some ⟨g, 0, none⟩) l.length c, .slice (some a) 1 k]).run Tryz.prog w = .ok (.slice (some ⟨g', 0, none⟩) (l.length + 1) c') w' ∧ OwnQ w' base g' c' (l ++ [x]) ∧ w.grownBy w' (some g) ∧ (g' = g ∨ g' = w.heap.size) := by
  obtain ⟨i, hi, hz, hs, hy⟩ := info_parts info8
  have hnews : ∀ j u, [byteV x][j]? = some u → w.cell? (a.add j) = some u := by
    intro j u hj
    match j, hj with
    | 0, hj =>
      simp at hj
      subst hj
      have e : a.add 0 = a := by unfold Addr.add; split <;> simp_all
      rw [e]
      exact hx
  by_cases hroom : l.length + 1 ≤ c
  · obtain ⟨cur, fz, h1, h2, h3, h4⟩ := h.row
    have hcell : w.cell? ⟨g, l.length, none⟩ = some (cur[l.length]'(by omega)) := by
      rw [cell_of_row w g l.length cur 5 fz h1]
      exact Array.getElem?_eq_getElem _
    have hfro : w.frozen? ⟨g, l.length, none⟩ = false := by
      have := h2 l.length (by omega)
      simp only [World.frozen?, h1, Bool.and_eq_false_iff, decide_eq_false_iff_not]
      omega
    have hf := run_firstCells_some (P := Tryz.prog) w 1 1 a 1 k [byteV x] rfl hnews
    have hadd : (⟨g, l.length, none⟩ : Addr).add 0 = ⟨g, l.length, none⟩ := by unfold Addr.add; split <;> simp_all
    have hst : (storeCells ⟨g, l.length, none⟩ [byteV x] 0).run Tryz.prog w = .ok () (w.setRow g (cur.setIfInBounds l.length (byteV x))) := by
      simp only [storeCells, Sem.run_bind, hadd]
      rw [run_store Tryz.prog w _ _ _ rfl, hcell]
      simp [hfro, setCell_eq_setRow w g l.length cur 5 fz _ h1, Result.andThen_ok]
    refine ⟨g, c, w.setRow g (cur.setIfInBounds l.length (byteV x)), ?_, ⟨by simpa using hroom, h.cap, h.base_le, _, fz, setRow_heap w g cur _ 5 fz h1, by simpa using h2, by simpa using h3, ?_⟩, ⟨rfl, rfl, rfl, by simp, fun q _ hq => setRow_other w g q _ (fun e => hq (by rw [e]))⟩, .inl rfl⟩
    · simp [Builtin.append_, run_underlying Tryz.underlying41, sizeOf, typeInfo, hi, hs, Builtin.lenOf, hroom, hf, Addr.add_lit, hst]
    · rw [Array.toList_setIfInBounds, List.length_append, List.map_append, List.length_singleton, List.take_add_one, List.take_set_of_le (Nat.le_refl _), h4, List.getElem?_set_self (by have e : cur.toList.length = cur.size := Array.length_toList; omega)]
      rfl
  · have holds : ∀ j u, (l.map byteV)[j]? = some u → w.cell? ((⟨g, 0, none⟩ : Addr).add j) = some u := by
      intro j u hj
      obtain ⟨hj2, rfl⟩ := List.getElem?_eq_some_iff.1 hj
      rw [Addr.add_lit, Nat.zero_add, h.cellAt j (by simpa using hj2), List.getElem_map]
    have hc := h.len
    have hcc : c = l.length := by omega
    have hr := run_append_grow (P := Tryz.prog) w 41 ty 5 i (.int .u8 0) Tryz.underlying41 hi hz ⟨g, 0, none⟩ l.length c (l.map byteV) (by rw [List.length_map, hs, Nat.mul_one]) holds a 1 k [byteV x] (by rw [hs]; rfl) hnews (by omega) (by omega) (growslice_fits (by omega) (by rw [hy]; omega))
    refine ⟨w.heap.size, _, _, hr, ⟨by rw [List.length_append]; exact grownCap_ge w (l.length + 1) c _, grownCap_le_maxLen w (l.length + 1) c _ (by unfold maxLen; omega), hbase, _, (0, 0), heap_alloc_new w.drew _, fun j _ hj => by have := hj.2; simp at this, ?_, ?_⟩, ⟨rfl, rfl, rfl, by simp, fun q hq _ => heap_alloc_old w.drew _ hq⟩, .inr rfl⟩
    · have := grownCap_ge w (l.length + 1) c 5
      have hz1 : (Value.int IntKind.u8 0).cells.size = 1 := rfl
      simp only [Array.size_append, List.size_toArray, size_zeroCells, hz1, List.length_map, List.length_singleton]
      omega
    · simp only [Array.toList_append, List.append_assoc, List.length_append, List.length_singleton, List.map_append]
      rw [← List.append_assoc]
      rw [List.take_append_of_le_length (by simp)]
      rw [List.take_of_length_le (by simp)]
      rfl
/-- the call of the builtin, as an operation of a list -/
theorem wpList_q {P : Program} {w : World} {ops : Array Oper} {rest : List Oper} {o : Oper} {a : Act} {Q : Exit → Act → World → Prop} (hgd : o.guard = none) (s x : Operand) (t u : TypeId)
    (ho : o.op = .call { callee := .builtin .append, args := #[s, x], argTypes := #[t, u] }) (v y r : Value) (w' : World) (hs : a.eval s = v) (hx : a.eval x = y)
    (hrun : (Builtin.append_ #[t, u] o.type #[v, y]).run P w = .ok r w') (h : wpList P ops Q rest (a.put o.dst r) w') : wpList P ops Q (o :: rest) a w := by
  refine wpList_plain hgd fun K hK => ?_
  unfold Oper.wp
  simp [execOp, ho, resolve, invoke, builtin, hs, hx, hrun, Result.andThen]
  exact hK _ _ h
end Go.Proofs.YtnkepdeegpampaaGreatDoor

/-
  The contract of path.localText. Conditions: a text of at most 1000 bytes; the library's variable holds some value.
-/
namespace Go.Proofs.YtnkepdeegpampaaGreatDoor
open Go.RowKit Go.Shelf

theorem OwnQ.drewN {w : World} {base g c : Nat} {l : List UInt8} (h : OwnQ w base g c l) (n : Nat) : OwnQ (w.drewN n) base g c l := h.kept rfl
theorem quote_step (l : List UInt8) (k : Nat) (hk : k < l.length) : quoteD (l.take (k + 1)) = quoteD (l.take k) ++ (if l[k] = 34 ∨ l[k] = 92 then [92, l[k]] else [l[k]]) := by
  unfold quoteD
  rw [List.take_succ_eq_append_getElem hk, List.flatMap_append]
  simp
theorem quote_most (l : List UInt8) : (quoteD l).length ≤ 2 * l.length := by
  unfold quoteD
  induction l with
  | nil => simp
  | cons c l ih =>
    rw [List.flatMap_cons, List.length_append, List.length_cons]
    have : (if c = 34 ∨ c = 92 then [92, c] else [c]).length ≤ 2 := by split <;> simp
    omega
/-- what localText has in its loop: the text in the row N, its answer so far in the row g, its own -/
structure LoW (w wr : World) (N : Nat) (l acc : List UInt8) (g c : Nat) : Prop where
  low : Below w.heap.size w wr
  own : OwnQ wr w.heap.size g c acc
  text : BuW wr N l
  ne : N ≠ g
  lt : N < wr.heap.size
theorem LoW.grow {w wr W : World} {N g c g' c' : Nat} {l acc acc' : List UInt8} (h : LoW w wr N l acc g c) (hq : OwnQ W w.heap.size g' c' acc') (hg : wr.grownBy W (some g)) (he : g' = g ∨ g' = wr.heap.size) : LoW w W N l acc' g' c' := by
  have hlt := h.lt
  refine ⟨h.low.grown hg h.low.size (fun k hk => by injection hk with hk; rw [← hk]; exact h.own.base_le), hq, ?_, ?_, Nat.lt_of_lt_of_le h.lt hg.size⟩
  · obtain ⟨cur, h1, h2⟩ := h.text
    exact ⟨cur, (hg.block N h.lt (fun e => h.ne (by injection e))).trans h1, h2⟩
  · rcases he with e | e
    · rw [e]; exact h.ne
    · omega
theorem LoW.put {w wr : World} {N g c : Nat} {l acc : List UInt8} (h : LoW w wr N l acc g c) (o : Obj) : LoW w (wr.alloc o) N l acc g c := by
  refine ⟨h.low.alloc h.low.size _, h.own.alloc o, ?_, h.ne, by have := h.lt; rw [World.size_alloc]; omega⟩
  obtain ⟨cur, h1, h2⟩ := h.text
  exact ⟨cur, (Below.heap_alloc wr o N h.lt).trans h1, h2⟩
/-- a byte of constant text is appended -/
theorem LoW.text_ {w wr : World} {N g c : Nat} {l acc : List UInt8} (h : LoW w wr N l acc g c) (x : UInt8) (hm : acc.length ≤ 100000) : ∃ g' c' W, (Builtin.append_ #[41, 9] 41 #[.slice (some ⟨g, 0, none⟩) acc.length c, .string (bs [x])]).run Tryz.prog wr = .ok (.slice (some ⟨g', 0, none⟩) (acc.length + 1) c') W ∧ LoW w W N l (acc ++ [x]) g' c' := by
  obtain ⟨g', c', W, h1, h2, h3, h4⟩ := run_append_qs wr w.heap.size g c acc 41 h.own x (by omega) h.low.size
  exact ⟨g', c', W, h1, h.grow h2 h3 h4⟩
/-- a byte is appended, out of a row of one -/
theorem LoW.byte {w wr : World} {N g c : Nat} {l acc : List UInt8} (h : LoW w wr N l acc g c) (x : UInt8) (hm : acc.length ≤ 100000) : ∃ g' c' W, (Builtin.append_ #[41, 41] 41 #[.slice (some ⟨g, 0, none⟩) acc.length c, .slice (some ⟨wr.heap.size, 0, none⟩) 1 1]).run Tryz.prog (wr.alloc (.cells #[.int .u8 (x.toNat : Int)] 5)) = .ok (.slice (some ⟨g', 0, none⟩) (acc.length + 1) c') W ∧ LoW w W N l (acc ++ [x]) g' c' := by
  have hp := h.put (.cells #[.int .u8 (x.toNat : Int)] 5)
  obtain ⟨g', c', W, h1, h2, h3, h4⟩ := run_append_q2 (wr.alloc (.cells #[.int .u8 (x.toNat : Int)] 5)) w.heap.size g c acc 41 hp.own ⟨wr.heap.size, 0, none⟩ 1 x ((Blk.new wr 5 #[byteV x]).cell 0) (by omega) hp.low.size
  exact ⟨g', c', W, h1, hp.grow h2 h3 h4⟩
theorem loW_first (w w1 : World) (l : List UInt8) (_hl : l.length ≤ 1000) (hb : Below w.heap.size w w1) (W2 : World) (hW2 : W2 = w1.alloc (.cells #[.int .u8 34] 5 (1, 2))) : LoW w (Lib.bytesWorld W2 5 (bs l)) W2.heap.size l [34] w1.heap.size 1 := by
  have hsz : W2.heap.size = w1.heap.size + 1 := by rw [hW2, World.size_alloc]
  have hlow := bytesWorld_low W2 5 (bs l)
  have ho : OwnQ W2 w.heap.size w1.heap.size 1 [34] := by
    refine ⟨Nat.le_refl _, by decide, hb.size, #[.int .u8 34], (1, 2), ?_, ?_, rfl, rfl⟩
    · rw [hW2]; exact heap_alloc_new w1 _
    · intro j hj
      simp at hj ⊢
      omega
  refine ⟨low_trans (by rw [hW2]; exact hb.alloc hb.size _) (hlow.mono (by rw [hsz]; have := hb.size; omega)), ho.below hlow (by omega), BuW.new W2 l, by omega, ?_⟩
  obtain ⟨cur, h1, _⟩ := BuW.new W2 l
  exact (Array.getElem?_eq_some_iff.1 h1).1
set_option maxRecDepth 100000 in
set_option maxHeartbeats 2000000 in
theorem local_any (l : List UInt8) (hl : l.length ≤ 1000) (w : World) (he : ErrAt w ∧ ErrG < w.heap.size) : Calls Tryz.prog 58 #[.string (bs l)] w fun e w' => e = .returned (.string (bs (locD l))) ∧ Below w.heap.size w w' := by
  have hr := new_reader w l (by omega) he.1 he.2
  have hb : Below w.heap.size w (w.alloc (.cells #[.string (bs l), .int .i64 0, .bool false, .slice none 0 0, .string ⟨#[]⟩, .string ⟨#[]⟩, .bool false, .bool false] 103)) := (Below.refl _ w).alloc (Nat.le_refl _) _
  have HW := Lib.hid (whole_any (atoms_any 4611686018427387904 (Nat.le_refl _)) ent_m_atoms hr (by omega) trivial)
  have HB := Lib.hid hb
  have HWR : Hid (wholeR atomsR (st0 l) = aB l) := rfl
  unfold meth at HW
  have hmf : ∀ (fn : Fn) (first cap : Array Value) (w : World), (Instr.makeFunc fn first cap).run Tryz.prog w = .ok (.func fn first cap) w := fun _ _ _ _ => rfl
  clear hr hb he
  obtain ⟨n, hn⟩ : ∃ n, n = l.length := ⟨_, rfl⟩
  cases hd : aB l with
  | true =>
    have HD := Lib.hid hd
    have HT : Hid (locD l = l) := by unfold locD; rw [if_pos hd]; rfl
    clear hd hn
    rw [HT.out]
    go_enter Tryz.func58, Tryz.ntmps58
    go_wp2_with (go_at_call 67; refine HW.out.mono ?_; rintro e w1 ⟨rfl, h1, hkp⟩; rw [HWR.out, HD.out]; have HKP1 := Lib.hid hkp; clear h1 hkp)
    go_ret
    exact ⟨rfl, HB.out.trans HKP1.out.low⟩
  | false =>
    have HD := Lib.hid hd
    have HT : Hid (locD l = 34 :: (quoteD l ++ [34])) := by unfold locD; rw [if_neg (by rw [hd]; decide)]; rfl
    clear hd
    rw [HT.out]
    go_enter Tryz.func58, Tryz.ntmps58
    go_upto_region 4 with (go_at_call 67; refine HW.out.mono ?_; rintro e w1 ⟨rfl, h1, hkp⟩; rw [HWR.out, HD.out]; have HL1 := Lib.hid (HB.out.trans hkp.low); clear h1 hkp HW)
    obtain ⟨W2, hW2⟩ : ∃ W2, W2 = w1.alloc (.cells #[.int .u8 34] 5 (1, 2)) := ⟨_, rfl⟩
    have HF := Lib.hid (loW_first w w1 l hl HL1.out W2 hW2)
    have hcc := Joins.run_convert_bytes_const_at (P := Tryz.prog) w1 41 5 #[.int .u8 34] 1 1 w1.heap.size rfl Tryz.underlying41 Tryz.underlying5
    have hcc2 : (convert 41 41 (.slice (some ⟨w1.heap.size, 0, none⟩) 1 1)).run Tryz.prog (w1.alloc (.cells #[.int .u8 34] 5)) = .ok (.slice (some ⟨w1.heap.size, 0, none⟩) 1 1) W2 := by rw [hW2]; exact hcc
    clear hcc hW2
    go_upto_region 5 with (fail)
    have hcv := Lib.run_convert_string_bytes (P := Tryz.prog) W2 9 41 5 (bs l) (u := .string) Tryz.underlying9 Tryz.underlying41 Tryz.underlying5
    rw [bs_size, ← hn] at hcv
    obtain ⟨G, hG⟩ : ∃ G, G = w1.heap.size := ⟨_, rfl⟩
    rw [← hG] at HF ⊢
    have hcg : n ≤ grownCap W2 n 0 5 := grownCap_ge W2 n 0 _
    generalize grownCap W2 n 0 5 = cp at *
    generalize Lib.bytesWorld W2 5 (bs l) = W3 at *
    obtain ⟨N, hN⟩ : ∃ N, N = W2.heap.size := ⟨_, rfl⟩
    rw [← hN] at HF hcv
    have hnm : n ≤ 1000 := by omega
    have HNN := Lib.hid hn
    clear hG hN hn hcc2
    go_wp2
    go_loopw [4, 20] (fun v i wr => ∃ k g c : Nat, k ≤ n ∧ i = .int .i64 k ∧ v = .slice (some ⟨g, 0, none⟩) (34 :: quoteD (l.take k)).length c ∧ Hid (LoW w wr N l (34 :: quoteD (l.take k)) g c)) (fun _ i _ => n - (intOf i).toNat)
    case atStart => exact ⟨0, G, 1, Nat.zero_le _, rfl, rfl, HF.out⟩
    case round =>
      obtain ⟨k, g, c, hk, rfl, rfl, HW⟩ := hrel
      have hk0 : (0 : Int) ≤ (k : Int) := by omega
      have hacc : (34 :: quoteD (l.take k)).length ≤ 50000 := by
        have h1 := quote_most (l.take k)
        have h2 := HNN.out
        rw [List.length_take] at h1
        rw [List.length_cons]
        omega
      by_cases hlt : k < n
      · have hkl : k < l.length := by rw [← HNN.out]; exact hlt
        have hkz : (k : Int) < (n : Int) := by omega
        have hst := quote_step l k hkl
        have hcell := (HW.out.text.cell hkl).1
        obtain ⟨acc, hac⟩ : ∃ acc, acc = 34 :: quoteD (l.take k) := ⟨_, rfl⟩
        rw [← hac] at HW hacc ⊢
        have HST : Hid (34 :: quoteD (l.take (k + 1)) = acc ++ (if l[k] = 34 ∨ l[k] = 92 then [92, l[k]] else [l[k]])) := by
          show _ = _
          rw [hac, hst]
          rfl
        clear hst hac
        generalize l[k] = x at *
        clear hkl
        have hkc : k < cp := by omega
        by_cases hx : x = 34 ∨ x = 92
        · rw [if_pos hx] at HST
          obtain ⟨g1, c1, w4, hr1, hW4⟩ := HW.out.text_ 92 (by omega)
          obtain ⟨g2, c2, w5, hr2, hW5⟩ := hW4.byte x (by rw [List.length_append, List.length_singleton]; omega)
          rw [List.length_append, List.length_singleton] at hr2
          have HW5 := Lib.hid hW5
          have HLN : Hid ((34 :: quoteD (l.take (k + 1))).length = acc.length + 1 + 1) := by
            show _ = _
            rw [HST.out]
            simp
          obtain ⟨m, hm⟩ : ∃ m, m = acc.length := ⟨_, rfl⟩
          rw [← hm] at hr1 hr2 HLN ⊢
          have HAP : Hid (acc ++ [92, x] = acc ++ [92] ++ [x]) := by show _ = _; simp
          clear hW4 hW5 HW hm hacc
          rcases hx with rfl | rfl
          · go_upto_region 9 with (fail)
            go_wp2_with (first | (at_builtin; refine wpList_q rfl _ _ _ _ rfl _ _ _ _ rfl rfl hr1 ?_) | (at_builtin; refine wpList_q rfl _ _ _ _ rfl _ _ _ _ rfl rfl hr2 ?_))
            go_roundw
            case rel => exact ⟨k + 1, g2, c2, by omega, by go_num, by rw [HLN.out], by rw [HST.out, HAP.out]; exact HW5.out⟩
            case measure => simp [intOf]; omega
          · go_upto_region 9 with (fail)
            go_wp2_with (first | (at_builtin; refine wpList_q rfl _ _ _ _ rfl _ _ _ _ rfl rfl hr1 ?_) | (at_builtin; refine wpList_q rfl _ _ _ _ rfl _ _ _ _ rfl rfl hr2 ?_))
            go_roundw
            case rel => exact ⟨k + 1, g2, c2, by omega, by go_num, by rw [HLN.out], by rw [HST.out, HAP.out]; exact HW5.out⟩
            case measure => simp [intOf]; omega
        · rw [if_neg hx] at HST
          obtain ⟨g2, c2, w5, hr2, hW5⟩ := HW.out.byte x (by omega)
          have HW5 := Lib.hid hW5
          have HLN : Hid ((34 :: quoteD (l.take (k + 1))).length = acc.length + 1) := by
            show _ = _
            rw [HST.out]
            simp
          obtain ⟨m, hm⟩ : ∃ m, m = acc.length := ⟨_, rfl⟩
          rw [← hm] at hr2 HLN ⊢
          have hx1 : ¬ (x.toNat : Int) = ((({ data := #[34] } : ByteArray)[0]'(by decide)).toNat : Int) := by
            intro h
            exact hx (.inl (UInt8.toNat_inj.1 (by show x.toNat = 34; have h : (x.toNat : Int) = 34 := h; omega)))
          have hx2 : ¬ (x.toNat : Int) = ((({ data := #[92] } : ByteArray)[0]'(by decide)).toNat : Int) := by
            intro h
            exact hx (.inr (UInt8.toNat_inj.1 (by show x.toNat = 92; have h : (x.toNat : Int) = 92 := h; omega)))
          have hy1 : ((x.toNat : Int) == ((({ data := #[34] } : ByteArray)[0]'(by decide)).toNat : Int)) = false := by (rw [beq_eq_false_iff_ne]; exact hx1)
          have hy2 : ((x.toNat : Int) == ((({ data := #[92] } : ByteArray)[0]'(by decide)).toNat : Int)) = false := by (rw [beq_eq_false_iff_ne]; exact hx2)
          clear hW5 HW hm hacc hx hx1 hx2
          generalize (x.toNat : Int) = z at *
          go_upto_region 10 with (fail)
          go_wp2_with (at_builtin; refine wpList_q rfl _ _ _ _ rfl _ _ _ _ rfl rfl hr2 ?_)
          go_roundw
          case rel => exact ⟨k + 1, g2, c2, by omega, by go_num, by rw [HLN.out], by rw [HST.out]; exact HW5.out⟩
          case measure => simp [intOf]; omega
      · have hke : k = n := by omega
        have hkz : ¬ (k : Int) < (n : Int) := by omega
        rw [hke, HNN.out, List.take_length] at HW hacc ⊢
        obtain ⟨g1, c1, w4, hr1, hW4⟩ := HW.out.text_ 34 (by omega)
        have hcv2 := conv_any w4 (some ⟨g1, 0, none⟩) (34 :: quoteD l ++ [34]) c1 hW4.own.bytes
        rw [List.length_append, List.length_singleton] at hcv2
        have HL4 := Lib.hid hW4.low
        generalize (34 :: quoteD l).length = m at *
        clear hW4 HW hacc hke
        go_wp2_with (at_builtin; refine wpList_q rfl _ _ _ _ rfl _ _ _ _ rfl rfl hr1 ?_)
        go_ret
        exact ⟨rfl, HL4.out⟩
end Go.Proofs.YtnkepdeegpampaaGreatDoor

/-
  The contracts of path.boxText, path.Right. Conditions: texts of at most 2^40 bytes; the library's variable holds some value.
-/
namespace Go.Proofs.YtnkepdeegpampaaGreatDoor
open Go.RowKit Go.Shelf

theorem add_bs (a b : List UInt8) (h : a.length + b.length ≤ 70368744177664) : ∀ W, (Op.stringOp .add (bs a) (bs b)).run Tryz.prog W = .ok (.string (bs (a ++ b))) W := fun W => by
  rw [run_string_add_sum W (bs a) (bs b) (by rw [bs_size, bs_size]; omega), bs_app]
theorem loc_most (l : List UInt8) : (locD l).length ≤ 2 * l.length + 2 := by
  unfold locD
  have := quote_most l
  split
  · omega
  · simp; omega
theorem boxD_most (loc d : List UInt8) (lit : Bool) : (boxD loc d lit).length ≤ 2 * loc.length + d.length + 5 := by
  unfold boxD domD
  have := loc_most loc
  rw [List.length_append, List.length_cons]
  split <;> simp <;> omega
set_option maxRecDepth 100000 in
set_option maxHeartbeats 1000000 in
theorem boxText_any (loc d : List UInt8) (lit : Bool) (hl : loc.length ≤ 1000) (hd : d.length ≤ 1099511627776) (w : World) (he : ErrAt w ∧ ErrG < w.heap.size) : Calls Tryz.prog 32 #[.agg (boxCells loc d lit)] w fun e w' => e = .returned (.string (bs (boxD loc d lit))) ∧ Below w.heap.size w w' := by
  obtain ⟨W1, hW1⟩ : ∃ W1, W1 = w.alloc (.cells (boxCells loc d lit) 24) := ⟨_, rfl⟩
  obtain ⟨g1, hg1⟩ : ∃ g1, g1 = w.heap.size := ⟨_, rfl⟩
  have hb1 : Below w.heap.size w W1 := by rw [hW1]; exact (Below.refl _ w).alloc (Nat.le_refl _) _
  have hk1 : Blk W1 g1 24 (boxCells loc d lit) := by rw [hW1, hg1]; exact Blk.new _ _ _
  have HLT := Lib.hid (local_any loc hl W1 (ErrAt.later he hb1))
  have HQ : Hid (∀ w', Below W1.heap.size W1 w' → Below w.heap.size w w') := fun w' h => low_trans hb1 h
  have hlo := loc_most loc
  have a3 := add_bs (locD loc) [64] (by simp; omega)
  have a1 := add_bs [91] d (by simp; omega)
  have a2 := add_bs ([91] ++ d) [93] (by simp; omega)
  have a4 := add_bs (locD loc ++ [64]) ([91] ++ d ++ [93]) (by simp; omega)
  have a5 := add_bs (locD loc ++ [64]) d (by simp; omega)
  have HT1 : Hid (locD loc ++ [64] ++ ([91] ++ d ++ [93]) = boxD loc d true) := by show _ = _; simp [boxD, domD]
  have HT2 : Hid (locD loc ++ [64] ++ d = boxD loc d false) := by show _ = _; simp [boxD, domD]
  obtain ⟨x0, x1, x2⟩ : W1.cell? ⟨g1, 0, none⟩ = some (.string (bs loc)) ∧ W1.cell? ⟨g1, 1, none⟩ = some (.string (bs d)) ∧ W1.cell? ⟨g1, 2, none⟩ = some (.bool lit) := ⟨hk1.cell 0, hk1.cell 1, hk1.cell 2⟩
  unfold boxCells at hW1 ⊢
  have HW1 := Lib.hid hW1
  have HG1 := Lib.hid hg1
  clear hW1 hg1 hb1 hk1 he hl hd hlo
  have e64 : (⟨#[64]⟩ : ByteArray) = bs [64] := rfl
  have e91 : (⟨#[91]⟩ : ByteArray) = bs [91] := rfl
  have e93 : (⟨#[93]⟩ : ByteArray) = bs [93] := rfl
  rw [← e64] at a3
  rw [← e91] at a1
  rw [← e93] at a2
  clear e64 e91 e93
  cases lit with
  | true =>
    rw [HT1.out] at a4
    clear a5
    generalize bs (boxD loc d true) = t1 at *
    generalize bs (locD loc ++ [64]) = t2 at *
    generalize bs ([91] ++ d ++ [93]) = t3 at *
    generalize bs ([91] ++ d) = t4 at *
    generalize bs d = t5 at *
    generalize bs (locD loc) = t6 at *
    generalize bs loc = t7 at *
    go_enter Tryz.func32, Tryz.ntmps32
    go_upto_region 1 with (fail)
    rw [← HW1.out, ← HG1.out]
    go_wp2_with (go_at_call 58; refine HLT.out.mono ?_; rintro e w2 ⟨rfl, hb⟩; have HB := Lib.hid hb; clear hb)
    go_ret
    exact ⟨rfl, HQ.out _ HB.out⟩
  | false =>
    rw [HT2.out] at a5
    clear a4 a1 a2
    generalize bs (boxD loc d false) = t1 at *
    generalize bs (locD loc ++ [64]) = t2 at *
    generalize bs d = t5 at *
    generalize bs (locD loc) = t6 at *
    generalize bs loc = t7 at *
    go_enter Tryz.func32, Tryz.ntmps32
    go_upto_region 1 with (fail)
    rw [← HW1.out, ← HG1.out]
    go_wp2_with (go_at_call 58; refine HLT.out.mono ?_; rintro e w2 ⟨rfl, hb⟩; have HB := Lib.hid hb; clear hb)
    go_ret
    exact ⟨rfl, HQ.out _ HB.out⟩
/-- what is known of a path that is handed about: its texts are no longer than n -/
structure PaFits (p : Pa) (n : Nat) : Prop where
  loc : p.loc.length ≤ n
  dom : p.dom.length ≤ n
  hops : ∀ d ∈ p.route, d.length ≤ n
set_option maxRecDepth 100000 in
set_option maxHeartbeats 2000000 in
theorem right_any (p : Pa) (a : Option Addr) (c : Nat) (w : World) (ht : TextsAt w a p.route) (hp : PaFits p 1099511627776) (he : ErrAt w ∧ ErrG < w.heap.size) : Calls Tryz.prog 29 #[paV p a c] w (SameOut w (rightD p)) := by
  obtain ⟨W1, hW1⟩ : ∃ W1, W1 = w.alloc (.cells (paCells p (.slice a p.route.length c)) 26) := ⟨_, rfl⟩
  obtain ⟨g1, hg1⟩ : ∃ g1, g1 = w.heap.size := ⟨_, rfl⟩
  have hb1 : Below w.heap.size w W1 := by rw [hW1]; exact (Below.refl _ w).alloc (Nat.le_refl _) _
  have hk1 : Blk W1 g1 26 (paCells p (.slice a p.route.length c)) := by rw [hW1, hg1]; exact Blk.new _ _ _
  have ht1 : TextsAt W1 a p.route := RowAt.below ht hb1
  have HE := Lib.hid (fun W (hW : Below w.heap.size w W) => ErrAt.later he hW)
  have HL1 := Lib.hid hb1
  have HK1 := Lib.hid hk1
  have HT1 := Lib.hid ht1
  have HQ : Hid (∀ b w', b = rightD p → Below w.heap.size w w' → SameOut w (rightD p) (.returned (.bool b)) w') := fun b w' hb h => by subst hb; exact ⟨rfl, h⟩
  generalize SameOut w (rightD p) = Q at *
  have hd0 := toL_eq p.dom []
  have hl0 := toL_eq p.loc []
  have HIA := Lib.hid (fun W => isAlone_any p.loc p.dom p.lit W)
  have HRB := Lib.hid (fun W (hW : Below w.heap.size w W) => rightBox_any p.loc p.dom p.lit (by have := hp.loc; omega) (by have := hp.dom; omega) W (ErrAt.later he hW))
  have HTD := Lib.hid (fun d (hd : d ∈ p.route) W (hW : Below w.heap.size w W) => isTold_any domain_is ent_domain d (by have := hp.hops d hd; omega) (Nat.le_refl _) W (ErrAt.later he hW))
  have hmx := ht.len
  have HAL : Hid (aloneB p = (decide (p.loc = postP) && decide (p.dom = []) && !p.lit)) := rfl
  rw [← HAL.out] at HIA
  unfold boxCells at HIA HRB
  unfold rightD at HQ
  unfold paV
  unfold paCells at hW1 hk1 HK1 ⊢
  have HW1 := Lib.hid hW1
  have HG1 := Lib.hid hg1
  have c0 := hk1.cell 0
  have c1 := hk1.cell 1
  have c2 := hk1.cell 2
  have c3 := hk1.cell 3
  have c4 := hk1.cell 4
  simp at c0 c1 c2 c3 c4
  clear hW1 hg1 hb1 hk1 ht1 ht he hp
  obtain ⟨n, hn⟩ : ∃ n, n = p.route.length := ⟨_, rfl⟩
  rw [← hn] at HQ hmx c1 HW1 HK1 ⊢
  have HN := Lib.hid hn
  clear hn
  cases hnul : p.null with
  | true =>
    rw [if_pos hnul] at HQ
    rw [hnul] at c0
    have HW1' := HW1.out
    rw [hnul] at HW1'
    have HW1 := Lib.hid HW1'
    clear HW1' HIA HRB HTD HT1 HK1 hmx
    go_enter Tryz.func29, Tryz.ntmps29
    go_upto_region 1 with (fail)
    rw [← HW1.out, ← HG1.out]
    go_wp2
    all_goals refine HQ.out _ _ ?_ HL1.out
    all_goals simp only [bs_toL] at *
    all_goals simp_all
  | false =>
    rw [if_neg (by rw [hnul]; decide)] at HQ
    rw [hnul] at c0
    have HW1' := HW1.out
    rw [hnul] at HW1'
    have HW1 := Lib.hid HW1'
    clear HW1' hd0 hl0
    cases hal : aloneB p with
    | true =>
      rw [if_pos hal] at HQ
      rw [hal] at HIA
      have hz : ((n : Int) == 0) = decide (n = 0) := by cases n with
        | zero => rfl
        | succ m => rw [decide_eq_false (by omega), beq_eq_false_iff_ne]; omega
      clear hal HRB HTD HT1
      go_enter Tryz.func29, Tryz.ntmps29
      go_upto_region 1 with (fail)
      rw [← HW1.out, ← HG1.out]
      have HK2 : Hid (∀ w2, Below W1.heap.size W1 w2 → w2.cell? ⟨g1, 1, none⟩ = some (.slice a n c)) := fun w2 h2 => by rw [(HK1.out.below h2 HK1.out.lt).cell 1]; rfl
      go_wp2_with (go_at_call 30; refine (HIA.out W1).mono ?_; rintro e w2 ⟨rfl, hb⟩; have HL2 := Lib.hid (low_trans HL1.out hb); have y1 := HK2.out w2 hb; clear hb c0 c1 c2 c3 c4)
      refine HQ.out _ _ ?_ HL2.out
      first | exact hz | rfl | simp
    | false =>
      rw [if_neg (by rw [hal]; decide)] at HQ
      rw [hal] at HIA
      clear hal
      have HK2 : Hid (∀ w2, Below W1.heap.size W1 w2 → w2.cell? ⟨g1, 1, none⟩ = some (.slice a n c) ∧ w2.cell? ⟨g1, 2, none⟩ = some (.string (bs p.loc)) ∧ w2.cell? ⟨g1, 3, none⟩ = some (.string (bs p.dom)) ∧ w2.cell? ⟨g1, 4, none⟩ = some (.bool p.lit)) := fun w2 h2 => by
        have h := HK1.out.below h2 HK1.out.lt
        exact ⟨h.cell 1, h.cell 2, h.cell 3, h.cell 4⟩
      by_cases hlen : n ≤ 20
      · have hlz : ¬ (20 : Int) < (n : Int) := by omega
        have hld : decide ((20 : Int) < (n : Int)) = false := decide_eq_false hlz
        have hn20 : (n : Int) ≤ 20 := by omega
        rw [decide_eq_true hlen, Bool.true_and] at HQ
        go_enter Tryz.func29, Tryz.ntmps29
        go_upto_region 1 with (fail)
        rw [← HW1.out, ← HG1.out]
        go_wp2_with (go_at_call 30; refine (HIA.out W1).mono ?_; rintro e w2 ⟨rfl, hb⟩; have HB2 := Lib.hid hb; obtain ⟨y1, y2, y3, y4⟩ := HK2.out w2 hb; clear hb c0 c1 c2 c3 c4 HIA)
        go_loopw [34] (fun i wr => ∃ k : Nat, k ≤ n ∧ i = .int .i64 k ∧ Hid ((p.route.take k).all (toldB fineB) = true) ∧ Hid (Below W1.heap.size W1 wr)) (fun i _ => n - (intOf i).toNat)
        case atStart => exact ⟨0, Nat.zero_le _, rfl, rfl, HB2.out⟩
        case round =>
          obtain ⟨k, hk, rfl, HA, HB⟩ := hrel
          have hk0 : (0 : Int) ≤ (k : Int) := by omega
          clear y1 y2 y3 y4
          by_cases hlt : k < n
          · have hkl : k < p.route.length := by rw [← HN.out]; exact hlt
            have hkz : (k : Int) < (n : Int) := by omega
            obtain ⟨b, o, rfl, hcell⟩ := TextsAt.at_ (RowAt.below HT1.out HB.out) hkl
            have HTK := Lib.hid (HTD.out p.route[k] (List.getElem_mem hkl) wr (low_trans HL1.out HB.out))
            have HNX : Hid (toldB fineB p.route[k] = true → (p.route.take (k + 1)).all (toldB fineB) = true) := fun h => by
              rw [List.take_succ_eq_append_getElem hkl, List.all_append, HA.out]
              simp [h]
            have HNO : Hid (toldB fineB p.route[k] = false → (p.route.all (toldB fineB) && rightBoxD p.loc p.dom p.lit) = false) := fun h => by
              rw [show p.route.all (toldB fineB) = false from by
                rw [List.all_eq_false]
                exact ⟨_, List.getElem_mem hkl, by rw [h]; decide⟩]
              rfl
            generalize p.route[k] = u at *
            clear hkl HTD
            cases hu : toldB fineB u with
            | true =>
              have HNX2 := Lib.hid (HNX.out hu)
              rw [hu] at HTK
              clear hu HNX HNO
              generalize bs u = su at *
              go_wp2_with (go_at_call 56; refine HTK.out.mono ?_; rintro e w3 ⟨rfl, hb⟩; have HB3 := Lib.hid (low_trans HB.out hb); clear hb HTK)
              go_roundw
              case rel => exact ⟨k + 1, by omega, by go_num, HNX2.out, HB3.out⟩
              case measure => simp [intOf]; omega
            | false =>
              have HNO2 := Lib.hid (HNO.out hu)
              rw [hu] at HTK
              clear hu HNX HNO
              generalize bs u = su at *
              go_wp2_with (go_at_call 56; refine HTK.out.mono ?_; rintro e w3 ⟨rfl, hb⟩; have HB3 := Lib.hid (low_trans HB.out hb); clear hb HTK)
              exact HQ.out _ _ HNO2.out.symm (low_trans HL1.out HB3.out)
          · have hke : k = n := by omega
            have hkz : ¬ (k : Int) < (n : Int) := by omega
            have hall := HA.out
            rw [hke, HN.out, List.take_length] at hall
            rw [hall, Bool.true_and] at HQ
            obtain ⟨y1, y2, y3, y4⟩ := HK2.out wr HB.out
            have HRW := Lib.hid (HRB.out wr (low_trans HL1.out HB.out))
            clear hall hke HA HTD HRB
            go_wp2_with (go_at_call 57; refine HRW.out.mono ?_; rintro e w3 ⟨rfl, hb⟩; have HB3 := Lib.hid (low_trans HB.out hb); clear hb HRW)
            exact HQ.out _ _ rfl (low_trans HL1.out HB3.out)
      · have hlz : (20 : Int) < (n : Int) := by omega
        have hld : decide ((20 : Int) < (n : Int)) = true := decide_eq_true hlz
        rw [decide_eq_false hlen] at HQ
        clear HTD HRB HT1
        go_enter Tryz.func29, Tryz.ntmps29
        go_upto_region 1 with (fail)
        rw [← HW1.out, ← HG1.out]
        go_wp2_with (go_at_call 30; refine (HIA.out W1).mono ?_; rintro e w2 ⟨rfl, hb⟩; have HL2 := Lib.hid (low_trans HL1.out hb); obtain ⟨y1, y2, y3, y4⟩ := HK2.out w2 hb; clear hb c0 c1 c2 c3 c4 HIA)
        exact HQ.out _ _ (by rfl) HL2.out
end Go.Proofs.YtnkepdeegpampaaGreatDoor

/-
  What is printed of a mailbox, of a path. Conditions: texts of at most 2^40 bytes; the library's variable holds some value.
-/
namespace Go.Proofs.YtnkepdeegpampaaGreatDoor
open Go.RowKit Go.Shelf

/-- what is printed of a mailbox, of a path; and what is told beside it -/
def printBoxP (loc d : List UInt8) (lit : Bool) : List UInt8 × Int := if rightBoxD loc d lit = true then (boxD loc d lit, 0) else ([], 150)
def printP (p : Pa) : List UInt8 × Int := if rightD p = true then (printD p, 0) else ([], 150)
theorem rightBox_loc {loc d : List UInt8} {lit : Bool} (h : rightBoxD loc d lit = true) : loc.length ≤ 64 := by
  unfold rightBoxD at h
  simp only [Bool.and_eq_true, decide_eq_true_eq] at h
  exact h.1.1
/-- a text and a number are answered -/
def PrOut (w : World) (t : List UInt8 × Int) (e : Ending) (w' : World) : Prop := e = .returned (.tuple #[.string (bs t.1), .int .i64 t.2]) ∧ Below w.heap.size w w'
theorem join_hops (d : List UInt8) (L : List (List UInt8)) : Lib.join (d :: L) [44, 64] = d ++ hopsT L := by
  unfold Lib.join hopsT
  induction L generalizing d with
  | nil => simp [List.intercalate]
  | cons e L ih =>
    have h := ih e
    simp only [List.intercalate, List.intersperse, List.flatten_cons, List.flatMap_cons] at h ⊢
    rw [h]
    simp
theorem hops_most (L : List (List UInt8)) (m : Nat) (h : ∀ d ∈ L, d.length ≤ m) : (hopsT L).length ≤ L.length * (m + 2) := by
  unfold hopsT
  induction L with
  | nil => simp
  | cons d L ih =>
    have h1 := h d (by simp)
    have h2 := ih (fun e he => h e (by simp [he]))
    simp only [List.flatMap_cons, List.length_append, List.length_cons] at h2 ⊢
    rw [Nat.add_mul]
    omega
theorem join_any (d : List UInt8) (L : List (List UInt8)) (h20 : (d :: L).length ≤ 20) (hm : ∀ e ∈ d :: L, e.length ≤ 1099511627776) (a : Option Addr) (c : Nat) (hc : (d :: L).length ≤ c) (w : World) (h : TextsAt w a (d :: L)) : Calls Tryz.prog 31 #[.slice a (d :: L).length c, .string (bs [44, 64])] w fun e w' => e = .returned (.string (bs (d ++ hopsT L))) ∧ Below w.heap.size w w' := by
  obtain ⟨b, o, rfl, hcell⟩ := TextsAt.at_ h (k := 0) (by simp)
  have hlt := World.block_lt_of_cell? _ _ hcell
  have hall : ∀ (j : Nat) x, ((d :: L).map bs)[j]? = some x → w.cell? ⟨b, o + j, none⟩ = some (.string x) := fun j x hj => by
    rw [List.getElem?_map] at hj
    obtain ⟨y, hy, rfl⟩ := Option.map_eq_some_iff.1 hj
    obtain ⟨hj2, rfl⟩ := List.getElem?_eq_some_iff.1 hy
    obtain ⟨b', o', e, hc'⟩ := TextsAt.at_ h hj2
    injection e with e
    injection e with e1 e2
    subst e1
    subst e2
    exact hc'
  have hj : ((d :: L).map bs).map (·.data.toList) = d :: L := by
    rw [List.map_map]
    exact List.map_id' _
  have hmost := hops_most L 1099511627776 (fun e he => hm e (by simp [he]))
  have hd := hm d (by simp)
  have hL : L.length ≤ 19 := by simp at h20; omega
  have hmul : L.length * (1099511627776 + 2) ≤ 19 * (1099511627776 + 2) := Nat.mul_le_mul_right _ hL
  have hjn : Lib.join (((d :: L).map bs).map (·.data.toList)) ((bs [44, 64]).data.toList) = d ++ hopsT L := by
    rw [hj]
    exact join_hops d L
  have := Tryz.strings_Join b o c ((d :: L).map bs) (bs [44, 64]) w hall hlt (by rw [List.length_map]; omega) (by rw [List.length_map]; exact hc) (by rw [hjn, List.length_append]; omega)
  rw [hjn, List.length_map] at this
  exact this
end Go.Proofs.YtnkepdeegpampaaGreatDoor

/-
  The contract of path.Print. Conditions: texts of at most 2^40 bytes; the route lies in memory; the library's variable holds some value.
-/
namespace Go.Proofs.YtnkepdeegpampaaGreatDoor
open Go.RowKit Go.Shelf

theorem right_short {p : Pa} (h : rightD p = true) (hn : p.null = false) (ha : aloneB p = false) : p.route.length ≤ 20 ∧ rightBoxD p.loc p.dom p.lit = true := by
  unfold rightD at h
  rw [if_neg (by rw [hn]; decide), if_neg (by rw [ha]; decide)] at h
  simp only [Bool.and_eq_true, decide_eq_true_eq] at h
  exact ⟨h.1.1, h.2⟩
set_option maxRecDepth 100000 in
set_option maxHeartbeats 2000000 in
theorem print_any (p : Pa) (a : Option Addr) (c : Nat) (w : World) (hc : p.route.length ≤ c) (ht : TextsAt w a p.route) (hp : PaFits p 1099511627776) (he : ErrAt w ∧ ErrG < w.heap.size) : Calls Tryz.prog 16 #[paV p a c] w (PrOut w (printP p)) := by
  obtain ⟨W1, hW1⟩ : ∃ W1, W1 = w.alloc (.cells (paCells p (.slice a p.route.length c)) 26) := ⟨_, rfl⟩
  obtain ⟨g1, hg1⟩ : ∃ g1, g1 = w.heap.size := ⟨_, rfl⟩
  have hb1 : Below w.heap.size w W1 := by rw [hW1]; exact (Below.refl _ w).alloc (Nat.le_refl _) _
  have hk1 : Blk W1 g1 26 (paCells p (.slice a p.route.length c)) := by rw [hW1, hg1]; exact Blk.new _ _ _
  have ht1 : TextsAt W1 a p.route := RowAt.below ht hb1
  have HR := Lib.hid (right_any p a c W1 ht1 hp (ErrAt.later he hb1))
  have HL1 := Lib.hid hb1
  have HT1 := Lib.hid ht1
  have HQ : Hid (∀ w', Below w.heap.size w w' → PrOut w (printP p) (.returned (.tuple #[.string (bs (printP p).1), .int .i64 (printP p).2])) w') := fun w' h => ⟨rfl, h⟩
  generalize PrOut w (printP p) = Q at *
  have HIA := Lib.hid (fun W => isAlone_any p.loc p.dom p.lit W)
  have HAL : Hid (aloneB p = (decide (p.loc = postP) && decide (p.dom = []) && !p.lit)) := rfl
  rw [← HAL.out] at HIA
  have HBT := Lib.hid (fun (h : rightBoxD p.loc p.dom p.lit = true) W (hW : Below w.heap.size w W) => boxText_any p.loc p.dom p.lit (by have := rightBox_loc h; omega) hp.dom W (ErrAt.later he hW))
  unfold boxCells at HIA HBT
  have HK2 : Hid (∀ w2, Below W1.heap.size W1 w2 → w2.cell? ⟨g1, 0, none⟩ = some (.bool p.null) ∧ w2.cell? ⟨g1, 1, none⟩ = some (.slice a p.route.length c) ∧ w2.cell? ⟨g1, 2, none⟩ = some (.string (bs p.loc)) ∧ w2.cell? ⟨g1, 3, none⟩ = some (.string (bs p.dom)) ∧ w2.cell? ⟨g1, 4, none⟩ = some (.bool p.lit)) := fun w2 h2 => by
    have h := hk1.below h2 hk1.lt
    exact ⟨h.cell 0, h.cell 1, h.cell 2, h.cell 3, h.cell 4⟩
  obtain ⟨x0, x1, x2, x3, x4⟩ := HK2.out W1 (Below.refl _ _)
  unfold paV paCells at HR
  unfold paCells at hW1
  unfold paV paCells
  unfold printP at HQ
  have HW1 := Lib.hid hW1
  have HG1 := Lib.hid hg1
  clear hW1 hg1 hb1 hk1 ht1 ht
  cases hr : rightD p with
  | false =>
    rw [hr] at HR
    rw [if_neg (by rw [hr]; decide)] at HQ
    clear hr he hp hc HT1 HIA HBT
    go_enter Tryz.func16, Tryz.ntmps16
    go_upto_region 1 with (fail)
    rw [← HW1.out, ← HG1.out]
    go_wp2_with (go_at_call 29; refine HR.out.mono ?_; rintro e w2 ⟨rfl, hb⟩; have HL2 := Lib.hid (low_trans HL1.out hb); clear hb HR)
    exact HQ.out _ HL2.out
  | true =>
    rw [hr] at HR
    rw [if_pos hr] at HQ
    unfold printD at HQ
    cases hn : p.null with
    | true =>
      rw [if_pos hn] at HQ
      rw [hn] at HR HK2 x0
      have HW1' := HW1.out
      rw [hn] at HW1'
      have HW1 := Lib.hid HW1'
      clear HW1' hr he hp hc HT1 HIA HBT
      go_enter Tryz.func16, Tryz.ntmps16
      go_upto_region 1 with (fail)
      rw [← HW1.out, ← HG1.out]
      go_wp2_with (go_at_call 29; refine HR.out.mono ?_; rintro e w2 ⟨rfl, hb⟩; have HL2 := Lib.hid (low_trans HL1.out hb); obtain ⟨y0, y1, y2, y3, y4⟩ := HK2.out w2 hb; clear hb HR x0 x1 x2 x3 x4)
      exact HQ.out _ HL2.out
    | false =>
      rw [if_neg (by rw [hn]; decide)] at HQ
      have hsh := right_short hr hn
      rw [hn] at HR HK2 x0
      have HW1' := HW1.out
      rw [hn] at HW1'
      have HW1 := Lib.hid HW1'
      clear HW1' hr
      cases hal : aloneB p with
      | true =>
        rw [if_pos hal] at HQ
        rw [hal] at HIA
        clear hal hsh he hp hc HT1 HBT
        go_enter Tryz.func16, Tryz.ntmps16
        go_upto_region 1 with (fail)
        rw [← HW1.out, ← HG1.out]
        go_wp2_with (first | (go_at_call 29; refine HR.out.mono ?_; rintro e w2 ⟨rfl, hb⟩; have HL2 := Lib.hid (low_trans HL1.out hb); obtain ⟨y0, y1, y2, y3, y4⟩ := HK2.out w2 hb; clear hb HR x0 x1 x2 x3 x4) | (go_at_call 30; refine (HIA.out _).mono ?_; rintro e w3 ⟨rfl, hb⟩; have HL3 := Lib.hid (low_trans HL2.out hb); clear hb HIA))
        exact HQ.out _ HL3.out
      | false =>
        rw [if_neg (by rw [hal]; decide)] at HQ
        rw [hal] at HIA
        obtain ⟨h20, hrb⟩ := hsh hal
        have HB := Lib.hid (HBT.out hrb)
        have hll := rightBox_loc hrb
        have hbm := boxD_most p.loc p.dom p.lit
        have hdm := hp.dom
        clear hal hsh HBT hrb hn
        cases hro : p.route with
        | nil =>
          rw [hro] at HQ
          have a1 := add_bs [60] [] (by simp)
          have a2 := add_bs ([60] ++ []) (boxD p.loc p.dom p.lit) (by simp; omega)
          have a3 := add_bs ([60] ++ [] ++ boxD p.loc p.dom p.lit) [62] (by simp; omega)
          have e3 : [60] ++ [] ++ boxD p.loc p.dom p.lit ++ [62] = 60 :: (routeD [] ++ (boxD p.loc p.dom p.lit ++ [62])) := by simp [routeD]
          rw [e3] at a3
          have e60 : (⟨#[60]⟩ : ByteArray) = bs [60] := rfl
          have e0 : (⟨#[]⟩ : ByteArray) = bs [] := rfl
          have e62 : (⟨#[62]⟩ : ByteArray) = bs [62] := rfl
          rw [← e60, ← e0] at a1
          rw [← e62] at a3
          rw [hro] at HR HK2 x1
          have HW1' := HW1.out
          rw [hro] at HW1'
          simp only [List.length_nil] at HW1' HR HK2 x1 ⊢
          have HW1 := Lib.hid HW1'
          clear HW1' e3 e60 e0 e62 hro he hp hc HT1 hll hbm hdm h20
          generalize bs (60 :: (routeD [] ++ (boxD p.loc p.dom p.lit ++ [62]))) = t1 at *
          generalize bs ([60] ++ [] ++ boxD p.loc p.dom p.lit) = t2 at *
          generalize bs ([60] ++ []) = t3 at *
          generalize bs (boxD p.loc p.dom p.lit) = t4 at *
          generalize bs p.loc = t5 at *
          generalize bs p.dom = t6 at *
          go_enter Tryz.func16, Tryz.ntmps16
          go_upto_region 1 with (fail)
          rw [← HW1.out, ← HG1.out]
          go_wp2_with (first | (go_at_call 29; refine HR.out.mono ?_; rintro e w2 ⟨rfl, hb⟩; have HL2 := Lib.hid (low_trans HL1.out hb); have HB2 := Lib.hid hb; obtain ⟨y0, y1, y2, y3, y4⟩ := HK2.out w2 hb; clear hb HR x0 x1 x2 x3 x4) | (go_at_call 30; refine (HIA.out _).mono ?_; rintro e w3 ⟨rfl, hb⟩; have HL3 := Lib.hid (low_trans HL2.out hb); obtain ⟨z0, z1, z2, z3, z4⟩ := HK2.out w3 (low_trans HB2.out hb); clear hb HIA y0 y1 y2 y3 y4) | (go_at_call 32; refine (HB.out _ HL3.out).mono ?_; rintro e w4 ⟨rfl, hb⟩; have HL4 := Lib.hid (low_trans HL3.out hb); clear hb HB))
          exact HQ.out _ HL4.out
        | cons d L =>
          have hops := hp.hops
          rw [hro] at HQ h20 hc HT1 hops
          have HJ := Lib.hid (fun W (hW : Below W1.heap.size W1 W) => join_any d L h20 hops a c hc W (RowAt.below HT1.out hW))
          have hmost := hops_most L 1099511627776 (fun e he => hops e (by simp [he]))
          have hdd := hops d (by simp)
          have hL19 : L.length ≤ 19 := by simp at h20; omega
          have hmul : L.length * (1099511627776 + 2) ≤ 19 * (1099511627776 + 2) := Nat.mul_le_mul_right _ hL19
          obtain ⟨J, hJ⟩ : ∃ J, J = d ++ hopsT L := ⟨_, rfl⟩
          have hJl : J.length ≤ 32985348833280 := by rw [hJ, List.length_append]; omega
          rw [← hJ] at HJ
          have a1 := add_bs [64] J (by simp; omega)
          have a2 := add_bs ([64] ++ J) [58] (by simp; omega)
          have a3 := add_bs [60] ([64] ++ J ++ [58]) (by simp; omega)
          have a4 := add_bs ([60] ++ ([64] ++ J ++ [58])) (boxD p.loc p.dom p.lit) (by simp; omega)
          have a5 := add_bs ([60] ++ ([64] ++ J ++ [58]) ++ boxD p.loc p.dom p.lit) [62] (by simp; omega)
          have e5 : [60] ++ ([64] ++ J ++ [58]) ++ boxD p.loc p.dom p.lit ++ [62] = 60 :: (routeD (d :: L) ++ (boxD p.loc p.dom p.lit ++ [62])) := by rw [hJ]; simp [routeD]
          rw [e5] at a5
          have e60 : (⟨#[60]⟩ : ByteArray) = bs [60] := rfl
          have e64 : (⟨#[64]⟩ : ByteArray) = bs [64] := rfl
          have e58 : (⟨#[58]⟩ : ByteArray) = bs [58] := rfl
          have e62 : (⟨#[62]⟩ : ByteArray) = bs [62] := rfl
          have e44 : (⟨#[44, 64]⟩ : ByteArray) = bs [44, 64] := rfl
          rw [← e64] at a1
          rw [← e58] at a2
          rw [← e60] at a3
          rw [← e62] at a5
          rw [← e44] at HJ
          rw [hro] at HR HK2 x1
          have HW1' := HW1.out
          rw [hro] at HW1'
          have HW1 := Lib.hid HW1'
          have hpos : (0 : Int) < (((d :: L).length : Nat) : Int) := by rw [List.length_cons]; omega
          have hpd : decide ((0 : Int) < (((d :: L).length : Nat) : Int)) = true := decide_eq_true hpos
          have hlm : (((d :: L).length : Nat) : Int) ≤ 20 := by omega
          clear HW1' e5 e60 e64 e58 e62 e44 hro he hp hc HT1 hll hbm hdm hJ hJl hmost hmul hdd hops hL19 h20
          generalize bs (60 :: (routeD (d :: L) ++ (boxD p.loc p.dom p.lit ++ [62]))) = t1 at *
          generalize bs ([60] ++ ([64] ++ J ++ [58]) ++ boxD p.loc p.dom p.lit) = t2 at *
          generalize bs ([60] ++ ([64] ++ J ++ [58])) = t3 at *
          generalize bs ([64] ++ J ++ [58]) = t7 at *
          generalize bs ([64] ++ J) = t8 at *
          generalize bs J = t9 at *
          generalize bs (boxD p.loc p.dom p.lit) = t4 at *
          generalize bs p.loc = t5 at *
          generalize bs p.dom = t6 at *
          generalize (d :: L).length = n at *
          go_enter Tryz.func16, Tryz.ntmps16
          go_upto_region 1 with (fail)
          rw [← HW1.out, ← HG1.out]
          go_wp2_with (first | (go_at_call 29; refine HR.out.mono ?_; rintro e w2 ⟨rfl, hb⟩; have HB2 := Lib.hid hb; obtain ⟨y0, y1, y2, y3, y4⟩ := HK2.out w2 hb; clear hb HR x0 x1 x2 x3 x4) | (go_at_call 30; refine (HIA.out _).mono ?_; rintro e w3 ⟨rfl, hb⟩; have HB3 := Lib.hid (low_trans HB2.out hb); obtain ⟨z0, z1, z2, z3, z4⟩ := HK2.out w3 HB3.out; clear hb HIA y0 y1 y2 y3 y4) | (go_at_call 31; refine (HJ.out _ HB3.out).mono ?_; rintro e w5 ⟨rfl, hb⟩; have HB5 := Lib.hid (low_trans HB3.out hb); obtain ⟨u0, u1, u2, u3, u4⟩ := HK2.out w5 HB5.out; clear hb HJ z0 z1 z2 z3 z4) | (go_at_call 32; refine (HB.out _ (low_trans HL1.out HB5.out)).mono ?_; rintro e w4 ⟨rfl, hb⟩; have HL4 := Lib.hid (low_trans (low_trans HL1.out HB5.out) hb); clear hb HB))
          exact HQ.out _ HL4.out
end Go.Proofs.YtnkepdeegpampaaGreatDoor

/-
  How long what is right may be; how a path's text begins and ends. No conditions.
-/
namespace Go.Proofs.YtnkepdeegpampaaGreatDoor
open Go.RowKit Go.Shelf

theorem run_most (p : UInt8 → Bool) (st : Rs) : st.rest.length = (runR p st).rest.length + (runL p st).length := by
  unfold runR runL
  have := congrArg List.length (List.takeWhile_append_dropWhile (p := p) (l := st.rest))
  rw [List.length_append] at this
  simp only
  omega
theorem take_most (w : List UInt8) (st : Rs) : st.rest.length ≤ (takeR w st).2.rest.length + w.length := by
  unfold takeR
  split
  · simp only [List.length_drop]; omega
  · simp
theorem each_most {part : Rd} {m : Nat} (hm : ∀ st, (part st).1 = true → st.rest.length ≤ (part st).2.rest.length + m) (sep : List UInt8) : ∀ (f many : Nat) (st : Rs), st.rest.length + many * (m + sep.length) ≤ (eachF part sep f many st).2.rest.length + (eachF part sep f many st).1 * (m + sep.length) := by
  intro f
  induction f with
  | zero => intro many st; exact Nat.le_refl _
  | succ f ih =>
    intro many st
    rw [eachF]
    split
    · exact Nat.le_refl _
    · split
      · exact Nat.le_refl _
      · rename_i h1 h2
        have h3 := ih (many + 1) (part (sepR sep many st).2).2
        have h4 := hm (sepR sep many st).2 (by simpa using h2)
        have h5 : st.rest.length ≤ (sepR sep many st).2.rest.length + sep.length := by
          unfold sepR
          split
          · simp
          · exact take_most sep st
        rw [Nat.add_mul] at h3
        omega
theorem num_most (st : Rs) (h : (numberR st).1 = true) : st.rest.length ≤ (numberR st).2.rest.length + 3 := by
  have h1 := run_most digB st
  unfold numberR numOk at *
  simp only [Bool.and_eq_true, decide_eq_true_eq] at h
  have := h.1.2
  simp only
  omega
theorem group_most (st : Rs) (h : (groupR st).1 = true) : st.rest.length ≤ (groupR st).2.rest.length + 4 := by
  have h1 := run_most hexB st
  unfold groupR at *
  simp only [Bool.and_eq_true, decide_eq_true_eq] at h
  have := h.2
  simp only
  omega
theorem address_most (st : Rs) (h : (addressR st).1 = true) : st.rest.length ≤ (addressR st).2.rest.length + 42 := by
  have e1 := each_most group_most [58] (st.rest.length + 2) 0 st
  change _ ≤ (eachR groupR [58] st).2.rest.length + (eachR groupR [58] st).1 * 5 at e1
  have t1 := take_most [58, 58] (eachR groupR [58] st).2
  have e2 := each_most group_most [58] ((takeR [58, 58] (eachR groupR [58] st).2).2.rest.length + 2) 0 (takeR [58, 58] (eachR groupR [58] st).2).2
  change _ ≤ (eachR groupR [58] (takeR [58, 58] (eachR groupR [58] st).2).2).2.rest.length + (eachR groupR [58] (takeR [58, 58] (eachR groupR [58] st).2).2).1 * 5 at e2
  unfold addressR at *
  split at h
  · rename_i hc
    rw [if_pos hc]
    simp only [decide_eq_true_eq] at h ⊢
    rw [h] at e1
    simp at t1 e1 ⊢
    omega
  · rename_i hc
    rw [if_neg hc]
    simp only [decide_eq_true_eq] at h ⊢
    simp at t1 e1 e2 ⊢
    omega
theorem words_most {l : List UInt8} (h : wB l = true) : l.length ≤ 255 := by
  obtain ⟨h1, h2⟩ := allB_iff.1 h
  have t1 := take_most ipv6P (st0 l)
  have hi : ipv6P.length ≤ 5 := by decide
  have e1 : (st0 l).rest = l := rfl
  rw [e1] at t1
  unfold wordsR at h1 h2
  split at h1
  · rename_i hc
    rw [if_pos hc] at h2
    have := address_most _ h1
    rw [h2] at this
    simp at this
    omega
  · rename_i hc
    rw [if_neg hc] at h2
    have e1 := each_most num_most [46] ((takeR ipv6P (st0 l)).2.rest.length + 2) 0 (takeR ipv6P (st0 l)).2
    change _ ≤ (eachR numberR [46] (takeR ipv6P (st0 l)).2).2.rest.length + (eachR numberR [46] (takeR ipv6P (st0 l)).2).1 * 4 at e1
    unfold numbersR at h1 h2
    simp only [decide_eq_true_eq] at h1
    rw [h1, h2] at e1
    simp at e1
    omega
theorem fine_most {l : List UInt8} (h : fineB l = true) : l.length ≤ 255 := by
  unfold fineB at h
  simp only [Bool.and_eq_true, Bool.not_eq_true'] at h
  obtain ⟨h1, h2⟩ := h
  obtain ⟨_, h3⟩ := allB_iff.1 h1
  unfold dL domainR at h2
  unfold domainR at h3
  simp only [Bool.or_eq_false_iff, decide_eq_false_iff_not] at h2
  simp only at h3
  have h4 := h2.2
  unfold used at h4
  rw [h3] at h4
  have e1 : (st0 l).rest = l := rfl
  rw [e1] at h4
  simp at h4
  exact h4
theorem box_lens {loc d : List UInt8} {lit : Bool} (h : rightBoxD loc d lit = true) : loc.length ≤ 64 ∧ d.length ≤ 255 := by
  refine ⟨rightBox_loc h, ?_⟩
  unfold rightBoxD at h
  simp only [Bool.and_eq_true] at h
  have h2 := h.2
  cases lit with
  | true =>
    rw [if_pos rfl] at h2
    unfold toldB at h2
    simp only [Bool.and_eq_true] at h2
    exact words_most h2.1
  | false =>
    rw [if_neg (by decide)] at h2
    unfold toldB at h2
    simp only [Bool.and_eq_true] at h2
    exact fine_most h2.1
theorem right_lens {p : Pa} (h : rightD p = true) : p.loc.length ≤ 64 ∧ p.dom.length ≤ 255 ∧ p.route.length ≤ 20 ∧ ∀ d ∈ p.route, d.length ≤ 255 := by
  unfold rightD at h
  split at h
  · simp only [Bool.and_eq_true, decide_eq_true_eq] at h
    obtain ⟨h0, ⟨h1, h2⟩, _⟩ := h
    have : p.route = [] := List.length_eq_zero_iff.1 h0
    rw [h1, h2, this]
    simp
  · split at h
    · rename_i _ ha
      unfold aloneB at ha
      simp only [Bool.and_eq_true, decide_eq_true_eq] at ha h
      obtain ⟨⟨h1, h2⟩, _⟩ := ha
      have : p.route = [] := List.length_eq_zero_iff.1 h
      rw [h1, h2, this]
      simp [postP]
    · simp only [Bool.and_eq_true, decide_eq_true_eq] at h
      obtain ⟨⟨h1, h2⟩, h3⟩ := h
      obtain ⟨h4, h5⟩ := box_lens h3
      refine ⟨h4, h5, h1, fun d hd => ?_⟩
      have := List.all_eq_true.1 h2 d hd
      unfold toldB at this
      simp only [Bool.and_eq_true] at this
      exact fine_most this.1
theorem sml_60 : ∀ c, sml c = 60 → c = 60 := all_u8 (by decide +kernel)
theorem sml_62 : ∀ c, sml c = 62 → c = 62 := all_u8 (by decide +kernel)
/-- a path's text begins with < and ends with > -/
theorem path_ends {t : List UInt8} {p : Pa} {lg : Bool} (h : PathT t p lg) : ∃ m, t = 60 :: (m ++ [62]) := by
  rcases h with ⟨rfl, _⟩ | ⟨h1, _⟩ | ⟨rt, ds, l1, bt, loc, d, lit, l2, _, _, rfl, _⟩
  · exact ⟨[], rfl⟩
  · have e : aloneT = 60 :: (postP ++ [62]) := rfl
    rw [e] at h1
    cases t with
    | nil => simp [low] at h1
    | cons c t =>
      unfold low at h1
      rw [List.map_cons] at h1
      injection h1 with h2 h3
      obtain ⟨a, b, rfl, h4, h5⟩ := List.map_eq_append_iff.1 h3
      obtain ⟨x, rfl, h6⟩ : ∃ x, b = [x] ∧ sml x = 62 := by
        cases b with
        | nil => simp at h5
        | cons x b' =>
          rw [List.map_cons] at h5
          injection h5 with h6 h7
          have : b' = [] := List.map_eq_nil_iff.1 h7
          exact ⟨x, by rw [this], h6⟩
      exact ⟨a, by rw [sml_60 c h2, sml_62 x h6]⟩
  · exact ⟨rt ++ bt, by simp⟩
/-- what Parse tells of a text, and what is printed of it -/
theorem parseP_print {s : List UInt8} (h : (parseP s).1 = 0) : rightD (parseP s).2.1 = true ∧ 2 ≤ (parseP s).2.2 ∧ (parseP s).2.2 ≤ s.length ∧ s[0]? = some 60 ∧ s[(parseP s).2.2 - 1]? = some 62 ∧ parseP (printD (parseP s).2.1) = (0, (parseP s).2.1, (printD (parseP s).2.1).length) ∧ (printD (parseP s).2.1).length ≤ (parseP s).2.2 := by
  obtain ⟨t, x, h1, h2, h3⟩ := parseP_ok h
  have hr := path_right h1
  obtain ⟨m, hm⟩ := path_ends h1
  have hl : t.length = m.length + 2 := by rw [hm]; simp
  rw [h3]
  generalize (parseP s).2.1 = p at *
  have hpp := parseP_all (print_path hr) []
  rw [List.append_nil] at hpp
  refine ⟨hr, by omega, by rw [h2, List.length_append]; omega, ?_, ?_, hpp, print_len h1⟩
  · rw [h2, hm]; rfl
  · rw [h2, List.getElem?_append_left (by omega), hm]
    rw [show (60 :: (m ++ [62])).length - 1 = m.length + 1 by simp, List.getElem?_cons_succ, List.getElem?_append_right (Nat.le_refl _)]
    simp
theorem parseP_bad {s : List UInt8} (h : (parseP s).1 ≠ 0) : ((parseP s).1 = 150 ∨ (parseP s).1 = 3) ∧ (parseP s).2.2 = 0 ∧ (parseP s).2.1 = {} := by
  unfold parseP at h ⊢
  split
  · rename_i hv; rw [if_pos hv] at h; exact absurd rfl h
  · rename_i hv
    exact ⟨verdict_ne _ _ hv, rfl, rfl⟩
end Go.Proofs.YtnkepdeegpampaaGreatDoor

/-
  What path.Parse tells, with room for its route. Conditions: the text is of at most 2^40 bytes; the library's variable holds some value.
-/
namespace Go.Proofs.YtnkepdeegpampaaGreatDoor
open Go.RowKit Go.Shelf

theorem own_cap {w : World} {B n : Nat} {e : TypeId} {a : Option Addr} {c : Nat} {xs : List Value} (h : w.ownsRow B e 1 (.slice a n c) n xs) : n ≤ c := by
  rcases h.2 with ⟨e1, h0⟩ | ⟨g, cap, cur, e1, _, _, h3, _⟩
  · omega
  · injection e1 with e1 e2 e3
    omega
/-- what Parse tells: its route, and room for it -/
theorem parse_room (s : List UInt8) (hs : s.length ≤ 1099511627776) (w : World) (he : ErrAt w ∧ ErrG < w.heap.size) : Calls Tryz.prog 72 #[.string (bs s)] w fun e w' => ∃ a c, e = .returned (.tuple #[paV (parseP s).2.1 a c, .int .i64 (((parseP s).2.2 : Nat) : Int), .int .i64 (parseP s).1]) ∧ TextsAt w' a (parseP s).2.1.route ∧ (parseP s).2.1.route.length ≤ c ∧ Below w.heap.size w w' :=
  (parse_fun s hs w he.1 he.2).mono fun e w' h => by
    obtain ⟨v, h1, h2, h3⟩ := h
    have hl : (parseP s).2.1.route.length ≤ maxLen := by have := parseP_route s; unfold maxLen; omega
    obtain ⟨a, c, rfl, h4⟩ := own_slice h2 (by rw [List.length_map]; exact hl)
    exact ⟨a, c, h1, h4, own_cap h2, h3⟩
theorem fits_right {p : Pa} (h : rightD p = true) : PaFits p 1099511627776 := by
  obtain ⟨h1, h2, _, h3⟩ := right_lens h
  exact ⟨by omega, by omega, fun d hd => by have := h3 d hd; omega⟩
end Go.Proofs.YtnkepdeegpampaaGreatDoor

/-
  How long what is printed may be; a mailbox that is printed is read again. No conditions.
-/
namespace Go.Proofs.YtnkepdeegpampaaGreatDoor
open Go.RowKit Go.Shelf

theorem print_most {p : Pa} (h : rightD p = true) : (printD p).length ≤ 10000 := by
  obtain ⟨h1, h2, h3, h4⟩ := right_lens h
  unfold printD
  split
  · simp
  · split
    · decide
    · have hb := boxD_most p.loc p.dom p.lit
      have hr : (routeD p.route).length ≤ 6000 := by
        cases hro : p.route with
        | nil => simp [routeD]
        | cons d L =>
          rw [hro] at h3 h4
          have e1 := h4 d (by simp)
          have e2 := hops_most L 255 (fun e he => h4 e (by simp [he]))
          have e3 : L.length ≤ 19 := by simp at h3; omega
          have e4 : L.length * (255 + 2) ≤ 19 * (255 + 2) := Nat.mul_le_mul_right _ e3
          unfold routeD
          simp only [List.length_cons, List.length_append, List.length_nil]
          omega
      simp only [List.length_cons, List.length_append, List.length_nil]
      omega
theorem PaFits.mono {p : Pa} {n m : Nat} (h : PaFits p n) (hm : n ≤ m) : PaFits p m := ⟨Nat.le_trans h.loc hm, Nat.le_trans h.dom hm, fun d hd => Nat.le_trans (h.hops d hd) hm⟩
theorem domB_nil : dB [] = false := by decide +kernel
theorem wordB_nil : wB [] = false := by decide +kernel
theorem box_dom {loc d : List UInt8} {lit : Bool} (h : rightBoxD loc d lit = true) : d ≠ [] := by
  rintro rfl
  unfold rightBoxD toldB fineB at h
  rw [domB_nil, wordB_nil] at h
  simp at h
theorem right_dom {p : Pa} (h : rightD p = true) : decide (p.dom = []) = !rightBoxD p.loc p.dom p.lit := by
  cases hb : rightBoxD p.loc p.dom p.lit with
  | true => rw [decide_eq_false (box_dom hb)]; rfl
  | false =>
    have hd : p.dom = [] := by
      unfold rightD at h
      split at h
      · simp only [Bool.and_eq_true, decide_eq_true_eq] at h
        exact h.2.1.2
      · split at h
        · rename_i _ ha
          unfold aloneB at ha
          simp only [Bool.and_eq_true, decide_eq_true_eq] at ha
          exact ha.1.2
        · simp only [Bool.and_eq_true] at h
          rw [hb] at h
          exact absurd h.2 (by decide)
    rw [decide_eq_true hd]
    rfl
/-- a mailbox that is right is read again as it was printed -/
theorem mailbox_print {loc d : List UInt8} {lit : Bool} (h : rightBoxD loc d lit = true) : mailboxP (boxD loc d lit) = (0, loc, d, lit) := by
  have h1 := box_all (x := []) (box_print h) (stop_nil _) (st0 (boxD loc d lit)) rfl (by rw [List.append_nil]; rfl)
  unfold mailboxP wholeR
  rw [h1]
  rfl
end Go.Proofs.YtnkepdeegpampaaGreatDoor

/-
  Commands in plain terms: what a line says, what a command's line is, and that what is said is read of it. No conditions.
-/
namespace Go.Proofs.YtnkepdeegpampaaGreatDoor

def upc (c : UInt8) : UInt8 := if 97 ≤ c ∧ c ≤ 122 then c - 32 else c
def up (l : List UInt8) : List UInt8 := l.map upc
def shB (c : UInt8) : Bool := 32 ≤ c && c ≤ 126
def valB (c : UInt8) : Bool := 33 ≤ c && c ≤ 126 && c != 61
def someP (p : UInt8 → Bool) (l : List UInt8) : Bool := l.all p && l != []
def keyP (l : List UInt8) : Bool := someP labB l && l.head? != some 45
/-- a text ahead of a byte, behind it, and whether it is there -/
def cutW (c : UInt8) (s : List UInt8) : List UInt8 := s.takeWhile (· != c)
def cutB (c : UInt8) (s : List UInt8) : List UInt8 := (s.dropWhile (· != c)).drop 1
def cutH (c : UInt8) (s : List UInt8) : Bool := s.contains c
/-- a text cut at each byte c -/
def splitC (c : UInt8) : List UInt8 → List (List UInt8)
  | [] => [[]]
  | x :: xs => if x = c then [] :: splitC c xs else (x :: (splitC c xs).headD []) :: (splitC c xs).tail
def wordsV : List (List UInt8) := [[], [72, 69, 76, 79], [69, 72, 76, 79], [77, 65, 73, 76], [82, 67, 80, 84], [68, 65, 84, 65], [82, 83, 69, 84], [86, 82, 70, 89], [69, 88, 80, 78], [78, 79, 79, 80], [72, 69, 76, 80], [81, 85, 73, 84]]
def wordP (v : Nat) : List UInt8 := wordsV.getD v []
def verbF (u : List UInt8) : Nat → Nat → Nat
  | 0, _ => 0
  | f + 1, v => if wordP v = u then v else verbF u f (v + 1)
def verbP (w : List UInt8) : Nat := verbF (up w) 11 1
structure Pm where
  key : List UInt8
  value : List UInt8 := []
  has : Bool := false
deriving DecidableEq
structure Cm where
  verb : Nat := 0
  arg : List UInt8 := []
  path : Pa := {}
  params : List Pm := []
deriving DecidableEq
def pmOk (s : List UInt8) : Bool := keyP (cutW 61 s) && (!cutH 61 s || someP valB (cutB 61 s))
def pmOf (s : List UInt8) : Pm := ⟨up (cutW 61 s), cutB 61 s, cutH 61 s⟩
def paramsP (s : List UInt8) : List Pm × Bool :=
  if (splitC 32 s).headD [] = [] ∧ (splitC 32 s).tail.all pmOk = true then ((splitC 32 s).tail.map pmOf, true) else ([], false)
def fromT : List UInt8 := [70, 82, 79, 77, 58]
def toT : List UInt8 := [84, 79, 58]
def sentQ (s : List UInt8) : Pa × List Pm × Bool :=
  if (parseP s).1 = 0 then ((parseP s).2.1, paramsP (s.drop (parseP s).2.2)) else ({}, [], false)
def sentP (s ahead : List UInt8) : Pa × List Pm × Bool :=
  if s.length < ahead.length ∨ up (s.take ahead.length) ≠ ahead then ({}, [], false) else sentQ (s.drop ahead.length)
def brP (s : List UInt8) : Bool := s.head? == some 91 && (s.drop 1).getLast? == some 93 && wB (s.drop 1).dropLast
def aloneC (p : Pa) : Bool := !p.null && decide (p.dom = [])
def toldP (v : Nat) (b : List UInt8) (blank : Bool) : Cm × Bool :=
  if v = 1 then ({ verb := v, arg := low b }, fineB b)
  else if v = 2 then ({ verb := v, arg := low b }, fineB b || brP b)
  else if v = 3 then ({ verb := v, path := (sentP b fromT).1, params := (sentP b fromT).2.1 }, (sentP b fromT).2.2 && !aloneC (sentP b fromT).1)
  else if v = 4 then ({ verb := v, path := (sentP b toT).1, params := (sentP b toT).2.1 }, (sentP b toT).2.2 && !(sentP b toT).1.null)
  else if v = 7 ∨ v = 8 then ({ verb := v, arg := b }, someP shB b)
  else if v = 9 ∨ v = 10 then (if blank = false then ({ verb := v }, true) else ({ verb := v, arg := b }, someP shB b))
  else ({ verb := v }, !blank)
def cmdP (line : List UInt8) : Cm × Int :=
  if 510 < line.length then ({}, 3)
  else if verbP (cutW 32 line) = 0 then ({}, 160)
  else if (toldP (verbP (cutW 32 line)) (cutB 32 line) (cutH 32 line)).2 = true then ((toldP (verbP (cutW 32 line)) (cutB 32 line) (cutH 32 line)).1, 0)
  else ({}, 161)
def pmT (p : Pm) : List UInt8 := 32 :: (p.key ++ (if p.has = true then 61 :: p.value else []))
def pathT (p : Pa) : List UInt8 := if rightD p = true then printD p else []
def sentT (ahead : List UInt8) (c : Cm) : List UInt8 := ahead ++ (pathT c.path ++ c.params.flatMap pmT)
def behindP (c : Cm) : List UInt8 := if c.verb = 3 then sentT fromT c else if c.verb = 4 then sentT toT c else c.arg
def fullP (c : Cm) : List UInt8 := wordP c.verb ++ (if behindP c = [] then [] else 32 :: behindP c)
def lineP (c : Cm) : List UInt8 := (fullP c).take 511
def saysP (line : List UInt8) (c : Cm) : Bool := decide (cmdP line = (c, 0))
def rightC (c : Cm) : Bool := saysP (lineP c) c
def printC (c : Cm) : List UInt8 × Int := if rightC c = true then (lineP c, 0) else ([], 2)

/-- a text and where it is cut -/
theorem cut_has (c : UInt8) : ∀ s : List UInt8, cutH c s = true → s = cutW c s ++ c :: cutB c s
  | [], h => by simp [cutH] at h
  | x :: s, h => by
    unfold cutW cutB
    rw [List.takeWhile_cons, List.dropWhile_cons]
    by_cases hx : x = c
    · subst hx
      simp
    · have hb : (x != c) = true := by simpa using hx
      rw [if_pos hb, if_pos hb, List.cons_append]
      have h2 : cutH c s = true := by
        unfold cutH at h ⊢
        rw [List.contains_cons] at h
        have : (c == x) = false := by simpa using fun e => hx e.symm
        rw [this, Bool.false_or] at h
        exact h
      exact congrArg (x :: ·) (cut_has c s h2)
theorem cut_no (c : UInt8) : ∀ s : List UInt8, cutH c s = false → cutW c s = s ∧ cutB c s = []
  | [], _ => ⟨rfl, rfl⟩
  | x :: s, h => by
    unfold cutH at h
    rw [List.contains_cons, Bool.or_eq_false_iff] at h
    have hb : (x != c) = true := by
      have := h.1
      simp only [beq_eq_false_iff_ne] at this
      simpa using fun e => this e.symm
    obtain ⟨h1, h2⟩ := cut_no c s h.2
    unfold cutW cutB at *
    rw [List.takeWhile_cons, List.dropWhile_cons, if_pos hb, if_pos hb]
    exact ⟨congrArg (x :: ·) h1, h2⟩
theorem cutW_not (c : UInt8) (s : List UInt8) : ∀ x ∈ cutW c s, x ≠ c := fun x hx e => by
  have := mem_run (p := (· != c)) hx
  simp [e] at this
theorem cut_at {c : UInt8} : ∀ {a : List UInt8}, (∀ x ∈ a, x ≠ c) → ∀ b, cutW c (a ++ c :: b) = a ∧ cutB c (a ++ c :: b) = b ∧ cutH c (a ++ c :: b) = true
  | [], _, b => by simp [cutW, cutB, cutH]
  | x :: a, h, b => by
    obtain ⟨h1, h2, h3⟩ := cut_at (fun y hy => h y (List.mem_cons_of_mem x hy)) b
    have hx : (x != c) = true := by simpa using h x (by simp)
    unfold cutW cutB cutH at *
    rw [List.cons_append, List.takeWhile_cons, List.dropWhile_cons, if_pos hx, if_pos hx, List.contains_cons, h3, h1]
    exact ⟨rfl, h2, by simp⟩
theorem cut_none {c : UInt8} {a : List UInt8} (h : ∀ x ∈ a, x ≠ c) : cutW c a = a ∧ cutB c a = [] ∧ cutH c a = false := by
  have h0 : cutH c a = false := by
    unfold cutH
    rw [List.contains_eq_mem, decide_eq_false_iff_not]
    exact fun hm => h c hm rfl
  exact ⟨(cut_no c a h0).1, (cut_no c a h0).2, h0⟩

theorem split_ne (c : UInt8) (s : List UInt8) : splitC c s ≠ [] := by
  cases s with
  | nil => simp [splitC]
  | cons x s => unfold splitC; split <;> simp
theorem split_at {c : UInt8} : ∀ {a : List UInt8}, (∀ x ∈ a, x ≠ c) → ∀ b, splitC c (a ++ c :: b) = a :: splitC c b
  | [], _, b => by simp [splitC]
  | x :: a, h, b => by
    rw [List.cons_append, splitC, if_neg (h x (by simp)), split_at (fun y hy => h y (by simp [hy])) b]
    rfl
theorem split_none {c : UInt8} : ∀ {a : List UInt8}, (∀ x ∈ a, x ≠ c) → splitC c a = [a]
  | [], _ => rfl
  | x :: a, h => by
    rw [splitC, if_neg (h x (by simp)), split_none (fun y hy => h y (by simp [hy]))]
    rfl
/-- pieces, each with a byte ahead -/
def joinC (c : UInt8) (l : List (List UInt8)) : List UInt8 := l.flatMap fun p => c :: p
theorem split_join {c : UInt8} : ∀ {l : List (List UInt8)}, (∀ p ∈ l, ∀ x ∈ p, x ≠ c) → ∀ {a : List UInt8}, (∀ x ∈ a, x ≠ c) → splitC c (a ++ joinC c l) = a :: l
  | [], _, a, ha => by rw [joinC, List.flatMap_nil, List.append_nil, split_none ha]
  | p :: l, h, a, ha => by
    rw [joinC, List.flatMap_cons, List.cons_append, split_at ha]
    exact congrArg (a :: ·) (split_join (fun q hq => h q (by simp [hq])) (h p (by simp)))
theorem join_split (c : UInt8) : ∀ s : List UInt8, (splitC c s).headD [] ++ joinC c (splitC c s).tail = s ∧ ∀ p ∈ splitC c s, ∀ x ∈ p, x ≠ c
  | [] => ⟨rfl, by simp [splitC]⟩
  | x :: s => by
    obtain ⟨h1, h2⟩ := join_split c s
    rw [splitC]
    cases hs : splitC c s with
    | nil => exact absurd hs (split_ne c s)
    | cons p l =>
      rw [hs] at h1 h2
      by_cases hx : x = c
      · rw [if_pos hx]
        refine ⟨?_, fun q hq => ?_⟩
        · show [] ++ joinC c (p :: l) = _
          rw [joinC, List.flatMap_cons, List.nil_append, List.cons_append, hx]
          exact congrArg (c :: ·) h1
        · rcases List.mem_cons.1 hq with rfl | hq
          · simp
          · exact h2 q hq
      · rw [if_neg hx]
        refine ⟨?_, fun q hq => ?_⟩
        · exact congrArg (x :: ·) h1
        · rcases List.mem_cons.1 hq with rfl | hq
          · intro y hy
            rcases List.mem_cons.1 hy with rfl | hy
            · exact hx
            · exact h2 p (by simp) y hy
          · exact h2 q (by simp [show q ∈ l from hq])

theorem upc_upc : ∀ c, upc (upc c) = upc c := all_u8 (by decide +kernel)
theorem up_up (l : List UInt8) : up (up l) = up l := by unfold up; rw [List.map_map]; exact List.map_congr_left (fun c _ => upc_upc c)
theorem up_len (l : List UInt8) : (up l).length = l.length := List.length_map _
theorem up_app (a b : List UInt8) : up (a ++ b) = up a ++ up b := List.map_append
theorem upc_lab : ∀ c, labB (upc c) = labB c := all_u8 (by decide +kernel)
theorem upc_hyp : ∀ c, upc c = 45 ↔ c = 45 := all_u8 (by decide +kernel)
theorem upc_32 : ∀ c, upc c = 32 ↔ c = 32 := all_u8 (by decide +kernel)
theorem upc_61 : ∀ c, upc c = 61 ↔ c = 61 := all_u8 (by decide +kernel)
theorem lab_61 : ∀ c, labB c = true → c ≠ 61 := all_u8 (by decide +kernel)
theorem lab_32 : ∀ c, labB c = true → c ≠ 32 := all_u8 (by decide +kernel)
theorem val_32 : ∀ c, valB c = true → c ≠ 32 := all_u8 (by decide +kernel)
theorem key_up {l m : List UInt8} (h : up l = up m) : keyP l = keyP m := by
  have hk : ∀ l : List UInt8, keyP (up l) = keyP l := by
    intro l
    unfold keyP someP up
    rw [List.all_map, List.head?_map]
    have h1 : (labB ∘ upc) = labB := by funext c; exact upc_lab c
    rw [h1]
    cases l with
    | nil => rfl
    | cons c l =>
      have := upc_hyp c
      by_cases hc : c = 45
      · subst hc; simp [upc]
      · have h2 : upc c ≠ 45 := fun e => hc (this.1 e)
        have e1 : (some (upc c) != some 45) = true := by simpa using h2
        have e2 : (some c != some (45 : UInt8)) = true := by simpa using hc
        have e3 : (List.map upc (c :: l) != []) = true := rfl
        have e4 : (c :: l != []) = true := rfl
        rw [e3, e4, List.head?_cons, Option.map_some, e1, e2]
  rw [← hk l, h, hk]
theorem key_parts {l : List UInt8} (h : keyP l = true) : (∀ c ∈ l, labB c = true) ∧ l ≠ [] := by
  unfold keyP someP at h
  simp only [Bool.and_eq_true, List.all_eq_true, bne_iff_ne] at h
  exact ⟨h.1.1, h.1.2⟩
/-- a parameter that may be told -/
def PmFine (p : Pm) : Prop := keyP p.key = true ∧ up p.key = p.key ∧ (p.has = false → p.value = []) ∧ (p.has = true → someP valB p.value = true)
def pmS (k : List UInt8) (p : Pm) : List UInt8 := k ++ (if p.has = true then 61 :: p.value else [])
theorem pmOf_fine {s : List UInt8} (h : pmOk s = true) : PmFine (pmOf s) ∧ (pmT (pmOf s)).length = s.length + 1 := by
  unfold pmOk at h
  simp only [Bool.and_eq_true, Bool.or_eq_true, Bool.not_eq_true'] at h
  obtain ⟨h1, h2⟩ := h
  refine ⟨⟨?_, up_up _, fun hn => (cut_no 61 s hn).2, fun hh => ?_⟩, ?_⟩
  · show keyP (up _) = true
    rw [key_up (up_up (cutW 61 s))]
    exact h1
  · rcases h2 with h2 | h2
    · have hh' : cutH 61 s = true := hh
      rw [h2] at hh'
      cases hh'
    · exact h2
  · show (32 :: (up (cutW 61 s) ++ (if cutH 61 s = true then 61 :: cutB 61 s else []))).length = _
    cases hc : cutH 61 s with
    | true =>
      have := congrArg List.length (cut_has 61 s hc)
      rw [List.length_append, List.length_cons] at this
      rw [if_pos rfl, List.length_cons, List.length_append, up_len, List.length_cons]
      omega
    | false =>
      rw [if_neg (by decide), List.append_nil, List.length_cons, up_len, (cut_no 61 s hc).1]
/-- a parameter's text, its key's letters great or small -/
theorem pm_back {p : Pm} (h : PmFine p) {k : List UInt8} (hk : up k = p.key) : pmOk (pmS k p) = true ∧ pmOf (pmS k p) = p ∧ ∀ x ∈ pmS k p, x ≠ 32 := by
  obtain ⟨h1, h2, h3, h4⟩ := h
  have hkk : keyP k = true := by rw [key_up (l := k) (m := p.key) (by rw [hk, h2])]; exact h1
  have hno : ∀ x ∈ k, x ≠ 61 := fun x hx => lab_61 x ((key_parts hkk).1 x hx)
  have hns : ∀ x ∈ k, x ≠ 32 := fun x hx => lab_32 x ((key_parts hkk).1 x hx)
  unfold pmOk pmOf pmS
  obtain ⟨pk, pv, ph⟩ := p
  cases ph with
  | true =>
    rw [if_pos rfl]
    obtain ⟨e1, e2, e3⟩ := cut_at hno pv
    rw [e1, e2, e3]
    refine ⟨by rw [hkk, h4 rfl]; rfl, by rw [hk], fun x hx => ?_⟩
    rcases List.mem_append.1 hx with hx | hx
    · exact hns x hx
    · rcases List.mem_cons.1 hx with rfl | hx
      · decide
      · have := h4 rfl
        unfold someP at this
        simp only [Bool.and_eq_true, List.all_eq_true] at this
        exact val_32 x (this.1 x hx)
  | false =>
    rw [if_neg (by simp), List.append_nil]
    obtain ⟨e1, e2, e3⟩ := cut_none hno
    rw [e1, e2, e3]
    refine ⟨by rw [hkk]; rfl, ?_, hns⟩
    rw [hk]
    have : pv = [] := h3 rfl
    rw [this]
/-- what params tells, and its texts -/
theorem params_some {s : List UInt8} (h : (paramsP s).2 = true) : (∀ p ∈ (paramsP s).1, PmFine p) ∧ ((paramsP s).1.flatMap pmT).length = s.length ∧ (s = [] ∨ s.head? = some 32) := by
  unfold paramsP at h ⊢
  split at h
  · rename_i hc
    rw [if_pos hc]
    obtain ⟨h1, h2⟩ := hc
    obtain ⟨j1, j2⟩ := join_split 32 s
    rw [h1, List.nil_append] at j1
    generalize (splitC 32 s).tail = l at *
    have hl : ∀ l : List (List UInt8), l.all pmOk = true → ((l.map pmOf).flatMap pmT).length = (joinC 32 l).length := by
      intro l
      induction l with
      | nil => intro _; rfl
      | cons p l ih =>
        intro h
        rw [List.all_cons, Bool.and_eq_true] at h
        rw [List.map_cons, List.flatMap_cons, joinC, List.flatMap_cons, List.length_append, List.length_append, ih h.2, (pmOf_fine h.1).2]
        rfl
    refine ⟨fun p hp => ?_, by rw [hl l h2, j1], ?_⟩
    · obtain ⟨x, hx, rfl⟩ := List.mem_map.1 hp
      exact (pmOf_fine (List.all_eq_true.1 h2 x hx)).1
    · cases l with
      | nil => left; rw [← j1]; rfl
      | cons p l => right; rw [← j1]; rfl
  · cases h
/-- parameters' texts, keys' letters great or small, are read -/
theorem params_all : ∀ (l : List Pm), (∀ p ∈ l, PmFine p) → ∀ (ks : List (List UInt8)), ks.map up = l.map (·.key) → paramsP (joinC 32 ((ks.zip l).map fun x => pmS x.1 x.2)) = (l, true) := by
  intro l hl ks hks
  have hlen : ks.length = l.length := by have := congrArg List.length hks; simpa using this
  have key : ∀ (l : List Pm) (ks : List (List UInt8)), (∀ p ∈ l, PmFine p) → ks.map up = l.map (·.key) → ((ks.zip l).map fun x => pmS x.1 x.2).all pmOk = true ∧ (((ks.zip l).map fun x => pmS x.1 x.2).map pmOf) = l ∧ ∀ p ∈ ((ks.zip l).map fun x => pmS x.1 x.2), ∀ x ∈ p, x ≠ 32 := by
    intro l
    induction l with
    | nil => intro ks _ _; simp
    | cons p l ih =>
      intro ks h1 h2
      cases ks with
      | nil => simp at h2
      | cons k ks =>
        rw [List.map_cons, List.map_cons] at h2
        injection h2 with e1 e2
        obtain ⟨i1, i2, i3⟩ := ih ks (fun q hq => h1 q (by simp [hq])) e2
        obtain ⟨b1, b2, b3⟩ := pm_back (h1 p (by simp)) e1
        rw [List.zip_cons_cons, List.map_cons, List.all_cons, List.map_cons, i1, i2, b1, b2]
        refine ⟨rfl, rfl, fun q hq => ?_⟩
        rcases List.mem_cons.1 hq with rfl | hq
        · exact b3
        · exact i3 q hq
  obtain ⟨k1, k2, k3⟩ := key l ks hl hks
  unfold paramsP
  have hs := split_join (c := 32) k3 (a := []) (by simp)
  rw [List.nil_append] at hs
  rw [hs, if_pos ⟨rfl, k1⟩]
  exact congrArg (·, true) k2
theorem pmT_join (l : List Pm) : l.flatMap pmT = joinC 32 (((l.map (·.key)).zip l).map fun x => pmS x.1 x.2) := by
  induction l with
  | nil => rfl
  | cons p l ih =>
    rw [List.flatMap_cons, ih, List.map_cons, List.zip_cons_cons, List.map_cons, joinC, joinC, List.flatMap_cons]
    rfl
theorem params_back {l : List Pm} (hl : ∀ p ∈ l, PmFine p) : paramsP (l.flatMap pmT) = (l, true) := by
  rw [pmT_join]
  refine params_all l hl _ ?_
  rw [List.map_map]
  exact List.map_congr_left fun p hp => (hl p hp).2.1
/-- what sent tells -/
structure SentOk (p : Pa) (l : List Pm) (n : Nat) : Prop where
  right : rightD p = true
  fine : ∀ x ∈ l, PmFine x
  len : (printD p).length + (l.flatMap pmT).length ≤ n
theorem sentQ_some {s : List UInt8} (h : (sentQ s).2.2 = true) : SentOk (sentQ s).1 (sentQ s).2.1 s.length := by
  unfold sentQ at h ⊢
  split at h
  · rename_i hp
    rw [if_pos hp]
    obtain ⟨h1, h2, h3, h4, h5, h6, h7⟩ := parseP_print hp
    obtain ⟨k1, k2, k3⟩ := params_some h
    refine ⟨h1, k1, ?_⟩
    simp only at k2 ⊢
    rw [k2, List.length_drop]
    omega
  · cases h
theorem sentP_some {s ahead : List UInt8} (h : (sentP s ahead).2.2 = true) : SentOk (sentP s ahead).1 (sentP s ahead).2.1 (s.length - ahead.length) ∧ ahead.length ≤ s.length := by
  unfold sentP at h ⊢
  split at h
  · cases h
  · rename_i hn
    rw [if_neg hn]
    have := sentQ_some h
    rw [List.length_drop] at this
    exact ⟨this, by omega⟩
theorem sentQ_back {p : Pa} {l : List Pm} {n : Nat} (h : SentOk p l n) {t : List UInt8} (ht : paramsP t = (l, true)) : sentQ (printD p ++ t) = (p, l, true) := by
  unfold sentQ
  rw [parseP_all (print_path h.right) t, if_pos rfl]
  simp only [List.drop_left, ht]
theorem sentP_back {p : Pa} {l : List Pm} {n : Nat} (h : SentOk p l n) {t a ahead : List UInt8} (ht : paramsP t = (l, true)) (ha : up a = ahead) : sentP (a ++ (printD p ++ t)) ahead = (p, l, true) := by
  have hlen : a.length = ahead.length := by rw [← up_len a, ha]
  unfold sentP
  rw [← hlen, List.take_left, ha, if_neg (by simp), List.drop_left]
  exact sentQ_back h ht
end Go.Proofs.YtnkepdeegpampaaGreatDoor

/-
  The contracts of command's functions on bytes: great, small, kinds of bytes; each, some. Conditions: texts of at most 2^62 bytes.
-/
namespace Go.Proofs.YtnkepdeegpampaaGreatDoor
open Go.RowKit Go.Shelf

def upcZ (n : Int) : Int := if 97 ≤ n ∧ n ≤ 122 then n - 32 else n
theorem upc_z (c : UInt8) : ((upc c).toNat : Int) = upcZ (c.toNat : Int) := all_u8 (P := fun c => ((upc c).toNat : Int) = upcZ (c.toNat : Int)) (by decide +kernel) c
theorem sh_z (c : UInt8) : shB c = (decide (32 ≤ (c.toNat : Int)) && decide ((c.toNat : Int) ≤ 126)) := all_u8 (P := fun c => shB c = (decide (32 ≤ (c.toNat : Int)) && decide ((c.toNat : Int) ≤ 126))) (by decide +kernel) c
theorem val_z (c : UInt8) : valB c = ((decide (33 ≤ (c.toNat : Int)) && decide ((c.toNat : Int) ≤ 126)) && !((c.toNat : Int) == 61)) := all_u8 (P := fun c => valB c = ((decide (33 ≤ (c.toNat : Int)) && decide ((c.toNat : Int) ≤ 126)) && !((c.toNat : Int) == 61))) (by decide +kernel) c
def keyMarks : List UInt8 := [65, 66, 67, 68, 69, 70, 71, 72, 73, 74, 75, 76, 77, 78, 79, 80, 81, 82, 83, 84, 85, 86, 87, 88, 89, 90, 48, 49, 50, 51, 52, 53, 54, 55, 56, 57, 45]
theorem key_z (c : UInt8) : labB c = decide (0 ≤ Lib.indexByte keyMarks (upcZ (c.toNat : Int)).toNat.toUInt8) := all_u8 (P := fun c => labB c = decide (0 ≤ Lib.indexByte keyMarks (upcZ (c.toNat : Int)).toNat.toUInt8)) (by decide +kernel) c
theorem upcZ_in (n : Int) (h0 : 0 ≤ n) (h1 : n ≤ 255) : 0 ≤ upcZ n ∧ upcZ n ≤ 255 := by unfold upcZ; split <;> omega
set_option maxHeartbeats 400000 in
theorem great_z (n : Int) (h0 : 0 ≤ n) (h1 : n ≤ 255) (w : World) : Calls Tryz.prog 47 #[.int .u8 n] w fun e w' => e = .returned (.int .u8 (upcZ n)) ∧ w' = w := by
  go_enter Tryz.func47, Tryz.ntmps47
  go_wp2
  all_goals go_ret
  all_goals refine ⟨ret_int ?_, rfl⟩
  all_goals unfold upcZ
  all_goals (repeat' split) <;> omega
set_option maxHeartbeats 400000 in
theorem csmall_z (n : Int) (h0 : 0 ≤ n) (h1 : n ≤ 255) (w : World) : Calls Tryz.prog 48 #[.int .u8 n] w fun e w' => e = .returned (.int .u8 (smlZ n)) ∧ w' = w := by
  go_enter Tryz.func48, Tryz.ntmps48
  go_wp2
  all_goals go_ret
  all_goals refine ⟨ret_int ?_, rfl⟩
  all_goals unfold smlZ
  all_goals (repeat' split) <;> omega
/-- a byte for a byte, as a function -/
def BecB (k : Nat) (g : UInt8 → UInt8) : Prop := ∀ (c : UInt8) (w : World), Calls Tryz.prog k #[.int .u8 (c.toNat : Int)] w fun e w' => e = .returned (.int .u8 ((g c).toNat : Int)) ∧ w' = w
theorem great_any : BecB 47 upc := fun c w => by rw [upc_z]; exact great_z _ (byte_in c).1 (byte_in c).2 w
theorem csmall_any : BecB 48 sml := fun c w => by rw [sml_z]; exact csmall_z _ (byte_in c).1 (byte_in c).2 w
theorem ent_great : Ent 47 := enters_of Tryz.func47 (by kernel_rfl) rfl
theorem ent_csmall : Ent 48 := enters_of Tryz.func48 (by kernel_rfl) rfl
theorem ent_cshown : Ent 55 := enters_of Tryz.func55 (by kernel_rfl) rfl
theorem ent_value : Ent 98 := enters_of Tryz.func98 (by kernel_rfl) rfl
theorem ent_key : Ent 113 := enters_of Tryz.func113 (by kernel_rfl) rfl
set_option maxHeartbeats 400000 in
theorem isShown_any : IsB 55 shB := fun c w => by
  rw [sh_z]
  obtain ⟨h0, h1⟩ := byte_in c
  generalize (c.toNat : Int) = n at h0 h1
  go_enter Tryz.func55, Tryz.ntmps55
  go_wp2
  all_goals go_ret
  all_goals exact ⟨ret_bool (by first | (simp [*]; done) | (simp [*]; omega) | (rw [Bool.eq_iff_iff]; simp; omega)), rfl⟩
set_option maxHeartbeats 400000 in
theorem isOfValue_any : IsB 98 valB := fun c w => by
  rw [val_z]
  obtain ⟨h0, h1⟩ := byte_in c
  generalize (c.toNat : Int) = n at h0 h1
  go_enter Tryz.func98, Tryz.ntmps98
  go_wp2
  all_goals go_ret
  all_goals exact ⟨ret_bool (by first | (simp [*]; done) | (simp [*]; omega) | (rw [Bool.eq_iff_iff]; simp; omega)), rfl⟩
set_option maxHeartbeats 400000 in
theorem isOfKey_any : IsB 113 labB := fun c w => by
  rw [key_z]
  obtain ⟨h0, h1⟩ := byte_in c
  generalize (c.toNat : Int) = n at h0 h1
  have hu := upcZ_in n h0 h1
  go_enter Tryz.func113, Tryz.ntmps113
  go_wp2_with (first | (go_at_call 47; refine (great_z _ h0 h1 _).mono ?_; rintro e w' ⟨rfl, rfl⟩) | (go_at_call 126; refine (Tryz.strings_IndexByte _ _ _).mono ?_; rintro e w' ⟨rfl, rfl⟩))
  all_goals go_ret
  all_goals exact ⟨ret_bool (by simp [keyMarks, *]), rfl⟩
theorem map_step (g : UInt8 → UInt8) (l : List UInt8) (k : Nat) (hk : k < l.length) : (((l.take k).map g ++ l.drop k).set k (g l[k])) = (l.take (k + 1)).map g ++ l.drop (k + 1) ∧ ((l.take k).map g ++ l.drop k)[k]? = some l[k] := by
  have hlen : ((l.take k).map g).length = k := by rw [List.length_map, List.length_take]; omega
  have hd : l.drop k = l[k] :: l.drop (k + 1) := List.drop_eq_getElem_cons hk
  constructor
  · rw [List.set_append_right _ _ (by omega), hlen, Nat.sub_self, hd, List.set_cons_zero, List.take_succ_eq_append_getElem hk, List.map_append, List.append_assoc]
    rfl
  · rw [List.getElem?_append_right (by omega), hlen, Nat.sub_self, hd]
    rfl
set_option maxRecDepth 100000 in
set_option maxHeartbeats 1000000 in
theorem ceach_any {kk : Nat} {g : UInt8 → UInt8} (hg : BecB kk g) (ek : Ent kk) (l : List UInt8) (hl : l.length ≤ 4611686018427387904) (w : World) : Calls Tryz.prog 46 #[.string (bs l), .func (.func kk) #[] #[]] w fun e w' => e = .returned (.string (bs (l.map g))) ∧ Below w.heap.size w w' := by
  have ek' : ∀ args w, (callFunc kk args).run Tryz.prog w = .ok (.enter kk args) w := ek
  have HG := Lib.hid (fun c W => hg c W)
  clear hg ek
  have hcv := Lib.run_convert_string_bytes (P := Tryz.prog) w 9 41 5 (bs l) (u := .string) Tryz.underlying9 Tryz.underlying41 Tryz.underlying5
  rw [bs_size] at hcv
  have HB := Lib.hid (BuW.new w l)
  have HLW := Lib.hid (bytesWorld_low w 5 (bs l))
  have hcg : l.length ≤ grownCap w l.length 0 5 := grownCap_ge w l.length 0 _
  generalize grownCap w l.length 0 5 = cp at *
  generalize Lib.bytesWorld w 5 (bs l) = W1 at *
  obtain ⟨N, hN⟩ : ∃ N, N = w.heap.size := ⟨_, rfl⟩
  rw [← hN] at HB HLW hcv ⊢
  obtain ⟨n, hn⟩ : ∃ n, n = l.length := ⟨_, rfl⟩
  rw [← hn] at hcg hcv hl
  have HNN := Lib.hid hn
  clear hN hn
  generalize hS : bs l = S at *
  clear hS
  go_enter Tryz.func46, Tryz.ntmps46
  go_wp2
  go_loopw [12] (fun i wr => ∃ k : Nat, k ≤ n ∧ i = .int .i64 k ∧ Hid (BuW wr N ((l.take k).map g ++ l.drop k)) ∧ Hid (Below N w wr)) (fun i _ => n - (intOf i).toNat)
  case atStart => exact ⟨0, Nat.zero_le _, rfl, HB.out, HLW.out⟩
  case round =>
    obtain ⟨k, hk, rfl, HBR, HLR⟩ := hrel
    have hk0 : (0 : Int) ≤ (k : Int) := by omega
    by_cases hlt : k < n
    · have hkl : k < l.length := by rw [← HNN.out]; exact hlt
      have hkz : (k : Int) < (n : Int) := by omega
      obtain ⟨e1, e2⟩ := map_step g l k hkl
      obtain ⟨e3, e4⟩ := List.getElem?_eq_some_iff.1 e2
      have hcell := HBR.out.cell e3
      rw [e4] at hcell
      obtain ⟨c0, f0⟩ := hcell
      have HP := Lib.hid (HBR.out.put e3 (g l[k]))
      rw [e1] at HP
      have HSM := Lib.hid (fun W => HG.out l[k] W)
      have HLP : Hid (∀ u, Below N w (wr.setCell ⟨N, k, none⟩ u)) := fun u => HLR.out.setCell (p := ⟨N, k, none⟩) (Nat.le_refl _) u
      clear e1 e2 e3 e4
      generalize l[k] = c at *
      clear hkl
      have hkc : k < cp := by omega
      go_wp2_with (go_at_fn kk; refine (HSM.out _).mono ?_; rintro e w' ⟨rfl, rfl⟩)
      go_roundw
      case rel => exact ⟨k + 1, by omega, by go_num, HP.out, HLP.out _⟩
      case measure => simp [intOf]; omega
    · have hke : k = n := by omega
      have hkz : ¬ (k : Int) < (n : Int) := by omega
      have HB2 := Lib.hid (HBR.out)
      rw [hke, HNN.out, List.take_length, List.drop_length, List.append_nil] at HB2
      have hcv2 := conv_any wr (some ⟨N, 0, none⟩) (l.map g) cp (HB2.out.bytes (by rw [List.length_map, ← HNN.out]; unfold maxLen; omega))
      rw [List.length_map, ← HNN.out] at hcv2
      clear hke HBR
      go_wp2
      go_ret
      exact ⟨rfl, HLR.out⟩
set_option maxRecDepth 100000 in
set_option maxHeartbeats 1000000 in
theorem some_any {k : Nat} {q : UInt8 → Bool} (hk : IsB k q) (ek : Ent k) (l : List UInt8) (hl : l.length ≤ 4611686018427387904) (w : World) : Calls Tryz.prog 54 #[.string (bs l), .func (.func k) #[] #[]] w fun e w' => e = .returned (.bool (someP q l)) ∧ w' = w := by
  have ek' : ∀ args w, (callFunc k args).run Tryz.prog w = .ok (.enter k args) w := ek
  have HK := Lib.hid (fun c W => hk c W)
  obtain ⟨n, hn⟩ : ∃ n, n = l.length := ⟨_, rfl⟩
  have hsz : (bs l).size = n := by rw [hn]; rfl
  have HN := Lib.hid hn
  have HIX : Hid (∀ (j : Nat) (hj : j < l.length) W, (Instr.index 9 (.string (bs l)) (.int .i64 (j : Int))).run Tryz.prog W = .ok (.int .u8 (l[j].toNat : Int)) W) := fun j hj W => str_at l j hj W
  have hem : (bs l).toList.isEmpty = decide (l = []) := by rw [bs_toL]; cases l <;> rfl
  have hem2 := toL_eq l []
  have HNO : Hid (∀ j (hj : j < l.length), q l[j] = false → someP q l = false) := fun j hj hq => by
    unfold someP
    rw [show l.all q = false from by
      rw [List.all_eq_false]
      exact ⟨_, List.getElem_mem hj, by rw [hq]; decide⟩]
    rfl
  rw [← hn] at hl
  clear hk ek hn
  go_enter Tryz.func54, Tryz.ntmps54
  go_wp2
  go_loopw [8] (fun i wr => ∃ j : Nat, j ≤ n ∧ i = .int .i64 j ∧ Hid ((l.take j).all q = true) ∧ wr = w) (fun i _ => n - (intOf i).toNat)
  case atStart => exact ⟨0, Nat.zero_le _, rfl, rfl, rfl⟩
  case round =>
    obtain ⟨j, hj, rfl, HA, rfl⟩ := hrel
    have hj0 : (0 : Int) ≤ (j : Int) := by omega
    by_cases hlt : j < n
    · have hjl : j < l.length := by rw [← HN.out]; exact hlt
      have hjz : (j : Int) < (n : Int) := by omega
      have hix := HIX.out j hjl
      have HFN := Lib.hid (fun W => HK.out l[j] W)
      have HY := Lib.hid (HNO.out j hjl)
      have HNX : Hid (q l[j] = true → (l.take (j + 1)).all q = true) := fun hq => by
        rw [List.take_succ_eq_append_getElem hjl, List.all_append, HA.out]
        simp [hq]
      generalize l[j] = u at *
      clear hjl hem hem2
      cases hq : q u with
      | true =>
        rw [hq] at HFN
        have HO := Lib.hid (HNX.out hq)
        clear hq HY HNX
        go_wp2_with (go_at_fn k; refine (HFN.out _).mono ?_; rintro e w1 ⟨rfl, rfl⟩)
        go_roundw
        case rel => exact ⟨j + 1, by omega, by go_num, HO.out, trivial⟩
        case measure => simp [intOf]; omega
      | false =>
        rw [hq] at HFN
        have HO := Lib.hid (HY.out hq)
        clear hq HY HNX
        go_wp2_with (go_at_fn k; refine (HFN.out _).mono ?_; rintro e w1 ⟨rfl, rfl⟩)
        go_ret
        exact ⟨ret_bool HO.out.symm, rfl⟩
    · have hje : j = n := by omega
      have hjz : ¬ (j : Int) < (n : Int) := by omega
      have HO : Hid (someP q l = (l != [])) := by
        have h1 := HA.out
        rw [hje, HN.out, List.take_length] at h1
        show _ = _
        unfold someP
        rw [h1]
        rfl
      clear hje HA
      go_wp2
      go_ret
      refine ⟨ret_bool ?_, rfl⟩
      rw [HO.out]
      cases l <;> rfl
set_option maxRecDepth 100000 in
set_option maxHeartbeats 1000000 in
theorem isKey_any (l : List UInt8) (hl : l.length ≤ 4611686018427387904) (w : World) : Calls Tryz.prog 97 #[.string (bs l)] w fun e w' => e = .returned (.bool (keyP l)) ∧ w' = w := by
  have HS := Lib.hid (some_any isOfKey_any ent_key l hl w)
  unfold keyP
  cases hs : someP labB l with
  | false =>
    rw [hs] at HS
    go_enter Tryz.func97, Tryz.ntmps97
    go_wp2_with (go_at_call 54; refine HS.out.mono ?_; rintro e w1 ⟨rfl, rfl⟩)
    go_ret
    exact ⟨rfl, rfl⟩
  | true =>
    rw [hs] at HS
    obtain ⟨c, r, rfl⟩ : ∃ c r, l = c :: r := by
      cases l with
      | nil => unfold someP at hs; simp at hs
      | cons c r => exact ⟨c, r, rfl⟩
    have hix : ∀ W, (Instr.index 9 (.string (bs (c :: r))) (.int .i64 0)).run Tryz.prog W = .ok (.int .u8 (c.toNat : Int)) W := fun W => str_at (c :: r) 0 (by simp) W
    have hz : (c != 45) = !((c.toNat : Int) == 45) := all_u8 (P := fun c => (c != 45) = !((c.toNat : Int) == 45)) (by decide +kernel) c
    have hh : ((c :: r).head? != some 45) = !((c.toNat : Int) == 45) := hz
    rw [hh]
    clear hh hz hs hl
    generalize (c.toNat : Int) = n at *
    generalize bs (c :: r) = S at *
    go_enter Tryz.func97, Tryz.ntmps97
    go_wp2_with (go_at_call 54; refine HS.out.mono ?_; rintro e w1 ⟨rfl, rfl⟩)
    go_ret
    exact ⟨ret_bool rfl, rfl⟩
end Go.Proofs.YtnkepdeegpampaaGreatDoor
