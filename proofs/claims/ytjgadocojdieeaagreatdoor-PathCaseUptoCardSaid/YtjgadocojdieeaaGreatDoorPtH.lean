/-
  Paths in plain terms: what is right, and how it is printed; printed, it is read as the same. No conditions.
-/
import Derived.Test.YtjgadocojdieeaaGreatDoorPtG
namespace Go.Proofs.YtjgadocojdieeaaGreatDoor

def quoteD (l : List UInt8) : List UInt8 := l.flatMap fun c => if c = 34 ∨ c = 92 then [92, c] else [c]
def locD (l : List UInt8) : List UInt8 := if aB l = true then l else 34 :: (quoteD l ++ [34])
def domD (d : List UInt8) (lit : Bool) : List UInt8 := if lit = true then 91 :: (d ++ [93]) else d
def boxD (loc d : List UInt8) (lit : Bool) : List UInt8 := locD loc ++ 64 :: domD d lit
def fineB (d : List UInt8) : Bool := dB d && !dL d
def toldB (is : List UInt8 → Bool) (d : List UInt8) : Bool := is d && decide (d = low d)
def rightBoxD (loc d : List UInt8) (lit : Bool) : Bool := decide (loc.length ≤ 64) && !loc.any notB && (if lit = true then toldB wB d else toldB fineB d)
def aloneB (p : Pa) : Bool := decide (p.loc = postP) && decide (p.dom = []) && !p.lit
def rightD (p : Pa) : Bool :=
  if p.null = true then decide (p.route.length = 0) && (decide (p.loc = []) && decide (p.dom = []) && !p.lit)
  else if aloneB p = true then decide (p.route.length = 0)
  else decide (p.route.length ≤ 20) && p.route.all (toldB fineB) && rightBoxD p.loc p.dom p.lit
def routeD : List (List UInt8) → List UInt8
  | [] => []
  | d :: L => 64 :: (d ++ (hopsT L ++ [58]))
def printD (p : Pa) : List UInt8 := if p.null = true then [60, 62] else if aloneB p = true then aloneT else 60 :: (routeD p.route ++ (boxD p.loc p.dom p.lit ++ [62]))

theorem quote_pieces (l : List UInt8) : quoteD l = quoT (l.map fun c => (decide (c = 34 ∨ c = 92), c)) := by
  unfold quoteD quoT
  rw [List.flatMap_map]
  congr 1
  funext c
  by_cases h : c = 34 ∨ c = 92
  · rw [if_pos h, decide_eq_true h]; rfl
  · rw [if_neg h, decide_eq_false h]; rfl
theorem loc_print {l : List UInt8} (h : l.any notB = false) : LocT (locD l) l := by
  unfold locD
  by_cases ha : aB l = true
  · rw [if_pos ha]; exact .inl ⟨ha, rfl⟩
  · rw [if_neg ha]
    refine .inr ⟨l.map fun c => (decide (c = 34 ∨ c = 92), c), ?_, by rw [quote_pieces], by rw [List.map_map]; exact (List.map_id l).symm⟩
    intro p hp
    obtain ⟨c, hc, rfl⟩ := List.mem_map.1 hp
    refine ⟨?_, fun hd => ?_⟩
    · simp only [List.any_eq_false, Bool.not_eq_true] at h
      exact h c hc
    · simp only [decide_eq_false_iff_not, not_or] at hd
      exact hd
theorem box_print {loc d : List UInt8} {lit : Bool} (h : rightBoxD loc d lit = true) : BoxT (boxD loc d lit) loc d lit false := by
  unfold rightBoxD at h
  simp only [Bool.and_eq_true, decide_eq_true_eq, Bool.not_eq_true'] at h
  obtain ⟨⟨h1, h2⟩, h3⟩ := h
  refine ⟨locD loc, domD d lit, false, loc_print h2, ?_, rfl, ?_⟩
  · cases lit with
    | true =>
      simp only [if_true, toldB, Bool.and_eq_true, decide_eq_true_eq] at h3
      exact .inr ⟨rfl, rfl, d, h3.1, rfl, h3.2⟩
    | false =>
      simp only [Bool.false_eq_true, if_false, toldB, fineB, Bool.and_eq_true, decide_eq_true_eq, Bool.not_eq_true'] at h3
      exact .inl ⟨rfl, h3.1.1, h3.2, h3.1.2.symm⟩
  · rw [decide_eq_false (by omega)]; rfl
theorem route_print {ds : List (List UInt8)} (hl : ds.length ≤ 20) (h : ds.all (toldB fineB) = true) : RouteT (routeD ds) ds false := by
  cases ds with
  | nil => exact .inl ⟨rfl, rfl, rfl⟩
  | cons d L =>
    have hall : ∀ e ∈ d :: L, toldB fineB e = true := by simpa [List.all_eq_true] using h
    have hd : ∀ e ∈ d :: L, dB e = true ∧ dL e = false ∧ low e = e := fun e he => by
      have := hall e he
      simp only [toldB, fineB, Bool.and_eq_true, decide_eq_true_eq, Bool.not_eq_true'] at this
      exact ⟨this.1.1, this.1.2, this.2.symm⟩
    refine .inr ⟨d, L, fun e he => (hd e he).1, rfl, ?_, ?_⟩
    · conv => lhs; rw [← List.map_id (d :: L)]
      exact List.map_congr_left fun e he => (hd e he).2.2.symm
    · have h1 : (d :: L).any dL = false := by
        rw [List.any_eq_false]
        intro e he
        rw [(hd e he).2.1]
        simp
      rw [h1, decide_eq_false (by omega)]
      rfl
theorem pa_alone {p : Pa} (hn : p.null = false) (h : aloneB p = true) (hr : p.route.length = 0) : p = { loc := postP } := by
  unfold aloneB at h
  simp only [Bool.and_eq_true, decide_eq_true_eq, Bool.not_eq_true'] at h
  obtain ⟨⟨h1, h2⟩, h3⟩ := h
  have := List.eq_nil_of_length_eq_zero hr
  cases p
  simp_all
/-- what is right is printed as a text that says it -/
theorem print_path {p : Pa} (h : rightD p = true) : PathT (printD p) p false := by
  unfold rightD at h
  unfold printD
  split at h
  · rename_i hn
    rw [if_pos hn]
    simp only [Bool.and_eq_true, decide_eq_true_eq, Bool.not_eq_true'] at h
    obtain ⟨h1, ⟨h2, h3⟩, h4⟩ := h
    refine .inl ⟨rfl, ?_, rfl⟩
    have := List.eq_nil_of_length_eq_zero h1
    cases p
    simp_all
  · rename_i hn
    rw [if_neg hn]
    split at h
    · rename_i ha
      rw [if_pos ha]
      refine .inr (.inl ⟨by decide, pa_alone (by simpa using hn) ha (by simpa using h), rfl⟩)
    · rename_i ha
      rw [if_neg ha]
      simp only [Bool.and_eq_true, decide_eq_true_eq] at h
      obtain ⟨⟨h1, h2⟩, h3⟩ := h
      refine .inr (.inr ⟨routeD p.route, p.route, false, boxD p.loc p.dom p.lit, p.loc, p.dom, p.lit, false, route_print h1 h2, box_print h3, rfl, ?_, rfl⟩)
      have : p.null = false := by simpa using hn
      cases p
      simp_all
theorem dom_all_low {l m : List UInt8} (h : low l = low m) : dB l = dB m ∧ dL l = dL m := all_low (sim_domain (stop_nil _)) h
theorem words_all_low {l m : List UInt8} (h : low l = low m) : wB l = wB m := (all_low (sim_words (stop_nil _)) h).1
theorem fine_low {l : List UInt8} (h : dB l = true) (h2 : dL l = false) : toldB fineB (low l) = true := by
  have := dom_all_low (l := low l) (m := l) (low_low l)
  unfold toldB fineB
  rw [this.1, this.2, h, h2, low_low]
  simp
theorem words_low {l : List UInt8} (h : wB l = true) : toldB wB (low l) = true := by
  unfold toldB
  rw [words_all_low (l := low l) (m := l) (low_low l), h, low_low]
  simp
theorem atm_shown : ∀ c, atmB c = true ∨ c = 46 → notB c = false := all_u8 (by decide +kernel)
theorem loc_shown {t m : List UInt8} (h : LocT t m) : m.any notB = false := by
  rw [List.any_eq_false]
  intro c hc
  rcases h with ⟨h1, rfl⟩ | ⟨ps, h1, _, rfl⟩
  · rw [atm_shown c (aB_bytes h1 c hc)]; simp
  · obtain ⟨p, hp, rfl⟩ := List.mem_map.1 hc
    rw [(h1 p hp).1]; simp
theorem box_right {t loc d : List UInt8} {lit : Bool} (h : BoxT t loc d lit false) : rightBoxD loc d lit = true ∧ (lit = true ∨ d ≠ []) := by
  obtain ⟨l, u, g, h1, h2, rfl, h4⟩ := h
  have h4' : (decide (64 < loc.length) || g) = false := h4.symm
  rw [Bool.or_eq_false_iff] at h4'
  obtain ⟨h5, h6⟩ := h4'
  have h5' : ¬ 64 < loc.length := of_decide_eq_false h5
  subst h6
  unfold rightBoxD
  rw [loc_shown h1, decide_eq_true (by omega : loc.length ≤ 64)]
  rcases h2 with ⟨rfl, k1, rfl, k2⟩ | ⟨rfl, _, w, k1, _, rfl⟩
  · refine ⟨by simp [fine_low k1 k2.symm], .inr ?_⟩
    obtain ⟨c, r, rfl, _⟩ := dB_head k1
    simp [low]
  · exact ⟨by simp [words_low k1], .inl rfl⟩
theorem route_right {t : List UInt8} {ds : List (List UInt8)} (h : RouteT t ds false) : ds.length ≤ 20 ∧ ds.all (toldB fineB) = true := by
  rcases h with ⟨_, rfl, _⟩ | ⟨d, L, h1, _, rfl, h2⟩
  · exact ⟨by simp, rfl⟩
  · have h2' : ((d :: L).any dL || decide (20 < (d :: L).length)) = false := h2.symm
    rw [Bool.or_eq_false_iff] at h2'
    obtain ⟨h3, h4⟩ := h2'
    have h4' : ¬ 20 < (d :: L).length := of_decide_eq_false h4
    refine ⟨by rw [List.length_map]; omega, ?_⟩
    rw [List.all_eq_true]
    intro e he
    obtain ⟨x, hx, rfl⟩ := List.mem_map.1 he
    rw [List.any_eq_false] at h3
    exact fine_low (h1 x hx) (by simpa using h3 x hx)
/-- what a text says is right -/
theorem path_right {t : List UInt8} {p : Pa} (h : PathT t p false) : rightD p = true := by
  rcases h with ⟨_, rfl, _⟩ | ⟨_, rfl, _⟩ | ⟨rt, ds, l1, bt, loc, d, lit, l2, h1, h2, _, rfl, h3⟩
  · decide
  · decide
  · have h3' : (l1 || l2) = false := h3.symm
    rw [Bool.or_eq_false_iff] at h3'
    obtain ⟨rfl, rfl⟩ := h3'
    obtain ⟨k1, k2⟩ := box_right h2
    obtain ⟨k3, k4⟩ := route_right h1
    have ha : aloneB ⟨false, ds, loc, d, lit⟩ = false := by
      unfold aloneB
      simp only
      rcases k2 with k2 | k2
      · rw [k2]; simp
      · rw [decide_eq_false k2]; simp
    unfold rightD
    simp only [Bool.false_eq_true, if_false]
    rw [ha]
    simp only [Bool.false_eq_true, if_false]
    rw [k1, k4, decide_eq_true k3]
    rfl
/-- what is printed is no longer than what was read -/
theorem quote_len : ∀ ps : List (Bool × UInt8), (∀ p ∈ ps, okQ p) → (quoteD (ps.map (·.2))).length ≤ (quoT ps).length
  | [], _ => by simp [quoteD, quoT]
  | (b, c) :: ps, h => by
    have ih := quote_len ps (fun p hp => h p (by simp [hp]))
    obtain ⟨_, h2⟩ := h (b, c) (by simp)
    simp only at h2
    unfold quoteD quoT at *
    rw [List.map_cons, List.flatMap_cons, List.flatMap_cons, List.length_append, List.length_append]
    have : (if c = 34 ∨ c = 92 then [92, c] else [c]).length ≤ (if b = true then [92, c] else [c]).length := by
      cases b with
      | true => split <;> simp
      | false =>
        rw [if_neg (by simp [h2 rfl])]
        simp
    simp only at this ⊢
    omega
theorem meant_len (ps : List (Bool × UInt8)) : (ps.map (·.2)).length ≤ (quoT ps).length := by
  unfold quoT
  induction ps with
  | nil => simp
  | cons p ps ih =>
    rw [List.map_cons, List.flatMap_cons, List.length_append, List.length_cons]
    have : 1 ≤ (if p.1 = true then [92, p.2] else [p.2]).length := by split <;> simp
    omega
theorem loc_len {t m : List UInt8} (h : LocT t m) : (locD m).length ≤ t.length := by
  unfold locD
  rcases h with ⟨h1, rfl⟩ | ⟨ps, h1, rfl, rfl⟩
  · rw [if_pos h1]; exact Nat.le_refl _
  · have := quote_len ps h1
    split
    · have h3 := meant_len ps
      simp at h3 ⊢
      omega
    · simp at this ⊢
      omega
theorem dom_len {t d : List UInt8} {lit lg : Bool} (h : DomT t d lit lg) : (domD d lit).length = t.length := by
  rcases h with ⟨rfl, _, rfl, _⟩ | ⟨rfl, _, w, _, rfl, rfl⟩
  · simp [domD, low_len]
  · simp [domD, low_len]
theorem hops_low (L : List (List UInt8)) : (hopsT (L.map low)).length = (hopsT L).length := by
  unfold hopsT
  induction L with
  | nil => rfl
  | cons d L ih =>
    rw [List.map_cons, List.flatMap_cons, List.flatMap_cons, List.length_append, List.length_append, ih]
    simp [low_len]
theorem print_len {t : List UInt8} {p : Pa} (h : PathT t p false) : (printD p).length ≤ t.length := by
  have hr := path_right h
  rcases h with ⟨rfl, rfl, _⟩ | ⟨h1, rfl, _⟩ | ⟨rt, ds, l1, bt, loc, d, lit, l2, h1, h2, rfl, rfl, h3⟩
  · decide
  · have := congrArg List.length h1
    rw [low_len] at this
    have e : printD { loc := postP } = aloneT := by decide
    rw [e, ← this]
    exact Nat.le_refl _
  · unfold printD
    have h3' : (l1 || l2) = false := h3.symm
    rw [Bool.or_eq_false_iff] at h3'
    obtain ⟨rfl, rfl⟩ := h3'
    have ha : aloneB ⟨false, ds, loc, d, lit⟩ = false := by
      obtain ⟨k1, k2⟩ := box_right h2
      unfold aloneB
      simp only
      rcases k2 with k2 | k2
      · rw [k2]; simp
      · rw [decide_eq_false k2]; simp
    simp only [Bool.false_eq_true, if_false, ha]
    obtain ⟨l, u, g, k1, k2, rfl, _⟩ := h2
    have m1 := loc_len k1
    have m2 := dom_len k2
    have m3 : (routeD ds).length = rt.length := by
      rcases h1 with ⟨rfl, rfl, _⟩ | ⟨e, L, _, rfl, rfl, _⟩
      · rfl
      · have := hops_low L
        simp [routeD, low_len, this]
    unfold boxD
    simp only [List.length_cons, List.length_append, List.length_nil]
    omega
end Go.Proofs.YtjgadocojdieeaaGreatDoor
