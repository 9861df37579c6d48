/-
  What a machine stands at, reckoned by lists. No conditions.
-/
import Derived.Test.YtdckjjkaoecgaaaDoorNwP
namespace Go.Proofs.YtdckjjkaoecgaaaDoor
open Go.RowKit

/-- the ways of a split -/
def succL (st : List NS) (p : Nat) : List Nat := match st[p]? with
  | some s => if s.kind = 2 then [s.a.toNat, s.b.toNat] else []
  | none => []
def closeL (st : List NS) : Nat → List Nat → List Nat
  | 0, L => L
  | n + 1, L => closeL st n (L ++ (L.flatMap (succL st)).filter (fun q => !L.contains q))
def closedB (st : List NS) (L : List Nat) : Bool := L.all fun p => (succL st p).all fun q => L.contains q
theorem succ_reach {st : List NS} {p q : Nat} (h : q ∈ succL st p) : Reach st p q := by
  unfold succL at h
  split at h
  · rename_i s hs
    split at h
    · rename_i hk
      simp only [List.mem_cons, List.not_mem_nil, or_false] at h
      rcases h with rfl | rfl
      · exact .left hs hk (.refl _)
      · exact .right hs hk (.refl _)
    · cases h
  · cases h
theorem close_reach (st : List NS) : ∀ (n : Nat) (L : List Nat) (q : Nat), q ∈ closeL st n L → ∃ p ∈ L, Reach st p q
  | 0, L, q, h => ⟨q, h, .refl _⟩
  | n + 1, L, q, h => by
    obtain ⟨p, hp, hr⟩ := close_reach st n _ q h
    rcases List.mem_append.1 hp with hp | hp
    · exact ⟨p, hp, hr⟩
    · obtain ⟨r, h1, h2⟩ := List.mem_flatMap.1 (List.mem_filter.1 hp).1
      exact ⟨r, h1, (succ_reach h2).trans hr⟩
theorem close_has (st : List NS) : ∀ (n : Nat) (L : List Nat) (q : Nat), q ∈ L → q ∈ closeL st n L
  | 0, _, _, h => h
  | n + 1, L, q, h => close_has st n _ q (List.mem_append_left _ h)
theorem closed_of {st : List NS} {L : List Nat} (h : closedB st L = true) : Closed st (· ∈ L) := by
  intro p s hp hs hk
  unfold closedB at h
  have h2 := List.all_eq_true.1 h p hp
  unfold succL at h2
  rw [hs] at h2
  simp only [hk, if_true, List.all_cons, List.all_nil, Bool.and_true, Bool.and_eq_true, List.contains_iff_mem] at h2
  exact h2
theorem close_iff {st : List NS} {n : Nat} {L : List Nat} (h : closedB st (closeL st n L) = true) (q : Nat) : q ∈ closeL st n L ↔ ∃ p ∈ L, Reach st p q :=
  ⟨close_reach st n L q, fun ⟨_, hp, hr⟩ => (closed_of h).reach hr (close_has st n L _ hp)⟩
/-- one byte on -/
def onL (st : List NS) (L : List Nat) (c : Nat) : List Nat := L.flatMap fun p => match st[p]? with
  | some s => if s.kind = 1 ∧ inNs s c = true then [s.a.toNat] else []
  | none => []
theorem on_iff (st : List NS) (L : List Nat) (c q : Nat) : q ∈ onL st L c ↔ ∃ p s, p ∈ L ∧ st[p]? = some s ∧ s.kind = 1 ∧ inNs s c = true ∧ q = s.a.toNat := by
  unfold onL
  rw [List.mem_flatMap]
  constructor
  · rintro ⟨p, hp, h⟩
    split at h
    · rename_i s hs
      split at h
      · rename_i hk
        exact ⟨p, s, hp, hs, hk.1, hk.2, List.mem_singleton.1 h⟩
      · cases h
    · cases h
  · rintro ⟨p, s, hp, hs, h1, h2, rfl⟩
    refine ⟨p, hp, ?_⟩
    rw [hs]
    simp [h1, h2]
theorem step_close {st : List NS} {L : List Nat} {S : Nat → Prop} (hS : ∀ q, q ∈ L ↔ S q) {n c : Nat} (h : closedB st (closeL st n (onL st L c)) = true) (q : Nat) : q ∈ closeL st n (onL st L c) ↔ StepS st S c q := by
  rw [close_iff h]
  constructor
  · rintro ⟨p, hp, hr⟩
    obtain ⟨r, s, h1, h2, h3, h4, rfl⟩ := (on_iff st L c p).1 hp
    exact ⟨r, s, (hS r).1 h1, h2, h3, h4, hr⟩
  · rintro ⟨r, s, h1, h2, h3, h4, h5⟩
    exact ⟨s.a.toNat, (on_iff st L c _).2 ⟨r, s, (hS r).2 h1, h2, h3, h4, rfl⟩, h5⟩
/-- is this the least tag? -/
def tagB (st : List NS) (L : List Nat) (t : Int) : Bool :=
  (decide (t = -1) && L.all fun p => match st[p]? with | some s => decide (¬ s.kind = 0) | none => true) ||
  ((L.any fun p => match st[p]? with | some s => decide (s.kind = 0) && decide (s.tag = t) | none => false) && L.all fun p => match st[p]? with | some s => decide (¬ s.kind = 0) || decide (t ≤ s.tag) | none => true)
theorem tag_of {st : List NS} {L : List Nat} {S : Nat → Prop} (hS : ∀ q, q ∈ L ↔ S q) {t : Int} (h : tagB st L t = true) : TagOf st S t := by
  unfold tagB at h
  simp only [Bool.or_eq_true, Bool.and_eq_true, decide_eq_true_eq, List.all_eq_true, List.any_eq_true] at h
  rcases h with ⟨h1, h2⟩ | ⟨⟨p, h1, h2⟩, h3⟩
  · refine .inl ⟨h1, fun p s hp hs => ?_⟩
    have h4 := h2 p ((hS p).2 hp)
    rw [hs] at h4
    simpa using h4
  · refine .inr ⟨?_, fun q s hq hs hk => ?_⟩
    · cases hs : st[p]? with
      | none => rw [hs] at h2; cases h2
      | some s =>
        rw [hs] at h2
        simp only [Bool.and_eq_true, decide_eq_true_eq] at h2
        exact ⟨p, s, (hS p).1 h1, hs, h2.1, h2.2⟩
    · have h4 := h3 q ((hS q).2 hq)
      rw [hs] at h4
      simp only [Bool.or_eq_true, decide_eq_true_eq] at h4
      rcases h4 with h4 | h4
      · exact absurd hk h4
      · exact h4
/-- the tags of a text, from where a machine stands -/
def runB (st : List NS) (n : Nat) : List Nat → List UInt8 → List Int → Bool
  | L, [], ts => match ts with
    | [t] => tagB st L t
    | _ => false
  | L, c :: r, ts => match ts with
    | t :: ts => tagB st L t && (closedB st (closeL st n (onL st L c.toNat)) && runB st n (closeL st n (onL st L c.toNat)) r ts)
    | [] => false
theorem run_of {st : List NS} {n : Nat} : ∀ (l : List UInt8) (L : List Nat) (S : Nat → Prop) (ts : List Int), (∀ q, q ∈ L ↔ S q) → runB st n L l ts = true → ts.length = l.length + 1 ∧ ∀ i, i ≤ l.length → TagOf st (StandS st S (l.take i)) (ts.getD i 0)
  | [], L, S, ts, hS, h => by
    match ts, h with
    | [t], h =>
      refine ⟨rfl, fun i hi => ?_⟩
      have : i = 0 := by simpa using hi
      subst this
      exact tag_of hS h
  | c :: r, L, S, ts, hS, h => by
    match ts, h with
    | t :: ts, h =>
      simp only [runB, Bool.and_eq_true] at h
      obtain ⟨h1, h2, h3⟩ := h
      obtain ⟨h4, h5⟩ := run_of r _ (StepS st S c.toNat) ts (step_close hS h2) h3
      refine ⟨by simp [h4], fun i hi => ?_⟩
      cases i with
      | zero => exact tag_of hS h1
      | succ i => exact h5 i (by simpa using hi)
/-- the tags of a text are these -/
def tagsB (st : List NS) (p n : Nat) (l : List UInt8) (ts : List Int) : Bool := closedB st (closeL st n [p]) && runB st n (closeL st n [p]) l ts
theorem tags_of {st : List NS} {p n : Nat} {l : List UInt8} {ts us : List Int} (h : tagsB st p n l us = true) (htg : ∀ s ∈ st, s.kind = 0 → 0 ≤ s.tag) (hl : ts.length = l.length + 1) (ht : ∀ i, i ≤ l.length → TagOf st (StandS st (Reach st p) (l.take i)) (ts.getD i 0)) : ts = us := by
  unfold tagsB at h
  rw [Bool.and_eq_true] at h
  obtain ⟨h1, h2⟩ := run_of l _ (Reach st p) us (fun q => by rw [close_iff h.1]; exact ⟨fun ⟨_, h3, h4⟩ => by rw [List.mem_singleton.1 h3] at h4; exact h4, fun h3 => ⟨p, by simp, h3⟩⟩) h.2
  refine List.ext_getElem (by omega) fun i hi1 hi2 => ?_
  have h3 := ht i (by omega)
  have h4 := h2 i (by omega)
  have h5 := TagOf.one (fun q s _ hs hk => htg s (List.mem_of_getElem? hs) hk) h3 h4
  rw [List.getD_eq_getElem?_getD, List.getD_eq_getElem?_getD, List.getElem?_eq_getElem hi1, List.getElem?_eq_getElem hi2] at h5
  exact h5
/-- the chapter's machine -/
def wakeN : List NS := [⟨0, 0, 0, 0, 0, 0, 0, 0⟩, ⟨1, 0, 17179869184, 0, 0, 0, 0, 0⟩, ⟨0, 0, 0, 0, 0, 0, 0, 1⟩, ⟨2, 0, 0, 0, 0, 4, 2, 0⟩, ⟨1, 0, 8589934592, 0, 0, 3, 0, 0⟩, ⟨2, 0, 0, 0, 0, 1, 3, 0⟩]
theorem wake1 : tagsB wakeN 5 6 [98] [1, 0] = true := by decide +kernel
theorem wake2 : tagsB wakeN 5 6 [97, 97, 98] [1, 1, 1, -1] = true := by decide +kernel
theorem wake3 : tagsB wakeN 5 6 [] [1] = true := by decide +kernel
end Go.Proofs.YtdckjjkaoecgaaaDoor
