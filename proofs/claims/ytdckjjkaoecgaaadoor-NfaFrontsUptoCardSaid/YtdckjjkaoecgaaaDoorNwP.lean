/-
  Marks and ways of a machine, in plain terms: a bit for each state; what a state comes to without a byte; what it stands at behind some bytes. No conditions.
-/
import Derived.Test.YtdckjjkaoecgaaaDoorNbP
import Derived.Lib.TrailingZeros
namespace Go.Proofs.YtdckjjkaoecgaaaDoor
open Go.RowKit

/-- is a place marked? -/
def bitAt (ws : List Nat) (p : Nat) : Bool := (ws.getD (p / 64) 0).testBit (p % 64)
def WordsOk (ws : List Nat) : Prop := ∀ x ∈ ws, x < 18446744073709551616
theorem words_getD {ws : List Nat} (h : WordsOk ws) (i : Nat) : ws.getD i 0 < 18446744073709551616 := by
  rw [List.getD_eq_getElem?_getD]
  cases hi : ws[i]? with
  | none => simp
  | some x => exact h x (List.mem_of_getElem? hi)
theorem bit_blank (n p : Nat) : bitAt (List.replicate n 0) p = false := by
  unfold bitAt
  rw [List.getD_eq_getElem?_getD, List.getElem?_replicate]
  split <;> simp
theorem words_blank (n : Nat) : WordsOk (List.replicate n 0) := fun x hx => by rw [List.eq_of_mem_replicate hx]; decide
theorem bit_far {ws : List Nat} {p : Nat} (h : 64 * ws.length ≤ p) : bitAt ws p = false := by
  unfold bitAt
  rw [List.getD_eq_getElem?_getD, List.getElem?_eq_none (by omega)]
  simp
/-- one more is marked -/
def putW (ws : List Nat) (p : Nat) : List Nat := ws.set (p / 64) (ws.getD (p / 64) 0 ||| 2 ^ (p % 64))
theorem putW_len (ws : List Nat) (p : Nat) : (putW ws p).length = ws.length := by unfold putW; rw [List.length_set]
theorem or_lt64 {a b : Nat} (ha : a < 18446744073709551616) (hb : b < 18446744073709551616) : a ||| b < 18446744073709551616 := Nat.or_lt_two_pow (n := 64) ha hb
theorem pow_lt64 (p : Nat) : 2 ^ (p % 64) < 18446744073709551616 := Nat.lt_of_lt_of_le (Nat.pow_lt_pow_right (a := 2) (by decide) (Nat.mod_lt p (y := 64) (by decide))) (by decide)
theorem putW_ok {ws : List Nat} (h : WordsOk ws) (p : Nat) : WordsOk (putW ws p) := by
  intro x hx
  rcases List.mem_or_eq_of_mem_set hx with hx | rfl
  · exact h x hx
  · exact or_lt64 (words_getD h _) (pow_lt64 p)
theorem bit_put {ws : List Nat} {p : Nat} (hp : p < 64 * ws.length) (q : Nat) : bitAt (putW ws p) q = (bitAt ws q || decide (q = p)) := by
  unfold bitAt putW
  by_cases h : q / 64 = p / 64
  · rw [List.getD_eq_getElem?_getD, h, List.getElem?_set_self (by omega), Option.getD_some, Nat.testBit_or, Nat.testBit_two_pow]
    congr 1
    rw [Bool.eq_iff_iff, decide_eq_true_iff, decide_eq_true_iff]
    omega
  · rw [List.getD_eq_getElem?_getD, List.getElem?_set_ne (by omega), ← List.getD_eq_getElem?_getD]
    have : ¬ q = p := by rintro rfl; exact h rfl
    simp [this]
/-- the lowest bit of a word, and the word without it -/
theorem low_bit {x : Nat} (h0 : x ≠ 0) (h : x < 18446744073709551616) : ∃ k m, Lib.ctz 64 x = k ∧ k < 64 ∧ x = 2 ^ k * (2 * m + 1) ∧ x &&& (x - 1) = 2 ^ k * (2 * m) ∧ x.testBit k = true ∧ ∀ j, (x &&& (x - 1)).testBit j = (x.testBit j && decide (j ≠ k)) := by
  obtain ⟨m, hm, hk⟩ := Lib.ctzFrom_spec 64 x (by omega) h
  refine ⟨Lib.ctzFrom 64 x, m, by unfold Lib.ctz; rw [if_neg h0], hk, hm, ?_⟩
  generalize Lib.ctzFrom 64 x = k at *
  have hp : 0 < 2 ^ k := Nat.two_pow_pos k
  have h1 : x - 1 = 2 ^ k * (2 * m) + (2 ^ k - 1) := by rw [hm, Nat.mul_add]; omega
  have hj : ∀ j, x.testBit j = (decide (k ≤ j) && (2 * m + 1).testBit (j - k)) := fun j => by rw [hm, Nat.testBit_two_pow_mul]
  have hj1 : ∀ j, (x - 1).testBit j = if j < k then (2 ^ k - 1).testBit j else (2 * m).testBit (j - k) := fun j => by rw [h1, Nat.testBit_two_pow_mul_add _ (by omega)]
  have hxk : x.testBit k = true := by rw [hj]; simp
  have key : ∀ j, (x &&& (x - 1)).testBit j = (x.testBit j && decide (j ≠ k)) := by
    intro j
    rw [Nat.testBit_and, hj1, hj]
    by_cases h2 : j < k
    · simp [h2, Nat.not_le.2 h2]
    · rw [if_neg h2]
      by_cases h3 : j = k
      · subst h3
        simp
      · obtain ⟨i, hi⟩ : ∃ i, j - k = i + 1 := ⟨j - k - 1, by omega⟩
        rw [hi, Nat.testBit_succ, Nat.testBit_succ, show (2 * m + 1) / 2 = m by omega, show 2 * m / 2 = m by omega]
        simp [h3]
  refine ⟨?_, hxk, key⟩
  refine Nat.eq_of_testBit_eq fun j => ?_
  rw [key, hj, Nat.testBit_two_pow_mul]
  by_cases h2 : k ≤ j
  · by_cases h3 : j = k
    · subst h3
      simp
    · obtain ⟨i, hi⟩ : ∃ i, j - k = i + 1 := ⟨j - k - 1, by omega⟩
      rw [hi, Nat.testBit_succ, Nat.testBit_succ, show (2 * m + 1) / 2 = m by omega, show 2 * m / 2 = m by omega]
      simp [h3]
  · simp [h2]
/-- what a state comes to without a byte -/
inductive Reach (st : List NS) : Nat → Nat → Prop
  | refl (p : Nat) : Reach st p p
  | left {p q : Nat} {s : NS} : st[p]? = some s → s.kind = 2 → Reach st s.a.toNat q → Reach st p q
  | right {p q : Nat} {s : NS} : st[p]? = some s → s.kind = 2 → Reach st s.b.toNat q → Reach st p q
theorem Reach.trans {st : List NS} {p q r : Nat} (h : Reach st p q) (k : Reach st q r) : Reach st p r := by
  induction h with
  | refl => exact k
  | left a b _ ih => exact .left a b (ih k)
  | right a b _ ih => exact .right a b (ih k)
/-- whoever is in comes along -/
def Closed (st : List NS) (S : Nat → Prop) : Prop := ∀ p s, S p → st[p]? = some s → s.kind = 2 → S s.a.toNat ∧ S s.b.toNat
theorem Closed.reach {st : List NS} {S : Nat → Prop} (h : Closed st S) {p q : Nat} (hr : Reach st p q) : S p → S q := by
  induction hr with
  | refl => exact id
  | left a b _ ih => exact fun hp => ih (h _ _ hp a b).1
  | right a b _ ih => exact fun hp => ih (h _ _ hp a b).2
/-- under way: what is marked, and what is ahead -/
structure ComeI (st : List NS) (M0 : Nat → Prop) (at_ : Nat) (M : Nat → Prop) (L : List Nat) : Prop where
  old : ∀ p, M0 p → M p
  come : ∀ p, M p → M0 p ∨ Reach st at_ p
  ahead : ∀ p ∈ L, Reach st at_ p
  here : M at_ ∨ at_ ∈ L
  next : ∀ p s, M p → st[p]? = some s → s.kind = 2 → (M s.a.toNat ∨ s.a.toNat ∈ L) ∧ (M s.b.toNat ∨ s.b.toNat ∈ L)
theorem ComeI.start {st : List NS} {M0 : Nat → Prop} (h : Closed st M0) (p : Nat) : ComeI st M0 p M0 [p] :=
  ⟨fun _ h => h, fun _ h => .inl h, fun q hq => by rw [List.mem_singleton.1 hq]; exact .refl _, .inr (List.mem_singleton.2 rfl), fun q s hq h1 h2 => ⟨.inl (h q s hq h1 h2).1, .inl (h q s hq h1 h2).2⟩⟩
theorem ComeI.done {st : List NS} {M0 M : Nat → Prop} {p : Nat} (h : ComeI st M0 p M []) : (∀ q, M q ↔ M0 q ∨ Reach st p q) ∧ Closed st M := by
  have hc : Closed st M := fun q s hq h1 h2 => ⟨((h.next q s hq h1 h2).1).resolve_right (by simp), ((h.next q s hq h1 h2).2).resolve_right (by simp)⟩
  refine ⟨fun q => ⟨h.come q, fun hq => ?_⟩, hc⟩
  rcases hq with hq | hq
  · exact h.old q hq
  · exact hc.reach hq (h.here.resolve_right (by simp))
theorem ComeI.skip {st : List NS} {M0 M : Nat → Prop} {p q : Nat} {L : List Nat} (h : ComeI st M0 p M (L ++ [q])) (hq : M q) : ComeI st M0 p M L := by
  have key : ∀ x, M x ∨ x ∈ L ++ [q] → M x ∨ x ∈ L := fun x hx => by
    rcases hx with hx | hx
    · exact .inl hx
    · rcases List.mem_append.1 hx with hx | hx
      · exact .inr hx
      · rw [List.mem_singleton.1 hx]; exact .inl hq
  exact ⟨h.old, h.come, fun x hx => h.ahead x (List.mem_append_left _ hx), key _ h.here, fun x s hx h1 h2 => ⟨key _ (h.next x s hx h1 h2).1, key _ (h.next x s hx h1 h2).2⟩⟩
theorem ComeI.mark {st : List NS} {M0 M M' : Nat → Prop} {p q : Nat} {L : List Nat} (h : ComeI st M0 p M (L ++ [q])) (hM : ∀ x, M' x ↔ M x ∨ x = q) {s : NS} (hs : st[q]? = some s) (hk : ¬ s.kind = 2) : ComeI st M0 p M' L := by
  have key : ∀ x, M x ∨ x ∈ L ++ [q] → M' x ∨ x ∈ L := fun x hx => by
    rcases hx with hx | hx
    · exact .inl ((hM x).2 (.inl hx))
    · rcases List.mem_append.1 hx with hx | hx
      · exact .inr hx
      · exact .inl ((hM x).2 (.inr (List.mem_singleton.1 hx)))
  refine ⟨fun x hx => (hM x).2 (.inl (h.old x hx)), fun x hx => ?_, fun x hx => h.ahead x (List.mem_append_left _ hx), key _ h.here, fun x t hx h1 h2 => ?_⟩
  · rcases (hM x).1 hx with hx | rfl
    · exact h.come x hx
    · exact .inr (h.ahead _ (by simp))
  · rcases (hM x).1 hx with hx | rfl
    · exact ⟨key _ (h.next x t hx h1 h2).1, key _ (h.next x t hx h1 h2).2⟩
    · rw [hs] at h1
      injection h1 with h1
      exact absurd (h1 ▸ h2) hk
theorem ComeI.fork {st : List NS} {M0 M M' : Nat → Prop} {p q : Nat} {L : List Nat} (h : ComeI st M0 p M (L ++ [q])) (hM : ∀ x, M' x ↔ M x ∨ x = q) {s : NS} (hs : st[q]? = some s) (hk : s.kind = 2) : ComeI st M0 p M' (L ++ [s.a.toNat, s.b.toNat]) := by
  have key : ∀ x, M x ∨ x ∈ L ++ [q] → M' x ∨ x ∈ L ++ [s.a.toNat, s.b.toNat] := fun x hx => by
    rcases hx with hx | hx
    · exact .inl ((hM x).2 (.inl hx))
    · rcases List.mem_append.1 hx with hx | hx
      · exact .inr (List.mem_append_left _ hx)
      · exact .inl ((hM x).2 (.inr (List.mem_singleton.1 hx)))
  have hq := h.ahead q (by simp)
  refine ⟨fun x hx => (hM x).2 (.inl (h.old x hx)), fun x hx => ?_, fun x hx => ?_, key _ h.here, fun x t hx h1 h2 => ?_⟩
  · rcases (hM x).1 hx with hx | rfl
    · exact h.come x hx
    · exact .inr hq
  · rcases List.mem_append.1 hx with hx | hx
    · exact h.ahead x (List.mem_append_left _ hx)
    · simp only [List.mem_cons, List.not_mem_nil, or_false] at hx
      rcases hx with rfl | rfl
      · exact hq.trans (.left hs hk (.refl _))
      · exact hq.trans (.right hs hk (.refl _))
  · rcases (hM x).1 hx with hx | rfl
    · exact ⟨key _ (h.next x t hx h1 h2).1, key _ (h.next x t hx h1 h2).2⟩
    · rw [hs] at h1
      injection h1 with h1
      subst h1
      exact ⟨.inr (by simp), .inr (by simp)⟩
/-- is a byte in a state's set? -/
def inNs (s : NS) (b : Nat) : Bool := ((if b / 64 = 0 then s.s0 else if b / 64 = 1 then s.s1 else if b / 64 = 2 then s.s2 else s.s3)).testBit (b % 64)
/-- what is stood at behind one byte more -/
def StepS (st : List NS) (S : Nat → Prop) (b : Nat) (q : Nat) : Prop := ∃ p s, S p ∧ st[p]? = some s ∧ s.kind = 1 ∧ inNs s b = true ∧ Reach st s.a.toNat q
/-- what is stood at behind some bytes -/
def StandS (st : List NS) (S : Nat → Prop) : List UInt8 → Nat → Prop
  | [] => S
  | c :: r => StandS st (StepS st S c.toNat) r
theorem stand_snoc (st : List NS) : ∀ (l : List UInt8) (S : Nat → Prop) (c : UInt8), StandS st S (l ++ [c]) = StepS st (StandS st S l) c.toNat
  | [], _, _ => rfl
  | x :: r, S, c => by
    show StandS st (StepS st S x.toNat) (r ++ [c]) = _
    rw [stand_snoc st r]
    rfl
theorem step_closed (st : List NS) (S : Nat → Prop) (b : Nat) : Closed st (StepS st S b) := by
  rintro p s ⟨q, t, h1, h2, h3, h4, h5⟩ hp hk
  exact ⟨⟨q, t, h1, h2, h3, h4, h5.trans (.left hp hk (.refl _))⟩, ⟨q, t, h1, h2, h3, h4, h5.trans (.right hp hk (.refl _))⟩⟩
theorem reach_closed (st : List NS) (p : Nat) : Closed st (Reach st p) := fun _ _ h hp hk => ⟨h.trans (.left hp hk (.refl _)), h.trans (.right hp hk (.refl _))⟩
/-- the least tag where it stands, or -1 -/
def TagOf (st : List NS) (S : Nat → Prop) (t : Int) : Prop :=
  (t = -1 ∧ ∀ p s, S p → st[p]? = some s → ¬ s.kind = 0) ∨ ((∃ p s, S p ∧ st[p]? = some s ∧ s.kind = 0 ∧ s.tag = t) ∧ ∀ p s, S p → st[p]? = some s → s.kind = 0 → t ≤ s.tag)
theorem TagOf.one {st : List NS} {S : Nat → Prop} {t u : Int} (hp : ∀ p s, S p → st[p]? = some s → s.kind = 0 → 0 ≤ s.tag) (h : TagOf st S t) (k : TagOf st S u) : t = u := by
  rcases h with ⟨h1, h2⟩ | ⟨⟨p, s, h1, h2, h3, h4⟩, h5⟩ <;> rcases k with ⟨k1, k2⟩ | ⟨⟨q, r, k1, k2, k3, k4⟩, k5⟩
  · omega
  · exact absurd k3 (h2 q r k1 k2)
  · exact absurd h3 (k2 p s h1 h2)
  · have := h5 q r k1 k2 k3
    have := k5 p s h1 h2 h3
    omega
theorem TagOf.congr {st : List NS} {S S' : Nat → Prop} {t : Int} (h : TagOf st S t) (e : ∀ p, p < st.length → (S p ↔ S' p)) : TagOf st S' t := by
  have lt : ∀ {p s}, st[p]? = some s → p < st.length := fun h => (List.getElem?_eq_some_iff.1 h).1
  rcases h with ⟨h1, h2⟩ | ⟨⟨p, s, h1, h2, h3, h4⟩, h5⟩
  · exact .inl ⟨h1, fun p s hp hs => h2 p s ((e p (lt hs)).2 hp) hs⟩
  · exact .inr ⟨⟨p, s, (e p (lt h2)).1 h1, h2, h3, h4⟩, fun q r hq hr => h5 q r ((e q (lt hr)).2 hq) hr⟩
/-- all ways lead to states -/
def WaysOk (st : List NS) : Prop := ∀ s ∈ st, (s.kind = 1 → 0 ≤ s.a ∧ s.a < st.length) ∧ (s.kind = 2 → 0 ≤ s.a ∧ s.a < st.length ∧ 0 ≤ s.b ∧ s.b < st.length)
theorem WaysOk.reach {st : List NS} (h : WaysOk st) {p q : Nat} (hr : Reach st p q) : p < st.length → q < st.length := by
  induction hr with
  | refl => exact id
  | left a b _ ih =>
    intro _
    have := (h _ (List.mem_of_getElem? a)).2 b
    exact ih (by omega)
  | right a b _ ih =>
    intro _
    have := (h _ (List.mem_of_getElem? a)).2 b
    exact ih (by omega)
end Go.Proofs.YtdckjjkaoecgaaaDoor
