/-
  Merged texts (NlP, NaX, NaQ, NcP, NlQ, NlR, NtA, NoP, NoA, NoM, RlF, RxS, NoW), each under a head of its own that says what it proves and under which conditions.
-/
import Derived.Test.YtlhcckihnkkeaaaDoorNwP
import Derived.Test.YtlhcckihnkkeaaaDoorNbV
import Derived.Test.YtlhcckihnkkeaaaDoorRxA
import Derived.Test.YtlhcckihnkkeaaaDoorNbX
import Derived.Test.YtlhcckihnkkeaaaDoorNaR
import Derived.Test.YtlhcckihnkkeaaaDoorRxP
import Derived.Test.YtlhcckihnkkeaaaDoorNwR
import Derived.Test.YtlhcckihnkkeaaaDoorNaW
import Derived.Deep.DeepCutAuto
import Derived.Test.YtlhcckihnkkeaaaDoorGa
import Derived.BigQuiet
import Derived.Laws.Bits64b
import Derived.Test.YtlhcckihnkkeaaaDoorGd
import Derived.OwnWalk
/-
  The texts that a regular tree has, and the ways of its machine: a tree toward a state comes to it by just the texts that it has. No conditions but right trees.
-/
namespace Go.Proofs.YtlhcckihnkkeaaaDoor
open Go.RowKit

/-- as often as may be -/
inductive StarL (P : List UInt8 → Prop) : List UInt8 → Prop
  | nil : StarL P []
  | cons {u v : List UInt8} : P u → StarL P v → StarL P (u ++ v)
def inW (s0 s1 s2 s3 b : Nat) : Bool := ((if b / 64 = 0 then s0 else if b / 64 = 1 then s1 else if b / 64 = 2 then s2 else s3)).testBit (b % 64)
mutual
/-- a tree has a text -/
def hasR : Ry → List UInt8 → Prop
  | .mk k s0 s1 s2 s3 _ _ ks, u => if k = 0 then u = [] else if k = 1 then ∃ b : UInt8, u = [b] ∧ inW s0 s1 s2 s3 b.toNat = true else if k = 2 then rowL ks u else if k = 3 then anyL ks u else if k = 4 then ks.length = 1 ∧ StarL (anyL ks) u else False
def rowL : List Ry → List UInt8 → Prop
  | [], u => u = []
  | t :: r, u => ∃ v w, u = v ++ w ∧ hasR t v ∧ rowL r w
def anyL : List Ry → List UInt8 → Prop
  | [], _ => False
  | t :: r, u => hasR t u ∨ anyL r u
end
theorem hasR_eq (t : Ry) (u : List UInt8) : hasR t u = if t.kind = 0 then u = [] else if t.kind = 1 then ∃ b : UInt8, u = [b] ∧ inW t.s0 t.s1 t.s2 t.s3 b.toNat = true else if t.kind = 2 then rowL t.kids u else if t.kind = 3 then anyL t.kids u else if t.kind = 4 then t.kids.length = 1 ∧ StarL (anyL t.kids) u else False := by
  cases t
  rw [hasR]
  rfl
theorem anyL_iff (u : List UInt8) : ∀ ks : List Ry, anyL ks u ↔ ∃ t ∈ ks, hasR t u
  | [] => by simp [anyL]
  | t :: r => by
    rw [anyL, anyL_iff u r]
    simp
/-! ### ways -/
/-- a way of so many steps from a state to another one, by which a text is read -/
inductive WayN (M : List NS) (q : Nat) : Nat → Nat → List UInt8 → Prop
  | done : WayN M q 0 q []
  | byte {n p : Nat} {x : NS} {c : UInt8} {l : List UInt8} : M[p]? = some x → x.kind = 1 → inNs x c.toNat = true → WayN M q n x.a.toNat l → WayN M q (n + 1) p (c :: l)
  | left {n p : Nat} {x : NS} {l : List UInt8} : M[p]? = some x → x.kind = 2 → WayN M q n x.a.toNat l → WayN M q (n + 1) p l
  | right {n p : Nat} {x : NS} {l : List UInt8} : M[p]? = some x → x.kind = 2 → WayN M q n x.b.toNat l → WayN M q (n + 1) p l
/-- an end -/
def EndAt (M : List NS) (q : Nat) : Prop := ∃ y, M[q]? = some y ∧ y.kind = 0
theorem way_end {M : List NS} {q p n : Nat} {l : List UInt8} (hp : EndAt M p) (h : WayN M q n p l) : q = p ∧ l = [] := by
  obtain ⟨y, h1, h2⟩ := hp
  cases h with
  | done => exact ⟨rfl, rfl⟩
  | byte a b _ _ => rw [h1] at a; injection a with a; subst a; omega
  | left a b _ => rw [h1] at a; injection a with a; subst a; omega
  | right a b _ => rw [h1] at a; injection a with a; subst a; omega
theorem way_byte {M : List NS} {q p n : Nat} {x : NS} {l : List UInt8} (hq : EndAt M q) (hx : M[p]? = some x) (hk : x.kind = 1) (h : WayN M q n p l) : ∃ c r m, n = m + 1 ∧ l = c :: r ∧ inNs x c.toNat = true ∧ WayN M q m x.a.toNat r := by
  obtain ⟨y, h1, h2⟩ := hq
  cases h with
  | done => rw [h1] at hx; injection hx with hx; subst hx; omega
  | byte a b c d => rw [hx] at a; injection a with a; subst a; exact ⟨_, _, _, rfl, rfl, c, d⟩
  | left a b _ => rw [hx] at a; injection a with a; subst a; omega
  | right a b _ => rw [hx] at a; injection a with a; subst a; omega
theorem way_split {M : List NS} {q p n : Nat} {x : NS} {l : List UInt8} (hq : EndAt M q) (hx : M[p]? = some x) (hk : x.kind = 2) (h : WayN M q n p l) : ∃ m, n = m + 1 ∧ (WayN M q m x.a.toNat l ∨ WayN M q m x.b.toNat l) := by
  obtain ⟨y, h1, h2⟩ := hq
  cases h with
  | done => rw [h1] at hx; injection hx with hx; subst hx; omega
  | byte a b c d => rw [hx] at a; injection a with a; subst a; omega
  | left a b c => rw [hx] at a; injection a with a; subst a; exact ⟨_, rfl, .inl c⟩
  | right a b c => rw [hx] at a; injection a with a; subst a; exact ⟨_, rfl, .inr c⟩
theorem WayN.more {M : List NS} {q : Nat} {n m p r : Nat} {l k : List UInt8} (h : WayN M r n p l) (g : WayN M q m r k) : WayN M q (n + m) p (l ++ k) := by
  induction h with
  | done => rw [Nat.zero_add]; exact g
  | byte a b c _ ih => rw [Nat.add_right_comm]; exact .byte a b c ih
  | left a b _ ih => rw [Nat.add_right_comm]; exact .left a b ih
  | right a b _ ih => rw [Nat.add_right_comm]; exact .right a b ih
theorem reach_way {M : List NS} {p q : Nat} (h : Reach M p q) : ∃ n, WayN M q n p [] := by
  induction h with
  | refl p => exact ⟨0, .done⟩
  | left a b _ ih => exact ⟨_, .left a b ih.choose_spec⟩
  | right a b _ ih => exact ⟨_, .right a b ih.choose_spec⟩
theorem stand_way {M : List NS} {q : Nat} : ∀ (l : List UInt8) (S : Nat → Prop), StandS M S l q → ∃ p n, S p ∧ WayN M q n p l
  | [], S, h => ⟨q, 0, h, .done⟩
  | c :: r, S, h => by
    obtain ⟨p, n, ⟨p1, x, h1, h2, h3, h4, h5⟩, hw⟩ := stand_way r _ h
    obtain ⟨m, hm⟩ := reach_way h5
    exact ⟨p1, _, h1, .byte h2 h3 h4 (hm.more hw)⟩
theorem stand_mono {M : List NS} {q : Nat} : ∀ (l : List UInt8) (S S' : Nat → Prop), (∀ p, S p → S' p) → StandS M S l q → StandS M S' l q
  | [], _, _, h, k => h q k
  | _ :: r, _, _, h, k => stand_mono r _ _ (fun _ ⟨p1, x, h1, h2⟩ => ⟨p1, x, h p1 h1, h2⟩) k
theorem way_stand {M : List NS} {q n p : Nat} {l : List UInt8} (h : WayN M q n p l) : StandS M (Reach M p) l q := by
  induction h with
  | done => exact .refl _
  | @byte n p x c l a b d _ ih =>
    show StandS M (StepS M (Reach M p) c.toNat) l q
    exact stand_mono l _ _ (fun y hy => ⟨p, x, .refl _, a, b, d, hy⟩) ih
  | left a b _ ih => exact stand_mono _ _ _ (fun y hy => .left a b hy) ih
  | right a b _ ih => exact stand_mono _ _ _ (fun y hy => .right a b hy) ih
theorem stand_iff {M : List NS} {q p : Nat} {l : List UInt8} : StandS M (Reach M p) l q ↔ ∃ n, WayN M q n p l := by
  constructor
  · intro h
    obtain ⟨p1, n, h1, h2⟩ := stand_way l _ h
    obtain ⟨m, hm⟩ := reach_way h1
    exact ⟨_, hm.more h2⟩
  · rintro ⟨n, h⟩
    exact way_stand h
/-! ### what is made stays -/
theorem open_keeps (t : Ry) (tw : Int) (st : List NS) (k : Nat) (hk : k < st.length) : (openP t tw st).2[k]? = st[k]? := by
  unfold openP
  (repeat' split) <;> first | rfl | exact List.getElem?_append_left hk
theorem join_keeps (p : Pq) (kid : Int) (st : List NS) (k : Nat) (hk : k < st.length) (h4 : p.kind = 4 → k ≠ p.begin.toNat) : (joinP p kid st).2[k]? = st[k]? := by
  unfold joinP
  by_cases k2 : p.kind = 2
  · rw [if_pos k2]
  · rw [if_neg k2]
    by_cases k3 : p.kind = 3
    · rw [if_pos k3]
      split
      · rfl
      · exact List.getElem?_append_left hk
    · rw [if_neg k3]
      by_cases k4 : p.kind = 4
      · rw [if_pos k4]
        exact List.getElem?_modify_ne _ _ (Ne.symm (h4 k4))
      · rw [if_neg k4]
theorem joinP_kind (p : Pq) (kid : Int) (st : List NS) : (joinP p kid st).1.kind = p.kind ∧ (p.kind = 4 → (joinP p kid st).1 = p) ∧ (p.kind = 3 → (joinP p kid st).1.tw = p.tw) := by
  unfold joinP
  refine ⟨?_, fun h => ?_, fun h => ?_⟩
  · (repeat' split) <;> rfl
  · rw [if_neg (by omega), if_neg (by omega), if_pos h]
  · rw [if_neg (by omega), if_pos h]
    split <;> rfl
theorem kidsR_kind : ∀ (ks : List Ry) (p : Pq) (st : List NS), (kidsR ks p st).1.kind = p.kind ∧ (p.kind = 4 → (kidsR ks p st).1 = p) ∧ (p.kind = 3 → (kidsR ks p st).1.tw = p.tw)
  | [], p, st => by rw [kidsR_nil]; exact ⟨rfl, fun _ => rfl, fun _ => rfl⟩
  | k :: ks, p, st => by
    obtain ⟨h1, h2, h3⟩ := kidsR_kind ks p st
    rw [kidsR_cons]
    obtain ⟨j1, j2, j3⟩ := joinP_kind (kidsR ks p st).1 (towardR k (kidsR ks p st).1.tw (kidsR ks p st).2).1 (towardR k (kidsR ks p st).1.tw (kidsR ks p st).2).2
    exact ⟨j1.trans h1, fun h => (j2 (h1.trans h)).trans (h2 h), fun h => (j3 (h1.trans h)).trans (h3 h)⟩
mutual
theorem toward_keeps : ∀ (t : Ry) (tw : Int) (st : List NS) (k : Nat), k < st.length → (towardR t tw st).2[k]? = st[k]?
  | .mk kd s0 s1 s2 s3 a c kids, tw, st, k, hk => by
    rw [towardR]
    have h1 := open_keeps (.mk kd s0 s1 s2 s3 a c kids) tw st k hk
    have h2 := open_grows (.mk kd s0 s1 s2 s3 a c kids) tw st
    refine (kids_keep kids _ _ k (by omega) (fun h4 => ?_)).trans h1
    unfold openP at h4 ⊢
    split
    · rename_i h
      rw [if_pos h] at h4
      simp only at h4
      have : (Ry.mk kd s0 s1 s2 s3 a c kids).kind = 4 := h4
      omega
    · split
      · rename_i h h'
        rw [if_neg h, if_pos h'] at h4
        simp only at h4
        have : (Ry.mk kd s0 s1 s2 s3 a c kids).kind = 4 := h4
        omega
      · split
        · simp only [Int.toNat_natCast]
          omega
        · rename_i h h' h''
          rw [if_neg h, if_neg h', if_neg h''] at h4
          exact absurd h4 h''
theorem kids_keep : ∀ (ks : List Ry) (p : Pq) (st : List NS) (k : Nat), k < st.length → (p.kind = 4 → k ≠ p.begin.toNat) → (kidsR ks p st).2[k]? = st[k]?
  | [], p, st, k, _, _ => by rw [kidsR_nil]
  | x :: ks, p, st, k, hk, h4 => by
    rw [kidsR_cons]
    have g1 := kids_grow ks p st
    have g2 := toward_grows x (kidsR ks p st).1.tw (kidsR ks p st).2
    obtain ⟨q1, q2, _⟩ := kidsR_kind ks p st
    rw [join_keeps _ _ _ k (by omega) (fun h => by rw [q2 (q1.symm.trans h)]; exact h4 (q1.symm.trans h)), toward_keeps x _ _ k (by omega)]
    exact kids_keep ks p st k hk h4
end
/-- from a base on no state is an end -/
def NoEnd (lo : Nat) (st : List NS) : Prop := ∀ k x, lo ≤ k → st[k]? = some x → x.kind = 1 ∨ x.kind = 2
theorem NoEnd.snoc {lo : Nat} {st : List NS} (h : NoEnd lo st) {x : NS} (hx : x.kind = 1 ∨ x.kind = 2) : NoEnd lo (st ++ [x]) := fun k y hk hy => by
  by_cases hl : k < st.length
  · rw [List.getElem?_append_left hl] at hy; exact h k y hk hy
  · rw [List.getElem?_append_right (by omega)] at hy
    have := (List.getElem?_eq_some_iff.1 hy).1
    simp at this
    have h0 : k - st.length = 0 := by omega
    rw [h0] at hy
    injection hy with hy
    subst hy
    exact hx
theorem NoEnd.start (st : List NS) : NoEnd st.length st := fun k x hk hx => by have := (List.getElem?_eq_some_iff.1 hx).1; omega
theorem open_noEnd (t : Ry) (tw : Int) {lo : Nat} {st : List NS} (h : NoEnd lo st) : NoEnd lo (openP t tw st).2 := by
  unfold openP
  split
  · exact h.snoc (.inl rfl)
  · split
    · exact h
    · split
      · exact h.snoc (.inr rfl)
      · exact h
theorem join_noEnd (p : Pq) (kid : Int) {lo : Nat} {st : List NS} (h : NoEnd lo st) : NoEnd lo (joinP p kid st).2 := by
  unfold joinP
  split
  · exact h
  · split
    · split
      · exact h
      · exact h.snoc (.inr rfl)
    · split
      · intro k x hk hx
        rw [List.getElem?_modify] at hx
        cases hs : st[k]? with
        | none => rw [hs] at hx; cases hx
        | some y =>
          rw [hs] at hx
          have := h k y hk hs
          by_cases e : p.begin.toNat = k
          · simp [e] at hx; subst hx; exact this
          · simp [e] at hx; subst hx; exact this
      · exact h
mutual
theorem toward_noEnd : ∀ (t : Ry) (tw : Int) {lo : Nat} {st : List NS}, NoEnd lo st → NoEnd lo (towardR t tw st).2
  | .mk k s0 s1 s2 s3 a c kids, tw, lo, st, h => by
    rw [towardR]
    exact kids_noEnd kids _ (open_noEnd _ tw h)
theorem kids_noEnd : ∀ (ks : List Ry) (p : Pq) {lo : Nat} {st : List NS}, NoEnd lo st → NoEnd lo (kidsR ks p st).2
  | [], p, lo, st, h => by rw [kidsR_nil]; exact h
  | k :: ks, p, lo, st, h => by
    rw [kidsR_cons]
    exact join_noEnd _ _ (toward_noEnd k _ (kids_noEnd ks p h))
end
end Go.Proofs.YtlhcckihnkkeaaaDoor

/-
  How many states a tree makes, in plain terms, and its bounds. No conditions.
-/
namespace Go.Proofs.YtlhcckihnkkeaaaDoor
open Go.RowKit

/-- what a node makes -/
def ownZ (x : Ry) : Int := if x.kind = 1 ∨ x.kind = 4 then 1 else if x.kind = 3 then (x.kids.length : Int) - 1 else 0
mutual
def statesR : Ry → Int
  | .mk k s0 s1 s2 s3 a c ks => ownZ (.mk k s0 s1 s2 s3 a c ks) + statesL ks
def statesL : List Ry → Int
  | [] => 0
  | t :: r => statesR t + statesL r
end
theorem statesR_eq (t : Ry) : statesR t = ownZ t + statesL t.kids := by
  cases t
  simp only [statesR]
  rfl
theorem own_le (x : Ry) : -1 ≤ ownZ x ∧ ownZ x ≤ 1 + (x.kids.length : Int) := by
  unfold ownZ
  (repeat' split) <;> omega
mutual
theorem stR_b : ∀ t : Ry, -((preR t).length : Int) ≤ statesR t ∧ statesR t + 1 ≤ 2 * ((preR t).length : Int)
  | .mk k s0 s1 s2 s3 a c ks => by
    have h1 := stL_b ks
    have h2 := own_le (.mk k s0 s1 s2 s3 a c ks)
    rw [statesR, preR, List.length_cons]
    have h3 : (Ry.mk k s0 s1 s2 s3 a c ks).kids.length = ks.length := rfl
    rw [h3] at h2
    push_cast
    omega
theorem stL_b : ∀ l : List Ry, -((preL l).length : Int) ≤ statesL l ∧ statesL l + (l.length : Int) ≤ 2 * ((preL l).length : Int)
  | [] => by simp [statesL, preL]
  | t :: r => by
    have h1 := stR_b t
    have h2 := stL_b r
    rw [statesL, preL, List.length_append, List.length_cons]
    push_cast
    omega
end
theorem statesL_app (l : List Ry) (t : Ry) : statesL (l ++ [t]) = statesL l + statesR t := by
  induction l with
  | nil => simp [statesL]
  | cons x r ih => rw [List.cons_append, statesL, ih, statesL]; omega
theorem pre_take (l : List Ry) (k : Nat) : (preL (l.take k)).length ≤ (preL l).length := by
  have h : preL l = preL (l.take k) ++ preL (l.drop k) := by rw [← preL_app, List.take_append_drop]
  rw [h, List.length_append]
  omega
end Go.Proofs.YtlhcckihnkkeaaaDoor

/-
  How many states trees make, in plain terms. No conditions but the trees' form.
-/
namespace Go.Proofs.YtlhcckihnkkeaaaDoor
open Go.RowKit

/-- sets are leaves, choices have kids -/
def GoodR (l : List Ry) : Prop := ∀ x ∈ l, (x.kind = 1 → x.kids = []) ∧ (x.kind = 3 → x.kids ≠ [])
def PqOk (p : Pq) : Prop := 0 ≤ p.tw ∧ (p.kind = 3 → p.begin = -1 ∨ 0 ≤ p.begin) ∧ (¬ p.kind = 3 → 0 ≤ p.begin)
theorem join_len (p : Pq) (kid : Int) (st : List NS) (hp : PqOk p) (hk : 0 ≤ kid) : (joinP p kid st).1.kind = p.kind ∧ PqOk (joinP p kid st).1 ∧ (p.kind = 3 → 0 ≤ (joinP p kid st).1.begin) ∧ ((joinP p kid st).2.length : Int) = (st.length : Int) + (if p.kind = 3 then (if p.begin = -1 then 0 else 1) else 0) := by
  obtain ⟨h1, h2, h3⟩ := hp
  unfold joinP PqOk
  by_cases k2 : p.kind = 2
  · rw [if_pos k2, if_neg (by omega)]
    exact ⟨rfl, ⟨hk, fun h => absurd h (by show ¬ p.kind = 3; omega), fun _ => hk⟩, fun h => absurd h (by omega), by simp⟩
  · rw [if_neg k2]
    by_cases k3 : p.kind = 3
    · rw [if_pos k3, if_pos k3]
      by_cases hb : p.begin = -1
      · rw [if_pos hb, if_pos hb]
        exact ⟨rfl, ⟨h1, fun _ => .inr hk, fun h => absurd k3 h⟩, fun _ => hk, by simp⟩
      · rw [if_neg hb, if_neg hb]
        refine ⟨rfl, ⟨h1, fun _ => .inr (Int.natCast_nonneg _), fun h => absurd k3 h⟩, fun _ => Int.natCast_nonneg _, ?_⟩
        rw [List.length_append]
        push_cast
        rfl
    · rw [if_neg k3, if_neg k3]
      by_cases k4 : p.kind = 4
      · rw [if_pos k4]
        exact ⟨rfl, ⟨h1, h2, h3⟩, fun h => absurd h k3, by simp⟩
      · rw [if_neg k4]
        exact ⟨rfl, ⟨h1, h2, h3⟩, fun h => absurd h k3, by simp⟩
theorem open_len (t : Ry) (tw : Int) (st : List NS) (htw : 0 ≤ tw) : (openP t tw st).1.kind = t.kind ∧ PqOk (openP t tw st).1 ∧ (t.kind = 3 → (openP t tw st).1.begin = -1) ∧ ((openP t tw st).2.length : Int) = (st.length : Int) + (if t.kind = 1 ∨ t.kind = 4 then 1 else 0) := by
  unfold openP PqOk
  by_cases k1 : t.kind = 1
  · rw [if_pos k1, if_pos (.inl k1)]
    refine ⟨rfl, ⟨htw, fun h => absurd h (by show ¬ t.kind = 3; omega), fun _ => Int.natCast_nonneg _⟩, fun h => absurd h (by omega), ?_⟩
    rw [List.length_append]
    push_cast
    rfl
  · rw [if_neg k1]
    by_cases k3 : t.kind = 3
    · rw [if_pos k3, if_neg (by omega)]
      exact ⟨rfl, ⟨htw, fun _ => .inl rfl, fun h => absurd k3 h⟩, fun _ => rfl, by simp⟩
    · rw [if_neg k3]
      by_cases k4 : t.kind = 4
      · rw [if_pos k4, if_pos (.inr k4)]
        refine ⟨rfl, ⟨Int.natCast_nonneg _, fun h => absurd h k3, fun _ => Int.natCast_nonneg _⟩, fun h => absurd h k3, ?_⟩
        rw [List.length_append]
        push_cast
        rfl
      · rw [if_neg k4, if_neg (by omega)]
        exact ⟨rfl, ⟨htw, fun h => absurd h k3, fun _ => htw⟩, fun h => absurd h k3, by simp⟩
mutual
theorem toward_len : ∀ (t : Ry) (tw : Int) (st : List NS), GoodR (preR t) → 0 ≤ tw → ((towardR t tw st).2.length : Int) = (st.length : Int) + statesR t ∧ 0 ≤ (towardR t tw st).1
  | .mk k s0 s1 s2 s3 a c kids, tw, st, hg, htw => by
    obtain ⟨g1, g2⟩ := hg (.mk k s0 s1 s2 s3 a c kids) (by rw [preR]; exact List.mem_cons_self)
    obtain ⟨o1, o2, o3, o4⟩ := open_len (.mk k s0 s1 s2 s3 a c kids) tw st htw
    obtain ⟨h1, h2, h3, h4, h5⟩ := kids_len kids (openP (.mk k s0 s1 s2 s3 a c kids) tw st).1 (openP (.mk k s0 s1 s2 s3 a c kids) tw st).2 (fun x hx => hg x (by rw [preR]; exact List.mem_cons_of_mem _ hx)) o2
    rw [towardR, statesR]
    generalize openP (.mk k s0 s1 s2 s3 a c kids) tw st = O at *
    have hk : (Ry.mk k s0 s1 s2 s3 a c kids).kind = k := rfl
    have hkk : (Ry.mk k s0 s1 s2 s3 a c kids).kids = kids := rfl
    unfold ownZ
    rw [hk] at g1 g2 o1 o3 o4 ⊢
    rw [hkk] at g1 g2 ⊢
    rw [o1] at h3 h5
    dsimp only
    by_cases k3 : k = 3
    · have hne := g2 k3
      have hb := o3 k3
      rw [if_pos k3, if_pos ⟨hb, hne⟩] at h5
      rw [if_neg (by omega), if_pos k3]
      rw [if_neg (by omega)] at o4
      exact ⟨by omega, h3 k3 (.inl hne)⟩
    · rw [if_neg k3] at h5
      have hb : 0 ≤ (kidsR kids O.1 O.2).1.begin := h2.2.2 (by rw [h1, o1]; exact k3)
      by_cases k14 : k = 1 ∨ k = 4
      · rw [if_pos k14] at o4 ⊢
        exact ⟨by omega, hb⟩
      · rw [if_neg k14] at o4 ⊢
        rw [if_neg k3]
        exact ⟨by omega, hb⟩
theorem kids_len : ∀ (ks : List Ry) (p : Pq) (st : List NS), GoodR (preL ks) → PqOk p → (kidsR ks p st).1.kind = p.kind ∧ PqOk (kidsR ks p st).1 ∧ (p.kind = 3 → (ks ≠ [] ∨ 0 ≤ p.begin) → 0 ≤ (kidsR ks p st).1.begin) ∧ (ks = [] → (kidsR ks p st).1 = p) ∧ ((kidsR ks p st).2.length : Int) = (st.length : Int) + statesL ks + (if p.kind = 3 then (ks.length : Int) - (if p.begin = -1 ∧ ks ≠ [] then 1 else 0) else 0)
  | [], p, st, _, hp => by
    rw [kidsR_nil]
    refine ⟨rfl, hp, fun _ h => h.resolve_left (by simp), fun _ => rfl, ?_⟩
    simp [statesL]
  | k :: ks, p, st, hg, hp => by
    have hg1 : GoodR (preR k) := fun x hx => hg x (by rw [preL]; exact List.mem_append_left _ hx)
    have hg2 : GoodR (preL ks) := fun x hx => hg x (by rw [preL]; exact List.mem_append_right _ hx)
    obtain ⟨h1, h2, h3, h4, h5⟩ := kids_len ks p st hg2 hp
    obtain ⟨t1, t2⟩ := toward_len k (kidsR ks p st).1.tw (kidsR ks p st).2 hg1 h2.1
    rw [kidsR_cons]
    obtain ⟨j1, j2, j3, j4⟩ := join_len (kidsR ks p st).1 _ (towardR k (kidsR ks p st).1.tw (kidsR ks p st).2).2 h2 t2
    generalize towardR k (kidsR ks p st).1.tw (kidsR ks p st).2 = T at *
    refine ⟨by rw [j1, h1], j2, fun h _ => j3 (by rw [h1]; exact h), (fun h => by cases h), ?_⟩
    rw [j4, t1, h5, h1, statesL, List.length_cons]
    by_cases k3 : p.kind = 3
    · rw [if_pos k3, if_pos k3, if_pos k3]
      by_cases hks : ks = []
      · rw [h4 hks]
        subst hks
        by_cases hb : p.begin = -1
        · simp [hb]; omega
        · simp [hb]; omega
      · have hb0 := h3 k3 (.inl hks)
        have e0 : (if (kidsR ks p st).1.begin = -1 then (0 : Int) else 1) = 1 := if_neg (by omega)
        rw [e0]
        by_cases hb : p.begin = -1
        · rw [if_pos ⟨hb, hks⟩, if_pos ⟨hb, by simp⟩]
          push_cast
          omega
        · rw [if_neg (fun h => hb h.1), if_neg (fun h => hb h.1)]
          push_cast
          omega
    · rw [if_neg k3, if_neg k3, if_neg k3]
      omega
end
theorem trees_count : ∀ (ls : List Ry) (i : Int) (st : List NS), GoodR (preL ls) → ((treesP ls i st).2.length : Int) = (st.length : Int) + statesL ls + ls.length
  | [], i, st, _ => by simp [treesP, statesL]
  | t :: r, i, st, hg => by
    have h1 := toward_len t (st.length : Int) (st ++ [endN i]) (fun x hx => hg x (by rw [preL]; exact List.mem_append_left _ hx)) (Int.natCast_nonneg _)
    have h2 := trees_count r (i + 1) (towardR t (st.length : Int) (st ++ [endN i])).2 (fun x hx => hg x (by rw [preL]; exact List.mem_append_right _ hx))
    rw [treesP, statesL, List.length_cons]
    simp only
    rw [h2, h1.1, List.length_append]
    push_cast
    simp
    omega
/-- a state for each set, each star, each kid of a choice but one, each tree, and each tree but one -/
theorem machine_count (ls : List Ry) (hg : GoodR (preL ls)) (h : 1 ≤ ls.length) : ((machineP ls).2.length : Int) = statesL ls + 2 * ls.length - 1 := by
  unfold machineP
  rw [splits_len, List.length_dropLast, trees_len]
  have h1 := trees_count ls 0 [] hg
  simp at h1
  push_cast
  omega
end Go.Proofs.YtlhcckihnkkeaaaDoor

/-
  NfaCap in plain terms: what Build answers of right trees, by any cap. No conditions but right trees, few.
-/
namespace Go.Proofs.YtlhcckihnkkeaaaDoor
open Go.RowKit

theorem preL_mem {x : Ry} : ∀ {ls : List Ry}, x ∈ preL ls → ∃ t ∈ ls, x ∈ preR t
  | [], h => by simp [preL] at h
  | t :: r, h => by
    rw [preL] at h
    rcases List.mem_append.1 h with h | h
    · exact ⟨t, List.mem_cons_self, h⟩
    · obtain ⟨u, hu, hx⟩ := preL_mem h
      exact ⟨u, List.mem_cons_of_mem _ hu, hx⟩
theorem alone_of {ls : List Ry} (h : ∀ t ∈ ls, rightR t = true) {x : Ry} (hx : x ∈ preL ls) : aloneR x = true := by
  obtain ⟨t, ht, hxt⟩ := preL_mem hx
  have := h t ht
  unfold rightR at this
  exact List.all_eq_true.1 this x hxt
theorem good_of_right {ls : List Ry} (h : ∀ t ∈ ls, rightR t = true) : GoodR (preL ls) := by
  intro x hx
  have h1 := alone_of h hx
  unfold aloneR at h1
  refine ⟨fun k => ?_, fun k => ?_⟩
  · rw [if_neg (by omega), if_pos k] at h1
    simp only [Bool.and_eq_true, beq_iff_eq] at h1
    exact List.eq_nil_of_length_eq_zero h1.2
  · rw [if_neg (by omega), if_neg (by omega), if_pos (.inr k)] at h1
    simp only [Bool.and_eq_true, decide_eq_true_eq] at h1
    intro h2
    rw [h2] at h1
    simp at h1
/-- how many states -/
def wantP (ls : List Ry) : Nat := (machineP ls).2.length
theorem want_is {ls : List Ry} (h : ∀ t ∈ ls, rightR t = true) (h1 : 1 ≤ ls.length) : (wantP ls : Int) = statesL ls + 2 * ls.length - 1 := machine_count ls (good_of_right h) h1
theorem want_b {ls : List Ry} (h : ∀ t ∈ ls, rightR t = true) (h1 : 1 ≤ ls.length) (hf : FewR ls) : 1 ≤ wantP ls ∧ wantP ls ≤ 3000 := by
  have h2 := want_is h h1
  have h3 := stL_b ls
  have h4 := few_all hf
  have h5 := hf.1
  have h6 : wantP ls = (treesP ls 0 []).2.length + (treesP ls 0 []).1.dropLast.length := by unfold wantP machineP; rw [splits_len]
  have h7 : 1 ≤ (treesP ls 0 []).2.length := by
    have := trees_count ls 0 [] (good_of_right h)
    match ls, h1 with
    | t :: r, _ =>
      rw [treesP]
      have h8 := trees_grow r (0 + 1) (towardR t (([] : List NS).length : Int) ([] ++ [endN 0])).2
      have h9 := toward_grows t (([] : List NS).length : Int) ([] ++ [endN 0])
      simp at h8 h9 ⊢
      omega
  omega
/-- the answer by a cap -/
theorem build_cap {ls : List Ry} (h : ∀ t ∈ ls, rightR t = true) (h1 : 1 ≤ ls.length) (hf : FewR ls) (most : Int) (h0 : 0 ≤ most) (h2 : most ≤ 20000) :
    buildP ls most = if most = 0 then (0, [], 2) else if most < (wantP ls : Int) then (0, [], 40) else ((machineP ls).1, (machineP ls).2, 0) := by
  by_cases hz : most = 0
  · rw [if_pos hz, build_bad (by omega)]
  · rw [if_neg hz, build_good ⟨h1, by have := hf.1; omega, by omega, h2, List.all_eq_true.2 h⟩]
    rfl
end Go.Proofs.YtlhcckihnkkeaaaDoor

/-
  The machine of some right trees comes to the end of a tree by just the texts that the tree has. No conditions but right trees.
-/
namespace Go.Proofs.YtlhcckihnkkeaaaDoor
open Go.RowKit

def Agree (M st : List NS) (lo : Nat) : Prop := ∀ k, lo ≤ k → k < st.length → M[k]? = st[k]?
theorem Agree.up {M st : List NS} {lo hi : Nat} (h : Agree M st lo) (hl : lo ≤ hi) : Agree M st hi := fun k h1 h2 => h k (Nat.le_trans hl h1) h2
theorem Agree.front {M st st' : List NS} {lo : Nat} (h : Agree M st' lo) (hg : st.length ≤ st'.length) (hk : ∀ k, k < st.length → st'[k]? = st[k]?) : Agree M st lo := fun k h1 h2 => (h k h1 (Nat.lt_of_lt_of_le h2 hg)).trans (hk k h2)
/-- from one state to another one by some texts -/
structure TW (M : List NS) (q : Nat) (P : List UInt8 → Prop) (b tw : Nat) : Prop where
  out : ∀ n l, WayN M q n b l → ∃ u v m, l = u ++ v ∧ m ≤ n ∧ P u ∧ WayN M q m tw v
  in_ : ∀ u v m, P u → WayN M q m tw v → ∃ n, WayN M q n b (u ++ v)
theorem TW.same {M : List NS} {q b : Nat} : TW M q (fun u => u = []) b b := ⟨fun n l h => ⟨[], l, n, rfl, Nat.le_refl _, rfl, h⟩, fun u v m h k => ⟨m, by rw [h]; exact k⟩⟩
theorem TW.congr {M : List NS} {q b tw : Nat} {P Q : List UInt8 → Prop} (h : TW M q P b tw) (e : ∀ u, P u ↔ Q u) : TW M q Q b tw := ⟨fun n l hw => by
  obtain ⟨u, v, m, h1, h2, h3, h4⟩ := h.out n l hw
  exact ⟨u, v, m, h1, h2, (e u).1 h3, h4⟩, fun u v m hu hw => h.in_ u v m ((e u).2 hu) hw⟩
theorem TW.row {M : List NS} {q b c tw : Nat} {P Q : List UInt8 → Prop} (h : TW M q P b c) (k : TW M q Q c tw) : TW M q (fun u => ∃ v w, u = v ++ w ∧ P v ∧ Q w) b tw := ⟨fun n l hw => by
  obtain ⟨u, v, m, h1, h2, h3, h4⟩ := h.out n l hw
  obtain ⟨u', v', m', k1, k2, k3, k4⟩ := k.out m v h4
  exact ⟨u ++ u', v', m', by rw [h1, k1, List.append_assoc], by omega, ⟨u, u', rfl, h3, k3⟩, k4⟩, fun u v m hu hw => by
  obtain ⟨x, y, rfl, hx, hy⟩ := hu
  obtain ⟨n1, h1⟩ := k.in_ y v m hy hw
  obtain ⟨n2, h2⟩ := h.in_ x _ n1 hx h1
  exact ⟨n2, by rw [List.append_assoc]; exact h2⟩⟩
theorem TW.split {M : List NS} {q p tw : Nat} {x : NS} {P Q : List UInt8 → Prop} (hq : EndAt M q) (hx : M[p]? = some x) (hk : x.kind = 2) (h : TW M q P x.a.toNat tw) (k : TW M q Q x.b.toNat tw) : TW M q (fun u => P u ∨ Q u) p tw := ⟨fun n l hw => by
  obtain ⟨m, rfl, hw | hw⟩ := way_split hq hx hk hw
  · obtain ⟨u, v, m', h1, h2, h3, h4⟩ := h.out m l hw
    exact ⟨u, v, m', h1, by omega, .inl h3, h4⟩
  · obtain ⟨u, v, m', h1, h2, h3, h4⟩ := k.out m l hw
    exact ⟨u, v, m', h1, by omega, .inr h3, h4⟩, fun u v m hu hw => by
  rcases hu with hu | hu
  · obtain ⟨n, hn⟩ := h.in_ u v m hu hw
    exact ⟨_, .left hx hk hn⟩
  · obtain ⟨n, hn⟩ := k.in_ u v m hu hw
    exact ⟨_, .right hx hk hn⟩⟩
theorem TW.byte {M : List NS} {q p tw : Nat} {x : NS} (hq : EndAt M q) (hx : M[p]? = some x) (hk : x.kind = 1) (ht : x.a.toNat = tw) : TW M q (fun u => ∃ b : UInt8, u = [b] ∧ inNs x b.toNat = true) p tw := ⟨fun n l hw => by
  obtain ⟨c, r, m, rfl, rfl, h1, h2⟩ := way_byte hq hx hk hw
  exact ⟨[c], r, m, rfl, by omega, ⟨c, rfl, h1⟩, ht ▸ h2⟩, fun u v m hu hw => by
  obtain ⟨b, rfl, hb⟩ := hu
  exact ⟨_, .byte hx hk hb (ht.symm ▸ hw)⟩⟩
theorem TW.star {M : List NS} {q p tw : Nat} {x : NS} {P : List UInt8 → Prop} (hq : EndAt M q) (hx : M[p]? = some x) (hk : x.kind = 2) (ht : x.b.toNat = tw) (h : TW M q P x.a.toNat p) : TW M q (StarL P) p tw := by
  subst ht
  refine ⟨fun n => ?_, fun u v m hu hw => ?_⟩
  · induction n using Nat.strongRecOn with
    | _ n ih =>
      intro l hw
      obtain ⟨m, rfl, hw | hw⟩ := way_split hq hx hk hw
      · obtain ⟨u, v, m1, rfl, h2, h3, h4⟩ := h.out m l hw
        obtain ⟨u', v', m2, rfl, k2, k3, k4⟩ := ih m1 (by omega) v h4
        exact ⟨u ++ u', v', m2, (List.append_assoc _ _ _).symm, by omega, .cons h3 k3, k4⟩
      · exact ⟨[], l, m, rfl, by omega, .nil, hw⟩
  · induction hu with
    | nil => exact ⟨_, .right hx hk hw⟩
    | cons hP _ ih =>
      obtain ⟨n, hn⟩ := ih
      obtain ⟨n2, h2⟩ := h.in_ _ _ n hP hn
      exact ⟨_, by rw [List.append_assoc]; exact .left hx hk h2⟩
/-- a tree's ways -/
def Ways (M : List NS) (q : Nat) (t : Ry) : Prop := (∀ x ∈ preR t, aloneR x = true) → ∀ tw st, 0 ≤ tw → Agree M (towardR t tw st).2 st.length → TW M q (hasR t) (towardR t tw st).1.toNat tw.toNat
theorem row_ways {M : List NS} {q : Nat} : ∀ (ks : List Ry) (p : Pq) (st : List NS), (∀ x ∈ ks, Ways M q x) → (∀ x ∈ preL ks, aloneR x = true) → p.kind = 2 → p.tw = p.begin → 0 ≤ p.tw → Agree M (kidsR ks p st).2 st.length →
    (kidsR ks p st).1.tw = (kidsR ks p st).1.begin ∧ 0 ≤ (kidsR ks p st).1.tw ∧ TW M q (rowL ks) (kidsR ks p st).1.begin.toNat p.begin.toNat
  | [], p, st, _, _, hk, ht, h0, _ => by
    rw [kidsR_nil]
    exact ⟨ht, h0, TW.same.congr fun u => by rw [rowL]⟩
  | k :: ks, p, st, hw, hr, hk, ht, h0, ha => by
    have hr1 : ∀ x ∈ preR k, aloneR x = true := fun x hx => hr x (by rw [preL]; exact List.mem_append_left _ hx)
    have hr2 : ∀ x ∈ preL ks, aloneR x = true := fun x hx => hr x (by rw [preL]; exact List.mem_append_right _ hx)
    rw [kidsR_cons] at ha ⊢
    have hkk := (kidsR_kind ks p st).1.trans hk
    have e : joinP (kidsR ks p st).1 (towardR k (kidsR ks p st).1.tw (kidsR ks p st).2).1 (towardR k (kidsR ks p st).1.tw (kidsR ks p st).2).2 = (⟨2, (towardR k (kidsR ks p st).1.tw (kidsR ks p st).2).1, (towardR k (kidsR ks p st).1.tw (kidsR ks p st).2).1⟩, (towardR k (kidsR ks p st).1.tw (kidsR ks p st).2).2) := by
      unfold joinP
      rw [if_pos hkk, hkk]
    rw [e] at ha ⊢
    have g1 := kids_grow ks p st
    have g2 := toward_grows k (kidsR ks p st).1.tw (kidsR ks p st).2
    obtain ⟨i1, i2, i3⟩ := row_ways ks p st (fun x hx => hw x (List.mem_cons_of_mem _ hx)) hr2 hk ht h0 (ha.front g2 (toward_keeps k _ _))
    have h1 := hw k List.mem_cons_self hr1 _ _ i2 (ha.up g1)
    refine ⟨rfl, (toward_len k _ _ (fun x hx => ?_) i2).2, ?_⟩
    · have := good_of_right (ls := [k]) (fun t ht => by rw [List.mem_singleton.1 ht]; exact List.all_eq_true.2 hr1) x (by rw [preL]; exact List.mem_append_left _ hx)
      exact this
    · have i4 : TW M q (rowL ks) (kidsR ks p st).1.tw.toNat p.begin.toNat := by rw [i1]; exact i3
      refine (h1.row i4).congr fun u => ?_
      rw [rowL]
theorem good_one {k : Ry} (hr : ∀ x ∈ preR k, aloneR x = true) : GoodR (preR k) := fun x hx => good_of_right (ls := [k]) (fun t ht => by rw [List.mem_singleton.1 ht]; exact List.all_eq_true.2 hr) x (by rw [preL]; exact List.mem_append_left _ hx)
theorem alt_ways {M : List NS} {q : Nat} (hq : EndAt M q) : ∀ (ks : List Ry) (p : Pq) (st : List NS), (∀ x ∈ ks, Ways M q x) → (∀ x ∈ preL ks, aloneR x = true) → p.kind = 3 → p.begin = -1 → 0 ≤ p.tw → Agree M (kidsR ks p st).2 st.length → ks ≠ [] →
    0 ≤ (kidsR ks p st).1.begin ∧ TW M q (anyL ks) (kidsR ks p st).1.begin.toNat p.tw.toNat
  | [], p, st, _, _, hk, ht, h0, _, hne => absurd rfl hne
  | k :: ks, p, st, hw, hr, hk, ht, h0, ha, _ => by
    have hr1 : ∀ x ∈ preR k, aloneR x = true := fun x hx => hr x (by rw [preL]; exact List.mem_append_left _ hx)
    have hr2 : ∀ x ∈ preL ks, aloneR x = true := fun x hx => hr x (by rw [preL]; exact List.mem_append_right _ hx)
    rw [kidsR_cons] at ha ⊢
    obtain ⟨k1, _, k3⟩ := kidsR_kind ks p st
    have hkk := k1.trans hk
    have htw := k3 hk
    have hgrow := join_grows (kidsR ks p st).1 (towardR k (kidsR ks p st).1.tw (kidsR ks p st).2).1 (towardR k (kidsR ks p st).1.tw (kidsR ks p st).2).2
    have ha' : Agree M (towardR k (kidsR ks p st).1.tw (kidsR ks p st).2).2 st.length := ha.front hgrow (fun j hj => join_keeps _ _ _ j hj (fun h => by omega))
    have g1 := kids_grow ks p st
    have g2 := toward_grows k (kidsR ks p st).1.tw (kidsR ks p st).2
    have h1 := hw k List.mem_cons_self hr1 (kidsR ks p st).1.tw (kidsR ks p st).2 (by rw [htw]; exact h0) (ha'.up g1)
    have hb := (toward_len k (kidsR ks p st).1.tw (kidsR ks p st).2 (good_one hr1) (by rw [htw]; exact h0)).2
    have e9 : (kidsR ks p st).1.tw.toNat = p.tw.toNat := by rw [htw]
    rw [e9] at h1
    by_cases hks : ks = []
    · subst hks
      rw [kidsR_nil] at h1 hb ha ⊢
      have e : joinP p (towardR k p.tw st).1 (towardR k p.tw st).2 = (⟨3, p.tw, (towardR k p.tw st).1⟩, (towardR k p.tw st).2) := by
        unfold joinP
        rw [if_neg (by omega), if_pos hk, if_pos ht, hk]
      rw [e]
      refine ⟨hb, h1.congr fun u => ?_⟩
      rw [anyL, anyL, or_false]
    · obtain ⟨i1, i2⟩ := alt_ways hq ks p st (fun x hx => hw x (List.mem_cons_of_mem _ hx)) hr2 hk ht h0 (ha'.front g2 (toward_keeps k _ _)) hks
      have e : joinP (kidsR ks p st).1 (towardR k (kidsR ks p st).1.tw (kidsR ks p st).2).1 (towardR k (kidsR ks p st).1.tw (kidsR ks p st).2).2 = (⟨3, (kidsR ks p st).1.tw, ((towardR k (kidsR ks p st).1.tw (kidsR ks p st).2).2.length : Int)⟩, (towardR k (kidsR ks p st).1.tw (kidsR ks p st).2).2 ++ [splitN (towardR k (kidsR ks p st).1.tw (kidsR ks p st).2).1 (kidsR ks p st).1.begin]) := by
        unfold joinP
        rw [if_neg (by omega), if_pos hkk, if_neg (by omega), hkk]
      rw [e] at ha ⊢
      refine ⟨Int.natCast_nonneg _, ?_⟩
      have hx := ha (towardR k (kidsR ks p st).1.tw (kidsR ks p st).2).2.length (by omega) (by rw [List.length_append]; simp)
      rw [List.getElem?_append_right (Nat.le_refl _), Nat.sub_self] at hx
      refine ((TW.split hq hx rfl h1 i2)).congr fun u => ?_
      rw [anyL]
mutual
theorem toward_ways {M : List NS} {q : Nat} (hq : EndAt M q) : ∀ t : Ry, Ways M q t
  | .mk k s0 s1 s2 s3 a c kids => by
    have hall := all_ways hq kids
    intro hr tw st h0 ha
    have hal := hr (.mk k s0 s1 s2 s3 a c kids) (by rw [preR]; exact List.mem_cons_self)
    have hrk : ∀ x ∈ preL kids, aloneR x = true := fun x hx => hr x (by rw [preR]; exact List.mem_cons_of_mem _ hx)
    unfold aloneR at hal
    have ek : (Ry.mk k s0 s1 s2 s3 a c kids).kind = k := rfl
    have ekk : (Ry.mk k s0 s1 s2 s3 a c kids).kids = kids := rfl
    rw [ek, ekk] at hal
    have HE : ∀ (r : Pq × List NS), openP (.mk k s0 s1 s2 s3 a c kids) tw st = r → towardR (.mk k s0 s1 s2 s3 a c kids) tw st = ((kidsR kids r.1 r.2).1.begin, (kidsR kids r.1 r.2).2) := fun r hr => by rw [towardR, hr]
    by_cases k0 : k = 0
    · rw [if_pos k0] at hal
      simp only [Bool.and_eq_true, beq_iff_eq] at hal
      obtain rfl := List.eq_nil_of_length_eq_zero hal.2
      have := HE (⟨k, tw, tw⟩, st) (by unfold openP; rw [ek, if_neg (by omega), if_neg (by omega), if_neg (by omega)])
      rw [kidsR_nil] at this
      rw [this]
      exact TW.same.congr fun u => by rw [hasR, if_pos k0]
    · rw [if_neg k0] at hal
      by_cases k1 : k = 1
      · rw [if_pos k1] at hal
        simp only [Bool.and_eq_true, beq_iff_eq] at hal
        obtain rfl := List.eq_nil_of_length_eq_zero hal.2
        have := HE (⟨k, tw, st.length⟩, st ++ [byteN (.mk k s0 s1 s2 s3 a c []) tw]) (by unfold openP; rw [ek, if_pos k1])
        rw [kidsR_nil] at this
        rw [this] at ha ⊢
        have hx := ha st.length (Nat.le_refl _) (by rw [List.length_append]; simp)
        rw [List.getElem?_append_right (Nat.le_refl _), Nat.sub_self] at hx
        refine (TW.byte hq hx rfl rfl).congr fun u => ?_
        rw [hasR, if_neg k0, if_pos k1]
        rfl
      · rw [if_neg k1] at hal
        by_cases k2 : k = 2
        · have := HE (⟨k, tw, tw⟩, st) (by unfold openP; rw [ek, if_neg (by omega), if_neg (by omega), if_neg (by omega)])
          rw [this] at ha ⊢
          refine (row_ways kids ⟨k, tw, tw⟩ st hall hrk k2 rfl h0 ha).2.2.congr fun u => ?_
          rw [hasR, if_neg k0, if_neg k1, if_pos k2]
        · by_cases k3 : k = 3
          · rw [if_pos (.inr k3)] at hal
            simp only [Bool.and_eq_true, decide_eq_true_eq] at hal
            have := HE (⟨k, tw, -1⟩, st) (by unfold openP; rw [ek, if_neg (by omega), if_pos k3])
            rw [this] at ha ⊢
            refine (alt_ways hq kids ⟨k, tw, -1⟩ st hall hrk k3 rfl h0 ha (fun h => by rw [h] at hal; simp at hal)).2.congr fun u => ?_
            rw [hasR, if_neg k0, if_neg k1, if_neg k2, if_pos k3]
          · rw [if_neg (by omega)] at hal
            by_cases k4 : k = 4
            · rw [if_pos k4] at hal
              simp only [Bool.and_eq_true, beq_iff_eq] at hal
              match kids, hal.2, hall, hrk, HE, ha with
              | [x], _, hall, hrk, HE, ha =>
                have := HE (⟨k, st.length, st.length⟩, st ++ [splitN 0 tw]) (by unfold openP; rw [show (Ry.mk k s0 s1 s2 s3 a c [x]).kind = k from rfl, if_neg (by omega), if_neg (by omega), if_pos k4])
                rw [kidsR_cons, kidsR_nil] at this
                have e : joinP ⟨k, (st.length : Int), (st.length : Int)⟩ (towardR x (st.length : Int) (st ++ [splitN 0 tw])).1 (towardR x (st.length : Int) (st ++ [splitN 0 tw])).2 = (⟨k, (st.length : Int), (st.length : Int)⟩, (towardR x (st.length : Int) (st ++ [splitN 0 tw])).2.modify st.length (fun s => { s with a := (towardR x (st.length : Int) (st ++ [splitN 0 tw])).1 })) := by
                  unfold joinP
                  rw [if_neg (by show ¬ k = 2; omega), if_neg (by show ¬ k = 3; omega), if_pos (by show k = 4; omega)]
                  rfl
                have this2 := this.trans (by rw [show ((⟨k, (st.length : Int), (st.length : Int)⟩ : Pq), st ++ [splitN 0 tw]).1.tw = (st.length : Int) from rfl, e])
                rw [this2] at ha ⊢
                have g := toward_grows x (st.length : Int) (st ++ [splitN 0 tw])
                rw [List.length_append] at g
                simp only [List.length_cons, List.length_nil] at g
                have hkeep := toward_keeps x (st.length : Int) (st ++ [splitN 0 tw]) st.length (by rw [List.length_append]; simp)
                rw [List.getElem?_append_right (Nat.le_refl _), Nat.sub_self] at hkeep
                have hx := ha st.length (Nat.le_refl _) (by simp only [List.length_modify]; omega)
                rw [List.getElem?_modify_eq, hkeep] at hx
                have hxr : ∀ y ∈ preR x, aloneR y = true := fun y hy => hrk y (by rw [preL]; exact List.mem_append_left _ hy)
                have h1 := hall x List.mem_cons_self hxr (st.length : Int) (st ++ [splitN 0 tw]) (Int.natCast_nonneg _) (fun j h1 h2 => by
                  rw [List.length_append] at h1
                  simp only [List.length_cons, List.length_nil] at h1
                  have := ha j (by omega) (by simp only [List.length_modify]; exact h2)
                  rw [this, List.getElem?_modify_ne _ _ (by omega)])
                rw [Int.toNat_natCast] at h1 ⊢
                have h2 := TW.star hq hx rfl rfl h1
                refine h2.congr fun u => ?_
                rw [hasR, if_neg k0, if_neg k1, if_neg k2, if_neg k3, if_pos k4]
                have : anyL [x] = hasR x := funext fun v => by rw [anyL, anyL, or_false]
                rw [this]
                simp
            · rw [if_neg k4] at hal
              cases hal
theorem all_ways {M : List NS} {q : Nat} (hq : EndAt M q) : ∀ ks : List Ry, ∀ x ∈ ks, Ways M q x
  | [], x, h => by cases h
  | t :: r, x, h => by
    rcases List.mem_cons.1 h with h | h
    · rw [h]; exact toward_ways hq t
    · exact all_ways hq r x h
end
end Go.Proofs.YtlhcckihnkkeaaaDoor

/-
  Behind some bytes the machine's tag is the place of the first tree that has them; the machine is right. No conditions but right trees.
-/
namespace Go.Proofs.YtlhcckihnkkeaaaDoor
open Go.RowKit

theorem trees_keep : ∀ (ls : List Ry) (i : Int) (st : List NS) (k : Nat), k < st.length → (treesP ls i st).2[k]? = st[k]?
  | [], i, st, k, _ => by rw [treesP]
  | t :: r, i, st, k, hk => by
    rw [treesP]
    have g := toward_grows t (st.length : Int) (st ++ [endN i])
    rw [List.length_append] at g
    rw [trees_keep r (i + 1) _ k (by omega), toward_keeps t _ _ k (by rw [List.length_append]; omega), List.getElem?_append_left hk]
theorem trees_ways {M : List NS} : ∀ (ls : List Ry) (i : Int) (st : List NS), (∀ t ∈ ls, rightR t = true) → Agree M (treesP ls i st).2 st.length → ∀ j (hj : j < ls.length), ∃ e, M[e]? = some (endN (i + j)) ∧ ∀ q, EndAt M q → TW M q (hasR ls[j]) ((treesP ls i st).1.getD j 0).toNat e
  | [], i, st, _, _, j, hj => by simp at hj
  | t :: r, i, st, hr, ha, j, hj => by
    rw [treesP] at ha ⊢
    dsimp only at ha ⊢
    have g := toward_grows t (st.length : Int) (st ++ [endN i])
    have g0 : (st ++ [endN i]).length = st.length + 1 := by rw [List.length_append]; rfl
    have g2 := trees_grow r (i + 1) (towardR t (st.length : Int) (st ++ [endN i])).2
    have ha1 : Agree M (towardR t (st.length : Int) (st ++ [endN i])).2 st.length := ha.front g2 (trees_keep r _ _)
    match j, hj with
    | 0, _ =>
      refine ⟨st.length, ?_, ?_⟩
      · rw [ha1 st.length (Nat.le_refl _) (by omega), toward_keeps t _ _ _ (by omega), List.getElem?_append_right (Nat.le_refl _), Nat.sub_self]
        simp
      · intro q hq
        have := toward_ways hq t (fun x hx => List.all_eq_true.1 (hr t List.mem_cons_self) x hx) (st.length : Int) (st ++ [endN i]) (Int.natCast_nonneg _) (ha1.up (by omega))
        rw [Int.toNat_natCast] at this
        exact this
    | j + 1, hj =>
      obtain ⟨e, h1, h2⟩ := trees_ways r (i + 1) _ (fun x hx => hr x (List.mem_cons_of_mem _ hx)) (ha.up (by omega)) j (by simpa using hj)
      refine ⟨e, ?_, h2⟩
      rw [h1]
      congr 2
      push_cast
      omega
theorem splits_keep (b : Int) (st : List NS) : ∀ (L : List Int) (k : Nat), k < st.length → (splitsP L b st).2[k]? = st[k]?
  | [], k, _ => by rw [splitsP]
  | x :: r, k, hk => by
    rw [splitsP]
    have := splits_len b st r
    rw [List.getElem?_append_left (by omega)]
    exact splits_keep b st r k hk
theorem splits_ways {M : List NS} {q : Nat} (hq : EndAt M q) (b : Int) (st : List NS) (l : List UInt8) : ∀ L : List Int, Agree M (splitsP L b st).2 st.length → ((∃ n, WayN M q n (splitsP L b st).1.toNat l) ↔ (∃ x ∈ L, ∃ n, WayN M q n x.toNat l) ∨ ∃ n, WayN M q n b.toNat l)
  | [], _ => by
    rw [splitsP]
    simp
  | x :: r, ha => by
    rw [splitsP] at ha ⊢
    dsimp only at ha ⊢
    have hg := splits_len b st r
    have ih := splits_ways hq b st l r (ha.front (by rw [List.length_append]; omega) (fun k hk => List.getElem?_append_left hk))
    have hx := ha (splitsP r b st).2.length (by omega) (by rw [List.length_append]; simp)
    rw [List.getElem?_append_right (Nat.le_refl _), Nat.sub_self] at hx
    rw [Int.toNat_natCast]
    constructor
    · rintro ⟨n, hn⟩
      obtain ⟨m, _, hm | hm⟩ := way_split hq hx rfl hn
      · exact .inl ⟨x, List.mem_cons_self, m, hm⟩
      · rcases ih.1 ⟨m, hm⟩ with ⟨y, hy, h1⟩ | h1
        · exact .inl ⟨y, List.mem_cons_of_mem _ hy, h1⟩
        · exact .inr h1
    · rintro (⟨y, hy, n, hn⟩ | h1)
      · rcases List.mem_cons.1 hy with rfl | hy
        · exact ⟨_, .left hx rfl hn⟩
        · obtain ⟨m, hm⟩ := ih.2 (.inl ⟨y, hy, n, hn⟩)
          exact ⟨_, .right hx rfl hm⟩
      · obtain ⟨m, hm⟩ := ih.2 (.inr h1)
        exact ⟨_, .right hx rfl hm⟩
theorem last_or {P : Int → Prop} (L : List Int) (h : L ≠ []) : ((∃ x ∈ L.dropLast, P x) ∨ P (L.getLastD 0)) ↔ ∃ x ∈ L, P x := by
  have e := List.dropLast_concat_getLast h
  have e2 : L.getLastD 0 = L.getLast h := by rw [List.getLastD_eq_getLast?, List.getLast?_eq_some_getLast h]; rfl
  rw [e2]
  constructor
  · rintro (⟨x, hx, hp⟩ | hp)
    · exact ⟨x, by rw [← e]; exact List.mem_append_left _ hx, hp⟩
    · exact ⟨_, List.getLast_mem h, hp⟩
  · rintro ⟨x, hx, hp⟩
    rw [← e] at hx
    rcases List.mem_append.1 hx with hx | hx
    · exact .inl ⟨x, hx, hp⟩
    · rw [List.mem_singleton.1 hx] at hp
      exact .inr hp
/-- the ends that the machine comes to by a text -/
theorem machine_ways {ls : List Ry} (hr : ∀ t ∈ ls, rightR t = true) (h1 : 1 ≤ ls.length) (l : List UInt8) :
    (∀ q n, EndAt (machineP ls).2 q → WayN (machineP ls).2 q n (machineP ls).1.toNat l → ∃ j, ∃ hj : j < ls.length, (machineP ls).2[q]? = some (endN j) ∧ hasR ls[j] l) ∧
    (∀ j (hj : j < ls.length), hasR ls[j] l → ∃ e n, (machineP ls).2[e]? = some (endN j) ∧ WayN (machineP ls).2 e n (machineP ls).1.toNat l) := by
  have hL := trees_len ls 0 []
  have hne : (treesP ls 0 []).1 ≠ [] := fun h => by rw [h] at hL; simp at hL; omega
  have ha : Agree (machineP ls).2 (treesP ls 0 []).2 0 := by
    refine Agree.front (st' := (machineP ls).2) (fun k _ _ => rfl) (by unfold machineP; rw [splits_len]; omega) (fun k hk => ?_)
    unfold machineP
    exact splits_keep _ _ _ k hk
  have hs := fun q (hq : EndAt (machineP ls).2 q) => splits_ways hq ((treesP ls 0 []).1.getLastD 0) (treesP ls 0 []).2 l (treesP ls 0 []).1.dropLast (fun k _ _ => rfl)
  have ht := trees_ways ls 0 [] hr ha
  have h2 : (machineP ls).1 = (splitsP (treesP ls 0 []).1.dropLast ((treesP ls 0 []).1.getLastD 0) (treesP ls 0 []).2).1 := rfl
  refine ⟨fun q n hq hn => ?_, fun j hj hl => ?_⟩
  · have h3 := (hs q hq).1 ⟨n, hn⟩
    rw [last_or (P := fun x => ∃ n, WayN (machineP ls).2 q n x.toNat l) _ hne] at h3
    obtain ⟨x, hx, n, hn⟩ := h3
    obtain ⟨j, hj, rfl⟩ := List.getElem_of_mem hx
    obtain ⟨e, he, hw⟩ := ht j (by omega)
    have hw := hw q hq
    rw [List.getD_eq_getElem?_getD, List.getElem?_eq_getElem hj, Option.getD_some] at hw
    obtain ⟨u, v, m, hl, _, hu, hv⟩ := hw.out n l hn
    obtain ⟨h3, h4⟩ := way_end ⟨_, he, rfl⟩ hv
    rw [h4, List.append_nil] at hl
    rw [Int.zero_add] at he
    exact ⟨j, by omega, by rw [h3]; exact he, by rw [hl]; exact hu⟩
  · obtain ⟨e, he, hw⟩ := ht j hj
    have hq : EndAt (machineP ls).2 e := ⟨_, he, rfl⟩
    have hw := hw e hq
    have hj2 : j < (treesP ls 0 []).1.length := by omega
    rw [List.getD_eq_getElem?_getD, List.getElem?_eq_getElem hj2, Option.getD_some] at hw
    obtain ⟨n, hn⟩ := hw.in_ l [] 0 hl .done
    rw [List.append_nil] at hn
    rw [Int.zero_add] at he
    have h3 := hs e hq
    rw [last_or (P := fun x => ∃ n, WayN (machineP ls).2 e n x.toNat l) _ hne] at h3
    obtain ⟨n2, h4⟩ := h3.2 ⟨_, List.getElem_mem hj2, n, hn⟩
    exact ⟨e, n2, he, h4⟩
/-- behind a text the tag is the place of the first tree that has it -/
theorem tag_lang {ls : List Ry} (hr : ∀ t ∈ ls, rightR t = true) (h1 : 1 ≤ ls.length) (l : List UInt8) (t : Int) (h : TagOf (machineP ls).2 (StandS (machineP ls).2 (Reach (machineP ls).2 (machineP ls).1.toNat) l) t) :
    (t = -1 ∧ ∀ j (hj : j < ls.length), ¬ hasR ls[j] l) ∨ ∃ j, ∃ hj : j < ls.length, t = (j : Int) ∧ hasR ls[j] l ∧ ∀ i (hi : i < j), ¬ hasR (ls[i]'(by omega)) l := by
  obtain ⟨m1, m2⟩ := machine_ways hr h1 l
  rcases h with ⟨h2, h3⟩ | ⟨⟨p, s, h2, h3, h4, h5⟩, h6⟩
  · refine .inl ⟨h2, fun j hj hl => ?_⟩
    obtain ⟨e, n, he, hn⟩ := m2 j hj hl
    exact h3 e _ (stand_iff.2 ⟨n, hn⟩) he rfl
  · obtain ⟨n, hn⟩ := stand_iff.1 h2
    obtain ⟨j, hj, hp, hl⟩ := m1 p n ⟨s, h3, h4⟩ hn
    rw [h3] at hp
    injection hp with hp
    refine .inr ⟨j, hj, by rw [← h5, hp]; rfl, hl, fun i hi hli => ?_⟩
    obtain ⟨e, n, he, hn⟩ := m2 i (by omega) hli
    have h7 := h6 e _ (stand_iff.2 ⟨n, hn⟩) he rfl
    have h8 : s.tag = (j : Int) := by rw [hp]; rfl
    have h9 : (endN (i : Int)).tag = (i : Int) := rfl
    omega
/-! ### the machine is right -/
def PqIn (N : Int) (p : Pq) : Prop := (0 ≤ p.tw ∧ p.tw < N) ∧ (p.kind = 3 → p.begin = -1 ∨ (0 ≤ p.begin ∧ p.begin < N)) ∧ (¬ p.kind = 3 → 0 ≤ p.begin ∧ p.begin < N)
def OkI (N : Int) (st : List NS) : Prop := ∀ x ∈ st, rightN x N = true
theorem OkI.snoc {N : Int} {st : List NS} (h : OkI N st) {x : NS} (hx : rightN x N = true) : OkI N (st ++ [x]) := fun y hy => by
  rcases List.mem_append.1 hy with hy | hy
  · exact h y hy
  · rw [List.mem_singleton.1 hy]; exact hx
theorem right_split {N a b : Int} (ha : 0 ≤ a ∧ a < N) (hb : 0 ≤ b ∧ b < N) : rightN (splitN a b) N = true := by
  unfold rightN splitN belowP
  simp [nsSame, ha.1, ha.2, hb.1, hb.2]
theorem right_end {N t : Int} (ht : 0 ≤ t ∧ t < 200) : rightN (endN t) N = true := by
  unfold rightN endN belowP
  simp [nsSame, ht.1, ht.2]
theorem right_byte {N tw : Int} {t : Ry} (hn : noSetB t = false) (ht : 0 ≤ tw ∧ tw < N) : rightN (byteN t tw) N = true := by
  have h : nosetN (byteN t tw) = false := by
    rw [← hn]
    unfold nosetN noSetB byteN
    simp only [Bool.and_assoc]
  unfold rightN
  rw [if_neg (show ¬ (byteN t tw).kind = 0 from by show ¬ 1 = 0; omega), if_pos (show (byteN t tw).kind = 1 from rfl), h]
  unfold byteN belowP
  simp [nsSame, ht.1, ht.2]
theorem open_ok {N : Int} {t : Ry} {tw : Int} {st : List NS} (hal : aloneR t = true) (ht : 0 ≤ tw ∧ tw < N) (h : OkI N st) (hl : ((openP t tw st).2.length : Int) ≤ N) : PqIn N (openP t tw st).1 ∧ OkI N (openP t tw st).2 ∧ (openP t tw st).1.kind = t.kind ∧ (t.kind = 3 → (openP t tw st).1.begin = -1) ∧ (t.kind = 4 → ∃ s, (openP t tw st).2[(openP t tw st).1.begin.toNat]? = some s ∧ s.kind = 2) := by
  unfold openP at *
  by_cases k1 : t.kind = 1
  · simp only [if_pos k1] at hl ⊢
    rw [List.length_append] at hl
    simp only [List.length_cons, List.length_nil] at hl
    have hn : noSetB t = false := by
      unfold aloneR at hal
      rw [if_neg (by omega), if_pos k1] at hal
      simp only [Bool.and_eq_true] at hal
      simpa using hal.1
    exact ⟨⟨ht, fun h => absurd (show t.kind = 3 from h) (by omega), fun _ => ⟨Int.natCast_nonneg _, by push_cast at hl ⊢; omega⟩⟩, h.snoc (right_byte hn ht), by simp, fun h => by omega, fun h => by omega⟩
  · simp only [if_neg k1] at hl ⊢
    by_cases k3 : t.kind = 3
    · simp only [if_pos k3] at hl ⊢
      exact ⟨⟨ht, fun _ => .inl rfl, fun h => absurd k3 h⟩, h, by simp, by simp, fun h => by omega⟩
    · simp only [if_neg k3] at hl ⊢
      by_cases k4 : t.kind = 4
      · simp only [if_pos k4] at hl ⊢
        rw [List.length_append] at hl
        simp only [List.length_cons, List.length_nil] at hl
        have hb : 0 ≤ (st.length : Int) ∧ (st.length : Int) < N := ⟨Int.natCast_nonneg _, by push_cast at hl; omega⟩
        refine ⟨⟨hb, fun h => absurd (show t.kind = 3 from h) (by omega), fun _ => hb⟩, h.snoc (right_split ⟨by omega, by omega⟩ ht), by simp, fun h => by omega, fun _ => ⟨splitN 0 tw, ?_, rfl⟩⟩
        rw [Int.toNat_natCast, List.getElem?_append_right (Nat.le_refl _), Nat.sub_self]
        rfl
      · simp only [if_neg k4] at hl ⊢
        exact ⟨⟨ht, fun h => absurd (show t.kind = 3 from h) (by omega), fun _ => ht⟩, h, by simp, fun h => by omega, fun h => by omega⟩
theorem join_ok {N : Int} {p : Pq} {kid : Int} {st : List NS} (hp : PqIn N p) (hk : 0 ≤ kid ∧ kid < N) (h : OkI N st) (hl : ((joinP p kid st).2.length : Int) ≤ N) (h4 : p.kind = 4 → ∃ s, st[p.begin.toNat]? = some s ∧ s.kind = 2) :
    PqIn N (joinP p kid st).1 ∧ OkI N (joinP p kid st).2 ∧ (p.kind = 3 → 0 ≤ (joinP p kid st).1.begin) := by
  unfold joinP at *
  by_cases k2 : p.kind = 2
  · simp only [if_pos k2] at hl ⊢
    exact ⟨⟨hk, fun h => absurd (show p.kind = 3 from h) (by omega), fun _ => hk⟩, h, fun h => by omega⟩
  · simp only [if_neg k2] at hl ⊢
    by_cases k3 : p.kind = 3
    · simp only [if_pos k3] at hl ⊢
      by_cases hb : p.begin = -1
      · simp only [if_pos hb] at hl ⊢
        exact ⟨⟨hp.1, fun _ => .inr hk, fun h => absurd k3 h⟩, h, fun _ => hk.1⟩
      · simp only [if_neg hb] at hl ⊢
        rw [List.length_append] at hl
        simp only [List.length_cons, List.length_nil] at hl
        have hb2 := (hp.2.1 k3).resolve_left hb
        exact ⟨⟨hp.1, fun _ => .inr ⟨Int.natCast_nonneg _, by push_cast at hl; show (st.length : Int) < N; omega⟩, fun h => absurd k3 h⟩, h.snoc (right_split hk hb2), fun _ => Int.natCast_nonneg _⟩
    · simp only [if_neg k3] at hl ⊢
      by_cases k4 : p.kind = 4
      · simp only [if_pos k4] at hl ⊢
        refine ⟨hp, fun x hx => ?_, fun h => absurd h k3⟩
        obtain ⟨i, hi, rfl⟩ := List.getElem_of_mem hx
        rw [List.getElem_modify]
        rw [List.length_modify] at hi
        split
        · rename_i e
          obtain ⟨s, hs, hs2⟩ := h4 k4
          rw [e, List.getElem?_eq_getElem hi] at hs
          injection hs with hs
          have h5 := h _ (List.getElem_mem hi)
          rw [hs] at h5 ⊢
          unfold rightN at h5 ⊢
          rw [if_neg (by omega), if_neg (by omega), if_pos hs2] at h5
          rw [if_neg (by show ¬ s.kind = 0; omega), if_neg (by show ¬ s.kind = 1; omega), if_pos (by exact hs2)]
          unfold belowP at h5 ⊢
          unfold nsSame splitN at h5 ⊢
          simp only [Bool.and_eq_true, beq_iff_eq, decide_eq_true_eq, decide_true, beq_self_eq_true, true_and, and_true] at h5 ⊢
          simp_all
        · exact h _ (List.getElem_mem hi)
      · simp only [if_neg k4] at hl ⊢
        exact ⟨hp, h, fun h => absurd h k3⟩
mutual
theorem toward_ok {N : Int} : ∀ (t : Ry) (tw : Int) (st : List NS), (∀ x ∈ preR t, aloneR x = true) → 0 ≤ tw ∧ tw < N → OkI N st → ((towardR t tw st).2.length : Int) ≤ N → OkI N (towardR t tw st).2 ∧ 0 ≤ (towardR t tw st).1 ∧ (towardR t tw st).1 < N
  | .mk k s0 s1 s2 s3 a c kids, tw, st, hr, ht, h, hl => by
    have hal := hr (.mk k s0 s1 s2 s3 a c kids) (by rw [preR]; exact List.mem_cons_self)
    rw [towardR] at hl ⊢
    have g := kids_grow kids (openP (.mk k s0 s1 s2 s3 a c kids) tw st).1 (openP (.mk k s0 s1 s2 s3 a c kids) tw st).2
    dsimp only at hl
    obtain ⟨o1, o2, o3, o4, o5⟩ := open_ok hal ht h (by omega)
    have ek : (Ry.mk k s0 s1 s2 s3 a c kids).kind = k := rfl
    have ekk : (Ry.mk k s0 s1 s2 s3 a c kids).kids = kids := rfl
    unfold aloneR at hal
    rw [ek, ekk] at hal
    rw [ek] at o3 o4 o5
    obtain ⟨c1, c2, c3⟩ := kids_ok (N := N) kids _ _ (fun x hx => hr x (by rw [preR]; exact List.mem_cons_of_mem _ hx)) o1 o2 hl (fun h4 => ⟨by
      rw [if_neg (by omega), if_neg (by omega), if_neg (by omega), if_pos (o3.symm.trans h4)] at hal
      simp only [Bool.and_eq_true, beq_iff_eq] at hal
      omega, o5 (o3.symm.trans h4)⟩)
    have hkk := (kidsR_kind kids (openP (.mk k s0 s1 s2 s3 a c kids) tw st).1 (openP (.mk k s0 s1 s2 s3 a c kids) tw st).2).1
    refine ⟨c2, ?_⟩
    by_cases k3 : k = 3
    · have hne : kids ≠ [] := fun e => by
        rw [if_neg (by omega), if_neg (by omega), if_pos (.inr k3), e] at hal
        simp at hal
      have h0 := c3 (o3.trans k3) hne
      rcases c1.2.1 (by rw [hkk, o3]; exact k3) with h1 | h1
      · omega
      · exact h1
    · exact c1.2.2 (by rw [hkk, o3]; exact k3)
theorem kids_ok {N : Int} : ∀ (ks : List Ry) (p : Pq) (st : List NS), (∀ x ∈ preL ks, aloneR x = true) → PqIn N p → OkI N st → ((kidsR ks p st).2.length : Int) ≤ N → (p.kind = 4 → ks.length ≤ 1 ∧ ∃ s, st[p.begin.toNat]? = some s ∧ s.kind = 2) → PqIn N (kidsR ks p st).1 ∧ OkI N (kidsR ks p st).2 ∧ (p.kind = 3 → ks ≠ [] → 0 ≤ (kidsR ks p st).1.begin)
  | [], p, st, _, hp, h, _, _ => by
    rw [kidsR_nil]
    exact ⟨hp, h, fun _ h => absurd rfl h⟩
  | k :: ks, p, st, hr, hp, h, hl, h4 => by
    rw [kidsR_cons] at hl ⊢
    have g1 := toward_grows k (kidsR ks p st).1.tw (kidsR ks p st).2
    have g2 := join_grows (kidsR ks p st).1 (towardR k (kidsR ks p st).1.tw (kidsR ks p st).2).1 (towardR k (kidsR ks p st).1.tw (kidsR ks p st).2).2
    obtain ⟨c1, c2, c3⟩ := kids_ok (N := N) ks p st (fun x hx => hr x (by rw [preL]; exact List.mem_append_right _ hx)) hp h (by omega) (fun h5 => ⟨by have := (h4 h5).1; rw [List.length_cons] at this; omega, (h4 h5).2⟩)
    obtain ⟨t1, t2⟩ := toward_ok (N := N) k (kidsR ks p st).1.tw (kidsR ks p st).2 (fun x hx => hr x (by rw [preL]; exact List.mem_append_left _ hx)) c1.1 c2 (by omega)
    have hkk := (kidsR_kind ks p st).1
    obtain ⟨j1, j2, j3⟩ := join_ok c1 t2 t1 hl (fun h5 => by
      rw [hkk] at h5
      obtain ⟨h6, s, h7, h8⟩ := h4 h5
      have : ks = [] := List.eq_nil_of_length_eq_zero (by rw [List.length_cons] at h6; omega)
      subst this
      rw [kidsR_nil]
      refine ⟨s, ?_, h8⟩
      rw [toward_keeps k _ _ _ (List.getElem?_eq_some_iff.1 h7).1]
      exact h7)
    exact ⟨j1, j2, fun h5 _ => j3 (hkk.trans h5)⟩
end
theorem trees_ok {N : Int} : ∀ (ls : List Ry) (i : Int) (st : List NS), (∀ t ∈ ls, rightR t = true) → OkI N st → ((treesP ls i st).2.length : Int) ≤ N → 0 ≤ i → i + ls.length ≤ 200 → OkI N (treesP ls i st).2 ∧ ∀ b ∈ (treesP ls i st).1, 0 ≤ b ∧ b < N
  | [], i, st, _, h, _, _, _ => by
    rw [treesP]
    exact ⟨h, fun b hb => by cases hb⟩
  | t :: r, i, st, hr, h, hl, h0, h2 => by
    rw [treesP] at hl ⊢
    dsimp only at hl ⊢
    rw [List.length_cons] at h2
    have g := toward_grows t (st.length : Int) (st ++ [endN i])
    have g0 : (st ++ [endN i]).length = st.length + 1 := by rw [List.length_append]; rfl
    have g2 := trees_grow r (i + 1) (towardR t (st.length : Int) (st ++ [endN i])).2
    obtain ⟨t1, t2⟩ := toward_ok (N := N) t (st.length : Int) (st ++ [endN i]) (fun x hx => List.all_eq_true.1 (hr t List.mem_cons_self) x hx) ⟨Int.natCast_nonneg _, by omega⟩ (h.snoc (right_end ⟨h0, by omega⟩)) (by omega)
    obtain ⟨r1, r2⟩ := trees_ok (N := N) r (i + 1) _ (fun x hx => hr x (List.mem_cons_of_mem _ hx)) t1 hl (by omega) (by push_cast at h2; omega)
    refine ⟨r1, fun b hb => ?_⟩
    rcases List.mem_cons.1 hb with rfl | hb
    · exact t2
    · exact r2 b hb
theorem splits_ok {N b : Int} (hb : 0 ≤ b ∧ b < N) {st : List NS} (h : OkI N st) : ∀ L : List Int, (∀ x ∈ L, 0 ≤ x ∧ x < N) → ((splitsP L b st).2.length : Int) ≤ N → OkI N (splitsP L b st).2 ∧ 0 ≤ (splitsP L b st).1 ∧ (splitsP L b st).1 < N
  | [], _, _ => by rw [splitsP]; exact ⟨h, hb⟩
  | x :: r, hx, hl => by
    rw [splitsP] at hl ⊢
    dsimp only at hl ⊢
    rw [List.length_append] at hl
    simp only [List.length_cons, List.length_nil] at hl
    push_cast at hl
    obtain ⟨h1, h2⟩ := splits_ok hb h r (fun y hy => hx y (List.mem_cons_of_mem _ hy)) (by omega)
    exact ⟨h1.snoc (right_split (hx x List.mem_cons_self) h2), Int.natCast_nonneg _, by omega⟩
theorem machine_right {ls : List Ry} (hr : ∀ t ∈ ls, rightR t = true) (h1 : 1 ≤ ls.length) (h2 : ls.length ≤ 200) (h3 : wantP ls ≤ 20000) : nRightB (machineP ls).1 (machineP ls).2 = true := by
  have hL := trees_len ls 0 []
  have hne : (treesP ls 0 []).1 ≠ [] := fun h => by rw [h] at hL; simp at hL; omega
  have hln : ((treesP ls 0 []).2.length : Int) ≤ (wantP ls : Int) := by unfold wantP machineP; rw [splits_len]; omega
  obtain ⟨t1, t2⟩ := trees_ok (N := (wantP ls : Int)) ls 0 [] hr (fun x hx => by cases hx) hln (by omega) (by omega)
  have hlast : (treesP ls 0 []).1.getLastD 0 ∈ (treesP ls 0 []).1 := by
    rw [List.getLastD_eq_getLast?, List.getLast?_eq_some_getLast hne]
    exact List.getLast_mem hne
  obtain ⟨s1, s2⟩ := splits_ok (t2 _ hlast) t1 (treesP ls 0 []).1.dropLast (fun x hx => t2 x (List.dropLast_subset _ hx)) (Int.le_refl _)
  unfold nRightB
  simp only [Bool.and_eq_true, decide_eq_true_eq, List.all_eq_true]
  refine ⟨h3, ?_, s1⟩
  unfold belowP
  simp only [Bool.and_eq_true, decide_eq_true_eq]
  exact s2
end Go.Proofs.YtlhcckihnkkeaaaDoor

/-
  The machine of some right trees as it is built and run: its tags are the first trees that have the text's fronts. Conditions: the trees lie in memory; few; the library's table.
-/
namespace Go.Proofs.YtlhcckihnkkeaaaDoor
open Go.RowKit Go.Shelf

/-- the first tree that has a text -/
def FirstT (rs : List Ry) (u : List UInt8) (t : Int) : Prop := (t = -1 ∧ ∀ j (hj : j < rs.length), ¬ hasR rs[j] u) ∨ ∃ j, ∃ hj : j < rs.length, t = (j : Int) ∧ hasR rs[j] u ∧ ∀ i (hi : i < j), ¬ hasR (rs[i]'(Nat.lt_trans hi hj)) u
theorem FirstT.one {rs : List Ry} {u : List UInt8} {s t : Int} (h : FirstT rs u s) (k : FirstT rs u t) : s = t := by
  rcases h with ⟨h1, h2⟩ | ⟨j, hj, h1, h2, h3⟩ <;> rcases k with ⟨k1, k2⟩ | ⟨i, hi, k1, k2, k3⟩
  · omega
  · exact absurd k2 (h2 i hi)
  · exact absurd h2 (k2 j hj)
  · by_cases e : i < j
    · exact absurd k2 (h3 i e)
    · by_cases e' : j < i
      · exact absurd h2 (k3 j e')
      · omega
/-- all nodes' numbers are within bounds -/
theorem ry_ok {w : World} {S : Nat → Prop} {a : Option Addr} {c : Nat} {ks : List Ry} (h : RyIn w S a c ks) : ∀ x ∈ preL ks, ryOk x := by
  induction h with
  | nil a c => intro x hx; simp [preL] at hx
  | row kids b off cap hS hlt hn hcap hm hok hc hk ih =>
    intro x hx
    obtain ⟨t, ht, hxt⟩ := preL_mem hx
    obtain ⟨i, hi, rfl⟩ := List.getElem_of_mem ht
    rw [preR_eq] at hxt
    rcases List.mem_cons.1 hxt with rfl | hxt
    · exact hok i hi
    · exact ih i hi x hxt
/-! ### what all states are -/
structure Steady (Q : NS → Prop) : Prop where
  split : ∀ a b, Q (splitN a b)
  end_ : ∀ i, Q (endN i)
  turn : ∀ s k, Q s → Q { s with a := k }
def AllQ (Q : NS → Prop) (st : List NS) : Prop := ∀ x ∈ st, Q x
theorem AllQ.snoc {Q : NS → Prop} {st : List NS} (h : AllQ Q st) {x : NS} (hx : Q x) : AllQ Q (st ++ [x]) := fun y hy => by
  rcases List.mem_append.1 hy with hy | hy
  · exact h y hy
  · rw [List.mem_singleton.1 hy]; exact hx
theorem open_all {Q : NS → Prop} (hQ : Steady Q) {t : Ry} {tw : Int} {st : List NS} (ht : Q (byteN t tw)) (h : AllQ Q st) : AllQ Q (openP t tw st).2 := by
  unfold openP
  split
  · exact h.snoc ht
  · split
    · exact h
    · split
      · exact h.snoc (hQ.split _ _)
      · exact h
theorem join_all {Q : NS → Prop} (hQ : Steady Q) {p : Pq} {kid : Int} {st : List NS} (h : AllQ Q st) : AllQ Q (joinP p kid st).2 := by
  unfold joinP
  split
  · exact h
  · split
    · split
      · exact h
      · exact h.snoc (hQ.split _ _)
    · split
      · intro x hx
        obtain ⟨i, hi, rfl⟩ := List.getElem_of_mem hx
        rw [List.getElem_modify]
        rw [List.length_modify] at hi
        split
        · exact hQ.turn _ _ (h _ (List.getElem_mem hi))
        · exact h _ (List.getElem_mem hi)
      · exact h
mutual
theorem toward_all {Q : NS → Prop} (hQ : Steady Q) : ∀ (t : Ry) (tw : Int) (st : List NS), (∀ x ∈ preR t, ∀ tw, Q (byteN x tw)) → AllQ Q st → AllQ Q (towardR t tw st).2
  | .mk k s0 s1 s2 s3 a c kids, tw, st, ht, h => by
    rw [towardR]
    exact kids_all hQ kids _ _ (fun x hx => ht x (by rw [preR]; exact List.mem_cons_of_mem _ hx)) (open_all hQ (ht _ (by rw [preR]; exact List.mem_cons_self) tw) h)
theorem kids_all {Q : NS → Prop} (hQ : Steady Q) : ∀ (ks : List Ry) (p : Pq) (st : List NS), (∀ x ∈ preL ks, ∀ tw, Q (byteN x tw)) → AllQ Q st → AllQ Q (kidsR ks p st).2
  | [], p, st, _, h => by rw [kidsR_nil]; exact h
  | k :: ks, p, st, ht, h => by
    rw [kidsR_cons]
    exact join_all hQ (toward_all hQ k _ _ (fun x hx => ht x (by rw [preL]; exact List.mem_append_left _ hx)) (kids_all hQ ks p st (fun x hx => ht x (by rw [preL]; exact List.mem_append_right _ hx)) h))
end
theorem trees_all {Q : NS → Prop} (hQ : Steady Q) : ∀ (ls : List Ry) (i : Int) (st : List NS), (∀ x ∈ preL ls, ∀ tw, Q (byteN x tw)) → AllQ Q st → AllQ Q (treesP ls i st).2
  | [], i, st, _, h => by rw [treesP]; exact h
  | t :: r, i, st, ht, h => by
    rw [treesP]
    exact trees_all hQ r (i + 1) _ (fun x hx => ht x (by rw [preL]; exact List.mem_append_right _ hx)) (toward_all hQ t _ _ (fun x hx => ht x (by rw [preL]; exact List.mem_append_left _ hx)) (h.snoc (hQ.end_ i)))
theorem splits_all {Q : NS → Prop} (hQ : Steady Q) (b : Int) (st : List NS) (h : AllQ Q st) : ∀ L : List Int, AllQ Q (splitsP L b st).2
  | [] => by rw [splitsP]; exact h
  | x :: r => by
    rw [splitsP]
    exact (splits_all hQ b st h r).snoc (hQ.split _ _)
theorem machine_all {Q : NS → Prop} (hQ : Steady Q) {ls : List Ry} (ht : ∀ x ∈ preL ls, ∀ tw, Q (byteN x tw)) : AllQ Q (machineP ls).2 := by
  unfold machineP
  exact splits_all hQ _ _ (trees_all hQ ls 0 [] ht (fun x hx => by cases hx)) _
theorem machine_fit {ls : List Ry} (h : ∀ x ∈ preL ls, ryOk x) : NsFit (machineP ls).2 :=
  machine_all (Q := fun s => s.s0 < 18446744073709551616 ∧ s.s1 < 18446744073709551616 ∧ s.s2 < 18446744073709551616 ∧ s.s3 < 18446744073709551616) ⟨fun _ _ => ⟨by show 0 < _; decide, by show 0 < _; decide, by show 0 < _; decide, by show 0 < _; decide⟩, fun _ => ⟨by show 0 < _; decide, by show 0 < _; decide, by show 0 < _; decide, by show 0 < _; decide⟩, fun _ _ h => h⟩ (fun x hx _ => (h x hx).2)
/-- a machine that is built of right trees -/
structure Made (W : World) (rs : List Ry) (a : Option Addr) (n : Nat) : Prop where
  ns : NsIn W W.heap.size a (machineP rs).2
  len : (machineP rs).2.length = n
  right : ∀ t ∈ rs, rightR t = true
  few : 1 ≤ rs.length ∧ rs.length ≤ 200
  fit : NsFit (machineP rs).2
  size : n ≤ 20000
theorem Made.below {W W' : World} {rs : List Ry} {a : Option Addr} {n : Nat} (h : Made W rs a n) (hb : Below W.heap.size W W') : Made W' rs a n := ⟨(h.ns.below hb).mono hb.size, h.len, h.right, h.few, h.fit, h.size⟩
theorem build_made {rs : List Ry} (hr : ∀ t ∈ rs, rightR t = true) (h1 : 1 ≤ rs.length) (hl : rs.length ≤ 200) (hn : (preL rs).length ≤ 9000) (a : Option Addr) (c q : Nat) (hq : q = rs.length) (w : World) (h : RyIn w (· < w.heap.size) a c rs) :
    Calls Tryd.prog 10 #[.slice a q c, .int .i64 20000] w fun e w' => ∃ a' n c', e = .returned (.tuple #[.agg #[.int .i64 (machineP rs).1, .slice a' n c'], .int .i64 0]) ∧ Below w.heap.size w w' ∧ Made w' rs a' n := by
  subst hq
  have hw := want_is hr h1
  have hst := (stL_b rs).2
  have hwl : (wantP rs : Int) ≤ 20000 := by omega
  have hwd : wantP rs = (machineP rs).2.length := rfl
  refine (build_any a c rs 20000 w h (by omega)).mono ?_
  rintro e w' ⟨v, he, hb, ho⟩
  rw [build_good ⟨h1, hl, by omega, by omega, List.all_eq_true.2 hr⟩, if_neg (by rw [← hwd]; omega)] at he ho
  obtain ⟨a', c', rfl, hns⟩ := nsIn_own ho rfl (by show (machineP rs).2.length ≤ 100000; omega)
  exact ⟨a', _, c', he, hb, hns, rfl, hr, ⟨h1, hl⟩, machine_fit (ry_ok h), by show (machineP rs).2.length ≤ 20000; omega⟩
theorem made_right {W : World} {rs : List Ry} {a : Option Addr} {n : Nat} (h : Made W rs a n) : nRightB (machineP rs).1 (machineP rs).2 = true := machine_right h.right h.few.1 h.few.2 (by have := h.len; have := h.size; show (machineP rs).2.length ≤ 20000; omega)
/-- its tags -/
theorem run_first {W : World} {rs : List Ry} {a : Option Addr} {n c : Nat} (h : Made W rs a n) (s : ByteArray) (hs : s.size ≤ 1000000) (hT : TzAt W) (htb : 0 < W.heap.size) :
    Calls Tryd.prog 13 #[.agg #[.int .i64 (machineP rs).1, .slice a n c], .string s] W fun e w' => ∃ (g : Nat) (ts : List Int), e = .returned (.tuple #[.slice (some ⟨g, 0, none⟩) (s.size + 1) (s.size + 1), .int .i64 0]) ∧ ts.length = s.size + 1 ∧ Blk w' g 3 (ts.map tV).toArray ∧ W.heap.size ≤ g ∧ Below W.heap.size W w' ∧ ∀ i, i ≤ s.size → FirstT rs (s.data.toList.take i) (ts.getD i 0) := by
  refine (run_yes (sc := c) h.len W h.ns h.fit (made_right h) s hs hT htb).mono ?_
  rintro e w' ⟨g, ts, h1, h2, h3, h4, h5, h6⟩
  exact ⟨g, ts, h1, h2, h3, h4, h5, fun i hi => tag_lang h.right h.few.1 _ _ (h6 i hi)⟩
end Go.Proofs.YtlhcckihnkkeaaaDoor

/-
  NfaOrder in plain terms: the first tree from the other end, and with each tree twice; trees lie apart from a text's cell. No conditions.
-/
namespace Go.Proofs.YtlhcckihnkkeaaaDoor
open Go.RowKit Go.Shelf

theorem first_none {rs : List Ry} {u : List UInt8} {t : Int} (h : FirstT rs u t) : t < 0 ↔ ∀ x ∈ rs, ¬ hasR x u := by
  rcases h with ⟨h1, h2⟩ | ⟨j, hj, h1, h2, _⟩
  · refine ⟨fun _ x hx => ?_, fun _ => by omega⟩
    obtain ⟨i, hi, rfl⟩ := List.getElem_of_mem hx
    exact h2 i hi
  · exact ⟨fun h => by omega, fun h => absurd h2 (h _ (List.getElem_mem hj))⟩
theorem first_bound {rs : List Ry} {u : List UInt8} {t : Int} (h : FirstT rs u t) : -1 ≤ t ∧ t < rs.length := by
  rcases h with ⟨h1, h2⟩ | ⟨j, hj, h1, h2, _⟩
  · omega
  · omega
theorem first_sign {rs qs : List Ry} {u : List UInt8} {t v : Int} (h : FirstT rs u t) (k : FirstT qs u v) (e : ∀ x, x ∈ rs ↔ x ∈ qs) : t < 0 ↔ v < 0 := by
  rw [first_none h, first_none k]
  exact ⟨fun h x hx => h x ((e x).2 hx), fun h x hx => h x ((e x).1 hx)⟩
theorem first_back {rs : List Ry} {u : List UInt8} {t v : Int} (h : FirstT rs u t) (k : FirstT rs.reverse u v) : (t < 0 ↔ v < 0) ∧ (0 ≤ t → t ≤ (rs.length : Int) - 1 - v) ∧ (rs.length = 1 → t = v) := by
  have h1 := first_sign h k (fun x => List.mem_reverse.symm)
  have h3 := first_bound h
  have h4 := first_bound k
  rw [List.length_reverse] at h4
  refine ⟨h1, fun h0 => ?_, fun e => by omega⟩
  rcases h with ⟨e, _⟩ | ⟨j, hj, rfl, h5, h6⟩
  · omega
  · rcases k with ⟨e, _⟩ | ⟨i, hi, rfl, k5, _⟩
    · omega
    · rw [List.length_reverse] at hi
      rw [List.getElem_reverse] at k5
      by_cases hlt : rs.length - 1 - i < j
      · exact absurd k5 (h6 _ hlt)
      · omega
theorem first_twice {rs : List Ry} {u : List UInt8} {t : Int} (h : FirstT (rs ++ rs) u t) : FirstT rs u t := by
  rcases h with ⟨h1, h2⟩ | ⟨j, hj, h1, h2, h3⟩
  · refine .inl ⟨h1, fun j hj hl => ?_⟩
    have := h2 j (by rw [List.length_append]; omega)
    rw [List.getElem_append_left hj] at this
    exact this hl
  · by_cases hjl : j < rs.length
    · rw [List.getElem_append_left hjl] at h2
      refine .inr ⟨j, hjl, h1, h2, fun i hi hl => ?_⟩
      have := h3 i hi
      rw [List.getElem_append_left (by omega)] at this
      exact this hl
    · exfalso
      rw [List.length_append] at hj
      rw [List.getElem_append_right (by omega)] at h2
      have := h3 (j - rs.length) (by omega)
      rw [List.getElem_append_left (by omega)] at this
      exact this h2
/-- trees lie in no block that has no kind's cell -/
theorem RyIn.apart {w : World} {S : Nat → Prop} {a : Option Addr} {c : Nat} {ks : List Ry} {B : Nat} (h : RyIn w S a c ks) (hB : ∀ o k, w.cell? ⟨B, o, none⟩ ≠ some (.int .u8 k)) : RyIn w (fun b => S b ∧ b ≠ B) a c ks := by
  induction h with
  | nil a c => exact .nil _ _
  | row kids b off cap hS hlt hn hcap hm hok hc hk ih =>
    refine .row kids b off cap ⟨hS, fun e => ?_⟩ hlt hn hcap hm hok hc ih
    have := hc 0 hn 0 _ rfl
    rw [e] at this
    exact hB _ _ this
theorem preL_rev (l : List Ry) : (preL l.reverse).length = (preL l).length := by
  induction l with
  | nil => rfl
  | cons t r ih =>
    have h1 : (preL [t]).length = (preR t).length := by rw [preL, preL, List.append_nil]
    rw [List.reverse_cons, preL_app, List.length_append, ih, h1, preL, List.length_append]
    omega
end Go.Proofs.YtlhcckihnkkeaaaDoor

/-
  The contract of NfaOrder's closure: the tags of some trees' machine behind the text that it holds. Conditions: right trees in memory, few; the text's block; the library's table.
-/
namespace Go.Proofs.YtlhcckihnkkeaaaDoor
open Go.RowKit Go.Shelf

/-- the tags of some trees' fronts, in a row of their own -/
def RunOut (s : ByteArray) (rs : List Ry) (w : World) (e : Ending) (w' : World) : Prop := ∃ (g : Nat) (ts : List Int), e = .returned (.slice (some ⟨g, 0, none⟩) (s.size + 1) (s.size + 1)) ∧ ts.length = s.size + 1 ∧ Blk w' g 3 (ts.map tV).toArray ∧ Below w.heap.size w w' ∧ ∀ i, i ≤ s.size → FirstT rs (s.data.toList.take i) (ts.getD i 0)
set_option maxRecDepth 100000 in
set_option maxHeartbeats 4000000 in
theorem run1_any {rs : List Ry} (hr : ∀ t ∈ rs, rightR t = true) (h1 : 1 ≤ rs.length) (hl : rs.length ≤ 200) (hn : (preL rs).length ≤ 9000) (a : Option Addr) (c q : Nat) (hq : q = rs.length) (B : Nat) (s : ByteArray) (hs : s.size ≤ 20) (w : World) (h : RyIn w (· < w.heap.size) a c rs) (hB : Blk w B 9 #[.string s]) (hT : TzAt w) (htb : 0 < w.heap.size) :
    Calls Tryd.prog 20 #[.slice a q c, .pointer (some ⟨B, 0, none⟩)] w fun e w' => RunOut s rs w e w' := by
  have HBU := Lib.hid (build_made hr h1 hl hn a c q hq w h)
  have HB := Lib.hid hB
  have HTW : Hid (∀ W, Below w.heap.size w W → TzAt W ∧ 0 < W.heap.size) := fun W hW => ⟨hT.below htb hW, Nat.lt_of_lt_of_le htb hW.size⟩
  obtain ⟨p, hp⟩ : ∃ p, p = (machineP rs).1 := ⟨_, rfl⟩
  have HPP := Lib.hid hp
  rw [← hp] at HBU
  clear hr h1 hl hn hq h hB hT htb hp
  go_enter Tryd.func20, Tryd.ntmps20
  go_upto_region 2 with (go_at_call 10; refine HBU.out.mono ?_; rintro e w5 ⟨a5, n5, c5, rfl, hl5, hmd⟩; have HL5 := Lib.hid hl5; have HMD := Lib.hid hmd; clear hl5 hmd)
  obtain ⟨W5, hW5⟩ : ∃ W5, W5 = w5.alloc (.cells #[.int .i64 p, .slice a5 n5 c5] 25) := ⟨_, rfl⟩
  have HL6 : Hid (Below w.heap.size w W5) := by rw [hW5]; exact HL5.out.alloc HL5.out.size _
  have HX6 : Hid (Blk W5 w5.heap.size 25 #[.int .i64 p, .slice a5 n5 c5]) := by rw [hW5]; exact Blk.new _ _ _
  have HM6 : Hid (Made W5 rs a5 n5) := by rw [hW5]; exact HMD.out.below ((Below.refl _ _).alloc (Nat.le_refl _) _)
  rw [← hW5]
  clear hW5 HMD HL5
  obtain ⟨g5, hg5⟩ : ∃ g5, g5 = w5.heap.size := ⟨_, rfl⟩
  rw [← hg5] at HX6 ⊢
  clear hg5
  have c0 := HX6.out.cell 0
  have c1 := HX6.out.cell 1
  have b0 := (HB.out.below HL6.out HB.out.lt).cell 0
  simp at c0 c1 b0
  have HTW5 := Lib.hid (HTW.out W5 HL6.out)
  have HRU := Lib.hid (run_first (c := c5) HM6.out s (by omega) HTW5.out.1 HTW5.out.2)
  rw [← HPP.out] at HRU
  go_upto_region 3 with (go_at_call 13; refine HRU.out.mono ?_; rintro e w6 ⟨tg, ts, rfl, htl, htb, htg, hl6, hfi⟩; have HTL := Lib.hid htl; have HTB := Lib.hid htb; have HL7 := Lib.hid (low_trans HL6.out hl6); have HFI := Lib.hid hfi; clear htl htb htg hl6 hfi)
  have d0 := (HB.out.below HL7.out HB.out.lt).cell 0
  simp at d0
  clear c0 c1 b0 HRU HBU
  go_wp2_with fail
  go_ret
  exact ⟨tg, ts, rfl, HTL.out, HTB.out, HL7.out, HFI.out⟩
end Go.Proofs.YtlhcckihnkkeaaaDoor

/-
  Trees that are made of nothing, and what nfa.Build answers where it may not build. No conditions.
-/
namespace Go.Proofs.YtlhcckihnkkeaaaDoor
open Go.RowKit Go.Shelf

def zeroRy : Ry := .mk 0 0 0 0 0 none 0 []
theorem preL_zeros : ∀ n, (preL (List.replicate n zeroRy)).length = n
  | 0 => by simp [preL]
  | n + 1 => by
    rw [List.replicate_succ, preL, List.length_append, preL_zeros n]
    have : (preR zeroRy).length = 1 := by unfold zeroRy; rw [preR, preL]; rfl
    omega
theorem make_res (W : World) (n : Nat) (h0 : 0 < n) (hn : n ≤ 100000) : ∃ wm, (Instr.makeSlice 22 (.int .i64 (n : Int)) (.int .i64 (n : Int))).run Tryd.prog W = .ok (.slice (some ⟨W.heap.size, 0, none⟩) n n) wm ∧ RyIn wm (· < wm.heap.size) (some ⟨W.heap.size, 0, none⟩) n (List.replicate n zeroRy) ∧ Below W.heap.size W wm := by
  obtain ⟨i0, hi, hz0, hz1, hz2⟩ := info_parts infoRe
  obtain ⟨wm, h1, h2, h3⟩ := run_make_full (P := Tryd.prog) W W.heap.size 22 49 i0 (.agg #[.int .u8 0, .int .u64 0, .int .u64 0, .int .u64 0, .int .u64 0, .slice none 0 0]) 6 Tryd.underlying22 hi hz0 hz1 .i64 .i64 n (by rw [hz2]; omega) (by unfold maxLen; omega) (Nat.le_refl _)
  refine ⟨wm, h1, ?_, (Below.refl _ _).grown h3 (Nat.le_refl _) (fun k hk => by cases hk)⟩
  have hlen : (List.replicate n zeroRy).length = n := List.length_replicate
  rcases h2.2 with ⟨e, _⟩ | ⟨g, cap, cur, e, _, hh, _, _, hcs, ht⟩
  · cases e
  · simp only [Value.slice.injEq, Option.some.injEq, Addr.mk.injEq, and_true, true_and] at e
    obtain ⟨rfl, rfl⟩ := e
    have hlt : W.heap.size < wm.heap.size := (Array.getElem?_eq_some_iff.1 hh).1
    refine .row (List.replicate n zeroRy) W.heap.size 0 n hlt hlt (by rw [hlen]; exact h0) (by rw [hlen]; exact Nat.le_refl _) (by rw [hlen]; unfold maxLen; omega) (fun i hi => ?_) (fun i hi j u hu => ?_) (fun i hi => ?_)
    · rw [List.getElem_replicate]
      exact ⟨by show 0 < 256; decide, by show 0 < _; decide, by show 0 < _; decide, by show 0 < _; decide, by show 0 < _; decide⟩
    · rw [List.getElem_replicate] at hu
      rw [hlen] at hi
      have hj : j < 6 := (List.getElem?_eq_some_iff.1 hu).1
      rw [cell_of_row wm _ _ cur 49 (0, 0) hh, Nat.zero_add]
      rw [List.take_of_length_le (by rw [Array.length_toList, hcs]; exact Nat.le_refl _)] at ht
      have h4 : cur[i * 6 + j]? = (madeCells #[Value.int .u8 0, .int .u64 0, .int .u64 0, .int .u64 0, .int .u64 0, .slice none 0 0] (n * 6))[i * 6 + j]? := by
        rw [← Array.getElem?_toList, ht, Array.getElem?_toList]
        rfl
      rw [h4]
      unfold madeCells
      rw [Array.getElem?_map, Array.getElem?_range, if_pos (by omega)]
      match j, hj, hu with
      | 0, _, hu => rw [← hu, show (i * 6 + 0) = i * 6 from rfl]; simp [ryCells, zeroRy, Ry.kind]
      | 1, _, hu => rw [← hu]; simp [ryCells, zeroRy, Ry.s0, Nat.mul_add_mod]
      | 2, _, hu => rw [← hu]; simp [ryCells, zeroRy, Ry.s1, Nat.mul_add_mod]
      | 3, _, hu => rw [← hu]; simp [ryCells, zeroRy, Ry.s2, Nat.mul_add_mod]
      | 4, _, hu => rw [← hu]; simp [ryCells, zeroRy, Ry.s3, Nat.mul_add_mod]
      | 5, _, hu => rw [← hu]; simp [ryCells, zeroRy, Ry.a, Ry.cap, Ry.kids, Nat.mul_add_mod]
    · rw [List.getElem_replicate]
      exact .nil _ _
/-- it may not build -/
theorem build_not (a : Option Addr) (c q : Nat) (ls : List Ry) (hq : q = ls.length) (most : Int) (hbad : ¬ (1 ≤ ls.length ∧ ls.length ≤ 200 ∧ 1 ≤ most ∧ most ≤ 20000)) (w : World) (h : RyIn w (· < w.heap.size) a c ls) (hn : (preL ls).length ≤ 100000) :
    Calls Tryd.prog 10 #[.slice a q c, .int .i64 most] w fun e w' => ∃ a' c', e = .returned (.tuple #[.agg #[.int .i64 0, .slice a' 0 c'], .int .i64 2]) ∧ Below w.heap.size w w' := by
  subst hq
  refine (build_any a c ls most w h hn).mono ?_
  rintro e w' ⟨v, he, hl, ho⟩
  rw [build_bad (fun h => hbad ⟨h.1, h.2.1, h.2.2.1, h.2.2.2.1⟩)] at he ho
  obtain ⟨a', c', rfl, _⟩ := nsIn_own (st := []) ho rfl (by decide)
  exact ⟨a', c', he, hl⟩
end Go.Proofs.YtlhcckihnkkeaaaDoor

/-
  The contract of frankinglow.Front. No conditions.
-/
namespace Go.Proofs.YtlhcckihnkkeaaaDoor
open Go.RowKit

/-- the first bytes of a text -/
def frontB (s : ByteArray) (n : Nat) : ByteArray := s.extract 0 n
theorem frontB_size (s : ByteArray) (n : Nat) : (frontB s n).size = min n s.size := by
  unfold frontB
  rw [ByteArray.size_extract]
  simp
theorem frontB_list (s : ByteArray) (n : Nat) : (frontB s n).data.toList = s.data.toList.take n := by
  unfold frontB
  rw [ByteArray.data_extract, Array.toList_extract]
  simp
theorem frontB_all (s : ByteArray) (n : Nat) (h : s.size ≤ n) : frontB s n = s := by
  unfold frontB
  apply ByteArray.ext
  rw [ByteArray.data_extract]
  apply Array.toList_inj.1
  rw [Array.toList_extract]
  simp
  rw [List.take_of_length_le]
  rw [Array.length_toList]
  exact h
set_option maxRecDepth 100000 in
set_option maxHeartbeats 1000000 in
theorem front_any (s : ByteArray) (n : Nat) (hn : n ≤ 100000) (w : World) :
    Calls Tryd.prog 9 #[.string s, .int .i64 (n : Int)] w fun e w' => e = .returned (.string (frontB s n)) ∧ Below w.heap.size w w' := by
  go_enter Tryd.func9, Tryd.ntmps9
  go_wp2
  · go_ret
    exact ⟨rfl, Below.refl _ _⟩
  · go_ret
    exact ⟨by rw [frontB_all s n (by omega)]; rfl, Below.refl _ _⟩
end Go.Proofs.YtlhcckihnkkeaaaDoor

/-
  A byte in a set; the contract of frankinglow.In. Conditions: a byte, words.
-/
namespace Go.Proofs.YtlhcckihnkkeaaaDoor
open Go.RowKit

/-- a set: four words -/
structure St where
  s0 : Nat
  s1 : Nat
  s2 : Nat
  s3 : Nat
def St.word (s : St) (k : Nat) : Nat := if k = 0 then s.s0 else if k = 1 then s.s1 else if k = 2 then s.s2 else s.s3
def inS (s : St) (b : Nat) : Bool := (s.word (b / 64)).testBit (b % 64)
def setC (s : St) : List Value := [.int .u64 (s.s0 : Int), .int .u64 (s.s1 : Int), .int .u64 (s.s2 : Int), .int .u64 (s.s3 : Int)]
def setV (s : St) : Value := .agg (setC s).toArray
def St.ok (s : St) : Prop := s.s0 < 18446744073709551616 ∧ s.s1 < 18446744073709551616 ∧ s.s2 < 18446744073709551616 ∧ s.s3 < 18446744073709551616
def Ry.set (t : Ry) : St := ⟨t.s0, t.s1, t.s2, t.s3⟩
theorem setC_at (s : St) (k : Nat) (hk : k < 4) : (setC s)[k]? = some (.int .u64 (s.word k : Int)) := by
  match k, hk with
  | 0, _ => rfl
  | 1, _ => rfl
  | 2, _ => rfl
  | 3, _ => rfl
theorem bit_shr (x k : Nat) : decide (x / 2 ^ k % 2 = 1) = x.testBit k := by
  rw [Nat.testBit_eq_decide_div_mod_eq]
theorem word_lt (s : St) (hs : s.ok) (k : Nat) : s.word k < 18446744073709551616 := by
  obtain ⟨h0, h1, h2, h3⟩ := hs
  unfold St.word
  split
  · exact h0
  · split
    · exact h1
    · split
      · exact h2
      · exact h3
theorem and_one (s : St) (b : Nat) (hs : s.ok) : bits BinOp.and IntKind.u64 ((s.word (b / 64) : Int) / 2 ^ (b % 64)) 1 = ((s.word (b / 64) / 2 ^ (b % 64) % 2 : Nat) : Int) := by
  have h1 : s.word (b / 64) / 2 ^ (b % 64) < 18446744073709551616 := Nat.lt_of_le_of_lt (Nat.div_le_self _ _) (word_lt s hs _)
  have h2 := bits_and_u64_nat (s.word (b / 64) / 2 ^ (b % 64)) 1 h1 (by decide)
  have h3 : (s.word (b / 64) / 2 ^ (b % 64)) &&& 1 = s.word (b / 64) / 2 ^ (b % 64) % 2 := by
    have := Nat.and_two_pow_sub_one_eq_mod (s.word (b / 64) / 2 ^ (b % 64)) 1
    rwa [show (2 : Nat) ^ 1 - 1 = 1 from rfl, show (2 : Nat) ^ 1 = 2 from rfl] at this
  rw [h3] at h2
  rw [← h2, Int.natCast_ediv]
  norm_cast
theorem and_pow (s : St) (b : Nat) (hs : s.ok) : (bits BinOp.and IntKind.u64 (s.word (b / 64) : Int) (IntKind.u64.wrap (2 ^ (b % 64))) != 0) = inS s b := by
  have h0 : b % 64 < 64 := Nat.mod_lt _ (by decide)
  have hp : 2 ^ (b % 64) < 18446744073709551616 := Nat.lt_of_lt_of_le (Nat.pow_lt_pow_right (by decide) h0) (by decide)
  have hw : IntKind.u64.wrap (2 ^ (b % 64)) = ((2 ^ (b % 64) : Nat) : Int) := by
    have : ((2 : Int) ^ (b % 64)) = ((2 ^ (b % 64) : Nat) : Int) := by norm_cast
    rw [this]
    generalize 2 ^ (b % 64) = p at *
    unfold IntKind.wrap
    simp [IntKind.bits, IntKind.signed]
    omega
  rw [hw, bits_and_u64_nat _ _ (word_lt s hs _) hp]
  unfold inS
  generalize s.word (b / 64) = x
  generalize b % 64 = k
  have h1 : ∀ i, (x &&& 2 ^ k).testBit i = (x.testBit i && decide (k = i)) := fun i => by rw [Nat.testBit_and, Nat.testBit_two_pow]
  cases hx : x.testBit k with
  | false =>
    have : x &&& 2 ^ k = 0 := Nat.eq_of_testBit_eq fun i => by
      rw [h1, Nat.zero_testBit]
      by_cases hk : k = i
      · subst hk; simp [hx]
      · simp [hk]
    rw [this]
    rfl
  | true =>
    have h2 := h1 k
    rw [hx] at h2
    have : x &&& 2 ^ k ≠ 0 := fun h => by rw [h] at h2; simp at h2
    rw [bne_iff_ne]
    omega
theorem below_drewNc {B : Nat} {a w : World} (h : Below B a w) : ∀ n, Below B a (w.drewN n)
  | 0 => h
  | n + 1 => (below_drewNc h n).drew
set_option maxRecDepth 100000 in
set_option maxHeartbeats 1000000 in
theorem in_any (s : St) (b : Nat) (hb : b < 256) (hs : s.ok) (w : World) :
    Calls Tryd.prog 19 #[setV s, .int .u8 (b : Int)] w fun e w' => e = .returned (.bool (inS s b)) ∧ Below w.heap.size w w' := by
  have HB : Hid (Below w.heap.size w (w.alloc (.cells (setC s).toArray 43))) := (Below.refl _ _).alloc (Nat.le_refl _) _
  have hc : (w.alloc (.cells (setC s).toArray 43)).cell? ⟨w.heap.size, b / 64, none⟩ = some (.int .u64 (s.word (b / 64) : Int)) := ((Blk.new w 43 (setC s).toArray).cell _).trans (by simpa using setC_at s (b / 64) (by omega))
  unfold setV
  unfold setC at *
  go_enter Tryd.func19, Tryd.ntmps19
  go_wp2
  refine bodyPost_ret (results_tmp rfl _ _ _) rfl ?_
  refine ⟨?_, HB.out⟩
  exact ret_bool (by
    show (bits BinOp.and IntKind.u64 ((s.word (b / 64) : Int) / 2 ^ (b % 64)) 1 == 1) = inS s b
    rw [and_one s b hs]
    unfold inS
    rw [← bit_shr]
    generalize s.word (b / 64) / 2 ^ (b % 64) % 2 = m
    rw [Bool.eq_iff_iff, beq_iff_eq, decide_eq_true_iff]
    omega)
end Go.Proofs.YtlhcckihnkkeaaaDoor

/-
  The contract of frankinglaw07.NfaOrder. Conditions: the trees lie in memory; at most 1100000 nodes; the library's table.
-/
namespace Go.Proofs.YtlhcckihnkkeaaaDoor
open Go.RowKit Go.Shelf

theorem flat_app (l m : List Ry) : (l ++ m).flatMap ryCells = l.flatMap ryCells ++ m.flatMap ryCells := List.flatMap_append
/-- a row's cells -/
theorem RyIn.cells {w : World} {S : Nat → Prop} {a : Option Addr} {c : Nat} {ks : List Ry} (h : RyIn w S a c ks) (h0 : 0 < ks.length) : ∃ b off, a = some ⟨b, off, none⟩ ∧ b < w.heap.size ∧ ∀ j u, (ks.flatMap ryCells)[j]? = some u → w.cell? (Addr.add ⟨b, off, none⟩ j) = some u := by
  cases h with
  | nil => simp at h0
  | row _ b off c hS hlt hn hcap hm hok hc hk =>
    refine ⟨b, off, rfl, hlt, fun j u hj => ?_⟩
    have hjl := (List.getElem?_eq_some_iff.1 hj).1
    rw [flatCells_len] at hjl
    have hd : j = j / 6 * 6 + j % 6 := by omega
    rw [hd, flatCells_at ks (j / 6) (by omega) (j % 6) (by omega)] at hj
    have := hc (j / 6) (by omega) (j % 6) u hj
    rw [Addr.add_mid, show off + j = off + j / 6 * 6 + j % 6 by omega]
    exact this
theorem one_cells (l : List Ry) : ∀ u ∈ l.flatMap ryCells, u.oneCell' = true := fun u hu => by
  obtain ⟨t, _, h⟩ := List.mem_flatMap.1 hu
  simp only [ryCells, List.mem_cons, List.not_mem_nil, or_false] at h
  rcases h with rfl | rfl | rfl | rfl | rfl | rfl <;> simp [Value.oneCell']
set_option maxRecDepth 100000 in
set_option maxHeartbeats 2000000 in
theorem order_any (a : Option Addr) (c : Nat) (ls : List Ry) (s0 : ByteArray) (w : World) (h : RyIn w (· < w.heap.size) a c ls) (hb : (preL ls).length ≤ 1100000) (hT : TzAt w) (htb : 0 < w.heap.size) :
    Calls Tryd.prog 5 #[.slice a ls.length c, .string s0] w fun e w' => e = .returned (.bool true) ∧ Below w.heap.size w w' := by
  obtain ⟨W0, hW0⟩ : ∃ W0, W0 = w.alloc (.cells #[.string s0] 9) := ⟨_, rfl⟩
  have HL0 : Hid (Below w.heap.size w W0) := by rw [hW0]; exact (Below.refl _ _).alloc (Nat.le_refl _) _
  have HB0 : Hid (Blk W0 w.heap.size 9 #[.string s0]) := by rw [hW0]; exact Blk.new _ _ _
  have HRC := Lib.hid (right7_any a c ls W0 ((h.on HL0.out).mono (fun b hb h => hb)) hb)
  have HTW : Hid (∀ W, Below w.heap.size w W → TzAt W ∧ 0 < W.heap.size) := fun W hW => ⟨hT.below htb hW, Nat.lt_of_lt_of_le htb hW.size⟩
  have HAW : Hid (∀ W, Below w.heap.size w W → Calls Tryd.prog 8 #[] W fun e w' => e = .returned (.bool true) ∧ Below W.heap.size W w') := fun W hW => awake7_any W (hT.below htb hW) (Nat.lt_of_lt_of_le htb hW.size)
  obtain ⟨i0, hi0, hz0, hz1, hz2⟩ := info_parts infoRe
  obtain ⟨n, hn⟩ : ∃ n, n = ls.length := ⟨_, rfl⟩
  rw [← hn] at HRC ⊢
  clear h hb hT htb hn
  go_enter Tryd.func5, Tryd.ntmps5
  go_upto_region 1 with fail
  rw [← hW0]
  clear hW0
  obtain ⟨B, hB⟩ : ∃ B, B = w.heap.size := ⟨_, rfl⟩
  have HBW : Hid (B = w.heap.size) := hB
  rw [← hB] at HB0 ⊢
  clear hB
  go_upto_region 2 with (go_at_call 18; refine HRC.out.mono ?_; rintro e w2 ⟨⟨v, rfl, ho⟩, hb2⟩)
  obtain ⟨a', c', rfl, hri⟩ := ho.slice hb2
  have HL2 := Lib.hid (low_trans HL0.out hb2)
  have HB2 := Lib.hid (HB0.out.below hb2 HB0.out.lt)
  have HRI := Lib.hid hri
  have HRR : Hid (∀ t ∈ ls.filter rightR, rightR t = true) := fun t ht => (List.mem_filter.1 ht).2
  generalize ls.filter rightR = rs at *
  have hcc := hri.len
  unfold maxLen at hcc
  obtain ⟨m, hm⟩ : ∃ m, m = rs.length := ⟨_, rfl⟩
  have HM := Lib.hid hm
  have HFEW := Lib.hid (few6_any a' c' rs w2 hri)
  rw [← hm] at hcc HFEW ⊢
  obtain ⟨hcc1, hcc2⟩ := hcc
  clear ho hb2 hri HRC hm HL0 HB0
  by_cases hm0 : m = 0
  · have hz : ((m : Int) == 0) = true := by rw [beq_iff_eq]; omega
    clear hm0
    go_upto_region 3 with (go_at_call 6; refine HFEW.out.mono ?_; rintro e w3 ⟨⟨b, rfl, hfew⟩, hb3⟩; have HL3 := Lib.hid (low_trans HL2.out hb3); clear hb3 hfew)
    all_goals go_wp2_with (go_at_call 8; refine (HAW.out _ HL3.out).mono ?_; rintro e w4 ⟨rfl, hb4⟩; have HL4 := Lib.hid (low_trans HL3.out hb4); clear hb4)
    all_goals go_ret
    all_goals exact ⟨rfl, HL4.out⟩
  have hz : ((m : Int) == 0) = false := by rw [beq_eq_false_iff_ne]; omega
  go_upto_region 3 with (go_at_call 6; refine HFEW.out.mono ?_; rintro e w3 ⟨⟨b, rfl, hfew⟩, hb3⟩; have HL3 := Lib.hid (low_trans HL2.out hb3); have HL23 := Lib.hid hb3; have HFW := Lib.hid hfew; have HB3 := Lib.hid (HB2.out.below hb3 HB2.out.lt); have b0 : w3.cell? ⟨B, 0, none⟩ = some (.string s0) := (HB3.out.cell 0); have f0 := HB3.out.frozen 0; clear hb3 hfew)
  rotate_left 1
  · go_wp2_with (go_at_call 8; refine (HAW.out _ HL3.out).mono ?_; rintro e w4 ⟨rfl, hb4⟩; have HL4 := Lib.hid (low_trans HL3.out hb4); clear hb4)
    go_ret
    exact ⟨rfl, HL4.out⟩
  have hfr : FewR rs := HFW.out (by assumption)
  have h1 : 1 ≤ rs.length := by rw [← HM.out]; omega
  have HR3 := Lib.hid ((HRI.out.on HL23.out).mono (S' := (· < w3.heap.size)) (fun b hb h => hb))
  have hm6 : m ≤ 6 := by rw [HM.out]; exact hfr.1
  have hpn := few_all hfr
  obtain ⟨s, hs⟩ : ∃ s, s = frontB s0 20 := ⟨_, rfl⟩
  have hs14 : s.size ≤ 20 := by rw [hs, frontB_size]; omega
  have HFRO := Lib.hid (fun W => front_any s0 20 (by decide) W)
  rw [← hs] at HFRO
  have HPN := Lib.hid hpn
  have HPL : Hid ((preL rs).length ≤ 100000) := Nat.le_trans hpn (by decide)
  have H1 : Hid (1 ≤ rs.length) := h1
  clear hfr HFW HFEW hz hs hpn h1 HB2
  go_upto_region 5 with (go_at_call 9; refine (HFRO.out _).mono ?_; rintro e w4 ⟨rfl, hb4⟩; have HL4 := Lib.hid hb4; have HB4 := Lib.hid (HB3.out.below hb4 HB3.out.lt); have f4 := HB4.out.frozen 0; have b4 : w4.cell? ⟨B, 0, none⟩ = some (.string s0) := (HB4.out.cell 0); clear hb4)
  have HS4 : Hid (Blk (w4.setCell ⟨B, 0, none⟩ (.string s)) B 9 #[.string s]) := HB4.out.set_ 0 (.string s)
  have HL5 : Hid (Below w.heap.size w (w4.setCell ⟨B, 0, none⟩ (.string s))) := (low_trans HL3.out HL4.out).setCell (p := ⟨B, 0, none⟩) (by rw [HBW.out]; exact Nat.le_refl _) _
  have HR5 : Hid (RyIn (w4.setCell ⟨B, 0, none⟩ (.string s)) (· < (w4.setCell ⟨B, 0, none⟩ (.string s)).heap.size) a' c' rs) := by
    have h1 := (HR3.out.on HL4.out).apart (B := B) (fun o k h => by
      rw [HB4.out.cell] at h
      match o, h with
      | 0, h => cases h
      | o + 1, h => simp at h)
    refine h1.later (by rw [World.size_setCell]; exact Nat.le_refl _) (fun b hb hS => ⟨by rw [World.size_setCell]; exact hb, heap_setCell_other w4 ⟨B, 0, none⟩ b _ hS.2⟩)
  generalize w4.setCell ⟨B, 0, none⟩ (.string s) = W4 at *
  obtain ⟨b, off, rfl, hbl, hcells⟩ := HR5.out.cells (by rw [← HM.out]; omega)
  have HBL : Hid (b < W4.heap.size) := hbl
  have HCL := Lib.hid hcells
  clear b0 f0 f4 b4 HB3 HB4 HL23 HRI hbl hcells
  go_upto_region 7 with fail
  go_loopw [5, 34] (fun v i wr => ∃ k : Nat, k ≤ m ∧ i = .int .i64 (k : Int) ∧ Hid (OwnR W4 wr v (rs.reverse.take k)) ∧ Hid (Below W4.heap.size W4 wr)) (fun _ i _ => m - (intOf i).toNat)
  case atStart => exact ⟨0, Nat.zero_le _, rfl, ⟨World.ownsRow_nil _ _ _ _, fun t ht => by simp at ht⟩, Below.refl _ _⟩
  case round =>
    obtain ⟨k, hk, rfl, HO, HL⟩ := hrel
    by_cases hlt : k < m
    · have hlt' : (k : Int) < m := by omega
      have h0' : (0 : Int) ≤ k := by omega
      obtain ⟨q, hq⟩ : ∃ q, q = m - 1 - k := ⟨_, rfl⟩
      have hw1 : wrap64 ((m : Int) - 1) = (m : Int) - 1 := by unfold wrap64; omega
      have hw2 : wrap64 ((m : Int) - 1 - (k : Int)) = (q : Int) := by unfold wrap64; omega
      have hw3 : (m : Int) - 1 - (k : Int) = (q : Int) := by omega
      have hq1 : (q : Int) < m := by omega
      have hq0 : (0 : Int) ≤ q := by omega
      have hql : q < rs.length := by rw [← HM.out]; omega
      obtain ⟨b2, off2, e2, _, _, hxok, hxc, hxk⟩ := HR5.out.at_ hql
      simp only [Option.some.injEq, Addr.mk.injEq, and_true] at e2
      obtain ⟨rfl, rfl⟩ := e2
      obtain ⟨x, hx⟩ : ∃ x, x = rs[q] := ⟨_, rfl⟩
      have HXE : Hid (rs.reverse.take (k + 1) = rs.reverse.take k ++ [x]) := by
        show _ = _
        rw [List.take_succ_eq_append_getElem (by rw [List.length_reverse, ← HM.out]; exact hlt), List.getElem_reverse, hx]
        congr 3
        rw [hq, HM.out]
      rw [← hx] at hxok hxc hxk
      have HXO : Hid (ryOk x ∧ RyIn W4 (· < W4.heap.size) x.a x.cap x.kids) := ⟨hxok, hxk⟩
      have hcw : ∀ j u, (ryCells x)[j]? = some u → wr.cell? ⟨b, off + q * 6 + j, none⟩ = some u := fun j u hj => (HL.out.cell (p := ⟨b, off + q * 6 + j, none⟩) HBL.out).trans (hxc j u hj)
      have a0 := hcw 0 _ rfl
      have a1 := hcw 1 _ rfl
      have a2 := hcw 2 _ rfl
      have a3 := hcw 3 _ rfl
      have a4 := hcw 4 _ rfl
      have a5 := hcw 5 _ rfl
      rw [Nat.add_zero] at a0
      obtain ⟨xl, hxl⟩ : ∃ xl, xl = x.kids.length := ⟨_, rfl⟩
      have HXL := Lib.hid hxl
      rw [← hxl] at a5
      have hkl2 : (rs.reverse.take k).length = k := by rw [List.length_take, List.length_reverse, ← HM.out]; omega
      have HKL := Lib.hid hkl2
      clear hcw hx hxl hxok hxc hxk hq hkl2
      go_wp2_with (at_builtin; refine wpList_append_own _ rfl _ _ 22 rfl W4.heap.size 49 i0 (.agg #[.int .u8 0, .int .u64 0, .int .u64 0, .int .u64 0, .int .u64 0, .slice none 0 0]) 6 64 Tryd.underlying22 hi0 hz0 hz1 hz2 rfl (by decide) _ _ _ rfl (HO.out.own.alloc _) ⟨wr.heap.size, 0, none⟩ 1 1 [.int .u8 (x.kind : Int), .int .u64 (x.s0 : Int), .int .u64 (x.s1 : Int), .int .u64 (x.s2 : Int), .int .u64 (x.s3 : Int), .slice x.a xl x.cap] rfl rfl ?c1 ?c2 ?c3 ?c4 ?c5 ?_; rotate_left 5; intro v' w4' hown4 hg4 _; have HO4 := Lib.hid hown4; have HG4 := Lib.hid hg4; clear hown4 hg4)
      case c1 =>
        intro j u hj
        rw [Addr.add_lit, Nat.zero_add, (Blk.new wr 49 #[.int .u8 (x.kind : Int), .int .u64 (x.s0 : Int), .int .u64 (x.s1 : Int), .int .u64 (x.s2 : Int), .int .u64 (x.s3 : Int), .slice x.a xl x.cap]).cell j]
        simpa using hj
      case c2 => simp [Value.oneCell']
      case c3 => rw [HKL.out]; unfold maxLen; omega
      case c4 => rw [HKL.out]; omega
      case c5 => rw [World.size_alloc]; have := HL.out.size; omega
      refine ⟨⟨k + 1, hlt, by push_cast; rfl, ?_, ?_⟩, by simp [intOf]; omega⟩
      · rw [HXE.out]
        refine ⟨?_, fun t ht => ?_⟩
        · rw [flat_app, List.length_append]
          have := HO4.out
          rw [HXL.out] at this
          simpa [ryCells] using this
        · rcases List.mem_append.1 ht with ht | ht
          · exact HO.out.ok t ht
          · obtain rfl := List.mem_singleton.1 ht
            exact HXO.out
      · exact (HL.out.alloc HL.out.size _).grown HG4.out (by rw [World.size_alloc]; have := HL.out.size; omega) (fun r hr => by
          rcases HO.out.own.2 with ⟨h1, _⟩ | ⟨g, cap, cur, h1, h2, _⟩
          · rw [h1] at hr; cases hr
          · rw [h1] at hr
            injection hr with hr
            have hr : g = r := hr
            omega)
    · obtain rfl : k = m := by omega
      obtain ⟨WR, rfl⟩ : ∃ WR, WR = wr := ⟨_, rfl⟩
      have ho := HO.out
      rw [HM.out, ← List.length_reverse, List.take_length] at ho
      obtain ⟨a3, c3, rfl, hr3⟩ := ho.slice HL.out
      have HR6 := Lib.hid hr3
      rw [show rs.reverse.length = k from by rw [List.length_reverse, HM.out]]
      clear ho hr3 HO
      have HFW : Hid (∀ W, Below W4.heap.size W4 W → Below w.heap.size w W) := fun W hW => low_trans HL5.out hW
      have hk200 : rs.length ≤ 6 := by rw [← HM.out]; exact hm6
      have HC1 : Hid (∀ W, Below W4.heap.size W4 W → Calls Tryd.prog 20 #[.slice (some ⟨b, off, none⟩) k c', .pointer (some ⟨B, 0, none⟩)] W fun e w' => RunOut s rs W e w') := fun W hW =>
        run1_any HRR.out H1.out (by omega) (by have := HPN.out; omega) _ c' k HM.out B s hs14 W ((HR5.out.on hW).mono (fun b hb h => hb)) (HS4.out.below hW HS4.out.lt) (HTW.out _ (HFW.out _ hW)).1 (HTW.out _ (HFW.out _ hW)).2
      have HC2 : Hid (∀ W, Below WR.heap.size WR W → Calls Tryd.prog 20 #[.slice a3 k c3, .pointer (some ⟨B, 0, none⟩)] W fun e w' => RunOut s rs.reverse W e w') := fun W hW =>
        run1_any (fun t ht => HRR.out t (List.mem_reverse.1 ht)) (by rw [List.length_reverse]; exact H1.out) (by rw [List.length_reverse]; omega) (by rw [preL_rev]; have := HPN.out; omega) a3 c3 k (by rw [List.length_reverse]; exact HM.out) B s hs14 W ((HR6.out.on hW).mono (fun b hb h => hb)) (HS4.out.below (low_trans HL.out hW) HS4.out.lt) (HTW.out _ (HFW.out _ (low_trans HL.out hW))).1 (HTW.out _ (HFW.out _ (low_trans HL.out hW))).2
      have HC3 : Hid (∀ W v, Below W4.heap.size W4 W → W.ownsRow W4.heap.size 49 6 v (0 + k + k) ([] ++ rs.flatMap ryCells ++ rs.flatMap ryCells) → ∃ a c, v = .slice a (k + k) c ∧ Calls Tryd.prog 20 #[.slice a (k + k) c, .pointer (some ⟨B, 0, none⟩)] W fun e w' => RunOut s (rs ++ rs) W e w') := fun W v hW ho => by
        have hlen : (rs ++ rs).length = k + k := by rw [List.length_append, ← HM.out]
        rw [Nat.zero_add] at ho
        have hor : OwnR W4 W v (rs ++ rs) := by
          refine ⟨by rw [hlen, flat_app]; exact ho, fun t ht => ?_⟩
          have ht2 : t ∈ rs := by rcases List.mem_append.1 ht with h | h <;> exact h
          obtain ⟨i, hi, rfl⟩ := List.getElem_of_mem ht2
          obtain ⟨_, _, _, _, _, h1, _, h2⟩ := HR5.out.at_ hi
          exact ⟨h1, h2⟩
        obtain ⟨a9, c9, rfl, hri⟩ := hor.slice hW
        rw [hlen]
        refine ⟨a9, c9, rfl, run1_any (fun t ht => ?_) (by rw [List.length_append]; have := H1.out; omega) (by rw [List.length_append]; omega) (by rw [preL_app, List.length_append]; have := HPN.out; omega) a9 c9 (k + k) hlen.symm B s hs14 W hri (HS4.out.below hW HS4.out.lt) (HTW.out _ (HFW.out _ hW)).1 (HTW.out _ (HFW.out _ hW)).2⟩
        rcases List.mem_append.1 ht with h | h <;> exact HRR.out t h
      have HCW : Hid (∀ W, Below W4.heap.size W4 W → ∀ j u, (rs.flatMap ryCells)[j]? = some u → W.cell? (Addr.add ⟨b, off, none⟩ j) = some u) := fun W hW j u hj => by
        have h1 := HCL.out j u hj
        rw [Addr.add_mid] at h1 ⊢
        exact (hW.cell (p := ⟨b, off + j, none⟩) HBL.out).trans h1
      have HFL : Hid ((rs.flatMap ryCells).length = k * 6) := by show _ = _; rw [flatCells_len, HM.out]
      have HOW : Hid (∀ W : World, W4.heap.size ≤ W.heap.size → (W.alloc (.cells #[] 49)).ownsRow W4.heap.size 49 6 (.slice (some ⟨W.heap.size, 0, none⟩) 0 0) 0 []) := fun W hW => own_of (Blk.new W _ #[]) hW (Nat.le_refl _) (by decide) rfl rfl
      clear HR6 HCL HS4 HL2 HL3 HL4 HPN H1 HTW HBW HRR HFRO hk200
      go_upto_region 14 with (first
        | (go_at_call 20; refine (HC1.out WR HL.out).mono ?_; rintro e w5 ⟨g1, ts1, rfl, hl1, hb1, hbw1, hf1⟩; have HG1 := Lib.hid hb1; have HT1 := Lib.hid hl1; have HF1 := Lib.hid hf1; have HB5 := Lib.hid hbw1; clear hl1 hb1 hbw1 hf1 HC1)
        | (go_at_call 20; refine (HC2.out w5 HB5.out).mono ?_; rintro e w6 ⟨g2, ts2, rfl, hl2, hb2, hbw2, hf2⟩; have HG2 := Lib.hid hb2; have HT2 := Lib.hid hl2; have HF2 := Lib.hid hf2; have HB6 := Lib.hid hbw2; have HG1' := Lib.hid (HG1.out.below hbw2 HG1.out.lt); have HL6 := Lib.hid (low_trans HL.out (low_trans HB5.out hbw2)); clear hl2 hb2 hbw2 hf2 HC2)
        | (at_builtin; refine wpList_append_own _ rfl _ _ 22 rfl W4.heap.size 49 i0 (.agg #[.int .u8 0, .int .u64 0, .int .u64 0, .int .u64 0, .int .u64 0, .slice none 0 0]) 6 64 Tryd.underlying22 hi0 hz0 hz1 hz2 rfl (by decide) _ 0 [] rfl (HOW.out w6 HL6.out.size) ⟨b, off, none⟩ k c' (rs.flatMap ryCells) rfl HFL.out (HCW.out _ (HL6.out.alloc HL6.out.size _)) (one_cells _) (by unfold maxLen; omega) (by omega) (by rw [World.size_alloc]; have := HL6.out.size; omega) ?_; intro v7 w7 hown7 hg7 _; have HO7 := Lib.hid hown7; have HL7 : Hid (Below W4.heap.size W4 w7) := ((HL6.out.alloc HL6.out.size _).grown hg7 (by rw [World.size_alloc]; have := HL6.out.size; omega) (fun r hr => (by injection hr with hr; have hr : w6.heap.size = r := hr; have := HL6.out.size; omega))); have HG17 := Lib.hid ((HG1'.out.alloc (.cells #[] 49)).kept hg7 (blk_apart (HOW.out w6 HL6.out.size) (HG1'.out.alloc (.cells #[] 49)) (by decide))); have HG27 := Lib.hid ((HG2.out.alloc (.cells #[] 49)).kept hg7 (blk_apart (HOW.out w6 HL6.out.size) (HG2.out.alloc (.cells #[] 49)) (by decide))); clear hown7 hg7)
        | (at_builtin; refine wpList_append_own _ rfl _ _ 22 rfl W4.heap.size 49 i0 (.agg #[.int .u8 0, .int .u64 0, .int .u64 0, .int .u64 0, .int .u64 0, .slice none 0 0]) 6 64 Tryd.underlying22 hi0 hz0 hz1 hz2 rfl (by decide) _ _ _ rfl HO7.out ⟨b, off, none⟩ k c' (rs.flatMap ryCells) rfl HFL.out (HCW.out _ HL7.out) (one_cells _) (by unfold maxLen; omega) (by omega) HL7.out.size ?_; intro v8 w8 hown8 hg8 _; have HL8 : Hid (Below W4.heap.size W4 w8) := (HL7.out.grown hg8 HL7.out.size (fun r hr => (by
            rcases HO7.out.2 with ⟨h1, _⟩ | ⟨g, cap, cur, h1, h2, _⟩
            · rw [h1] at hr; cases hr
            · rw [h1] at hr
              injection hr with hr
              have hr : g = r := hr
              omega))); have HG18 := Lib.hid (HG17.out.kept hg8 (blk_apart HO7.out HG17.out (by decide))); have HG28 := Lib.hid (HG27.out.kept hg8 (blk_apart HO7.out HG27.out (by decide))); obtain ⟨a9, c9, rfl, hc9⟩ := HC3.out w8 v8 HL8.out hown8; have HC9 := Lib.hid hc9; clear hown8 hg8 hc9 HC3)
        | (go_at_call 20; refine HC9.out.mono ?_; rintro e w9 ⟨g3, ts3, rfl, hl3, hb3, hbw3, hf3⟩; have HG3 := Lib.hid hb3; have HT3 := Lib.hid hl3; have HF3 := Lib.hid hf3; have HL9 := Lib.hid (low_trans HL8.out hbw3); have HG19 := Lib.hid (HG18.out.below hbw3 HG18.out.lt); have HG29 := Lib.hid (HG28.out.below hbw3 HG28.out.lt); clear hl3 hb3 hbw3 hf3))
      have HTG : Hid (∀ W, Below w9.heap.size w9 W → ∀ i, i ≤ s.size → W.cell? ⟨g1, i, none⟩ = some (.int .i64 (ts1.getD i 0)) ∧ W.cell? ⟨g2, i, none⟩ = some (.int .i64 (ts2.getD i 0)) ∧ W.cell? ⟨g3, i, none⟩ = some (.int .i64 (ts3.getD i 0))) := fun W hW i hi => by
        have key : ∀ (g : Nat) (ts : List Int), Blk w9 g 3 (ts.map tV).toArray → ts.length = s.size + 1 → W.cell? ⟨g, i, none⟩ = some (.int .i64 (ts.getD i 0)) := fun g ts hb hl => by
          rw [(hb.below hW hb.lt).cell, List.getElem?_toArray, List.getElem?_map, List.getElem?_eq_getElem (by omega), List.getD_eq_getElem?_getD, List.getElem?_eq_getElem (by omega)]
          rfl
        exact ⟨key g1 ts1 HG19.out HT1.out, key g2 ts2 HG29.out HT2.out, key g3 ts3 HG3.out HT3.out⟩
      have HFF : Hid (∀ i, i ≤ s.size → ∃ av bv : Int, ts1.getD i 0 = av ∧ ts2.getD i 0 = bv ∧ ts3.getD i 0 = av ∧ ((av = -1 ∧ bv = -1) ∨ ∃ p q : Nat, av = (p : Int) ∧ bv = (q : Int) ∧ p + q + 1 ≤ k ∧ (k = 1 → p = q))) := fun i hi => by
        have h1 := HF1.out i hi
        have h2 := HF2.out i hi
        have h3 := first_twice (HF3.out i hi)
        have h4 := first_back h1 h2
        have h5 := first_bound h1
        have h6 := first_bound h2
        rw [List.length_reverse] at h6
        have h7 := FirstT.one h3 h1
        have hkm := HM.out
        refine ⟨_, _, rfl, rfl, h7, ?_⟩
        by_cases hn : ts1.getD i 0 < 0
        · have := h4.1.1 hn
          exact .inl ⟨by omega, by omega⟩
        · have h8 : ¬ ts2.getD i 0 < 0 := fun h => hn (h4.1.2 h)
          have h9 := h4.2.1 (by omega)
          exact .inr ⟨(ts1.getD i 0).toNat, (ts2.getD i 0).toNat, by omega, by omega, by omega, fun h => by have := h4.2.2 (by omega); omega⟩
      have HN1 : Hid (∀ W, Calls Tryd.prog 10 #[.slice none 0 0, .int .i64 5] W fun e w' => ∃ a' c', e = .returned (.tuple #[.agg #[.int .i64 0, .slice a' 0 c'], .int .i64 2]) ∧ Below W.heap.size W w') := fun W => build_not none 0 0 [] rfl 5 (by simp) W (.nil _ _) (by simp [preL])
      have HN2 : Hid (∀ W g, RyIn W (· < W.heap.size) (some ⟨g, 0, none⟩) 201 (List.replicate 201 zeroRy) → Calls Tryd.prog 10 #[.slice (some ⟨g, 0, none⟩) 201 201, .int .i64 20000] W fun e w' => ∃ a' c', e = .returned (.tuple #[.agg #[.int .i64 0, .slice a' 0 c'], .int .i64 2]) ∧ Below W.heap.size W w') := fun W g h => build_not _ 201 201 _ List.length_replicate.symm 20000 (by rw [List.length_replicate]; omega) W h (by rw [preL_zeros]; omega)
      have HN3 : Hid (∀ W, Below W4.heap.size W4 W → Calls Tryd.prog 10 #[.slice (some ⟨b, off, none⟩) k c', .int .i64 20001] W fun e w' => ∃ a' c', e = .returned (.tuple #[.agg #[.int .i64 0, .slice a' 0 c'], .int .i64 2]) ∧ Below W.heap.size W w') := fun W hW => build_not _ c' k rs HM.out 20001 (by omega) W ((HR5.out.on hW).mono (fun b hb h => hb)) HPL.out
      clear HG3 HG19 HG29 HG18 HG28 HG17 HG27 HG1' HG1 HG2 HT1 HT2 HT3 HF1 HF2 HF3 HR5 HO7 HL7 HL8 HB5 HB6 HL6 HCW HOW HFL HBL hcc1 hcc2 HL
      go_loopw [65] (fun u wr2 => ∃ i : Nat, i ≤ s.size + 1 ∧ u = .int .i64 (i : Int) ∧ Hid (Below w9.heap.size w9 wr2)) (fun u _ => s.size + 1 - (intOf u).toNat)
      case atStart => exact ⟨0, Nat.zero_le _, rfl, Below.refl _ _⟩
      case round =>
        obtain ⟨i, hi, rfl, HL⟩ := hrel
        by_cases hlt2 : i < s.size + 1
        · have hlt2' : (i : Int) < (s.size : Int) + 1 := by omega
          have h02 : (0 : Int) ≤ i := by omega
          obtain ⟨t1, t2, t3⟩ := HTG.out _ HL.out i (by omega)
          obtain ⟨av, bv, e1, e2, e3, hw⟩ := HFF.out i (by omega)
          rw [e1] at t1
          rw [e2] at t2
          rw [e3] at t3
          have hkw : wrap64 ((k : Int) - 1) = (k : Int) - 1 := by unfold wrap64; omega
          clear e1 e2 e3
          rcases hw with ⟨rfl, rfl⟩ | ⟨p, q, rfl, rfl, hpq, hp1⟩
          · have hbw : wrap64 ((k : Int) - 1 - -1) = (k : Int) := by unfold wrap64; omega
            go_upto_region 17 with fail
            by_cases hk1 : k = 1
            · have d1 : ((k : Int) == 1) = true := by rw [beq_iff_eq]; omega
              clear hk1 hbw hkw
              go_quiet (fail)
              go_wp2_with fail
              exact ⟨⟨i + 1, by omega, by push_cast; rfl, below_drewNc HL.out _⟩, by simp [intOf]; omega⟩
            · have d1 : ((k : Int) == 1) = false := by rw [beq_eq_false_iff_ne]; omega
              clear hk1 hbw hkw
              go_quiet (fail)
              go_wp2_with fail
              exact ⟨⟨i + 1, by omega, by push_cast; rfl, below_drewNc HL.out _⟩, by simp [intOf]; omega⟩
          · have hbw : wrap64 ((k : Int) - 1 - (q : Int)) = (k : Int) - 1 - (q : Int) := by unfold wrap64; omega
            go_upto_region 17 with fail
            have d2 : decide ((p : Int) < 0) = false := by rw [decide_eq_false_iff_not]; omega
            have d3 : decide ((q : Int) < 0) = false := by rw [decide_eq_false_iff_not]; omega
            have d4 : decide ((0 : Int) ≤ (p : Int)) = true := by rw [decide_eq_true_iff]; omega
            have d5 : decide ((k : Int) - 1 - (q : Int) < (p : Int)) = false := by rw [decide_eq_false_iff_not]; omega
            have e2 : ¬ (p : Int) < 0 := by omega
            have e3 : ¬ (q : Int) < 0 := by omega
            have e4 : (0 : Int) ≤ (p : Int) := by omega
            have e5 : ¬ (k : Int) - 1 - (q : Int) < (p : Int) := by omega
            by_cases hk1 : k = 1
            · have d1 : ((k : Int) == 1) = true := by rw [beq_iff_eq]; omega
              have d6 : ((p : Int) == (q : Int)) = true := by rw [beq_iff_eq]; have := hp1 hk1; omega
              have d7 : ((p : Int) != (q : Int)) = false := by rw [bne, d6]; rfl
              clear hk1 hbw hkw hp1 hpq
              go_quiet (fail)
              go_wp2_with fail
              exact ⟨⟨i + 1, by omega, by push_cast; rfl, below_drewNc HL.out _⟩, by simp [intOf]; omega⟩
            · have d1 : ((k : Int) == 1) = false := by rw [beq_eq_false_iff_ne]; omega
              clear hk1 hbw hkw hp1 hpq
              go_quiet (fail)
              go_wp2_with fail
              exact ⟨⟨i + 1, by omega, by push_cast; rfl, below_drewNc HL.out _⟩, by simp [intOf]; omega⟩
        · obtain rfl : i = s.size + 1 := by omega
          clear HTG HFF
          go_upto_region 21 with (go_at_call 10; refine (HN1.out _).mono ?_; rintro e w10 ⟨a10, c10, rfl, hb10⟩; have HL10 := Lib.hid (low_trans HL.out hb10); clear hb10)
          obtain ⟨W10, hW10⟩ : ∃ W10, W10 = w10.alloc (.cells #[.int .i64 0, .slice a10 0 c10] 25) := ⟨_, rfl⟩
          have HL11 : Hid (Below w9.heap.size w9 W10) := by rw [hW10]; exact HL10.out.alloc HL10.out.size _
          rw [← hW10]
          clear hW10 HL10
          obtain ⟨wm, hmk, hri, hlm⟩ := make_res W10 201 (by decide) (by decide)
          have hmk' : (Instr.makeSlice 22 (.int .i64 201) (.int .i64 201)).run Tryd.prog W10 = .ok (.slice (some ⟨W10.heap.size, 0, none⟩) 201 201) wm := hmk
          have HLM := Lib.hid (low_trans HL11.out hlm)
          have HQ2 := Lib.hid (HN2.out wm _ hri)
          clear hmk hri hlm HN2
          obtain ⟨gm, hgm⟩ : ∃ gm, gm = W10.heap.size := ⟨_, rfl⟩
          rw [← hgm] at hmk' HQ2
          clear hgm
          go_wp2_with (first
            | (go_at_call 10; refine HQ2.out.mono ?_; rintro e w11 ⟨a11, c11, rfl, hb11⟩; have HL12 : Hid (Below w9.heap.size w9 (w11.alloc (.cells #[.int .i64 0, .slice a11 0 c11] 25))) := (low_trans HLM.out hb11).alloc (low_trans HLM.out hb11).size _; clear hb11 HQ2)
            | (go_at_call 10; refine (HN3.out _ (low_trans HL9.out HL12.out)).mono ?_; rintro e w12 ⟨a12, c12, rfl, hb12⟩; have HL13 : Hid (Below w9.heap.size w9 (w12.alloc (.cells #[.int .i64 0, .slice a12 0 c12] 25))) := (low_trans HL12.out hb12).alloc (low_trans HL12.out hb12).size _; clear hb12 HN3)
            | (go_at_call 8; refine (HAW.out _ (HFW.out _ (low_trans HL9.out HL13.out))).mono ?_; rintro e w13 ⟨rfl, hb13⟩; have HL14 := Lib.hid (low_trans (HFW.out _ (low_trans HL9.out HL13.out)) hb13); clear hb13))
          go_ret
          exact ⟨rfl, HL14.out⟩
end Go.Proofs.YtlhcckihnkkeaaaDoor
