/-
  Merged texts (NlP, NlQ, RlP, RlA, RlS, RxS, RlB, RlC, RlF, NlR, NtA, NtW), each under a head of its own that says what it proves and under which conditions.
-/
import Derived.Test.YtdckjjkaoecgaaaDoorNwP
import Derived.Test.YtdckjjkaoecgaaaDoorNbV
import Derived.Test.YtdckjjkaoecgaaaDoorNcP
import Derived.Test.YtdckjjkaoecgaaaDoorGa
import Derived.Laws.Bits64b
import Derived.BigQuiet
import Derived.Deep.DeepCutAuto
import Derived.Test.YtdckjjkaoecgaaaDoorRxA
import Derived.Deep.CutBlock
import Derived.Deep.RegionHeld3
import Derived.Test.YtdckjjkaoecgaaaDoorRxP
import Derived.Test.YtdckjjkaoecgaaaDoorNwR
import Derived.Test.YtdckjjkaoecgaaaDoorNaW
import Derived.Test.YtdckjjkaoecgaaaDoorGd
import Derived.OwnWalk
/-
  The texts that a regular tree has, and the ways of its machine: a tree toward a state comes to it by just the texts that it has. No conditions but right trees.
-/
namespace Go.Proofs.YtdckjjkaoecgaaaDoor
open Go.RowKit

/-- as often as may be -/
inductive StarL (P : List UInt8 → Prop) : List UInt8 → Prop
  | nil : StarL P []
  | cons {u v : List UInt8} : P u → StarL P v → StarL P (u ++ v)
def inW (s0 s1 s2 s3 b : Nat) : Bool := ((if b / 64 = 0 then s0 else if b / 64 = 1 then s1 else if b / 64 = 2 then s2 else s3)).testBit (b % 64)
mutual
/-- a tree has a text -/
def hasR : Ry → List UInt8 → Prop
  | .mk k s0 s1 s2 s3 _ _ ks, u => if k = 0 then u = [] else if k = 1 then ∃ b : UInt8, u = [b] ∧ inW s0 s1 s2 s3 b.toNat = true else if k = 2 then rowL ks u else if k = 3 then anyL ks u else if k = 4 then ks.length = 1 ∧ StarL (anyL ks) u else False
def rowL : List Ry → List UInt8 → Prop
  | [], u => u = []
  | t :: r, u => ∃ v w, u = v ++ w ∧ hasR t v ∧ rowL r w
def anyL : List Ry → List UInt8 → Prop
  | [], _ => False
  | t :: r, u => hasR t u ∨ anyL r u
end
theorem hasR_eq (t : Ry) (u : List UInt8) : hasR t u = if t.kind = 0 then u = [] else if t.kind = 1 then ∃ b : UInt8, u = [b] ∧ inW t.s0 t.s1 t.s2 t.s3 b.toNat = true else if t.kind = 2 then rowL t.kids u else if t.kind = 3 then anyL t.kids u else if t.kind = 4 then t.kids.length = 1 ∧ StarL (anyL t.kids) u else False := by
  cases t
  rw [hasR]
  rfl
theorem anyL_iff (u : List UInt8) : ∀ ks : List Ry, anyL ks u ↔ ∃ t ∈ ks, hasR t u
  | [] => by simp [anyL]
  | t :: r => by
    rw [anyL, anyL_iff u r]
    simp
/-! ### ways -/
/-- a way of so many steps from a state to another one, by which a text is read -/
inductive WayN (M : List NS) (q : Nat) : Nat → Nat → List UInt8 → Prop
  | done : WayN M q 0 q []
  | byte {n p : Nat} {x : NS} {c : UInt8} {l : List UInt8} : M[p]? = some x → x.kind = 1 → inNs x c.toNat = true → WayN M q n x.a.toNat l → WayN M q (n + 1) p (c :: l)
  | left {n p : Nat} {x : NS} {l : List UInt8} : M[p]? = some x → x.kind = 2 → WayN M q n x.a.toNat l → WayN M q (n + 1) p l
  | right {n p : Nat} {x : NS} {l : List UInt8} : M[p]? = some x → x.kind = 2 → WayN M q n x.b.toNat l → WayN M q (n + 1) p l
/-- an end -/
def EndAt (M : List NS) (q : Nat) : Prop := ∃ y, M[q]? = some y ∧ y.kind = 0
theorem way_end {M : List NS} {q p n : Nat} {l : List UInt8} (hp : EndAt M p) (h : WayN M q n p l) : q = p ∧ l = [] := by
  obtain ⟨y, h1, h2⟩ := hp
  cases h with
  | done => exact ⟨rfl, rfl⟩
  | byte a b _ _ => rw [h1] at a; injection a with a; subst a; omega
  | left a b _ => rw [h1] at a; injection a with a; subst a; omega
  | right a b _ => rw [h1] at a; injection a with a; subst a; omega
theorem way_byte {M : List NS} {q p n : Nat} {x : NS} {l : List UInt8} (hq : EndAt M q) (hx : M[p]? = some x) (hk : x.kind = 1) (h : WayN M q n p l) : ∃ c r m, n = m + 1 ∧ l = c :: r ∧ inNs x c.toNat = true ∧ WayN M q m x.a.toNat r := by
  obtain ⟨y, h1, h2⟩ := hq
  cases h with
  | done => rw [h1] at hx; injection hx with hx; subst hx; omega
  | byte a b c d => rw [hx] at a; injection a with a; subst a; exact ⟨_, _, _, rfl, rfl, c, d⟩
  | left a b _ => rw [hx] at a; injection a with a; subst a; omega
  | right a b _ => rw [hx] at a; injection a with a; subst a; omega
theorem way_split {M : List NS} {q p n : Nat} {x : NS} {l : List UInt8} (hq : EndAt M q) (hx : M[p]? = some x) (hk : x.kind = 2) (h : WayN M q n p l) : ∃ m, n = m + 1 ∧ (WayN M q m x.a.toNat l ∨ WayN M q m x.b.toNat l) := by
  obtain ⟨y, h1, h2⟩ := hq
  cases h with
  | done => rw [h1] at hx; injection hx with hx; subst hx; omega
  | byte a b c d => rw [hx] at a; injection a with a; subst a; omega
  | left a b c => rw [hx] at a; injection a with a; subst a; exact ⟨_, rfl, .inl c⟩
  | right a b c => rw [hx] at a; injection a with a; subst a; exact ⟨_, rfl, .inr c⟩
theorem WayN.more {M : List NS} {q : Nat} {n m p r : Nat} {l k : List UInt8} (h : WayN M r n p l) (g : WayN M q m r k) : WayN M q (n + m) p (l ++ k) := by
  induction h with
  | done => rw [Nat.zero_add]; exact g
  | byte a b c _ ih => rw [Nat.add_right_comm]; exact .byte a b c ih
  | left a b _ ih => rw [Nat.add_right_comm]; exact .left a b ih
  | right a b _ ih => rw [Nat.add_right_comm]; exact .right a b ih
theorem reach_way {M : List NS} {p q : Nat} (h : Reach M p q) : ∃ n, WayN M q n p [] := by
  induction h with
  | refl p => exact ⟨0, .done⟩
  | left a b _ ih => exact ⟨_, .left a b ih.choose_spec⟩
  | right a b _ ih => exact ⟨_, .right a b ih.choose_spec⟩
theorem stand_way {M : List NS} {q : Nat} : ∀ (l : List UInt8) (S : Nat → Prop), StandS M S l q → ∃ p n, S p ∧ WayN M q n p l
  | [], S, h => ⟨q, 0, h, .done⟩
  | c :: r, S, h => by
    obtain ⟨p, n, ⟨p1, x, h1, h2, h3, h4, h5⟩, hw⟩ := stand_way r _ h
    obtain ⟨m, hm⟩ := reach_way h5
    exact ⟨p1, _, h1, .byte h2 h3 h4 (hm.more hw)⟩
theorem stand_mono {M : List NS} {q : Nat} : ∀ (l : List UInt8) (S S' : Nat → Prop), (∀ p, S p → S' p) → StandS M S l q → StandS M S' l q
  | [], _, _, h, k => h q k
  | _ :: r, _, _, h, k => stand_mono r _ _ (fun _ ⟨p1, x, h1, h2⟩ => ⟨p1, x, h p1 h1, h2⟩) k
theorem way_stand {M : List NS} {q n p : Nat} {l : List UInt8} (h : WayN M q n p l) : StandS M (Reach M p) l q := by
  induction h with
  | done => exact .refl _
  | @byte n p x c l a b d _ ih =>
    show StandS M (StepS M (Reach M p) c.toNat) l q
    exact stand_mono l _ _ (fun y hy => ⟨p, x, .refl _, a, b, d, hy⟩) ih
  | left a b _ ih => exact stand_mono _ _ _ (fun y hy => .left a b hy) ih
  | right a b _ ih => exact stand_mono _ _ _ (fun y hy => .right a b hy) ih
theorem stand_iff {M : List NS} {q p : Nat} {l : List UInt8} : StandS M (Reach M p) l q ↔ ∃ n, WayN M q n p l := by
  constructor
  · intro h
    obtain ⟨p1, n, h1, h2⟩ := stand_way l _ h
    obtain ⟨m, hm⟩ := reach_way h1
    exact ⟨_, hm.more h2⟩
  · rintro ⟨n, h⟩
    exact way_stand h
/-! ### what is made stays -/
theorem open_keeps (t : Ry) (tw : Int) (st : List NS) (k : Nat) (hk : k < st.length) : (openP t tw st).2[k]? = st[k]? := by
  unfold openP
  (repeat' split) <;> first | rfl | exact List.getElem?_append_left hk
theorem join_keeps (p : Pq) (kid : Int) (st : List NS) (k : Nat) (hk : k < st.length) (h4 : p.kind = 4 → k ≠ p.begin.toNat) : (joinP p kid st).2[k]? = st[k]? := by
  unfold joinP
  by_cases k2 : p.kind = 2
  · rw [if_pos k2]
  · rw [if_neg k2]
    by_cases k3 : p.kind = 3
    · rw [if_pos k3]
      split
      · rfl
      · exact List.getElem?_append_left hk
    · rw [if_neg k3]
      by_cases k4 : p.kind = 4
      · rw [if_pos k4]
        exact List.getElem?_modify_ne _ _ (Ne.symm (h4 k4))
      · rw [if_neg k4]
theorem joinP_kind (p : Pq) (kid : Int) (st : List NS) : (joinP p kid st).1.kind = p.kind ∧ (p.kind = 4 → (joinP p kid st).1 = p) ∧ (p.kind = 3 → (joinP p kid st).1.tw = p.tw) := by
  unfold joinP
  refine ⟨?_, fun h => ?_, fun h => ?_⟩
  · (repeat' split) <;> rfl
  · rw [if_neg (by omega), if_neg (by omega), if_pos h]
  · rw [if_neg (by omega), if_pos h]
    split <;> rfl
theorem kidsR_kind : ∀ (ks : List Ry) (p : Pq) (st : List NS), (kidsR ks p st).1.kind = p.kind ∧ (p.kind = 4 → (kidsR ks p st).1 = p) ∧ (p.kind = 3 → (kidsR ks p st).1.tw = p.tw)
  | [], p, st => by rw [kidsR_nil]; exact ⟨rfl, fun _ => rfl, fun _ => rfl⟩
  | k :: ks, p, st => by
    obtain ⟨h1, h2, h3⟩ := kidsR_kind ks p st
    rw [kidsR_cons]
    obtain ⟨j1, j2, j3⟩ := joinP_kind (kidsR ks p st).1 (towardR k (kidsR ks p st).1.tw (kidsR ks p st).2).1 (towardR k (kidsR ks p st).1.tw (kidsR ks p st).2).2
    exact ⟨j1.trans h1, fun h => (j2 (h1.trans h)).trans (h2 h), fun h => (j3 (h1.trans h)).trans (h3 h)⟩
mutual
theorem toward_keeps : ∀ (t : Ry) (tw : Int) (st : List NS) (k : Nat), k < st.length → (towardR t tw st).2[k]? = st[k]?
  | .mk kd s0 s1 s2 s3 a c kids, tw, st, k, hk => by
    rw [towardR]
    have h1 := open_keeps (.mk kd s0 s1 s2 s3 a c kids) tw st k hk
    have h2 := open_grows (.mk kd s0 s1 s2 s3 a c kids) tw st
    refine (kids_keep kids _ _ k (by omega) (fun h4 => ?_)).trans h1
    unfold openP at h4 ⊢
    split
    · rename_i h
      rw [if_pos h] at h4
      simp only at h4
      have : (Ry.mk kd s0 s1 s2 s3 a c kids).kind = 4 := h4
      omega
    · split
      · rename_i h h'
        rw [if_neg h, if_pos h'] at h4
        simp only at h4
        have : (Ry.mk kd s0 s1 s2 s3 a c kids).kind = 4 := h4
        omega
      · split
        · simp only [Int.toNat_natCast]
          omega
        · rename_i h h' h''
          rw [if_neg h, if_neg h', if_neg h''] at h4
          exact absurd h4 h''
theorem kids_keep : ∀ (ks : List Ry) (p : Pq) (st : List NS) (k : Nat), k < st.length → (p.kind = 4 → k ≠ p.begin.toNat) → (kidsR ks p st).2[k]? = st[k]?
  | [], p, st, k, _, _ => by rw [kidsR_nil]
  | x :: ks, p, st, k, hk, h4 => by
    rw [kidsR_cons]
    have g1 := kids_grow ks p st
    have g2 := toward_grows x (kidsR ks p st).1.tw (kidsR ks p st).2
    obtain ⟨q1, q2, _⟩ := kidsR_kind ks p st
    rw [join_keeps _ _ _ k (by omega) (fun h => by rw [q2 (q1.symm.trans h)]; exact h4 (q1.symm.trans h)), toward_keeps x _ _ k (by omega)]
    exact kids_keep ks p st k hk h4
end
/-- from a base on no state is an end -/
def NoEnd (lo : Nat) (st : List NS) : Prop := ∀ k x, lo ≤ k → st[k]? = some x → x.kind = 1 ∨ x.kind = 2
theorem NoEnd.snoc {lo : Nat} {st : List NS} (h : NoEnd lo st) {x : NS} (hx : x.kind = 1 ∨ x.kind = 2) : NoEnd lo (st ++ [x]) := fun k y hk hy => by
  by_cases hl : k < st.length
  · rw [List.getElem?_append_left hl] at hy; exact h k y hk hy
  · rw [List.getElem?_append_right (by omega)] at hy
    have := (List.getElem?_eq_some_iff.1 hy).1
    simp at this
    have h0 : k - st.length = 0 := by omega
    rw [h0] at hy
    injection hy with hy
    subst hy
    exact hx
theorem NoEnd.start (st : List NS) : NoEnd st.length st := fun k x hk hx => by have := (List.getElem?_eq_some_iff.1 hx).1; omega
theorem open_noEnd (t : Ry) (tw : Int) {lo : Nat} {st : List NS} (h : NoEnd lo st) : NoEnd lo (openP t tw st).2 := by
  unfold openP
  split
  · exact h.snoc (.inl rfl)
  · split
    · exact h
    · split
      · exact h.snoc (.inr rfl)
      · exact h
theorem join_noEnd (p : Pq) (kid : Int) {lo : Nat} {st : List NS} (h : NoEnd lo st) : NoEnd lo (joinP p kid st).2 := by
  unfold joinP
  split
  · exact h
  · split
    · split
      · exact h
      · exact h.snoc (.inr rfl)
    · split
      · intro k x hk hx
        rw [List.getElem?_modify] at hx
        cases hs : st[k]? with
        | none => rw [hs] at hx; cases hx
        | some y =>
          rw [hs] at hx
          have := h k y hk hs
          by_cases e : p.begin.toNat = k
          · simp [e] at hx; subst hx; exact this
          · simp [e] at hx; subst hx; exact this
      · exact h
mutual
theorem toward_noEnd : ∀ (t : Ry) (tw : Int) {lo : Nat} {st : List NS}, NoEnd lo st → NoEnd lo (towardR t tw st).2
  | .mk k s0 s1 s2 s3 a c kids, tw, lo, st, h => by
    rw [towardR]
    exact kids_noEnd kids _ (open_noEnd _ tw h)
theorem kids_noEnd : ∀ (ks : List Ry) (p : Pq) {lo : Nat} {st : List NS}, NoEnd lo st → NoEnd lo (kidsR ks p st).2
  | [], p, lo, st, h => by rw [kidsR_nil]; exact h
  | k :: ks, p, lo, st, h => by
    rw [kidsR_cons]
    exact join_noEnd _ _ (toward_noEnd k _ (kids_noEnd ks p h))
end
end Go.Proofs.YtdckjjkaoecgaaaDoor

/-
  The machine of some right trees comes to the end of a tree by just the texts that the tree has. No conditions but right trees.
-/
namespace Go.Proofs.YtdckjjkaoecgaaaDoor
open Go.RowKit

def Agree (M st : List NS) (lo : Nat) : Prop := ∀ k, lo ≤ k → k < st.length → M[k]? = st[k]?
theorem Agree.up {M st : List NS} {lo hi : Nat} (h : Agree M st lo) (hl : lo ≤ hi) : Agree M st hi := fun k h1 h2 => h k (Nat.le_trans hl h1) h2
theorem Agree.front {M st st' : List NS} {lo : Nat} (h : Agree M st' lo) (hg : st.length ≤ st'.length) (hk : ∀ k, k < st.length → st'[k]? = st[k]?) : Agree M st lo := fun k h1 h2 => (h k h1 (Nat.lt_of_lt_of_le h2 hg)).trans (hk k h2)
/-- from one state to another one by some texts -/
structure TW (M : List NS) (q : Nat) (P : List UInt8 → Prop) (b tw : Nat) : Prop where
  out : ∀ n l, WayN M q n b l → ∃ u v m, l = u ++ v ∧ m ≤ n ∧ P u ∧ WayN M q m tw v
  in_ : ∀ u v m, P u → WayN M q m tw v → ∃ n, WayN M q n b (u ++ v)
theorem TW.same {M : List NS} {q b : Nat} : TW M q (fun u => u = []) b b := ⟨fun n l h => ⟨[], l, n, rfl, Nat.le_refl _, rfl, h⟩, fun u v m h k => ⟨m, by rw [h]; exact k⟩⟩
theorem TW.congr {M : List NS} {q b tw : Nat} {P Q : List UInt8 → Prop} (h : TW M q P b tw) (e : ∀ u, P u ↔ Q u) : TW M q Q b tw := ⟨fun n l hw => by
  obtain ⟨u, v, m, h1, h2, h3, h4⟩ := h.out n l hw
  exact ⟨u, v, m, h1, h2, (e u).1 h3, h4⟩, fun u v m hu hw => h.in_ u v m ((e u).2 hu) hw⟩
theorem TW.row {M : List NS} {q b c tw : Nat} {P Q : List UInt8 → Prop} (h : TW M q P b c) (k : TW M q Q c tw) : TW M q (fun u => ∃ v w, u = v ++ w ∧ P v ∧ Q w) b tw := ⟨fun n l hw => by
  obtain ⟨u, v, m, h1, h2, h3, h4⟩ := h.out n l hw
  obtain ⟨u', v', m', k1, k2, k3, k4⟩ := k.out m v h4
  exact ⟨u ++ u', v', m', by rw [h1, k1, List.append_assoc], by omega, ⟨u, u', rfl, h3, k3⟩, k4⟩, fun u v m hu hw => by
  obtain ⟨x, y, rfl, hx, hy⟩ := hu
  obtain ⟨n1, h1⟩ := k.in_ y v m hy hw
  obtain ⟨n2, h2⟩ := h.in_ x _ n1 hx h1
  exact ⟨n2, by rw [List.append_assoc]; exact h2⟩⟩
theorem TW.split {M : List NS} {q p tw : Nat} {x : NS} {P Q : List UInt8 → Prop} (hq : EndAt M q) (hx : M[p]? = some x) (hk : x.kind = 2) (h : TW M q P x.a.toNat tw) (k : TW M q Q x.b.toNat tw) : TW M q (fun u => P u ∨ Q u) p tw := ⟨fun n l hw => by
  obtain ⟨m, rfl, hw | hw⟩ := way_split hq hx hk hw
  · obtain ⟨u, v, m', h1, h2, h3, h4⟩ := h.out m l hw
    exact ⟨u, v, m', h1, by omega, .inl h3, h4⟩
  · obtain ⟨u, v, m', h1, h2, h3, h4⟩ := k.out m l hw
    exact ⟨u, v, m', h1, by omega, .inr h3, h4⟩, fun u v m hu hw => by
  rcases hu with hu | hu
  · obtain ⟨n, hn⟩ := h.in_ u v m hu hw
    exact ⟨_, .left hx hk hn⟩
  · obtain ⟨n, hn⟩ := k.in_ u v m hu hw
    exact ⟨_, .right hx hk hn⟩⟩
theorem TW.byte {M : List NS} {q p tw : Nat} {x : NS} (hq : EndAt M q) (hx : M[p]? = some x) (hk : x.kind = 1) (ht : x.a.toNat = tw) : TW M q (fun u => ∃ b : UInt8, u = [b] ∧ inNs x b.toNat = true) p tw := ⟨fun n l hw => by
  obtain ⟨c, r, m, rfl, rfl, h1, h2⟩ := way_byte hq hx hk hw
  exact ⟨[c], r, m, rfl, by omega, ⟨c, rfl, h1⟩, ht ▸ h2⟩, fun u v m hu hw => by
  obtain ⟨b, rfl, hb⟩ := hu
  exact ⟨_, .byte hx hk hb (ht.symm ▸ hw)⟩⟩
theorem TW.star {M : List NS} {q p tw : Nat} {x : NS} {P : List UInt8 → Prop} (hq : EndAt M q) (hx : M[p]? = some x) (hk : x.kind = 2) (ht : x.b.toNat = tw) (h : TW M q P x.a.toNat p) : TW M q (StarL P) p tw := by
  subst ht
  refine ⟨fun n => ?_, fun u v m hu hw => ?_⟩
  · induction n using Nat.strongRecOn with
    | _ n ih =>
      intro l hw
      obtain ⟨m, rfl, hw | hw⟩ := way_split hq hx hk hw
      · obtain ⟨u, v, m1, rfl, h2, h3, h4⟩ := h.out m l hw
        obtain ⟨u', v', m2, rfl, k2, k3, k4⟩ := ih m1 (by omega) v h4
        exact ⟨u ++ u', v', m2, (List.append_assoc _ _ _).symm, by omega, .cons h3 k3, k4⟩
      · exact ⟨[], l, m, rfl, by omega, .nil, hw⟩
  · induction hu with
    | nil => exact ⟨_, .right hx hk hw⟩
    | cons hP _ ih =>
      obtain ⟨n, hn⟩ := ih
      obtain ⟨n2, h2⟩ := h.in_ _ _ n hP hn
      exact ⟨_, by rw [List.append_assoc]; exact .left hx hk h2⟩
/-- a tree's ways -/
def Ways (M : List NS) (q : Nat) (t : Ry) : Prop := (∀ x ∈ preR t, aloneR x = true) → ∀ tw st, 0 ≤ tw → Agree M (towardR t tw st).2 st.length → TW M q (hasR t) (towardR t tw st).1.toNat tw.toNat
theorem row_ways {M : List NS} {q : Nat} : ∀ (ks : List Ry) (p : Pq) (st : List NS), (∀ x ∈ ks, Ways M q x) → (∀ x ∈ preL ks, aloneR x = true) → p.kind = 2 → p.tw = p.begin → 0 ≤ p.tw → Agree M (kidsR ks p st).2 st.length →
    (kidsR ks p st).1.tw = (kidsR ks p st).1.begin ∧ 0 ≤ (kidsR ks p st).1.tw ∧ TW M q (rowL ks) (kidsR ks p st).1.begin.toNat p.begin.toNat
  | [], p, st, _, _, hk, ht, h0, _ => by
    rw [kidsR_nil]
    exact ⟨ht, h0, TW.same.congr fun u => by rw [rowL]⟩
  | k :: ks, p, st, hw, hr, hk, ht, h0, ha => by
    have hr1 : ∀ x ∈ preR k, aloneR x = true := fun x hx => hr x (by rw [preL]; exact List.mem_append_left _ hx)
    have hr2 : ∀ x ∈ preL ks, aloneR x = true := fun x hx => hr x (by rw [preL]; exact List.mem_append_right _ hx)
    rw [kidsR_cons] at ha ⊢
    have hkk := (kidsR_kind ks p st).1.trans hk
    have e : joinP (kidsR ks p st).1 (towardR k (kidsR ks p st).1.tw (kidsR ks p st).2).1 (towardR k (kidsR ks p st).1.tw (kidsR ks p st).2).2 = (⟨2, (towardR k (kidsR ks p st).1.tw (kidsR ks p st).2).1, (towardR k (kidsR ks p st).1.tw (kidsR ks p st).2).1⟩, (towardR k (kidsR ks p st).1.tw (kidsR ks p st).2).2) := by
      unfold joinP
      rw [if_pos hkk, hkk]
    rw [e] at ha ⊢
    have g1 := kids_grow ks p st
    have g2 := toward_grows k (kidsR ks p st).1.tw (kidsR ks p st).2
    obtain ⟨i1, i2, i3⟩ := row_ways ks p st (fun x hx => hw x (List.mem_cons_of_mem _ hx)) hr2 hk ht h0 (ha.front g2 (toward_keeps k _ _))
    have h1 := hw k List.mem_cons_self hr1 _ _ i2 (ha.up g1)
    refine ⟨rfl, (toward_len k _ _ (fun x hx => ?_) i2).2, ?_⟩
    · have := good_of_right (ls := [k]) (fun t ht => by rw [List.mem_singleton.1 ht]; exact List.all_eq_true.2 hr1) x (by rw [preL]; exact List.mem_append_left _ hx)
      exact this
    · have i4 : TW M q (rowL ks) (kidsR ks p st).1.tw.toNat p.begin.toNat := by rw [i1]; exact i3
      refine (h1.row i4).congr fun u => ?_
      rw [rowL]
theorem good_one {k : Ry} (hr : ∀ x ∈ preR k, aloneR x = true) : GoodR (preR k) := fun x hx => good_of_right (ls := [k]) (fun t ht => by rw [List.mem_singleton.1 ht]; exact List.all_eq_true.2 hr) x (by rw [preL]; exact List.mem_append_left _ hx)
theorem alt_ways {M : List NS} {q : Nat} (hq : EndAt M q) : ∀ (ks : List Ry) (p : Pq) (st : List NS), (∀ x ∈ ks, Ways M q x) → (∀ x ∈ preL ks, aloneR x = true) → p.kind = 3 → p.begin = -1 → 0 ≤ p.tw → Agree M (kidsR ks p st).2 st.length → ks ≠ [] →
    0 ≤ (kidsR ks p st).1.begin ∧ TW M q (anyL ks) (kidsR ks p st).1.begin.toNat p.tw.toNat
  | [], p, st, _, _, hk, ht, h0, _, hne => absurd rfl hne
  | k :: ks, p, st, hw, hr, hk, ht, h0, ha, _ => by
    have hr1 : ∀ x ∈ preR k, aloneR x = true := fun x hx => hr x (by rw [preL]; exact List.mem_append_left _ hx)
    have hr2 : ∀ x ∈ preL ks, aloneR x = true := fun x hx => hr x (by rw [preL]; exact List.mem_append_right _ hx)
    rw [kidsR_cons] at ha ⊢
    obtain ⟨k1, _, k3⟩ := kidsR_kind ks p st
    have hkk := k1.trans hk
    have htw := k3 hk
    have hgrow := join_grows (kidsR ks p st).1 (towardR k (kidsR ks p st).1.tw (kidsR ks p st).2).1 (towardR k (kidsR ks p st).1.tw (kidsR ks p st).2).2
    have ha' : Agree M (towardR k (kidsR ks p st).1.tw (kidsR ks p st).2).2 st.length := ha.front hgrow (fun j hj => join_keeps _ _ _ j hj (fun h => by omega))
    have g1 := kids_grow ks p st
    have g2 := toward_grows k (kidsR ks p st).1.tw (kidsR ks p st).2
    have h1 := hw k List.mem_cons_self hr1 (kidsR ks p st).1.tw (kidsR ks p st).2 (by rw [htw]; exact h0) (ha'.up g1)
    have hb := (toward_len k (kidsR ks p st).1.tw (kidsR ks p st).2 (good_one hr1) (by rw [htw]; exact h0)).2
    have e9 : (kidsR ks p st).1.tw.toNat = p.tw.toNat := by rw [htw]
    rw [e9] at h1
    by_cases hks : ks = []
    · subst hks
      rw [kidsR_nil] at h1 hb ha ⊢
      have e : joinP p (towardR k p.tw st).1 (towardR k p.tw st).2 = (⟨3, p.tw, (towardR k p.tw st).1⟩, (towardR k p.tw st).2) := by
        unfold joinP
        rw [if_neg (by omega), if_pos hk, if_pos ht, hk]
      rw [e]
      refine ⟨hb, h1.congr fun u => ?_⟩
      rw [anyL, anyL, or_false]
    · obtain ⟨i1, i2⟩ := alt_ways hq ks p st (fun x hx => hw x (List.mem_cons_of_mem _ hx)) hr2 hk ht h0 (ha'.front g2 (toward_keeps k _ _)) hks
      have e : joinP (kidsR ks p st).1 (towardR k (kidsR ks p st).1.tw (kidsR ks p st).2).1 (towardR k (kidsR ks p st).1.tw (kidsR ks p st).2).2 = (⟨3, (kidsR ks p st).1.tw, ((towardR k (kidsR ks p st).1.tw (kidsR ks p st).2).2.length : Int)⟩, (towardR k (kidsR ks p st).1.tw (kidsR ks p st).2).2 ++ [splitN (towardR k (kidsR ks p st).1.tw (kidsR ks p st).2).1 (kidsR ks p st).1.begin]) := by
        unfold joinP
        rw [if_neg (by omega), if_pos hkk, if_neg (by omega), hkk]
      rw [e] at ha ⊢
      refine ⟨Int.natCast_nonneg _, ?_⟩
      have hx := ha (towardR k (kidsR ks p st).1.tw (kidsR ks p st).2).2.length (by omega) (by rw [List.length_append]; simp)
      rw [List.getElem?_append_right (Nat.le_refl _), Nat.sub_self] at hx
      refine ((TW.split hq hx rfl h1 i2)).congr fun u => ?_
      rw [anyL]
mutual
theorem toward_ways {M : List NS} {q : Nat} (hq : EndAt M q) : ∀ t : Ry, Ways M q t
  | .mk k s0 s1 s2 s3 a c kids => by
    have hall := all_ways hq kids
    intro hr tw st h0 ha
    have hal := hr (.mk k s0 s1 s2 s3 a c kids) (by rw [preR]; exact List.mem_cons_self)
    have hrk : ∀ x ∈ preL kids, aloneR x = true := fun x hx => hr x (by rw [preR]; exact List.mem_cons_of_mem _ hx)
    unfold aloneR at hal
    have ek : (Ry.mk k s0 s1 s2 s3 a c kids).kind = k := rfl
    have ekk : (Ry.mk k s0 s1 s2 s3 a c kids).kids = kids := rfl
    rw [ek, ekk] at hal
    have HE : ∀ (r : Pq × List NS), openP (.mk k s0 s1 s2 s3 a c kids) tw st = r → towardR (.mk k s0 s1 s2 s3 a c kids) tw st = ((kidsR kids r.1 r.2).1.begin, (kidsR kids r.1 r.2).2) := fun r hr => by rw [towardR, hr]
    by_cases k0 : k = 0
    · rw [if_pos k0] at hal
      simp only [Bool.and_eq_true, beq_iff_eq] at hal
      obtain rfl := List.eq_nil_of_length_eq_zero hal.2
      have := HE (⟨k, tw, tw⟩, st) (by unfold openP; rw [ek, if_neg (by omega), if_neg (by omega), if_neg (by omega)])
      rw [kidsR_nil] at this
      rw [this]
      exact TW.same.congr fun u => by rw [hasR, if_pos k0]
    · rw [if_neg k0] at hal
      by_cases k1 : k = 1
      · rw [if_pos k1] at hal
        simp only [Bool.and_eq_true, beq_iff_eq] at hal
        obtain rfl := List.eq_nil_of_length_eq_zero hal.2
        have := HE (⟨k, tw, st.length⟩, st ++ [byteN (.mk k s0 s1 s2 s3 a c []) tw]) (by unfold openP; rw [ek, if_pos k1])
        rw [kidsR_nil] at this
        rw [this] at ha ⊢
        have hx := ha st.length (Nat.le_refl _) (by rw [List.length_append]; simp)
        rw [List.getElem?_append_right (Nat.le_refl _), Nat.sub_self] at hx
        refine (TW.byte hq hx rfl rfl).congr fun u => ?_
        rw [hasR, if_neg k0, if_pos k1]
        rfl
      · rw [if_neg k1] at hal
        by_cases k2 : k = 2
        · have := HE (⟨k, tw, tw⟩, st) (by unfold openP; rw [ek, if_neg (by omega), if_neg (by omega), if_neg (by omega)])
          rw [this] at ha ⊢
          refine (row_ways kids ⟨k, tw, tw⟩ st hall hrk k2 rfl h0 ha).2.2.congr fun u => ?_
          rw [hasR, if_neg k0, if_neg k1, if_pos k2]
        · by_cases k3 : k = 3
          · rw [if_pos (.inr k3)] at hal
            simp only [Bool.and_eq_true, decide_eq_true_eq] at hal
            have := HE (⟨k, tw, -1⟩, st) (by unfold openP; rw [ek, if_neg (by omega), if_pos k3])
            rw [this] at ha ⊢
            refine (alt_ways hq kids ⟨k, tw, -1⟩ st hall hrk k3 rfl h0 ha (fun h => by rw [h] at hal; simp at hal)).2.congr fun u => ?_
            rw [hasR, if_neg k0, if_neg k1, if_neg k2, if_pos k3]
          · rw [if_neg (by omega)] at hal
            by_cases k4 : k = 4
            · rw [if_pos k4] at hal
              simp only [Bool.and_eq_true, beq_iff_eq] at hal
              match kids, hal.2, hall, hrk, HE, ha with
              | [x], _, hall, hrk, HE, ha =>
                have := HE (⟨k, st.length, st.length⟩, st ++ [splitN 0 tw]) (by unfold openP; rw [show (Ry.mk k s0 s1 s2 s3 a c [x]).kind = k from rfl, if_neg (by omega), if_neg (by omega), if_pos k4])
                rw [kidsR_cons, kidsR_nil] at this
                have e : joinP ⟨k, (st.length : Int), (st.length : Int)⟩ (towardR x (st.length : Int) (st ++ [splitN 0 tw])).1 (towardR x (st.length : Int) (st ++ [splitN 0 tw])).2 = (⟨k, (st.length : Int), (st.length : Int)⟩, (towardR x (st.length : Int) (st ++ [splitN 0 tw])).2.modify st.length (fun s => { s with a := (towardR x (st.length : Int) (st ++ [splitN 0 tw])).1 })) := by
                  unfold joinP
                  rw [if_neg (by show ¬ k = 2; omega), if_neg (by show ¬ k = 3; omega), if_pos (by show k = 4; omega)]
                  rfl
                have this2 := this.trans (by rw [show ((⟨k, (st.length : Int), (st.length : Int)⟩ : Pq), st ++ [splitN 0 tw]).1.tw = (st.length : Int) from rfl, e])
                rw [this2] at ha ⊢
                have g := toward_grows x (st.length : Int) (st ++ [splitN 0 tw])
                rw [List.length_append] at g
                simp only [List.length_cons, List.length_nil] at g
                have hkeep := toward_keeps x (st.length : Int) (st ++ [splitN 0 tw]) st.length (by rw [List.length_append]; simp)
                rw [List.getElem?_append_right (Nat.le_refl _), Nat.sub_self] at hkeep
                have hx := ha st.length (Nat.le_refl _) (by simp only [List.length_modify]; omega)
                rw [List.getElem?_modify_eq, hkeep] at hx
                have hxr : ∀ y ∈ preR x, aloneR y = true := fun y hy => hrk y (by rw [preL]; exact List.mem_append_left _ hy)
                have h1 := hall x List.mem_cons_self hxr (st.length : Int) (st ++ [splitN 0 tw]) (Int.natCast_nonneg _) (fun j h1 h2 => by
                  rw [List.length_append] at h1
                  simp only [List.length_cons, List.length_nil] at h1
                  have := ha j (by omega) (by simp only [List.length_modify]; exact h2)
                  rw [this, List.getElem?_modify_ne _ _ (by omega)])
                rw [Int.toNat_natCast] at h1 ⊢
                have h2 := TW.star hq hx rfl rfl h1
                refine h2.congr fun u => ?_
                rw [hasR, if_neg k0, if_neg k1, if_neg k2, if_neg k3, if_pos k4]
                have : anyL [x] = hasR x := funext fun v => by rw [anyL, anyL, or_false]
                rw [this]
                simp
            · rw [if_neg k4] at hal
              cases hal
theorem all_ways {M : List NS} {q : Nat} (hq : EndAt M q) : ∀ ks : List Ry, ∀ x ∈ ks, Ways M q x
  | [], x, h => by cases h
  | t :: r, x, h => by
    rcases List.mem_cons.1 h with h | h
    · rw [h]; exact toward_ways hq t
    · exact all_ways hq r x h
end
end Go.Proofs.YtdckjjkaoecgaaaDoor

/-
  Relations between a text's places, as words: a bit for each place. No conditions.
-/
namespace Go.Proofs.YtdckjjkaoecgaaaDoor
open Go.RowKit Go.Shelf

def relV (ws : List Nat) : Array Value := (ws.map fun (x : Nat) => Value.int .u64 (x : Int)).toArray
theorem relV_at {ws : List Nat} {i : Nat} (h : i < ws.length) : (relV ws)[i]? = some (.int .u64 ((ws.getD i 0 : Nat) : Int)) := by
  unfold relV
  rw [List.getElem?_toArray, List.getElem?_map, List.getElem?_eq_getElem h, List.getD_eq_getElem?_getD, List.getElem?_eq_getElem h]
  rfl
theorem relV_set (ws : List Nat) (i x : Nat) : (relV ws).setIfInBounds i (.int .u64 (x : Int)) = relV (ws.set i x) := by
  unfold relV
  rw [List.setIfInBounds_toArray, List.map_set]
theorem rel_bit (x k : Nat) (hx : x < 18446744073709551616) : (bits BinOp.and IntKind.u64 ((x : Int) / 2 ^ k) 1 == 1) = x.testBit k := by
  have h1 : x / 2 ^ k < 18446744073709551616 := Nat.lt_of_le_of_lt (Nat.div_le_self _ _) hx
  have h2 := bits_and_u64_nat (x / 2 ^ k) 1 h1 (by decide)
  have h3 : (x / 2 ^ k) &&& 1 = x / 2 ^ k % 2 := by
    have := Nat.and_two_pow_sub_one_eq_mod (x / 2 ^ k) 1
    rwa [show (2 : Nat) ^ 1 - 1 = 1 from rfl, show (2 : Nat) ^ 1 = 2 from rfl] at this
  rw [h3] at h2
  have h4 : ((x : Int) / 2 ^ k) = ((x / 2 ^ k : Nat) : Int) := by rw [Int.natCast_ediv]; norm_cast
  rw [h4, show (1 : Int) = ((1 : Nat) : Int) from rfl, h2, Nat.testBit_eq_decide_div_mod_eq]
  generalize x / 2 ^ k % 2 = m
  rw [Bool.eq_iff_iff, beq_iff_eq, decide_eq_true_iff]
  omega
theorem rel_pow (k : Nat) (hk : k < 64) : IntKind.u64.wrap (2 ^ k) = ((2 ^ k : Nat) : Int) := by
  have hp : 2 ^ k < 18446744073709551616 := Nat.lt_of_lt_of_le (Nat.pow_lt_pow_right (by decide) hk) (by decide)
  have : ((2 : Int) ^ k) = ((2 ^ k : Nat) : Int) := by norm_cast
  rw [this]
  generalize 2 ^ k = p at *
  unfold IntKind.wrap
  simp [IntKind.bits, IntKind.signed]
  omega
/-- the words are that relation, of the places up to n -/
structure RelIs (n : Nat) (ws : List Nat) (R : Nat → Nat → Prop) : Prop where
  len : ws.length = n + 1
  bit : ∀ i, i ≤ n → ∀ j, (ws.getD i 0).testBit j = true ↔ j ≤ n ∧ R i j
theorem RelIs.lt {n : Nat} {ws : List Nat} {R : Nat → Nat → Prop} (h : RelIs n ws R) (hn : n ≤ 40) {i : Nat} (hi : i ≤ n) : ws.getD i 0 < 18446744073709551616 := by
  refine Nat.lt_of_lt_of_le (Nat.lt_pow_two_of_testBit (n := 41) _ fun j hj => ?_) (by decide)
  rw [← Bool.not_eq_true, h.bit i hi j]
  omega
theorem RelIs.congr {n : Nat} {ws : List Nat} {R S : Nat → Nat → Prop} (h : RelIs n ws R) (e : ∀ i j, i ≤ n → j ≤ n → (R i j ↔ S i j)) : RelIs n ws S := ⟨h.len, fun i hi j => by
  rw [h.bit i hi j]
  constructor
  · rintro ⟨h1, h2⟩; exact ⟨h1, (e i j hi h1).1 h2⟩
  · rintro ⟨h1, h2⟩; exact ⟨h1, (e i j hi h1).2 h2⟩⟩
theorem RelIs.none (n : Nat) : RelIs n (List.replicate (n + 1) 0) (fun _ _ => False) := ⟨List.length_replicate, fun i hi j => by
  rw [List.getD_eq_getElem?_getD, List.getElem?_replicate]
  split <;> simp⟩
/-- a row of what is behind: so far -/
def accW (x : Nat) (B : List Nat) : Nat → Nat
  | 0 => 0
  | k + 1 => if x.testBit k = true then accW x B k ||| B.getD k 0 else accW x B k
theorem acc_bit (x : Nat) (B : List Nat) (j : Nat) : ∀ k, (accW x B k).testBit j = true ↔ ∃ m, m < k ∧ x.testBit m = true ∧ (B.getD m 0).testBit j = true
  | 0 => by simp [accW]
  | k + 1 => by
    have ih := acc_bit x B j k
    rw [accW]
    by_cases h : x.testBit k = true
    · rw [if_pos h, Nat.testBit_or, Bool.or_eq_true, ih]
      constructor
      · rintro (⟨m, h1, h2⟩ | h1)
        · exact ⟨m, by omega, h2⟩
        · exact ⟨k, by omega, h, h1⟩
      · rintro ⟨m, h1, h2, h3⟩
        by_cases e : m = k
        · subst e; exact .inr h3
        · exact .inl ⟨m, by omega, h2, h3⟩
    · rw [if_neg h, ih]
      constructor
      · rintro ⟨m, h1, h2⟩
        exact ⟨m, by omega, h2⟩
      · rintro ⟨m, h1, h2, h3⟩
        exact ⟨m, by have : m ≠ k := fun e => h (e ▸ h2); omega, h2, h3⟩
theorem acc_lt {n : Nat} {B : List Nat} {S : Nat → Nat → Prop} (hB : RelIs n B S) (hn : n ≤ 40) (x k : Nat) (hk : k ≤ n + 1) : accW x B k < 18446744073709551616 := by
  refine Nat.lt_of_lt_of_le (Nat.lt_pow_two_of_testBit (n := 41) _ fun j hj => ?_) (by decide)
  rw [← Bool.not_eq_true, acc_bit]
  rintro ⟨m, h1, _, h2⟩
  have := (hB.bit m (by omega) j).1 h2
  omega
/-- one, and behind it the other one -/
def ThenR (n : Nat) (R S : Nat → Nat → Prop) (i j : Nat) : Prop := ∃ k, k ≤ n ∧ R i k ∧ S k j
theorem RelIs.then {n : Nat} {A B C : List Nat} {R S : Nat → Nat → Prop} (hA : RelIs n A R) (hB : RelIs n B S) (hC : C.length = n + 1) (h : ∀ i, i ≤ n → C.getD i 0 = accW (A.getD i 0) B (n + 1)) : RelIs n C (ThenR n R S) := ⟨hC, fun i hi j => by
  rw [h i hi, acc_bit]
  constructor
  · rintro ⟨m, h1, h2, h3⟩
    have h4 := (hA.bit i hi m).1 h2
    have h5 := (hB.bit m (by omega) j).1 h3
    exact ⟨h5.1, m, by omega, h4.2, h5.2⟩
  · rintro ⟨h1, k, h2, h3, h4⟩
    exact ⟨k, by omega, (hA.bit i hi k).2 ⟨h2, h3⟩, (hB.bit k h2 j).2 ⟨h1, h4⟩⟩⟩
theorem RelIs.or {n : Nat} {A B C : List Nat} {R S : Nat → Nat → Prop} (hA : RelIs n A R) (hB : RelIs n B S) (hC : C.length = n + 1) (h : ∀ i, i ≤ n → C.getD i 0 = A.getD i 0 ||| B.getD i 0) : RelIs n C (fun i j => R i j ∨ S i j) := ⟨hC, fun i hi j => by
  rw [h i hi, Nat.testBit_or, Bool.or_eq_true, hA.bit i hi j, hB.bit i hi j]
  constructor
  · rintro (⟨h1, h2⟩ | ⟨h1, h2⟩)
    · exact ⟨h1, .inl h2⟩
    · exact ⟨h1, .inr h2⟩
  · rintro ⟨h1, h2 | h2⟩
    · exact .inl ⟨h1, h2⟩
    · exact .inr ⟨h1, h2⟩⟩
/-- so often -/
def TimesR (n : Nat) (R : Nat → Nat → Prop) : Nat → Nat → Nat → Prop
  | 0 => fun i j => i = j
  | k + 1 => ThenR n (TimesR n R k) R
end Go.Proofs.YtdckjjkaoecgaaaDoor

/-
  The contracts of frankinglow's none, still, then, or, times, Has. Conditions: at most 40 places; the relations lie in memory.
-/
namespace Go.Proofs.YtdckjjkaoecgaaaDoor
open Go.RowKit Go.Shelf

/-- a relation in memory -/
def RelAt (W : World) (v : Value) (n : Nat) (R : Nat → Nat → Prop) : Prop := ∃ g ws, v = .slice (some ⟨g, 0, none⟩) (n + 1 : Nat) (n + 1) ∧ Blk W g 42 (relV ws) ∧ RelIs n ws R
theorem RelAt.below {W W' : World} {v : Value} {n : Nat} {R : Nat → Nat → Prop} (h : RelAt W v n R) (hb : Below W.heap.size W W') : RelAt W' v n R := by
  obtain ⟨g, ws, h1, h2, h3⟩ := h
  exact ⟨g, ws, h1, h2.below hb h2.lt, h3⟩
theorem RelAt.congr {W : World} {v : Value} {n : Nat} {R S : Nat → Nat → Prop} (h : RelAt W v n R) (e : ∀ i j, i ≤ n → j ≤ n → (R i j ↔ S i j)) : RelAt W v n S := by
  obtain ⟨g, ws, h1, h2, h3⟩ := h
  exact ⟨g, ws, h1, h2, h3.congr e⟩
theorem infoRl : (Tryd.prog.info? 42).map (fun i => (i.zero, i.size, i.bytes)) = some (some (.int .u64 0), 1, 8) := by kernel_rfl
theorem make_rel (W : World) (n : Nat) (hn : n ≤ 1000) : ∃ wm, (Instr.makeSlice 48 (.int .i64 (n : Int)) (.int .i64 (n : Int))).run Tryd.prog W = .ok (.slice (some ⟨W.heap.size, 0, none⟩) n n) wm ∧ Blk wm W.heap.size 42 (relV (List.replicate n 0)) ∧ Below W.heap.size W wm := by
  obtain ⟨i0, hi, hz0, hz1, hz2⟩ := info_parts infoRl
  obtain ⟨wm, h1, h2, h3⟩ := run_make_full (P := Tryd.prog) W W.heap.size 48 42 i0 (.int .u64 0) 1 Tryd.underlying48 hi hz0 hz1 .i64 .i64 n (by rw [hz2]; omega) (by unfold maxLen; omega) (Nat.le_refl _)
  refine ⟨wm, h1, ?_, (Below.refl _ _).grown h3 (Nat.le_refl _) (fun k hk => by cases hk)⟩
  rcases h2.2 with ⟨e, _⟩ | ⟨g, cap, cur, e, _, hh, _, _, hcs, ht⟩
  · cases e
  · simp only [Value.slice.injEq, Option.some.injEq, Addr.mk.injEq, and_true, true_and] at e
    obtain ⟨rfl, rfl⟩ := e
    have hcur : cur = relV (List.replicate n 0) := by
      apply Array.toList_inj.1
      rw [List.take_of_length_le (by rw [Array.length_toList, hcs]; exact Nat.le_refl _)] at ht
      rw [ht, Nat.mul_one, show (Value.int .u64 0).cells = #[.int .u64 0] from rfl, toList_madeCells_one]
      unfold relV
      rw [List.map_replicate]
      rfl
    rw [← hcur]
    exact hh
set_option maxRecDepth 100000 in
set_option maxHeartbeats 1000000 in
theorem none_any (n : Nat) (hn : n ≤ 40) (w : World) :
    Calls Tryd.prog 43 #[.int .i64 (n : Int)] w fun e w' => e = .returned (.slice (some ⟨w.heap.size, 0, none⟩) (n + 1 : Nat) (n + 1)) ∧ Blk w' w.heap.size 42 (relV (List.replicate (n + 1) 0)) ∧ Below w.heap.size w w' := by
  obtain ⟨wm, hmk, hb, hl⟩ := make_rel w (n + 1) (by omega)
  have HB := Lib.hid hb
  have HL := Lib.hid hl
  clear hb hl
  push_cast at hmk
  go_enter Tryd.func43, Tryd.ntmps43
  go_wp2
  go_ret
  exact ⟨by push_cast; rfl, HB.out, HL.out⟩
set_option maxRecDepth 100000 in
set_option maxHeartbeats 2000000 in
theorem still_any (n : Nat) (hn : n ≤ 40) (w : World) :
    Calls Tryd.prog 44 #[.int .i64 (n : Int)] w fun e w' => ∃ v, e = .returned v ∧ RelAt w' v n (fun i j => i = j) ∧ Below w.heap.size w w' := by
  have HN := Lib.hid (none_any n hn w)
  obtain ⟨g, hg⟩ : ∃ g, g = w.heap.size := ⟨_, rfl⟩
  have HG := Lib.hid hg
  rw [← hg] at HN
  clear hg
  go_enter Tryd.func44, Tryd.ntmps44
  go_upto_region 3 with (go_at_call 43; refine HN.out.mono ?_; rintro e w1 ⟨rfl, hb1, hl1⟩; have HB1 := Lib.hid hb1; have HL1 := Lib.hid hl1; clear hb1 hl1)
  go_loopw [9] (fun i wr => ∃ k : Nat, k ≤ n + 1 ∧ i = .int .i64 (k : Int) ∧ Hid (∃ ws : List Nat, Blk wr g 42 (relV ws) ∧ ws.length = n + 1 ∧ (∀ j, j < k → ws.getD j 0 = 2 ^ j)) ∧ Hid (Below g w wr)) (fun i _ => n + 1 - (intOf i).toNat)
  case atStart => exact ⟨0, Nat.zero_le _, rfl, ⟨_, HB1.out, List.length_replicate, fun j hj => by omega⟩, HL1.out⟩
  case round =>
    obtain ⟨k, hk, rfl, HB, HL⟩ := hrel
    obtain ⟨ws, hb, hl, hw⟩ := HB.out
    have HW := Lib.hid hw
    have HLN := Lib.hid hl
    clear hw HB
    by_cases hlt : k < n + 1
    · have hlt' : (k : Int) < (n : Int) + 1 := by omega
      have h0' : (0 : Int) ≤ k := by omega
      have hp := rel_pow k (by omega)
      have hf := hb.frozen k
      have hc : wr.cell? ⟨g, k, none⟩ = some (.int .u64 ((ws.getD k 0 : Nat) : Int)) := (hb.cell _).trans (relV_at (by omega))
      have HS := Lib.hid (hb.set_ k (.int .u64 ((2 ^ k : Nat) : Int)))
      rw [relV_set] at HS
      have HBL : Hid (Below g w (wr.setCell ⟨g, k, none⟩ (.int .u64 ((2 ^ k : Nat) : Int)))) := HL.out.setCell (p := ⟨g, k, none⟩) (Nat.le_refl _) _
      clear hb hl
      obtain ⟨z, hz⟩ : ∃ z, z = 2 ^ k := ⟨_, rfl⟩
      have HZ := Lib.hid hz
      rw [← hz] at hp HS HBL
      clear hz
      go_wp2
      refine ⟨⟨k + 1, by omega, by push_cast; rfl, ⟨_, HS.out, by rw [List.length_set]; exact HLN.out, fun j hj => ?_⟩, HBL⟩, by simp [intOf]; omega⟩
      by_cases e : j = k
      · subst e
        rw [List.getD_eq_getElem?_getD, List.getElem?_set_self (by rw [HLN.out]; exact hlt), Option.getD_some]
        exact HZ.out
      · rw [List.getD_eq_getElem?_getD, List.getElem?_set_ne (Ne.symm e), ← List.getD_eq_getElem?_getD]
        exact HW.out j (by omega)
    · obtain rfl : k = n + 1 := by omega
      go_wp2
      go_ret
      refine ⟨_, rfl, ⟨g, ws, rfl, hb, hl, fun i hi j => ?_⟩, by rw [← HG.out]; exact HL.out⟩
      rw [HW.out i (by omega), Nat.testBit_two_pow, decide_eq_true_iff]
      omega
set_option maxRecDepth 100000 in
set_option maxHeartbeats 2000000 in
theorem or_any (n : Nat) (hn : n ≤ 40) (w : World) (va vb : Value) (R S : Nat → Nat → Prop) (hA : RelAt w va n R) (hB : RelAt w vb n S) :
    Calls Tryd.prog 46 #[va, vb] w fun e w' => ∃ v, e = .returned v ∧ RelAt w' v n (fun i j => R i j ∨ S i j) ∧ Below w.heap.size w w' := by
  obtain ⟨ga, A, rfl, hba, hra⟩ := hA
  obtain ⟨gb, B, rfl, hbb, hrb⟩ := hB
  obtain ⟨wm, hmk, hb, hl⟩ := make_rel w (n + 1) (by omega)
  push_cast at hmk
  have HBA := Lib.hid hba
  have HBB := Lib.hid hbb
  have HRA := Lib.hid hra
  have HRB := Lib.hid hrb
  have HB0 := Lib.hid hb
  have HL0 := Lib.hid hl
  obtain ⟨g, hg⟩ : ∃ g, g = w.heap.size := ⟨_, rfl⟩
  have HG := Lib.hid hg
  have hga : ga < g := by rw [hg]; exact hba.lt
  have hgb : gb < g := by rw [hg]; exact hbb.lt
  rw [← hg] at hmk HB0 HL0
  clear hba hbb hra hrb hb hl hg
  go_enter Tryd.func46, Tryd.ntmps46
  go_upto_region 3 with fail
  go_loopw [12] (fun i wr => ∃ k : Nat, k ≤ n + 1 ∧ i = .int .i64 (k : Int) ∧ Hid (∃ ws : List Nat, Blk wr g 42 (relV ws) ∧ ws.length = n + 1 ∧ (∀ j, j < k → ws.getD j 0 = A.getD j 0 ||| B.getD j 0)) ∧ Hid (Below g w wr)) (fun i _ => n + 1 - (intOf i).toNat)
  case atStart => exact ⟨0, Nat.zero_le _, rfl, ⟨_, HB0.out, List.length_replicate, fun j hj => by omega⟩, HL0.out⟩
  case round =>
    obtain ⟨k, hk, rfl, HB, HL⟩ := hrel
    obtain ⟨ws, hb, hl, hw⟩ := HB.out
    have HW := Lib.hid hw
    have HLN := Lib.hid hl
    clear hw HB
    by_cases hlt : k < n + 1
    · have hlt' : (k : Int) < (n : Int) + 1 := by omega
      have h0' : (0 : Int) ≤ k := by omega
      have hf := hb.drew.frozen k
      have hc : wr.drew.cell? ⟨g, k, none⟩ = some (.int .u64 ((ws.getD k 0 : Nat) : Int)) := (hb.drew.cell _).trans (relV_at (by omega))
      have ha : wr.drew.cell? ⟨ga, k, none⟩ = some (.int .u64 ((A.getD k 0 : Nat) : Int)) := (HL.out.drew.cell (p := ⟨ga, k, none⟩) hga).trans ((HBA.out.cell _).trans (relV_at (by rw [HRA.out.len]; exact hlt)))
      have hbc : wr.drew.cell? ⟨gb, k, none⟩ = some (.int .u64 ((B.getD k 0 : Nat) : Int)) := (HL.out.drew.cell (p := ⟨gb, k, none⟩) hgb).trans ((HBB.out.cell _).trans (relV_at (by rw [HRB.out.len]; exact hlt)))
      have hor := bits_or_u64_nat (A.getD k 0) (B.getD k 0) (HRA.out.lt hn (by omega)) (HRB.out.lt hn (by omega))
      have HS := Lib.hid (hb.drew.set_ k (.int .u64 ((A.getD k 0 ||| B.getD k 0 : Nat) : Int)))
      rw [relV_set] at HS
      have HBL : Hid (Below g w (wr.drew.setCell ⟨g, k, none⟩ (.int .u64 ((A.getD k 0 ||| B.getD k 0 : Nat) : Int)))) := HL.out.drew.setCell (p := ⟨g, k, none⟩) (Nat.le_refl _) _
      have HZ : Hid (A.getD k 0 ||| B.getD k 0 = A.getD k 0 ||| B.getD k 0) := rfl
      obtain ⟨z, hz⟩ : ∃ z, z = A.getD k 0 ||| B.getD k 0 := ⟨_, rfl⟩
      have HZ := Lib.hid hz
      rw [← hz] at hor HS HBL
      clear hb hl hz
      generalize hx : A.getD k 0 = x at ha hor
      generalize hy : B.getD k 0 = y at hbc hor
      clear hx hy
      go_wp2
      go_region
      go_wp2
      refine ⟨⟨k + 1, by omega, by push_cast; rfl, ⟨_, HS.out, by rw [List.length_set]; exact HLN.out, fun j hj => ?_⟩, HBL⟩, by simp [intOf]; omega⟩
      by_cases e : j = k
      · subst e
        rw [List.getD_eq_getElem?_getD, List.getElem?_set_self (by rw [HLN.out]; exact hlt), Option.getD_some]
        exact HZ.out
      · rw [List.getD_eq_getElem?_getD, List.getElem?_set_ne (Ne.symm e), ← List.getD_eq_getElem?_getD]
        exact HW.out j (by omega)
    · obtain rfl : k = n + 1 := by omega
      go_wp2
      go_ret
      exact ⟨_, rfl, ⟨g, ws, rfl, hb, HRA.out.or HRB.out hl (fun i hi => HW.out i (by omega))⟩, by rw [← HG.out]; exact HL.out⟩
set_option maxRecDepth 100000 in
set_option maxHeartbeats 4000000 in
theorem then_any (n : Nat) (hn : n ≤ 40) (w : World) (va vb : Value) (R S : Nat → Nat → Prop) (hA : RelAt w va n R) (hB : RelAt w vb n S) :
    Calls Tryd.prog 45 #[va, vb] w fun e w' => ∃ v, e = .returned v ∧ RelAt w' v n (ThenR n R S) ∧ Below w.heap.size w w' := by
  obtain ⟨ga, A, rfl, hba, hra⟩ := hA
  obtain ⟨gb, B, rfl, hbb, hrb⟩ := hB
  obtain ⟨wm, hmk, hb, hl⟩ := make_rel w (n + 1) (by omega)
  push_cast at hmk
  have HBA := Lib.hid hba
  have HBB := Lib.hid hbb
  have HRA := Lib.hid hra
  have HRB := Lib.hid hrb
  have HB0 := Lib.hid hb
  have HL0 := Lib.hid hl
  obtain ⟨g, hg⟩ : ∃ g, g = w.heap.size := ⟨_, rfl⟩
  have HG := Lib.hid hg
  have hga : ga < g := by rw [hg]; exact hba.lt
  have hgb : gb < g := by rw [hg]; exact hbb.lt
  rw [← hg] at hmk HB0 HL0
  clear hba hbb hra hrb hb hl hg
  go_enter Tryd.func45, Tryd.ntmps45
  go_upto_region 3 with fail
  go_loopw [15] (fun i wr => ∃ k : Nat, k ≤ n + 1 ∧ i = .int .i64 (k : Int) ∧ Hid (∃ ws : List Nat, Blk wr g 42 (relV ws) ∧ ws.length = n + 1 ∧ (∀ j, j < k → ws.getD j 0 = accW (A.getD j 0) B (n + 1)) ∧ ∀ j, k ≤ j → ws.getD j 0 = 0) ∧ Hid (Below g w wr)) (fun i _ => n + 1 - (intOf i).toNat)
  case atStart => exact ⟨0, Nat.zero_le _, rfl, ⟨_, HB0.out, List.length_replicate, fun j hj => by omega, fun j _ => by rw [List.getD_eq_getElem?_getD, List.getElem?_replicate]; split <;> rfl⟩, HL0.out⟩
  case round =>
    obtain ⟨i, hi, rfl, HB, HL⟩ := hrel
    by_cases hlt : i < n + 1
    · have hlt' : (i : Int) < (n : Int) + 1 := by omega
      have h0' : (0 : Int) ≤ i := by omega
      have ha : wr.cell? ⟨ga, i, none⟩ = some (.int .u64 ((A.getD i 0 : Nat) : Int)) := (HL.out.cell (p := ⟨ga, i, none⟩) hga).trans ((HBA.out.cell _).trans (relV_at (by rw [HRA.out.len]; exact hlt)))
      have hxl := HRA.out.lt hn (i := i) (by omega)
      have HB2 : Hid (∃ ws : List Nat, Blk wr g 42 (relV ws) ∧ ws.length = n + 1 ∧ (∀ j, j < i → ws.getD j 0 = accW (A.getD j 0) B (n + 1)) ∧ (∀ j, i < j → ws.getD j 0 = 0) ∧ ws.getD i 0 = accW (A.getD i 0) B 0) := by
        obtain ⟨ws, h1, h2, h3, h4⟩ := HB.out
        exact ⟨ws, h1, h2, h3, fun j hj => h4 j (by omega), h4 i (Nat.le_refl _)⟩
      have HXX : Hid (A.getD i 0 = A.getD i 0) := rfl
      obtain ⟨x, hx⟩ : ∃ x, x = A.getD i 0 := ⟨_, rfl⟩
      have HX := Lib.hid hx
      rw [← hx] at ha hxl HB2
      clear hx HB HXX
      go_upto_region 6 with fail
      go_loopw [22] (fun u wr2 => ∃ k : Nat, k ≤ n + 1 ∧ u = .int .i64 (k : Int) ∧ Hid (∃ ws : List Nat, Blk wr2 g 42 (relV ws) ∧ ws.length = n + 1 ∧ (∀ j, j < i → ws.getD j 0 = accW (A.getD j 0) B (n + 1)) ∧ (∀ j, i < j → ws.getD j 0 = 0) ∧ ws.getD i 0 = accW x B k) ∧ Hid (Below g w wr2)) (fun u _ => n + 1 - (intOf u).toNat)
      case atStart => exact ⟨0, Nat.zero_le _, rfl, HB2.out, HL.out⟩
      case round =>
        obtain ⟨k, hk, rfl, HB3, HL3⟩ := hrel
        obtain ⟨ws, hb, hl, hw1, hw2, hw3⟩ := HB3.out
        have HW1 := Lib.hid hw1
        have HW2 := Lib.hid hw2
        have HW3 := Lib.hid hw3
        have HLN := Lib.hid hl
        clear hw1 hw2 hw3 HB3
        by_cases hlt2 : k < n + 1
        · have hlt2' : (k : Int) < (n : Int) + 1 := by omega
          have h02' : (0 : Int) ≤ k := by omega
          have hbc : wr.cell? ⟨gb, k, none⟩ = some (.int .u64 ((B.getD k 0 : Nat) : Int)) := (HL3.out.cell (p := ⟨gb, k, none⟩) hgb).trans ((HBB.out.cell _).trans (relV_at (by rw [HRB.out.len]; exact hlt2)))
          have hbit := rel_bit x k hxl
          have hf := hb.frozen i
          have hac := acc_lt HRB.out hn x k (by omega)
          have hc : wr.cell? ⟨g, i, none⟩ = some (.int .u64 ((accW x B k : Nat) : Int)) := by rw [← HW3.out]; exact (hb.cell _).trans (relV_at (by omega))
          have hor := bits_or_u64_nat (accW x B k) (B.getD k 0) hac (HRB.out.lt hn (by omega))
          have HS := Lib.hid (hb.set_ i (.int .u64 ((accW x B k ||| B.getD k 0 : Nat) : Int)))
          rw [relV_set] at HS
          have HBL : Hid (Below g w (wr.setCell ⟨g, i, none⟩ (.int .u64 ((accW x B k ||| B.getD k 0 : Nat) : Int)))) := HL3.out.setCell (p := ⟨g, i, none⟩) (Nat.le_refl _) _
          have HAC : Hid (accW x B (k + 1) = if x.testBit k = true then accW x B k ||| B.getD k 0 else accW x B k) := rfl
          have HKEEP := Lib.hid hb
          clear hb hl hac
          obtain ⟨nx, hnx⟩ : ∃ nx, nx = accW x B (k + 1) := ⟨_, rfl⟩
          have HNX := Lib.hid hnx
          rw [← hnx] at HAC
          clear hnx
          cases hxt : x.testBit k with
          | true =>
            rw [hxt] at hbit
            rw [hxt, if_pos rfl] at HAC
            have HACC := Lib.hid HAC.out
            clear HAC
            generalize accW x B k ||| B.getD k 0 = z at *
            generalize accW x B k = ac at *
            generalize hy : B.getD k 0 = y at hbc hor
            clear hy hxt HKEEP
            go_wp2
            refine ⟨⟨k + 1, by omega, by push_cast; rfl, ⟨_, HS.out, by rw [List.length_set]; exact HLN.out, fun j hj => ?_, fun j hj => ?_, ?_⟩, HBL⟩, by simp [intOf]; omega⟩
            · rw [List.getD_eq_getElem?_getD, List.getElem?_set_ne (by omega), ← List.getD_eq_getElem?_getD]
              exact HW1.out j hj
            · rw [List.getD_eq_getElem?_getD, List.getElem?_set_ne (by omega), ← List.getD_eq_getElem?_getD]
              exact HW2.out j hj
            · rw [List.getD_eq_getElem?_getD, List.getElem?_set_self (by rw [HLN.out]; exact hlt), Option.getD_some, ← HNX.out]
              exact HACC.out.symm
          | false =>
            rw [hxt] at hbit
            rw [hxt, if_neg (by decide)] at HAC
            clear HS HBL hor hc hf hxt
            generalize hy : B.getD k 0 = y at hbc
            clear hy
            go_wp2
            exact ⟨⟨k + 1, by omega, by push_cast; rfl, ⟨ws, HKEEP.out, HLN.out, HW1.out, HW2.out, by rw [← HNX.out, HAC.out]; exact HW3.out⟩, HL3.out⟩, by simp [intOf]; omega⟩
        · obtain rfl : k = n + 1 := by omega
          go_wp2
          refine ⟨⟨i + 1, by omega, by push_cast; rfl, ⟨ws, hb, hl, fun j hj => ?_, fun j hj => HW2.out j (by omega)⟩, HL3.out⟩, by simp [intOf]; omega⟩
          by_cases e : j = i
          · subst e
            rw [HW3.out, HX.out]
          · exact HW1.out j (by omega)
    · obtain rfl : i = n + 1 := by omega
      obtain ⟨ws, hb, hl, hw, _⟩ := HB.out
      have HW := Lib.hid hw
      clear hw
      go_wp2
      go_ret
      exact ⟨_, rfl, ⟨g, ws, rfl, hb, HRA.out.then HRB.out hl (fun i hi => HW.out i (by omega))⟩, by rw [← HG.out]; exact HL.out⟩
set_option maxRecDepth 100000 in
set_option maxHeartbeats 2000000 in
theorem times_any (n : Nat) (hn : n ≤ 40) (w : World) (va : Value) (R : Nat → Nat → Prop) (hA : RelAt w va n R) (m q : Nat) (hm : m ≤ 1000000) (hq : q = min m (n + 2)) :
    Calls Tryd.prog 47 #[va, .int .i64 (m : Int)] w fun e w' => ∃ v, e = .returned v ∧ RelAt w' v n (TimesR n R q) ∧ Below w.heap.size w w' := by
  have HST := Lib.hid (still_any n hn w)
  have HTH : Hid (∀ W v S, RelAt W v n S → Below w.heap.size w W → Calls Tryd.prog 45 #[v, va] W fun e w' => ∃ v', e = .returned v' ∧ RelAt w' v' n (ThenR n S R) ∧ Below W.heap.size W w') := fun W v S h1 h2 => then_any n hn W v va S R h1 (hA.below h2)
  obtain ⟨ga, A, rfl, hba, hra⟩ := hA
  clear hba hra
  have hq2 : (q : Int) ≤ 1000000 := by omega
  have hmin : min (m : Int) ((n : Int) + 1 + 1) = (q : Int) := by omega
  have HQ := Lib.hid hq
  clear hq
  go_enter Tryd.func47, Tryd.ntmps47
  have e1 : (n : Int) + 1 - 1 = n := by omega
  go_upto_region 3 with (go_at_call 44; refine HST.out.mono ?_; rintro e w1 ⟨v1, rfl, hv1, hl1⟩; have HV1 := Lib.hid hv1; have HL1 := Lib.hid hl1; clear hv1 hl1)
  · go_loopw [5, 15] (fun v i wr => ∃ k : Nat, k ≤ q ∧ i = .int .i64 (k : Int) ∧ Hid (RelAt wr v n (TimesR n R k)) ∧ Hid (Below w.heap.size w wr)) (fun _ i _ => q - (intOf i).toNat)
    case atStart => exact ⟨0, Nat.zero_le _, rfl, HV1.out, HL1.out⟩
    case round =>
      obtain ⟨k, hk, rfl, HV, HL⟩ := hrel
      by_cases hlt : k < q
      · have hlt' : (k : Int) < (n : Int) + 1 + 1 := by have := HQ.out; omega
        have h0' : (0 : Int) ≤ k := by omega
        go_wp2_with (go_at_call 45; refine (HTH.out _ _ _ HV.out HL.out).mono ?_; rintro e w2 ⟨v2, rfl, hv2, hl2⟩; have HV2 := Lib.hid hv2; have HL2 := Lib.hid (low_trans HL.out hl2); clear hv2 hl2)
        exact ⟨⟨k + 1, by omega, by push_cast; rfl, HV2.out, HL2.out⟩, by simp [intOf]; omega⟩
      · have hkq : k = q := by omega
        have HKQ := Lib.hid hkq
        clear hkq
        have hend : ¬ (k : Int) < (n : Int) + 1 + 1 := by have := HQ.out; have := HKQ.out; omega
        go_wp2
        go_ret
        exact ⟨_, rfl, HKQ.out ▸ HV.out, HL.out⟩
  · go_loopw [5, 15] (fun v i wr => ∃ k : Nat, k ≤ q ∧ i = .int .i64 (k : Int) ∧ Hid (RelAt wr v n (TimesR n R k)) ∧ Hid (Below w.heap.size w wr)) (fun _ i _ => q - (intOf i).toNat)
    case atStart => exact ⟨0, Nat.zero_le _, rfl, HV1.out, HL1.out⟩
    case round =>
      obtain ⟨k, hk, rfl, HV, HL⟩ := hrel
      by_cases hlt : k < q
      · have hlt' : (k : Int) < (m : Int) := by have := HQ.out; omega
        have h0' : (0 : Int) ≤ k := by omega
        go_wp2_with (go_at_call 45; refine (HTH.out _ _ _ HV.out HL.out).mono ?_; rintro e w2 ⟨v2, rfl, hv2, hl2⟩; have HV2 := Lib.hid hv2; have HL2 := Lib.hid (low_trans HL.out hl2); clear hv2 hl2)
        exact ⟨⟨k + 1, by omega, by push_cast; rfl, HV2.out, HL2.out⟩, by simp [intOf]; omega⟩
      · have hkq : k = q := by omega
        have HKQ := Lib.hid hkq
        clear hkq
        have hend : ¬ (k : Int) < (m : Int) := by have := HQ.out; have := HKQ.out; omega
        go_wp2
        go_ret
        exact ⟨_, rfl, HKQ.out ▸ HV.out, HL.out⟩
set_option maxRecDepth 100000 in
set_option maxHeartbeats 1000000 in
theorem relHas_any (n : Nat) (hn : n ≤ 40) (w : World) (va : Value) (R : Nat → Nat → Prop) (hA : RelAt w va n R) (i j : Nat) (hi : i ≤ n) (hj : j ≤ n) :
    Calls Tryd.prog 22 #[va, .int .i64 (i : Int), .int .i64 (j : Int)] w fun e w' => ∃ b, e = .returned (.bool b) ∧ (b = true ↔ R i j) ∧ Below w.heap.size w w' := by
  obtain ⟨ga, A, rfl, hba, hra⟩ := hA
  have ha : w.cell? ⟨ga, i, none⟩ = some (.int .u64 ((A.getD i 0 : Nat) : Int)) := (hba.cell _).trans (relV_at (by rw [hra.len]; omega))
  have had : w.drew.cell? ⟨ga, i, none⟩ = _ := ha
  have hb := hra.bit i hi j
  have hbit := rel_bit (A.getD i 0) j (hra.lt hn hi)
  have HB : Hid ((A.getD i 0).testBit j = true ↔ R i j) := by rw [Hid]; rw [hb]; exact ⟨fun h => h.2, fun h => ⟨hj, h⟩⟩
  have h0i : (0 : Int) ≤ i := by omega
  have h0j : (0 : Int) ≤ j := by omega
  have hil : (i : Int) < (n : Int) + 1 := by omega
  clear hba hra hb
  generalize A.getD i 0 = x at *
  go_enter Tryd.func22, Tryd.ntmps22
  go_wp2
  go_ret
  exact ⟨_, rfl, HB.out, Below.refl _ _⟩
end Go.Proofs.YtdckjjkaoecgaaaDoor

/-
  The texts between two places of a text, as a relation: one behind the other, and as often as may be. No conditions.
-/
namespace Go.Proofs.YtdckjjkaoecgaaaDoor
open Go.RowKit

def slc (l : List UInt8) (i j : Nat) : List UInt8 := (l.drop i).take (j - i)
/-- what stands between two places is such a text -/
def SubP (l : List UInt8) (P : List UInt8 → Prop) (i j : Nat) : Prop := i ≤ j ∧ P (slc l i j)
theorem slc_len {l : List UInt8} {i j : Nat} (hj : j ≤ l.length) : (slc l i j).length = j - i := by
  unfold slc
  rw [List.length_take, List.length_drop]
  omega
theorem slc_self (l : List UInt8) (i : Nat) : slc l i i = [] := by unfold slc; rw [Nat.sub_self, List.take_zero]
theorem slc_cat {l : List UInt8} {i k j : Nat} (h1 : i ≤ k) (h2 : k ≤ j) : slc l i k ++ slc l k j = slc l i j := by
  unfold slc
  rw [show j - i = (k - i) + (j - k) from by omega, List.take_add, List.drop_drop, show i + (k - i) = k from by omega]
theorem slc_one {l : List UInt8} {i : Nat} (h : i < l.length) : slc l i (i + 1) = [l[i]] := by
  unfold slc
  rw [List.drop_eq_getElem_cons h, show i + 1 - i = 1 from by omega]
  rfl
theorem slc_front (l : List UInt8) (j : Nat) : slc l 0 j = l.take j := by unfold slc; rw [List.drop_zero, Nat.sub_zero]
theorem sub_nil {l : List UInt8} {i j : Nat} (hj : j ≤ l.length) : i = j ↔ SubP l (fun u => u = []) i j := by
  constructor
  · rintro rfl; exact ⟨Nat.le_refl _, slc_self l i⟩
  · rintro ⟨h1, h2⟩
    have := slc_len (i := i) hj
    rw [h2] at this
    simp at this
    omega
theorem sub_then {l : List UInt8} {P Q : List UInt8 → Prop} {i j : Nat} (hj : j ≤ l.length) : ThenR l.length (SubP l P) (SubP l Q) i j ↔ SubP l (fun u => ∃ v w, u = v ++ w ∧ P v ∧ Q w) i j := by
  constructor
  · rintro ⟨k, _, ⟨h1, h2⟩, h3, h4⟩
    exact ⟨by omega, _, _, (slc_cat h1 h3).symm, h2, h4⟩
  · rintro ⟨h1, v, w, h2, h3, h4⟩
    have h5 := slc_len (i := i) hj
    rw [h2, List.length_append] at h5
    have h6 := slc_cat (l := l) (i := i) (k := i + v.length) (j := j) (by omega) (by omega)
    have h7 : (slc l i (i + v.length)).length = v.length := by rw [slc_len (by omega)]; omega
    rw [h2] at h6
    obtain ⟨h8, h9⟩ := List.append_inj h6 h7
    exact ⟨i + v.length, by omega, ⟨by omega, by rw [h8]; exact h3⟩, by omega, by rw [h9]; exact h4⟩
theorem then_congr {n : Nat} {R R' S S' : Nat → Nat → Prop} (h1 : ∀ i j, i ≤ n → j ≤ n → (R i j ↔ R' i j)) (h2 : ∀ i j, i ≤ n → j ≤ n → (S i j ↔ S' i j)) {i j : Nat} (hi : i ≤ n) (hj : j ≤ n) : ThenR n R S i j ↔ ThenR n R' S' i j := by
  constructor
  · rintro ⟨k, hk, a, b⟩; exact ⟨k, hk, (h1 i k hi hk).1 a, (h2 k j hk hj).1 b⟩
  · rintro ⟨k, hk, a, b⟩; exact ⟨k, hk, (h1 i k hi hk).2 a, (h2 k j hk hj).2 b⟩
theorem star_one {P : List UInt8 → Prop} {u : List UInt8} (h : P u) : StarL P u := by
  have := StarL.cons h StarL.nil
  rwa [List.append_nil] at this
theorem star_cat {P : List UInt8 → Prop} {u v : List UInt8} (h : StarL P u) (k : StarL P v) : StarL P (u ++ v) := by
  induction h with
  | nil => exact k
  | cons a _ ih => rw [List.append_assoc]; exact .cons a ih
theorem times_left {n : Nat} {R : Nat → Nat → Prop} : ∀ (m i k j : Nat), i ≤ n → k ≤ n → R i k → TimesR n R m k j → TimesR n R (m + 1) i j
  | 0, i, k, j, hi, _, h, g => by
    obtain rfl : k = j := g
    exact ⟨i, hi, rfl, h⟩
  | m + 1, i, k, j, hi, hk, h, g => by
    obtain ⟨k', h1, h2, h3⟩ := g
    exact ⟨k', h1, times_left m i k k' hi hk h h2, h3⟩
theorem times_up {n : Nat} {R : Nat → Nat → Prop} (hr : ∀ i, i ≤ n → R i i) {i j : Nat} (hj : j ≤ n) : ∀ m d, TimesR n R m i j → TimesR n R (m + d) i j
  | m, 0, h => h
  | m, d + 1, h => ⟨j, hj, times_up hr hj m d h, hr j hj⟩
theorem sub_star {l : List UInt8} {P : List UInt8 → Prop} {i j : Nat} (hi : i ≤ l.length) (hj : j ≤ l.length) : TimesR l.length (fun i j => SubP l P i j ∨ i = j) (l.length + 1) i j ↔ SubP l (StarL P) i j := by
  constructor
  · have key : ∀ m j, TimesR l.length (fun i j => SubP l P i j ∨ i = j) m i j → SubP l (StarL P) i j := by
      intro m
      induction m with
      | zero =>
        intro j h
        obtain rfl : i = j := h
        exact ⟨Nat.le_refl _, by rw [slc_self]; exact .nil⟩
      | succ m ih =>
        rintro j ⟨k, _, h1, h2⟩
        obtain ⟨h3, h4⟩ := ih k h1
        rcases h2 with ⟨h5, h6⟩ | rfl
        · exact ⟨by omega, by rw [← slc_cat h3 h5]; exact star_cat h4 (star_one h6)⟩
        · exact ⟨h3, h4⟩
    exact key _ j
  · rintro ⟨h1, h2⟩
    have key : ∀ u, StarL P u → ∀ i, i ≤ j → slc l i j = u → TimesR l.length (fun i j => SubP l P i j ∨ i = j) (j - i) i j := by
      intro u hu
      induction hu with
      | nil =>
        intro i h1 h2
        have := slc_len (i := i) hj
        rw [h2] at this
        simp at this
        have e : i = j := by omega
        subst e
        rw [Nat.sub_self]
        rfl
      | @cons a b ha hb ih =>
        intro i h1 h2
        have h5 := slc_len (i := i) hj
        rw [h2, List.length_append] at h5
        have h6 := slc_cat (l := l) (i := i) (k := i + a.length) (j := j) (by omega) (by omega)
        have h7 : (slc l i (i + a.length)).length = a.length := by rw [slc_len (by omega)]; omega
        rw [h2] at h6
        obtain ⟨h8, h9⟩ := List.append_inj h6 h7
        have h10 := ih (i + a.length) (by omega) h9
        have h11 := times_left (n := l.length) (R := fun i j => SubP l P i j ∨ i = j) (j - (i + a.length)) i (i + a.length) j (by omega) (by omega) (.inl ⟨by omega, by rw [h8]; exact ha⟩) h10
        by_cases h0 : a.length = 0
        · rw [h0] at h10
          exact h10
        · have := times_up (n := l.length) (R := fun i j => SubP l P i j ∨ i = j) (fun i _ => .inr rfl) hj (j - (i + a.length) + 1) (a.length - 1) h11
          rwa [show j - (i + a.length) + 1 + (a.length - 1) = j - i from by omega] at this
    have h3 := times_up (n := l.length) (R := fun i j => SubP l P i j ∨ i = j) (fun i _ => .inr rfl) hj _ (l.length + 1 - (j - i)) (key _ h2 i h1 rfl)
    rwa [show j - i + (l.length + 1 - (j - i)) = l.length + 1 from by omega] at h3
theorem rowL_snoc (x : Ry) : ∀ (ks : List Ry) (u : List UInt8), rowL (ks ++ [x]) u ↔ ∃ v w, u = v ++ w ∧ rowL ks v ∧ hasR x w
  | [], u => by
    rw [List.nil_append, rowL]
    constructor
    · rintro ⟨v, w, h1, h2, h3⟩
      rw [rowL] at h3
      subst h3
      exact ⟨[], v, by rw [h1, List.append_nil]; rfl, by rw [rowL], h2⟩
    · rintro ⟨v, w, h1, h2, h3⟩
      rw [rowL] at h2
      subst h2
      exact ⟨w, [], by rw [h1, List.append_nil]; rfl, h3, by rw [rowL]⟩
  | k :: ks, u => by
    rw [List.cons_append, rowL]
    constructor
    · rintro ⟨v, w, h1, h2, h3⟩
      obtain ⟨v', w', h4, h5, h6⟩ := (rowL_snoc x ks w).1 h3
      exact ⟨v ++ v', w', by rw [h1, h4, List.append_assoc], by rw [rowL]; exact ⟨v, v', rfl, h2, h5⟩, h6⟩
    · rintro ⟨v, w, h1, h2, h3⟩
      rw [rowL] at h2
      obtain ⟨v', w', h4, h5, h6⟩ := h2
      exact ⟨v', w' ++ w, by rw [h1, h4, List.append_assoc], h5, (rowL_snoc x ks _).2 ⟨w', w, rfl, h6, h3⟩⟩
theorem anyL_snoc (x : Ry) (ks : List Ry) (u : List UInt8) : anyL (ks ++ [x]) u ↔ anyL ks u ∨ hasR x u := by
  rw [anyL_iff, anyL_iff]
  constructor
  · rintro ⟨t, ht, h⟩
    rcases List.mem_append.1 ht with ht | ht
    · exact .inl ⟨t, ht, h⟩
    · rw [List.mem_singleton.1 ht] at h; exact .inr h
  · rintro (⟨t, ht, h⟩ | h)
    · exact ⟨t, List.mem_append_left _ ht, h⟩
    · exact ⟨x, List.mem_append_right _ (List.mem_singleton.2 rfl), h⟩
end Go.Proofs.YtdckjjkaoecgaaaDoor

/-
  A byte in a set; the contract of frankinglow.In. Conditions: a byte, words.
-/
namespace Go.Proofs.YtdckjjkaoecgaaaDoor
open Go.RowKit

/-- a set: four words -/
structure St where
  s0 : Nat
  s1 : Nat
  s2 : Nat
  s3 : Nat
def St.word (s : St) (k : Nat) : Nat := if k = 0 then s.s0 else if k = 1 then s.s1 else if k = 2 then s.s2 else s.s3
def inS (s : St) (b : Nat) : Bool := (s.word (b / 64)).testBit (b % 64)
def setC (s : St) : List Value := [.int .u64 (s.s0 : Int), .int .u64 (s.s1 : Int), .int .u64 (s.s2 : Int), .int .u64 (s.s3 : Int)]
def setV (s : St) : Value := .agg (setC s).toArray
def St.ok (s : St) : Prop := s.s0 < 18446744073709551616 ∧ s.s1 < 18446744073709551616 ∧ s.s2 < 18446744073709551616 ∧ s.s3 < 18446744073709551616
def Ry.set (t : Ry) : St := ⟨t.s0, t.s1, t.s2, t.s3⟩
theorem setC_at (s : St) (k : Nat) (hk : k < 4) : (setC s)[k]? = some (.int .u64 (s.word k : Int)) := by
  match k, hk with
  | 0, _ => rfl
  | 1, _ => rfl
  | 2, _ => rfl
  | 3, _ => rfl
theorem bit_shr (x k : Nat) : decide (x / 2 ^ k % 2 = 1) = x.testBit k := by
  rw [Nat.testBit_eq_decide_div_mod_eq]
theorem word_lt (s : St) (hs : s.ok) (k : Nat) : s.word k < 18446744073709551616 := by
  obtain ⟨h0, h1, h2, h3⟩ := hs
  unfold St.word
  split
  · exact h0
  · split
    · exact h1
    · split
      · exact h2
      · exact h3
theorem and_one (s : St) (b : Nat) (hs : s.ok) : bits BinOp.and IntKind.u64 ((s.word (b / 64) : Int) / 2 ^ (b % 64)) 1 = ((s.word (b / 64) / 2 ^ (b % 64) % 2 : Nat) : Int) := by
  have h1 : s.word (b / 64) / 2 ^ (b % 64) < 18446744073709551616 := Nat.lt_of_le_of_lt (Nat.div_le_self _ _) (word_lt s hs _)
  have h2 := bits_and_u64_nat (s.word (b / 64) / 2 ^ (b % 64)) 1 h1 (by decide)
  have h3 : (s.word (b / 64) / 2 ^ (b % 64)) &&& 1 = s.word (b / 64) / 2 ^ (b % 64) % 2 := by
    have := Nat.and_two_pow_sub_one_eq_mod (s.word (b / 64) / 2 ^ (b % 64)) 1
    rwa [show (2 : Nat) ^ 1 - 1 = 1 from rfl, show (2 : Nat) ^ 1 = 2 from rfl] at this
  rw [h3] at h2
  rw [← h2, Int.natCast_ediv]
  norm_cast
theorem and_pow (s : St) (b : Nat) (hs : s.ok) : (bits BinOp.and IntKind.u64 (s.word (b / 64) : Int) (IntKind.u64.wrap (2 ^ (b % 64))) != 0) = inS s b := by
  have h0 : b % 64 < 64 := Nat.mod_lt _ (by decide)
  have hp : 2 ^ (b % 64) < 18446744073709551616 := Nat.lt_of_lt_of_le (Nat.pow_lt_pow_right (by decide) h0) (by decide)
  have hw : IntKind.u64.wrap (2 ^ (b % 64)) = ((2 ^ (b % 64) : Nat) : Int) := by
    have : ((2 : Int) ^ (b % 64)) = ((2 ^ (b % 64) : Nat) : Int) := by norm_cast
    rw [this]
    generalize 2 ^ (b % 64) = p at *
    unfold IntKind.wrap
    simp [IntKind.bits, IntKind.signed]
    omega
  rw [hw, bits_and_u64_nat _ _ (word_lt s hs _) hp]
  unfold inS
  generalize s.word (b / 64) = x
  generalize b % 64 = k
  have h1 : ∀ i, (x &&& 2 ^ k).testBit i = (x.testBit i && decide (k = i)) := fun i => by rw [Nat.testBit_and, Nat.testBit_two_pow]
  cases hx : x.testBit k with
  | false =>
    have : x &&& 2 ^ k = 0 := Nat.eq_of_testBit_eq fun i => by
      rw [h1, Nat.zero_testBit]
      by_cases hk : k = i
      · subst hk; simp [hx]
      · simp [hk]
    rw [this]
    rfl
  | true =>
    have h2 := h1 k
    rw [hx] at h2
    have : x &&& 2 ^ k ≠ 0 := fun h => by rw [h] at h2; simp at h2
    rw [bne_iff_ne]
    omega
theorem below_drewNc {B : Nat} {a w : World} (h : Below B a w) : ∀ n, Below B a (w.drewN n)
  | 0 => h
  | n + 1 => (below_drewNc h n).drew
set_option maxRecDepth 100000 in
set_option maxHeartbeats 1000000 in
theorem in_any (s : St) (b : Nat) (hb : b < 256) (hs : s.ok) (w : World) :
    Calls Tryd.prog 24 #[setV s, .int .u8 (b : Int)] w fun e w' => e = .returned (.bool (inS s b)) ∧ Below w.heap.size w w' := by
  have HB : Hid (Below w.heap.size w (w.alloc (.cells (setC s).toArray 44))) := (Below.refl _ _).alloc (Nat.le_refl _) _
  have hc : (w.alloc (.cells (setC s).toArray 44)).cell? ⟨w.heap.size, b / 64, none⟩ = some (.int .u64 (s.word (b / 64) : Int)) := ((Blk.new w 44 (setC s).toArray).cell _).trans (by simpa using setC_at s (b / 64) (by omega))
  unfold setV
  unfold setC at *
  go_enter Tryd.func24, Tryd.ntmps24
  go_wp2
  refine bodyPost_ret (results_tmp rfl _ _ _) rfl ?_
  refine ⟨?_, HB.out⟩
  exact ret_bool (by
    show (bits BinOp.and IntKind.u64 ((s.word (b / 64) : Int) / 2 ^ (b % 64)) 1 == 1) = inS s b
    rw [and_one s b hs]
    unfold inS
    rw [← bit_shr]
    generalize s.word (b / 64) / 2 ^ (b % 64) % 2 = m
    rw [Bool.eq_iff_iff, beq_iff_eq, decide_eq_true_iff]
    omega)
end Go.Proofs.YtdckjjkaoecgaaaDoor

/-
  The contract of frankinglow.OfRe: what a regular tree has within a text. Conditions: the tree lies in memory, its words are words; at most 40 bytes.
-/
namespace Go.Proofs.YtdckjjkaoecgaaaDoor
open Go.RowKit Go.Shelf

theorem hasR_0 {t : Ry} (h : t.kind = 0) : hasR t = fun u => u = [] := funext fun u => by rw [hasR_eq, if_pos h]
theorem hasR_1 {t : Ry} (h : t.kind = 1) : hasR t = fun u => ∃ b : UInt8, u = [b] ∧ inW t.s0 t.s1 t.s2 t.s3 b.toNat = true := funext fun u => by rw [hasR_eq, if_neg (by omega), if_pos h]
theorem hasR_2 {t : Ry} (h : t.kind = 2) : hasR t = rowL t.kids := funext fun u => by rw [hasR_eq, if_neg (by omega), if_neg (by omega), if_pos h]
theorem hasR_3 {t : Ry} (h : t.kind = 3) : hasR t = anyL t.kids := funext fun u => by rw [hasR_eq, if_neg (by omega), if_neg (by omega), if_neg (by omega), if_pos h]
theorem hasR_4 {t : Ry} (h : t.kind = 4) : hasR t = fun u => t.kids.length = 1 ∧ StarL (anyL t.kids) u := funext fun u => by rw [hasR_eq, if_neg (by omega), if_neg (by omega), if_neg (by omega), if_neg (by omega), if_pos h]
theorem hasR_5 {t : Ry} (h : ¬ t.kind ≤ 4) : hasR t = fun _ => False := funext fun u => by rw [hasR_eq, if_neg (by omega), if_neg (by omega), if_neg (by omega), if_neg (by omega), if_neg (by omega)]
/-- what OfRe answers -/
def OfReOut (s : ByteArray) (t : Ry) (W : World) (e : Ending) (w2 : World) : Prop := ∃ v, e = .returned v ∧ RelAt w2 v s.size (SubP s.data.toList (hasR t)) ∧ Below W.heap.size W w2
theorem ofOut {s : ByteArray} {t : Ry} {W w2 : World} {v : Value} {R : Nat → Nat → Prop} (h : RelAt w2 v s.size R) (hb : Below W.heap.size W w2) (e : ∀ i j, i ≤ s.size → j ≤ s.size → (R i j ↔ SubP s.data.toList (hasR t) i j)) : OfReOut s t W (.returned v) w2 := ⟨v, rfl, h.congr e, hb⟩
set_option maxRecDepth 100000 in
set_option maxHeartbeats 4000000 in
theorem ofRe_0 (s : ByteArray) (hs : s.size ≤ 40) (t : Ry) (w' : World) (hk : t.kind = 0) :
    Calls Tryd.prog 21 #[.agg (ryCells t).toArray, .string s] w' fun e w2 => OfReOut s t w' e w2 := by
  have HFIN : Hid (∀ v w2, RelAt w2 v s.size (fun i j => i = j) → Below w'.heap.size w' w2 → OfReOut s t w' (.returned v) w2) := fun v w2 h1 h2 => ofOut h1 h2 (fun i j hi hj => by
    rw [sub_nil (l := s.data.toList) (by exact hj), hasR_0 hk])
  have HB : Hid (Below w'.heap.size w' (w'.alloc (.cells (ryCells t).toArray 46))) := (Below.refl _ _).alloc (Nat.le_refl _) _
  have HBa : Hid (Blk (w'.alloc (.cells (ryCells t).toArray 46)) w'.heap.size 46 (ryCells t).toArray) := Blk.new _ _ _
  have HNO := Lib.hid (fun W => none_any s.size hs W)
  have HST := Lib.hid (fun W => still_any s.size hs W)
  unfold ryCells at HB HBa ⊢
  rw [hk] at HB HBa ⊢
  obtain ⟨n, hn⟩ : ∃ n, n = t.kids.length := ⟨_, rfl⟩
  rw [← hn] at HB HBa ⊢
  clear hn
  go_enter Tryd.func21, Tryd.ntmps21
  go_upto_region 2 with (go_at_call 43; refine (HNO.out _).mono ?_; rintro e w1 ⟨rfl, hb1, hl1⟩; have HL1 := Lib.hid (HB.out.trans (hl1.mono HB.out.size)); have HB1 := Lib.hid (HBa.out.below hl1 HBa.out.lt); clear hb1 hl1)
  have c0 := HB1.out.cell 0
  simp at c0
  go_wp2_with (go_at_call 44; refine (HST.out _).mono ?_; rintro e w2 ⟨v2, rfl, hv2, hl2⟩; have HV2 := Lib.hid hv2; have HL2 := Lib.hid (HL1.out.trans (hl2.mono HL1.out.size)); clear hv2 hl2)
  go_ret
  exact HFIN.out _ _ HV2.out HL2.out
theorem none_let (n : Nat) (hn : n ≤ 40) (w : World) :
    Calls Tryd.prog 43 #[.int .i64 (n : Int)] w fun e w' => ∃ g, e = .returned (.slice (some ⟨g, 0, none⟩) (n + 1) (n + 1)) ∧ Blk w' g 42 (relV (List.replicate (n + 1) 0)) ∧ w.heap.size ≤ g ∧ Below w.heap.size w w' :=
  (none_any n hn w).mono fun e w' ⟨h1, h2, h3⟩ => ⟨_, h1, h2, Nat.le_refl _, h3⟩
/-- a kid's cells -/
def KidAt (w : World) (t : Ry) : Prop := ∀ (i : Nat) (x : Ry), t.kids[i]? = some x → ∃ b off, t.a = some ⟨b, off, none⟩ ∧ b < w.heap.size ∧ ∀ j u, (ryCells x)[j]? = some u → w.cell? ⟨b, off + i * 6 + j, none⟩ = some u
def KidOf (s : ByteArray) (w : World) (t : Ry) : Prop := ∀ (i : Nat) (x : Ry), t.kids[i]? = some x → ∀ w', Below w.heap.size w w' → Calls Tryd.prog 21 #[.agg (ryCells x).toArray, .string s] w' fun e w2 => OfReOut s x w' e w2
set_option maxRecDepth 100000 in
set_option maxHeartbeats 4000000 in
theorem ofRe_5 (s : ByteArray) (hs : s.size ≤ 40) (t : Ry) (w' : World) (hk : ¬ t.kind ≤ 4 ∨ (t.kind = 4 ∧ ¬ t.kids.length = 1)) (hm : t.kids.length ≤ maxLen) :
    Calls Tryd.prog 21 #[.agg (ryCells t).toArray, .string s] w' fun e w2 => OfReOut s t w' e w2 := by
  have HFIN : Hid (∀ v w2, RelAt w2 v s.size (fun _ _ => False) → Below w'.heap.size w' w2 → OfReOut s t w' (.returned v) w2) := fun v w2 h1 h2 => ofOut h1 h2 (fun i j hi hj => by
    rcases hk with hk | hk
    · rw [hasR_5 hk]; exact ⟨fun h => h.elim, fun h => h.2⟩
    · rw [hasR_4 hk.1]; exact ⟨fun h => h.elim, fun h => hk.2 h.2.1⟩)
  have HB : Hid (Below w'.heap.size w' (w'.alloc (.cells (ryCells t).toArray 46))) := (Below.refl _ _).alloc (Nat.le_refl _) _
  have HBa : Hid (Blk (w'.alloc (.cells (ryCells t).toArray 46)) w'.heap.size 46 (ryCells t).toArray) := Blk.new _ _ _
  have HNO := Lib.hid (fun W => none_let s.size hs W)
  unfold maxLen at hm
  unfold ryCells at HB HBa ⊢
  obtain ⟨n, hn⟩ : ∃ n, n = t.kids.length := ⟨_, rfl⟩
  rw [← hn] at HB HBa hk hm ⊢
  clear hn
  generalize t.kind = k at *
  go_enter Tryd.func21, Tryd.ntmps21
  go_upto_region 2 with (go_at_call 43; refine (HNO.out _).mono ?_; rintro e w1 ⟨g1, rfl, hb1, _, hl1⟩; have HL1 := Lib.hid (HB.out.trans (hl1.mono HB.out.size)); have HB1 := Lib.hid (HBa.out.below hl1 HBa.out.lt); have HV1 := Lib.hid hb1; clear hb1 hl1)
  have c0 := HB1.out.cell 0
  have c5 := HB1.out.cell 5
  simp at c0 c5
  have hz0 : ((k : Int) == 0) = false := by rw [beq_eq_false_iff_ne]; omega
  have hz1 : ((k : Int) == 1) = false := by rw [beq_eq_false_iff_ne]; omega
  have hz2 : ((k : Int) == 2) = false := by rw [beq_eq_false_iff_ne]; omega
  have hz3 : ((k : Int) == 3) = false := by rw [beq_eq_false_iff_ne]; omega
  have HR : Hid (RelAt w1 (.slice (some ⟨g1, 0, none⟩) (s.size + 1) (s.size + 1)) s.size (fun _ _ => False)) := ⟨_, _, rfl, HV1.out, RelIs.none _⟩
  rcases hk with hk | ⟨rfl, hk⟩
  · have hz4 : ((k : Int) == 4) = false := by rw [beq_eq_false_iff_ne]; omega
    go_wp2_with fail
    go_ret
    exact HFIN.out _ _ HR.out HL1.out
  · have hz4 : ((n : Int) == 1) = false := by rw [beq_eq_false_iff_ne]; omega
    go_wp2_with fail
    go_ret
    exact HFIN.out _ _ HR.out HL1.out
set_option maxRecDepth 100000 in
set_option maxHeartbeats 4000000 in
theorem ofRe_1 (s : ByteArray) (hs : s.size ≤ 40) (t : Ry) (hok : ryOk t) (w' : World) (hk : t.kind = 1) :
    Calls Tryd.prog 21 #[.agg (ryCells t).toArray, .string s] w' fun e w2 => OfReOut s t w' e w2 := by
  obtain ⟨S, hS⟩ : ∃ S : St, S = t.set := ⟨_, rfl⟩
  have hSok : S.ok := by rw [hS]; exact ⟨hok.2.1, hok.2.2.1, hok.2.2.2.1, hok.2.2.2.2⟩
  have HIN : Hid (∀ k (h : k < s.size) W, Calls Tryd.prog 24 #[setV S, .int .u8 (s[k].toNat : Int)] W fun e w' => e = .returned (.bool (inS S s[k].toNat)) ∧ Below W.heap.size W w') := fun k h W => in_any S s[k].toNat s[k].toNat_lt hSok W
  have HFIN : Hid (∀ v w2, RelAt w2 v s.size (fun i j => ∃ h : i < s.size, inS S s[i].toNat = true ∧ j = i + 1) → Below w'.heap.size w' w2 → OfReOut s t w' (.returned v) w2) := fun v w2 h1 h2 => ofOut h1 h2 (fun i j hi hj => by
    have hln : s.data.toList.length = s.size := by rw [Array.length_toList]; rfl
    rw [hasR_1 hk]
    constructor
    · rintro ⟨h, h3, rfl⟩
      refine ⟨by omega, s[i], ?_, ?_⟩
      · rw [slc_one (by omega)]; rfl
      · rw [hS] at h3; exact h3
    · rintro ⟨h3, b, h4, h5⟩
      have h6 := slc_len (l := s.data.toList) (i := i) (j := j) (by omega)
      rw [h4] at h6
      simp at h6
      obtain rfl : j = i + 1 := by omega
      rw [slc_one (by omega)] at h4
      injection h4 with h4
      refine ⟨by omega, ?_, rfl⟩
      rw [← h4] at h5
      rw [hS]
      exact h5)
  have HB : Hid (Below w'.heap.size w' (w'.alloc (.cells (ryCells t).toArray 46))) := (Below.refl _ _).alloc (Nat.le_refl _) _
  have HBa : Hid (Blk (w'.alloc (.cells (ryCells t).toArray 46)) w'.heap.size 46 (ryCells t).toArray) := Blk.new _ _ _
  have HNO := Lib.hid (fun W => none_let s.size hs W)
  have e0 : t.s0 = S.s0 := by rw [hS]; rfl
  have e1 : t.s1 = S.s1 := by rw [hS]; rfl
  have e2 : t.s2 = S.s2 := by rw [hS]; rfl
  have e3 : t.s3 = S.s3 := by rw [hS]; rfl
  unfold ryCells at HB HBa ⊢
  rw [e0, e1, e2, e3] at HB HBa ⊢
  unfold setV setC at HIN
  have hz0 : ((t.kind : Int) == 0) = false := by rw [beq_eq_false_iff_ne]; omega
  have hz1 : ((t.kind : Int) == 1) = true := by rw [beq_iff_eq]; omega
  generalize t.kind = kk at *
  obtain ⟨n, hn⟩ : ∃ n, n = t.kids.length := ⟨_, rfl⟩
  rw [← hn] at HB HBa ⊢
  clear hn hok hSok hS e0 e1 e2 e3 hk
  obtain ⟨W0, hW0⟩ : ∃ W0, W0 = w'.alloc (.cells #[.int .u8 (kk : Int), .int .u64 (S.s0 : Int), .int .u64 (S.s1 : Int), .int .u64 (S.s2 : Int), .int .u64 (S.s3 : Int), .slice t.a n t.cap] 46) := ⟨_, rfl⟩
  go_enter Tryd.func21, Tryd.ntmps21
  go_upto_region 1 with fail
  rw [← hW0]
  have HB2 : Hid (Below w'.heap.size w' W0) := by rw [hW0]; exact HB.out
  have HBa2 : Hid (Blk W0 w'.heap.size 46 #[.int .u8 (kk : Int), .int .u64 (S.s0 : Int), .int .u64 (S.s1 : Int), .int .u64 (S.s2 : Int), .int .u64 (S.s3 : Int), .slice t.a n t.cap]) := by rw [hW0]; exact HBa.out
  clear hW0 HB HBa
  have HKP : Hid (∀ W, Below W0.heap.size W0 W → Blk W w'.heap.size 46 #[.int .u8 (kk : Int), .int .u64 (S.s0 : Int), .int .u64 (S.s1 : Int), .int .u64 (S.s2 : Int), .int .u64 (S.s3 : Int), .slice t.a n t.cap]) := fun W h => HBa2.out.below h HBa2.out.lt
  go_upto_region 2 with (go_at_call 43; refine (HNO.out _).mono ?_; rintro e w1 ⟨g, rfl, hb1, hg1, hl1⟩; have HL1 := Lib.hid hl1; have HV1 := Lib.hid hb1; have HG1 : Hid (W0.heap.size ≤ g) := hg1; clear hb1 hl1 hg1)
  have c0 := (HKP.out w1 HL1.out).cell 0
  simp at c0
  go_upto_region 7 with fail
  go_loopw [25] (fun i wr => ∃ k : Nat, k ≤ s.size ∧ i = .int .i64 (k : Int) ∧ Hid (∃ ws : List Nat, Blk wr g 42 (relV ws) ∧ ws.length = s.size + 1 ∧ (∀ j, (h : j < s.size) → j < k → ws.getD j 0 = if inS S s[j].toNat = true then 2 ^ (j + 1) else 0) ∧ ∀ j, k ≤ j → ws.getD j 0 = 0) ∧ Hid (Below W0.heap.size W0 wr)) (fun i _ => s.size - (intOf i).toNat)
  case atStart => exact ⟨0, Nat.zero_le _, rfl, ⟨_, HV1.out, List.length_replicate, fun j _ hj => by omega, fun j _ => by rw [List.getD_eq_getElem?_getD, List.getElem?_replicate]; split <;> rfl⟩, HL1.out⟩
  case round =>
    obtain ⟨k, hk, rfl, HB, HL⟩ := hrel
    clear c0
    obtain ⟨ws, hb, hl, hw1, hw2⟩ := HB.out
    have HW1 := Lib.hid hw1
    have HW2 := Lib.hid hw2
    have HLN := Lib.hid hl
    have HBB := Lib.hid hb
    clear hw1 hw2 HB
    by_cases hlt : k < s.size
    · have hlt' : (k : Int) < (s.size : Int) := by omega
      have h0' : (0 : Int) ≤ k := by omega
      have HQ := Lib.hid (HIN.out k hlt)
      have HIS : Hid (inS S s[k].toNat = inS S s[k].toNat) := rfl
      have HSW : Hid (∀ W, Below W0.heap.size W0 W → (Below W0.heap.size W0 W ∧ W.cell? ⟨w'.heap.size, 1, none⟩ = some (.int .u64 (S.s0 : Int)) ∧ W.cell? ⟨w'.heap.size, 2, none⟩ = some (.int .u64 (S.s1 : Int)) ∧ W.cell? ⟨w'.heap.size, 3, none⟩ = some (.int .u64 (S.s2 : Int)) ∧ W.cell? ⟨w'.heap.size, 4, none⟩ = some (.int .u64 (S.s3 : Int)))) := fun W h => by
        have hq := HKP.out W h
        have q0 := hq.cell 1
        have q1 := hq.cell 2
        have q2 := hq.cell 3
        have q3 := hq.cell 4
        simp at q0 q1 q2 q3
        exact ⟨h, q0, q1, q2, q3⟩
      have HS1 := Lib.hid (HSW.out _ HL.out.drew)
      have HKB := Lib.hid hb.drew
      have HL3 : Hid (ws.length = s.size + 1) := hl
      clear hb hl
      obtain ⟨B, hB⟩ : ∃ B, B = inS S s[k].toNat := ⟨_, rfl⟩
      have HBV := Lib.hid hB
      rw [← hB] at HQ
      clear hB HIS HBB
      go_wp2_with fail
      go_region_held3 (fun W => Below W0.heap.size W0 W ∧ W.cell? ⟨w'.heap.size, 1, none⟩ = some (.int .u64 (S.s0 : Int)) ∧ W.cell? ⟨w'.heap.size, 2, none⟩ = some (.int .u64 (S.s1 : Int)) ∧ W.cell? ⟨w'.heap.size, 3, none⟩ = some (.int .u64 (S.s2 : Int)) ∧ W.cell? ⟨w'.heap.size, 4, none⟩ = some (.int .u64 (S.s3 : Int)))
        (first | (with_reducible exact HS1.out) | (with_reducible exact HS2.out))
        ((go_at_call 24; refine (HQ.out wr.drew).mono ?_; rintro e w8 ⟨rfl, hb8⟩; have HS2 := Lib.hid (HSW.out _ (low_trans HS1.out.1 hb8)); have HKB2 := Lib.hid (HKB.out.below hb8 HKB.out.lt); clear hb8))
      clear HS1 HKB HQ HIN
      have hf := HKB2.out.frozen k
      have hp := rel_pow (k + 1) (by omega)
      have hc : w8.cell? ⟨g, k, none⟩ = some (.int .u64 ((ws.getD k 0 : Nat) : Int)) := (HKB2.out.cell _).trans (relV_at (by rw [HL3.out]; omega))
      have hk1 : (0 : Int) ≤ (k : Int) + 1 := by omega
      have hk2 : (k : Int) < (s.size : Int) + 1 := by omega
      have HS := Lib.hid (HKB2.out.set_ k (.int .u64 ((2 ^ (k + 1) : Nat) : Int)))
      rw [relV_set] at HS
      have HBL : Hid (Below W0.heap.size W0 (w8.setCell ⟨g, k, none⟩ (.int .u64 ((2 ^ (k + 1) : Nat) : Int)))) := HS2.out.1.setCell (p := ⟨g, k, none⟩) HG1.out _
      obtain ⟨z, hz⟩ : ∃ z, z = 2 ^ (k + 1) := ⟨_, rfl⟩
      have HZ := Lib.hid hz
      rw [← hz] at hp HS HBL
      clear hz
      have htn : ((k : Int) + 1).toNat = k + 1 := by omega
      cases B with
      | true =>
        go_wp2_with fail
        refine ⟨⟨k + 1, by omega, by push_cast; rfl, ⟨_, HS.out, by rw [List.length_set]; exact HL3.out, fun j hj hjk => ?_, fun j hj => ?_⟩, HBL⟩, by simp [intOf]; omega⟩
        · by_cases e : j = k
          · subst e
            rw [List.getD_eq_getElem?_getD, List.getElem?_set_self (by rw [HL3.out]; omega), Option.getD_some, ← HBV.out, if_pos rfl]
            exact HZ.out
          · rw [List.getD_eq_getElem?_getD, List.getElem?_set_ne (Ne.symm e), ← List.getD_eq_getElem?_getD]
            exact HW1.out j hj (by omega)
        · rw [List.getD_eq_getElem?_getD, List.getElem?_set_ne (by omega), ← List.getD_eq_getElem?_getD]
          exact HW2.out j (by omega)
      | false =>
        go_wp2_with fail
        refine ⟨⟨k + 1, by omega, by push_cast; rfl, ⟨ws, HKB2.out, HL3.out, fun j hj hjk => ?_, fun j hj => HW2.out j (by omega)⟩, HS2.out.1⟩, by simp [intOf]; omega⟩
        by_cases e : j = k
        · subst e
          rw [← HBV.out, if_neg (by decide)]
          exact HW2.out j (Nat.le_refl _)
        · exact HW1.out j hj (by omega)
    · obtain rfl : k = s.size := by omega
      go_wp2_with fail
      go_ret
      refine HFIN.out _ _ ⟨g, ws, rfl, hb, hl, fun i hi j => ?_⟩ (HB2.out.trans (HL.out.mono HB2.out.size))
      by_cases hin : i < s.size
      · rw [HW1.out i hin hin]
        by_cases hb : inS S s[i].toNat = true
        · rw [if_pos hb, Nat.testBit_two_pow, decide_eq_true_iff]
          exact ⟨fun e => ⟨by omega, hin, hb, e.symm⟩, fun ⟨_, _, _, e⟩ => e.symm⟩
        · rw [if_neg hb, Nat.zero_testBit]
          exact ⟨fun e => (by cases e), fun ⟨_, _, e, _⟩ => absurd e hb⟩
      · rw [HW2.out i (by omega), Nat.zero_testBit]
        exact ⟨fun e => (by cases e), fun ⟨_, e, _⟩ => absurd e hin⟩
end Go.Proofs.YtdckjjkaoecgaaaDoor

/-
  The contract of frankinglow.OfRe, its rows, choices and stars; the whole of it. Conditions: the tree lies in memory, its words are words; at most 40 bytes.
-/
namespace Go.Proofs.YtdckjjkaoecgaaaDoor
open Go.RowKit Go.Shelf

theorem ss_len (s : ByteArray) : s.data.toList.length = s.size := by rw [Array.length_toList]; rfl
set_option maxRecDepth 100000 in
set_option maxHeartbeats 8000000 in
theorem ofRe_2 (s : ByteArray) (hs : s.size ≤ 40) (t : Ry) (w w' : World) (hc : KidAt w t) (hi : KidOf s w t) (hw : Below w.heap.size w w') (hk : t.kind = 2) (hm : t.kids.length ≤ maxLen) :
    Calls Tryd.prog 21 #[.agg (ryCells t).toArray, .string s] w' fun e w2 => OfReOut s t w' e w2 := by
  have HFIN : Hid (∀ v w2, RelAt w2 v s.size (SubP s.data.toList (rowL (t.kids.take t.kids.length))) → Below w'.heap.size w' w2 → OfReOut s t w' (.returned v) w2) := fun v w2 h1 h2 => ofOut h1 h2 (fun i j hi hj => by rw [hasR_2 hk, List.take_length])
  have HB : Hid (Below w'.heap.size w' (w'.alloc (.cells (ryCells t).toArray 46))) := (Below.refl _ _).alloc (Nat.le_refl _) _
  have HBa : Hid (Blk (w'.alloc (.cells (ryCells t).toArray 46)) w'.heap.size 46 (ryCells t).toArray) := Blk.new _ _ _
  have HNO := Lib.hid (fun W => none_let s.size hs W)
  have HST := Lib.hid (fun W => still_any s.size hs W)
  have HTH : Hid (∀ W va vb k x, t.kids[k]? = some x → RelAt W va s.size (SubP s.data.toList (rowL (t.kids.take k))) → RelAt W vb s.size (SubP s.data.toList (hasR x)) → Calls Tryd.prog 45 #[va, vb] W fun e w' => ∃ v, e = .returned v ∧ RelAt w' v s.size (SubP s.data.toList (rowL (t.kids.take (k + 1)))) ∧ Below W.heap.size W w') := fun W va vb k x hx h1 h2 =>
    (then_any s.size hs W va vb _ _ h1 h2).mono fun e w' ⟨v, h3, h4, h5⟩ => ⟨v, h3, h4.congr (fun i j hi hj => by
      rw [show s.size = s.data.toList.length from (ss_len s).symm] at hj ⊢
      rw [sub_then hj, List.take_add_one, hx]
      unfold SubP
      rw [Option.toList_some, rowL_snoc]), h5⟩
  have HZ : Hid (∀ W v, RelAt W v s.size (fun i j => i = j) → RelAt W v s.size (SubP s.data.toList (rowL (t.kids.take 0)))) := fun W v h => h.congr (fun i j hi hj => by
    rw [sub_nil (l := s.data.toList) (by rw [ss_len]; exact hj), List.take_zero]
    unfold SubP
    rw [rowL])
  have HC := Lib.hid hc
  have HI := Lib.hid hi
  have HW := Lib.hid hw
  unfold KidAt at HC
  unfold KidOf at HI
  unfold maxLen at hm
  unfold ryCells at HB HBa ⊢
  have hz0 : ((t.kind : Int) == 0) = false := by rw [beq_eq_false_iff_ne]; omega
  have hz1 : ((t.kind : Int) == 1) = false := by rw [beq_eq_false_iff_ne]; omega
  have hz2 : ((t.kind : Int) == 2) = true := by rw [beq_iff_eq]; omega
  clear hc hi hw hk
  generalize t.kind = kk at *
  generalize t.kids = kids at *
  generalize t.a = ta at *
  obtain ⟨n, hn⟩ : ∃ n, n = kids.length := ⟨_, rfl⟩
  have HN := Lib.hid hn
  rw [← hn] at HB HBa HFIN hm ⊢
  clear hn
  obtain ⟨W0, hW0⟩ : ∃ W0, W0 = w'.alloc (.cells #[.int .u8 (kk : Int), .int .u64 (t.s0 : Int), .int .u64 (t.s1 : Int), .int .u64 (t.s2 : Int), .int .u64 (t.s3 : Int), .slice ta n t.cap] 46) := ⟨_, rfl⟩
  go_enter Tryd.func21, Tryd.ntmps21
  go_upto_region 1 with fail
  rw [← hW0]
  have HB2 : Hid (Below w'.heap.size w' W0) := by rw [hW0]; exact HB.out
  have HBa2 : Hid (Blk W0 w'.heap.size 46 #[.int .u8 (kk : Int), .int .u64 (t.s0 : Int), .int .u64 (t.s1 : Int), .int .u64 (t.s2 : Int), .int .u64 (t.s3 : Int), .slice ta n t.cap]) := by rw [hW0]; exact HBa.out
  clear hW0 HB HBa
  have HKP : Hid (∀ W, Below W0.heap.size W0 W → Blk W w'.heap.size 46 #[.int .u8 (kk : Int), .int .u64 (t.s0 : Int), .int .u64 (t.s1 : Int), .int .u64 (t.s2 : Int), .int .u64 (t.s3 : Int), .slice ta n t.cap]) := fun W h => HBa2.out.below h HBa2.out.lt
  have HLW : Hid (Below w.heap.size w W0) := HW.out.trans (HB2.out.mono HW.out.size)
  go_upto_region 2 with (go_at_call 43; refine (HNO.out _).mono ?_; rintro e w1 ⟨g, rfl, hb1, hg1, hl1⟩; have HL1 := Lib.hid hl1; clear hb1 hl1 hg1)
  have c0 := (HKP.out w1 HL1.out).cell 0
  simp at c0
  go_upto_region 14 with (go_at_call 44; refine (HST.out _).mono ?_; rintro e w2 ⟨v2, rfl, hv2, hl2⟩; have HV2 := Lib.hid (HZ.out _ _ hv2); have HL2 := Lib.hid (low_trans HL1.out hl2); clear hv2 hl2)
  have c5 := (HKP.out w2 HL2.out).cell 5
  simp at c5
  go_upto_region 15 with fail
  clear c0 c5
  go_loopw [5, 49] (fun v i wr => ∃ k : Nat, k ≤ n ∧ i = .int .i64 (k : Int) ∧ Hid (RelAt wr v s.size (SubP s.data.toList (rowL (kids.take k)))) ∧ Hid (Below W0.heap.size W0 wr)) (fun _ i _ => n - (intOf i).toNat)
  case atStart => exact ⟨0, Nat.zero_le _, rfl, HV2.out, HL2.out⟩
  case round =>
    obtain ⟨k, hkn, rfl, HV, HL⟩ := hrel
    by_cases hlt : k < n
    · have hlt' : (k : Int) < n := by omega
      have h0' : (0 : Int) ≤ k := by omega
      obtain ⟨x, hx⟩ : ∃ x, kids[k]? = some x := ⟨_, List.getElem?_eq_getElem (by rw [← HN.out]; exact hlt)⟩
      obtain ⟨b, off, rfl, hbl, hcx⟩ := HC.out k x hx
      have hcw : ∀ j u, (ryCells x)[j]? = some u → wr.cell? ⟨b, off + k * 6 + j, none⟩ = some u := fun j u hj => ((low_trans HLW.out HL.out).cell (p := ⟨b, off + k * 6 + j, none⟩) hbl).trans (hcx j u hj)
      have a0 := hcw 0 _ rfl
      have a1 := hcw 1 _ rfl
      have a2 := hcw 2 _ rfl
      have a3 := hcw 3 _ rfl
      have a4 := hcw 4 _ rfl
      have a5 := hcw 5 _ rfl
      rw [Nat.add_zero] at a0
      have HREC := Lib.hid (HI.out k x hx)
      have HT2 := Lib.hid (fun W va vb => HTH.out W va vb k x hx)
      have HLA : Hid (Below W0.heap.size W0 (wr.alloc (.cells (ryCells x).toArray 46))) := HL.out.alloc HL.out.size _
      have HVA : Hid (RelAt (wr.alloc (.cells (ryCells x).toArray 46)) u5 s.size (SubP s.data.toList (rowL (kids.take k)))) := HV.out.below ((Below.refl _ _).alloc (Nat.le_refl _) _)
      unfold ryCells at HREC HLA HVA
      obtain ⟨xl, hxl⟩ : ∃ xl, xl = x.kids.length := ⟨_, rfl⟩
      rw [← hxl] at a5 HREC HLA HVA
      clear hcw hcx hx hxl HV
      go_wp2_with (first
        | (go_at_call 21; refine (HREC.out _ (low_trans HLW.out HLA.out)).mono ?_; rintro e w5 ⟨v5, rfl, hv5, hb5⟩; have HL5 := Lib.hid (low_trans HLA.out hb5); have HV5 := Lib.hid hv5; have HV6 := Lib.hid (HVA.out.below hb5); clear hv5 hb5)
        | (go_at_call 45; refine (HT2.out _ _ _ HV6.out HV5.out).mono ?_; rintro e w6 ⟨v6, rfl, hv6, hb6⟩; have HL6 := Lib.hid (low_trans HL5.out hb6); have HV7 := Lib.hid hv6; clear hv6 hb6))
      exact ⟨⟨k + 1, hlt, by push_cast; rfl, HV7.out, HL6.out⟩, by simp [intOf]; omega⟩
    · obtain rfl : k = n := by omega
      go_wp2_with fail
      go_ret
      exact HFIN.out _ _ HV.out (HB2.out.trans (HL.out.mono HB2.out.size))
set_option maxRecDepth 100000 in
set_option maxHeartbeats 8000000 in
theorem ofRe_3 (s : ByteArray) (hs : s.size ≤ 40) (t : Ry) (w w' : World) (hc : KidAt w t) (hi : KidOf s w t) (hw : Below w.heap.size w w') (hk : t.kind = 3) (hm : t.kids.length ≤ maxLen) :
    Calls Tryd.prog 21 #[.agg (ryCells t).toArray, .string s] w' fun e w2 => OfReOut s t w' e w2 := by
  have HFIN : Hid (∀ v w2, RelAt w2 v s.size (SubP s.data.toList (anyL (t.kids.take t.kids.length))) → Below w'.heap.size w' w2 → OfReOut s t w' (.returned v) w2) := fun v w2 h1 h2 => ofOut h1 h2 (fun i j hi hj => by rw [hasR_3 hk, List.take_length])
  have HB : Hid (Below w'.heap.size w' (w'.alloc (.cells (ryCells t).toArray 46))) := (Below.refl _ _).alloc (Nat.le_refl _) _
  have HBa : Hid (Blk (w'.alloc (.cells (ryCells t).toArray 46)) w'.heap.size 46 (ryCells t).toArray) := Blk.new _ _ _
  have HNO := Lib.hid (fun W => none_let s.size hs W)
  have HTH : Hid (∀ W va vb k x, t.kids[k]? = some x → RelAt W va s.size (SubP s.data.toList (anyL (t.kids.take k))) → RelAt W vb s.size (SubP s.data.toList (hasR x)) → Calls Tryd.prog 46 #[va, vb] W fun e w' => ∃ v, e = .returned v ∧ RelAt w' v s.size (SubP s.data.toList (anyL (t.kids.take (k + 1)))) ∧ Below W.heap.size W w') := fun W va vb k x hx h1 h2 =>
    (or_any s.size hs W va vb _ _ h1 h2).mono fun e w' ⟨v, h3, h4, h5⟩ => ⟨v, h3, h4.congr (fun i j hi hj => by
      rw [List.take_add_one, hx]
      unfold SubP
      rw [Option.toList_some, anyL_snoc]
      constructor
      · rintro (⟨h6, h7⟩ | ⟨h6, h7⟩)
        · exact ⟨h6, .inl h7⟩
        · exact ⟨h6, .inr h7⟩
      · rintro ⟨h6, h7 | h7⟩
        · exact .inl ⟨h6, h7⟩
        · exact .inr ⟨h6, h7⟩), h5⟩
  have HZ : Hid (∀ W v, RelAt W v s.size (fun _ _ => False) → RelAt W v s.size (SubP s.data.toList (anyL (t.kids.take 0)))) := fun W v h => h.congr (fun i j hi hj => by
    rw [List.take_zero]
    unfold SubP
    rw [anyL]
    exact ⟨fun h => h.elim, fun h => h.2⟩)
  have HC := Lib.hid hc
  have HI := Lib.hid hi
  have HW := Lib.hid hw
  unfold KidAt at HC
  unfold KidOf at HI
  unfold maxLen at hm
  unfold ryCells at HB HBa ⊢
  have hz0 : ((t.kind : Int) == 0) = false := by rw [beq_eq_false_iff_ne]; omega
  have hz1 : ((t.kind : Int) == 1) = false := by rw [beq_eq_false_iff_ne]; omega
  have hz2 : ((t.kind : Int) == 2) = false := by rw [beq_eq_false_iff_ne]; omega
  have hz3 : ((t.kind : Int) == 3) = true := by rw [beq_iff_eq]; omega
  clear hc hi hw hk
  generalize t.kind = kk at *
  generalize t.kids = kids at *
  generalize t.a = ta at *
  obtain ⟨n, hn⟩ : ∃ n, n = kids.length := ⟨_, rfl⟩
  have HN := Lib.hid hn
  rw [← hn] at HB HBa HFIN hm ⊢
  clear hn
  obtain ⟨W0, hW0⟩ : ∃ W0, W0 = w'.alloc (.cells #[.int .u8 (kk : Int), .int .u64 (t.s0 : Int), .int .u64 (t.s1 : Int), .int .u64 (t.s2 : Int), .int .u64 (t.s3 : Int), .slice ta n t.cap] 46) := ⟨_, rfl⟩
  go_enter Tryd.func21, Tryd.ntmps21
  go_upto_region 1 with fail
  rw [← hW0]
  have HB2 : Hid (Below w'.heap.size w' W0) := by rw [hW0]; exact HB.out
  have HBa2 : Hid (Blk W0 w'.heap.size 46 #[.int .u8 (kk : Int), .int .u64 (t.s0 : Int), .int .u64 (t.s1 : Int), .int .u64 (t.s2 : Int), .int .u64 (t.s3 : Int), .slice ta n t.cap]) := by rw [hW0]; exact HBa.out
  clear hW0 HB HBa
  have HKP : Hid (∀ W, Below W0.heap.size W0 W → Blk W w'.heap.size 46 #[.int .u8 (kk : Int), .int .u64 (t.s0 : Int), .int .u64 (t.s1 : Int), .int .u64 (t.s2 : Int), .int .u64 (t.s3 : Int), .slice ta n t.cap]) := fun W h => HBa2.out.below h HBa2.out.lt
  have HLW : Hid (Below w.heap.size w W0) := HW.out.trans (HB2.out.mono HW.out.size)
  go_upto_region 2 with (go_at_call 43; refine (HNO.out _).mono ?_; rintro e w1 ⟨g, rfl, hb1, hg1, hl1⟩; have HL1 := Lib.hid hl1; have HV1 : Hid (RelAt w1 (.slice (some ⟨g, 0, none⟩) (s.size + 1) (s.size + 1)) s.size (fun _ _ => False)) := ⟨_, _, rfl, hb1, RelIs.none _⟩; clear hb1 hl1 hg1)
  have c0 := (HKP.out w1 HL1.out).cell 0
  have c5 := (HKP.out w1 HL1.out).cell 5
  simp at c0 c5
  have HV2 := Lib.hid (HZ.out _ _ HV1.out)
  go_upto_region 21 with fail
  clear c0 c5
  go_loopw [5, 64] (fun v i wr => ∃ k : Nat, k ≤ n ∧ i = .int .i64 (k : Int) ∧ Hid (RelAt wr v s.size (SubP s.data.toList (anyL (kids.take k)))) ∧ Hid (Below W0.heap.size W0 wr)) (fun _ i _ => n - (intOf i).toNat)
  case atStart => exact ⟨0, Nat.zero_le _, rfl, HV2.out, HL1.out⟩
  case round =>
    obtain ⟨k, hkn, rfl, HV, HL⟩ := hrel
    by_cases hlt : k < n
    · have hlt' : (k : Int) < n := by omega
      have h0' : (0 : Int) ≤ k := by omega
      obtain ⟨x, hx⟩ : ∃ x, kids[k]? = some x := ⟨_, List.getElem?_eq_getElem (by rw [← HN.out]; exact hlt)⟩
      obtain ⟨b, off, rfl, hbl, hcx⟩ := HC.out k x hx
      have hcw : ∀ j u, (ryCells x)[j]? = some u → wr.cell? ⟨b, off + k * 6 + j, none⟩ = some u := fun j u hj => ((low_trans HLW.out HL.out).cell (p := ⟨b, off + k * 6 + j, none⟩) hbl).trans (hcx j u hj)
      have a0 := hcw 0 _ rfl
      have a1 := hcw 1 _ rfl
      have a2 := hcw 2 _ rfl
      have a3 := hcw 3 _ rfl
      have a4 := hcw 4 _ rfl
      have a5 := hcw 5 _ rfl
      rw [Nat.add_zero] at a0
      have HREC := Lib.hid (HI.out k x hx)
      have HT2 := Lib.hid (fun W va vb => HTH.out W va vb k x hx)
      have HLA : Hid (Below W0.heap.size W0 (wr.alloc (.cells (ryCells x).toArray 46))) := HL.out.alloc HL.out.size _
      have HVA : Hid (RelAt (wr.alloc (.cells (ryCells x).toArray 46)) u5 s.size (SubP s.data.toList (anyL (kids.take k)))) := HV.out.below ((Below.refl _ _).alloc (Nat.le_refl _) _)
      unfold ryCells at HREC HLA HVA
      obtain ⟨xl, hxl⟩ : ∃ xl, xl = x.kids.length := ⟨_, rfl⟩
      rw [← hxl] at a5 HREC HLA HVA
      clear hcw hcx hx hxl HV
      go_wp2_with (first
        | (go_at_call 21; refine (HREC.out _ (low_trans HLW.out HLA.out)).mono ?_; rintro e w5 ⟨v5, rfl, hv5, hb5⟩; have HL5 := Lib.hid (low_trans HLA.out hb5); have HV5 := Lib.hid hv5; have HV6 := Lib.hid (HVA.out.below hb5); clear hv5 hb5)
        | (go_at_call 46; refine (HT2.out _ _ _ HV6.out HV5.out).mono ?_; rintro e w6 ⟨v6, rfl, hv6, hb6⟩; have HL6 := Lib.hid (low_trans HL5.out hb6); have HV7 := Lib.hid hv6; clear hv6 hb6))
      exact ⟨⟨k + 1, hlt, by push_cast; rfl, HV7.out, HL6.out⟩, by simp [intOf]; omega⟩
    · obtain rfl : k = n := by omega
      go_wp2_with fail
      go_ret
      exact HFIN.out _ _ HV.out (HB2.out.trans (HL.out.mono HB2.out.size))
set_option maxRecDepth 100000 in
set_option maxHeartbeats 8000000 in
theorem ofRe_4 (s : ByteArray) (hs : s.size ≤ 40) (t : Ry) (w w' : World) (hc : KidAt w t) (hi : KidOf s w t) (hw : Below w.heap.size w w') (hk : t.kind = 4) (hm : t.kids.length = 1) :
    Calls Tryd.prog 21 #[.agg (ryCells t).toArray, .string s] w' fun e w2 => OfReOut s t w' e w2 := by
  obtain ⟨x, hx⟩ : ∃ x, t.kids = [x] := by
    match h : t.kids, hm with
    | [x], _ => exact ⟨x, rfl⟩
  have HFIN : Hid (∀ v w2, RelAt w2 v s.size (TimesR s.size (fun i j => SubP s.data.toList (hasR x) i j ∨ i = j) (s.size + 1)) → Below w'.heap.size w' w2 → OfReOut s t w' (.returned v) w2) := fun v w2 h1 h2 => ofOut h1 h2 (fun i j hi hj => by
    rw [show s.size = s.data.toList.length from (ss_len s).symm] at hi hj ⊢
    rw [hasR_4 hk, sub_star hi hj, hx]
    have : anyL [x] = hasR x := funext fun v => by rw [anyL, anyL, or_false]
    unfold SubP
    rw [this]
    simp)
  have HB : Hid (Below w'.heap.size w' (w'.alloc (.cells (ryCells t).toArray 46))) := (Below.refl _ _).alloc (Nat.le_refl _) _
  have HBa : Hid (Blk (w'.alloc (.cells (ryCells t).toArray 46)) w'.heap.size 46 (ryCells t).toArray) := Blk.new _ _ _
  have HNO := Lib.hid (fun W => none_let s.size hs W)
  have HST := Lib.hid (fun W => still_any s.size hs W)
  have hxx : t.kids[0]? = some x := by rw [hx]; rfl
  obtain ⟨b, off, hta, hbl, hcx⟩ := hc 0 x hxx
  have HREC := Lib.hid (hi 0 x hxx)
  have HW := Lib.hid hw
  have HOR : Hid (∀ W va vb, RelAt W va s.size (SubP s.data.toList (hasR x)) → RelAt W vb s.size (fun i j => i = j) → Calls Tryd.prog 46 #[va, vb] W fun e w' => ∃ v, e = .returned v ∧ RelAt w' v s.size (fun i j => SubP s.data.toList (hasR x) i j ∨ i = j) ∧ Below W.heap.size W w') := fun W va vb h1 h2 => or_any s.size hs W va vb _ _ h1 h2
  have HTI : Hid (∀ W va, RelAt W va s.size (fun i j => SubP s.data.toList (hasR x) i j ∨ i = j) → Calls Tryd.prog 47 #[va, .int .i64 ((s.size : Int) + 1)] W fun e w' => ∃ v, e = .returned v ∧ RelAt w' v s.size (TimesR s.size (fun i j => SubP s.data.toList (hasR x) i j ∨ i = j) (s.size + 1)) ∧ Below W.heap.size W w') := fun W va h1 => by
    have := times_any s.size hs W va _ h1 (s.size + 1) (s.size + 1) (by omega) (by omega)
    rw [show ((s.size + 1 : Nat) : Int) = (s.size : Int) + 1 from by push_cast; rfl] at this
    exact this
  unfold ryCells at HB HBa ⊢
  have hz0 : ((t.kind : Int) == 0) = false := by rw [beq_eq_false_iff_ne]; omega
  have hz1 : ((t.kind : Int) == 1) = false := by rw [beq_eq_false_iff_ne]; omega
  have hz2 : ((t.kind : Int) == 2) = false := by rw [beq_eq_false_iff_ne]; omega
  have hz3 : ((t.kind : Int) == 3) = false := by rw [beq_eq_false_iff_ne]; omega
  have hz4 : ((t.kind : Int) == 4) = true := by rw [beq_iff_eq]; omega
  clear hc hi hw hk hx hxx
  generalize t.kind = kk at *
  rw [hm, hta] at HB HBa ⊢
  obtain ⟨W0, hW0⟩ : ∃ W0, W0 = w'.alloc (.cells #[.int .u8 (kk : Int), .int .u64 (t.s0 : Int), .int .u64 (t.s1 : Int), .int .u64 (t.s2 : Int), .int .u64 (t.s3 : Int), .slice (some ⟨b, off, none⟩) 1 t.cap] 46) := ⟨_, rfl⟩
  clear hta
  go_enter Tryd.func21, Tryd.ntmps21
  go_upto_region 1 with fail
  rw [← hW0]
  have HB2 : Hid (Below w'.heap.size w' W0) := by rw [hW0]; exact HB.out
  have HBa2 : Hid (Blk W0 w'.heap.size 46 #[.int .u8 (kk : Int), .int .u64 (t.s0 : Int), .int .u64 (t.s1 : Int), .int .u64 (t.s2 : Int), .int .u64 (t.s3 : Int), .slice (some ⟨b, off, none⟩) 1 t.cap]) := by rw [hW0]; exact HBa.out
  clear hW0 HB HBa
  have HKP : Hid (∀ W, Below W0.heap.size W0 W → Blk W w'.heap.size 46 #[.int .u8 (kk : Int), .int .u64 (t.s0 : Int), .int .u64 (t.s1 : Int), .int .u64 (t.s2 : Int), .int .u64 (t.s3 : Int), .slice (some ⟨b, off, none⟩) 1 t.cap]) := fun W h => HBa2.out.below h HBa2.out.lt
  have HLW : Hid (Below w.heap.size w W0) := HW.out.trans (HB2.out.mono HW.out.size)
  go_upto_region 2 with (go_at_call 43; refine (HNO.out _).mono ?_; rintro e w1 ⟨g, rfl, hb1, hg1, hl1⟩; have HL1 := Lib.hid hl1; clear hb1 hl1 hg1)
  have c0 := (HKP.out w1 HL1.out).cell 0
  have c5 := (HKP.out w1 HL1.out).cell 5
  simp at c0 c5
  have hcw : ∀ j u, (ryCells x)[j]? = some u → w1.cell? ⟨b, off + j, none⟩ = some u := fun j u hj => by
    have := ((low_trans HLW.out HL1.out).cell (p := ⟨b, off + 0 * 6 + j, none⟩) hbl).trans (hcx j u hj)
    rwa [Nat.zero_mul, Nat.add_zero] at this
  have a0 := hcw 0 _ rfl
  have a1 := hcw 1 _ rfl
  have a2 := hcw 2 _ rfl
  have a3 := hcw 3 _ rfl
  have a4 := hcw 4 _ rfl
  have a5 := hcw 5 _ rfl
  rw [Nat.add_zero] at a0
  unfold ryCells at HREC
  obtain ⟨xl, hxl⟩ : ∃ xl, xl = x.kids.length := ⟨_, rfl⟩
  rw [← hxl] at a5 HREC
  clear hcw hcx hxl hm
  go_wp2_with (first
    | (go_at_call 21; refine (HREC.out _ (low_trans HLW.out HL1.out)).mono ?_; rintro e w5 ⟨v5, rfl, hv5, hb5⟩; have HL5 := Lib.hid (low_trans HL1.out hb5); have HV5 := Lib.hid hv5; clear hv5 hb5)
    | (go_at_call 44; refine (HST.out _).mono ?_; rintro e w6 ⟨v6, rfl, hv6, hb6⟩; have HL6 := Lib.hid (low_trans HL5.out hb6); have HV6 := Lib.hid hv6; have HV7 := Lib.hid (HV5.out.below hb6); clear hv6 hb6)
    | (go_at_call 46; refine (HOR.out _ _ _ HV7.out HV6.out).mono ?_; rintro e w8 ⟨v8, rfl, hv8, hb8⟩; have HL8 := Lib.hid (low_trans HL6.out hb8); have HV8 := Lib.hid hv8; clear hv8 hb8)
    | (go_at_call 47; refine (HTI.out _ _ HV8.out).mono ?_; rintro e w9 ⟨v9, rfl, hv9, hb9⟩; have HL9 := Lib.hid (low_trans HL8.out hb9); have HV9 := Lib.hid hv9; clear hv9 hb9))
  go_ret
  exact HFIN.out _ _ HV9.out (HB2.out.trans (HL9.out.mono HB2.out.size))
/-- of a tree, and of its kids -/
theorem ofRe_aux (s : ByteArray) (hs : s.size ≤ 40) {w : World} {S : Nat → Prop} {a : Option Addr} {c : Nat} {ks : List Ry} (h : RyIn w S a c ks) : ∀ (t : Ry), t.kids = ks → t.a = a → ryOk t → ∀ (w' : World), Below w.heap.size w w' → Calls Tryd.prog 21 #[.agg (ryCells t).toArray, .string s] w' fun e w2 => OfReOut s t w' e w2 := by
  have core : ∀ (t : Ry), ryOk t → t.kids.length ≤ maxLen → KidAt w t → KidOf s w t → ∀ (w' : World), Below w.heap.size w w' → Calls Tryd.prog 21 #[.agg (ryCells t).toArray, .string s] w' fun e w2 => OfReOut s t w' e w2 := by
    intro t hok hm hc hi w' hw
    by_cases k0 : t.kind = 0
    · exact ofRe_0 s hs t w' k0
    · by_cases k1 : t.kind = 1
      · exact ofRe_1 s hs t hok w' k1
      · by_cases k2 : t.kind = 2
        · exact ofRe_2 s hs t w w' hc hi hw k2 hm
        · by_cases k3 : t.kind = 3
          · exact ofRe_3 s hs t w w' hc hi hw k3 hm
          · by_cases k4 : t.kind = 4 ∧ t.kids.length = 1
            · exact ofRe_4 s hs t w w' hc hi hw k4.1 k4.2
            · exact ofRe_5 s hs t w' (by
                by_cases h4 : t.kind = 4
                · exact .inr ⟨h4, fun h => k4 ⟨h4, h⟩⟩
                · exact .inl (by omega)) hm
  induction h with
  | nil a c =>
    intro t ht _ hok w' hw
    exact core t hok (by rw [ht]; exact Nat.zero_le _) (fun i x hx => by rw [ht] at hx; simp at hx) (fun i x hx => by rw [ht] at hx; simp at hx) w' hw
  | row kids b off cap hS hlt hn hcap hm hokk hc hk ih =>
    intro t ht hta hok w' hw
    refine core t hok (by rw [ht]; exact hm) (fun i x hx => ?_) (fun i x hx => ?_) w' hw
    · rw [ht] at hx
      obtain ⟨h1, rfl⟩ := List.getElem?_eq_some_iff.1 hx
      exact ⟨b, off, hta, hlt, hc i h1⟩
    · rw [ht] at hx
      obtain ⟨h1, rfl⟩ := List.getElem?_eq_some_iff.1 hx
      exact ih i h1 _ rfl rfl (hokk i h1)
theorem ofRe_any (s : ByteArray) (hs : s.size ≤ 40) (t : Ry) (hok : ryOk t) (w : World) (h : RyIn w (· < w.heap.size) t.a t.cap t.kids) :
    Calls Tryd.prog 21 #[.agg (ryCells t).toArray, .string s] w fun e w2 => OfReOut s t w e w2 := ofRe_aux s hs h t rfl rfl hok w (Below.refl _ _)
end Go.Proofs.YtdckjjkaoecgaaaDoor

/-
  The contract of frankinglow.Front. No conditions.
-/
namespace Go.Proofs.YtdckjjkaoecgaaaDoor
open Go.RowKit

/-- the first bytes of a text -/
def frontB (s : ByteArray) (n : Nat) : ByteArray := s.extract 0 n
theorem frontB_size (s : ByteArray) (n : Nat) : (frontB s n).size = min n s.size := by
  unfold frontB
  rw [ByteArray.size_extract]
  simp
theorem frontB_list (s : ByteArray) (n : Nat) : (frontB s n).data.toList = s.data.toList.take n := by
  unfold frontB
  rw [ByteArray.data_extract, Array.toList_extract]
  simp
theorem frontB_all (s : ByteArray) (n : Nat) (h : s.size ≤ n) : frontB s n = s := by
  unfold frontB
  apply ByteArray.ext
  rw [ByteArray.data_extract]
  apply Array.toList_inj.1
  rw [Array.toList_extract]
  simp
  rw [List.take_of_length_le]
  rw [Array.length_toList]
  exact h
set_option maxRecDepth 100000 in
set_option maxHeartbeats 1000000 in
theorem front_any (s : ByteArray) (n : Nat) (hn : n ≤ 100000) (w : World) :
    Calls Tryd.prog 11 #[.string s, .int .i64 (n : Int)] w fun e w' => e = .returned (.string (frontB s n)) ∧ Below w.heap.size w w' := by
  go_enter Tryd.func11, Tryd.ntmps11
  go_wp2
  · go_ret
    exact ⟨rfl, Below.refl _ _⟩
  · go_ret
    exact ⟨by rw [frontB_all s n (by omega)]; rfl, Below.refl _ _⟩
end Go.Proofs.YtdckjjkaoecgaaaDoor

/-
  Behind some bytes the machine's tag is the place of the first tree that has them; the machine is right. No conditions but right trees.
-/
namespace Go.Proofs.YtdckjjkaoecgaaaDoor
open Go.RowKit

theorem trees_keep : ∀ (ls : List Ry) (i : Int) (st : List NS) (k : Nat), k < st.length → (treesP ls i st).2[k]? = st[k]?
  | [], i, st, k, _ => by rw [treesP]
  | t :: r, i, st, k, hk => by
    rw [treesP]
    have g := toward_grows t (st.length : Int) (st ++ [endN i])
    rw [List.length_append] at g
    rw [trees_keep r (i + 1) _ k (by omega), toward_keeps t _ _ k (by rw [List.length_append]; omega), List.getElem?_append_left hk]
theorem trees_ways {M : List NS} : ∀ (ls : List Ry) (i : Int) (st : List NS), (∀ t ∈ ls, rightR t = true) → Agree M (treesP ls i st).2 st.length → ∀ j (hj : j < ls.length), ∃ e, M[e]? = some (endN (i + j)) ∧ ∀ q, EndAt M q → TW M q (hasR ls[j]) ((treesP ls i st).1.getD j 0).toNat e
  | [], i, st, _, _, j, hj => by simp at hj
  | t :: r, i, st, hr, ha, j, hj => by
    rw [treesP] at ha ⊢
    dsimp only at ha ⊢
    have g := toward_grows t (st.length : Int) (st ++ [endN i])
    have g0 : (st ++ [endN i]).length = st.length + 1 := by rw [List.length_append]; rfl
    have g2 := trees_grow r (i + 1) (towardR t (st.length : Int) (st ++ [endN i])).2
    have ha1 : Agree M (towardR t (st.length : Int) (st ++ [endN i])).2 st.length := ha.front g2 (trees_keep r _ _)
    match j, hj with
    | 0, _ =>
      refine ⟨st.length, ?_, ?_⟩
      · rw [ha1 st.length (Nat.le_refl _) (by omega), toward_keeps t _ _ _ (by omega), List.getElem?_append_right (Nat.le_refl _), Nat.sub_self]
        simp
      · intro q hq
        have := toward_ways hq t (fun x hx => List.all_eq_true.1 (hr t List.mem_cons_self) x hx) (st.length : Int) (st ++ [endN i]) (Int.natCast_nonneg _) (ha1.up (by omega))
        rw [Int.toNat_natCast] at this
        exact this
    | j + 1, hj =>
      obtain ⟨e, h1, h2⟩ := trees_ways r (i + 1) _ (fun x hx => hr x (List.mem_cons_of_mem _ hx)) (ha.up (by omega)) j (by simpa using hj)
      refine ⟨e, ?_, h2⟩
      rw [h1]
      congr 2
      push_cast
      omega
theorem splits_keep (b : Int) (st : List NS) : ∀ (L : List Int) (k : Nat), k < st.length → (splitsP L b st).2[k]? = st[k]?
  | [], k, _ => by rw [splitsP]
  | x :: r, k, hk => by
    rw [splitsP]
    have := splits_len b st r
    rw [List.getElem?_append_left (by omega)]
    exact splits_keep b st r k hk
theorem splits_ways {M : List NS} {q : Nat} (hq : EndAt M q) (b : Int) (st : List NS) (l : List UInt8) : ∀ L : List Int, Agree M (splitsP L b st).2 st.length → ((∃ n, WayN M q n (splitsP L b st).1.toNat l) ↔ (∃ x ∈ L, ∃ n, WayN M q n x.toNat l) ∨ ∃ n, WayN M q n b.toNat l)
  | [], _ => by
    rw [splitsP]
    simp
  | x :: r, ha => by
    rw [splitsP] at ha ⊢
    dsimp only at ha ⊢
    have hg := splits_len b st r
    have ih := splits_ways hq b st l r (ha.front (by rw [List.length_append]; omega) (fun k hk => List.getElem?_append_left hk))
    have hx := ha (splitsP r b st).2.length (by omega) (by rw [List.length_append]; simp)
    rw [List.getElem?_append_right (Nat.le_refl _), Nat.sub_self] at hx
    rw [Int.toNat_natCast]
    constructor
    · rintro ⟨n, hn⟩
      obtain ⟨m, _, hm | hm⟩ := way_split hq hx rfl hn
      · exact .inl ⟨x, List.mem_cons_self, m, hm⟩
      · rcases ih.1 ⟨m, hm⟩ with ⟨y, hy, h1⟩ | h1
        · exact .inl ⟨y, List.mem_cons_of_mem _ hy, h1⟩
        · exact .inr h1
    · rintro (⟨y, hy, n, hn⟩ | h1)
      · rcases List.mem_cons.1 hy with rfl | hy
        · exact ⟨_, .left hx rfl hn⟩
        · obtain ⟨m, hm⟩ := ih.2 (.inl ⟨y, hy, n, hn⟩)
          exact ⟨_, .right hx rfl hm⟩
      · obtain ⟨m, hm⟩ := ih.2 (.inr h1)
        exact ⟨_, .right hx rfl hm⟩
theorem last_or {P : Int → Prop} (L : List Int) (h : L ≠ []) : ((∃ x ∈ L.dropLast, P x) ∨ P (L.getLastD 0)) ↔ ∃ x ∈ L, P x := by
  have e := List.dropLast_concat_getLast h
  have e2 : L.getLastD 0 = L.getLast h := by rw [List.getLastD_eq_getLast?, List.getLast?_eq_some_getLast h]; rfl
  rw [e2]
  constructor
  · rintro (⟨x, hx, hp⟩ | hp)
    · exact ⟨x, by rw [← e]; exact List.mem_append_left _ hx, hp⟩
    · exact ⟨_, List.getLast_mem h, hp⟩
  · rintro ⟨x, hx, hp⟩
    rw [← e] at hx
    rcases List.mem_append.1 hx with hx | hx
    · exact .inl ⟨x, hx, hp⟩
    · rw [List.mem_singleton.1 hx] at hp
      exact .inr hp
/-- the ends that the machine comes to by a text -/
theorem machine_ways {ls : List Ry} (hr : ∀ t ∈ ls, rightR t = true) (h1 : 1 ≤ ls.length) (l : List UInt8) :
    (∀ q n, EndAt (machineP ls).2 q → WayN (machineP ls).2 q n (machineP ls).1.toNat l → ∃ j, ∃ hj : j < ls.length, (machineP ls).2[q]? = some (endN j) ∧ hasR ls[j] l) ∧
    (∀ j (hj : j < ls.length), hasR ls[j] l → ∃ e n, (machineP ls).2[e]? = some (endN j) ∧ WayN (machineP ls).2 e n (machineP ls).1.toNat l) := by
  have hL := trees_len ls 0 []
  have hne : (treesP ls 0 []).1 ≠ [] := fun h => by rw [h] at hL; simp at hL; omega
  have ha : Agree (machineP ls).2 (treesP ls 0 []).2 0 := by
    refine Agree.front (st' := (machineP ls).2) (fun k _ _ => rfl) (by unfold machineP; rw [splits_len]; omega) (fun k hk => ?_)
    unfold machineP
    exact splits_keep _ _ _ k hk
  have hs := fun q (hq : EndAt (machineP ls).2 q) => splits_ways hq ((treesP ls 0 []).1.getLastD 0) (treesP ls 0 []).2 l (treesP ls 0 []).1.dropLast (fun k _ _ => rfl)
  have ht := trees_ways ls 0 [] hr ha
  have h2 : (machineP ls).1 = (splitsP (treesP ls 0 []).1.dropLast ((treesP ls 0 []).1.getLastD 0) (treesP ls 0 []).2).1 := rfl
  refine ⟨fun q n hq hn => ?_, fun j hj hl => ?_⟩
  · have h3 := (hs q hq).1 ⟨n, hn⟩
    rw [last_or (P := fun x => ∃ n, WayN (machineP ls).2 q n x.toNat l) _ hne] at h3
    obtain ⟨x, hx, n, hn⟩ := h3
    obtain ⟨j, hj, rfl⟩ := List.getElem_of_mem hx
    obtain ⟨e, he, hw⟩ := ht j (by omega)
    have hw := hw q hq
    rw [List.getD_eq_getElem?_getD, List.getElem?_eq_getElem hj, Option.getD_some] at hw
    obtain ⟨u, v, m, hl, _, hu, hv⟩ := hw.out n l hn
    obtain ⟨h3, h4⟩ := way_end ⟨_, he, rfl⟩ hv
    rw [h4, List.append_nil] at hl
    rw [Int.zero_add] at he
    exact ⟨j, by omega, by rw [h3]; exact he, by rw [hl]; exact hu⟩
  · obtain ⟨e, he, hw⟩ := ht j hj
    have hq : EndAt (machineP ls).2 e := ⟨_, he, rfl⟩
    have hw := hw e hq
    have hj2 : j < (treesP ls 0 []).1.length := by omega
    rw [List.getD_eq_getElem?_getD, List.getElem?_eq_getElem hj2, Option.getD_some] at hw
    obtain ⟨n, hn⟩ := hw.in_ l [] 0 hl .done
    rw [List.append_nil] at hn
    rw [Int.zero_add] at he
    have h3 := hs e hq
    rw [last_or (P := fun x => ∃ n, WayN (machineP ls).2 e n x.toNat l) _ hne] at h3
    obtain ⟨n2, h4⟩ := h3.2 ⟨_, List.getElem_mem hj2, n, hn⟩
    exact ⟨e, n2, he, h4⟩
/-- behind a text the tag is the place of the first tree that has it -/
theorem tag_lang {ls : List Ry} (hr : ∀ t ∈ ls, rightR t = true) (h1 : 1 ≤ ls.length) (l : List UInt8) (t : Int) (h : TagOf (machineP ls).2 (StandS (machineP ls).2 (Reach (machineP ls).2 (machineP ls).1.toNat) l) t) :
    (t = -1 ∧ ∀ j (hj : j < ls.length), ¬ hasR ls[j] l) ∨ ∃ j, ∃ hj : j < ls.length, t = (j : Int) ∧ hasR ls[j] l ∧ ∀ i (hi : i < j), ¬ hasR (ls[i]'(by omega)) l := by
  obtain ⟨m1, m2⟩ := machine_ways hr h1 l
  rcases h with ⟨h2, h3⟩ | ⟨⟨p, s, h2, h3, h4, h5⟩, h6⟩
  · refine .inl ⟨h2, fun j hj hl => ?_⟩
    obtain ⟨e, n, he, hn⟩ := m2 j hj hl
    exact h3 e _ (stand_iff.2 ⟨n, hn⟩) he rfl
  · obtain ⟨n, hn⟩ := stand_iff.1 h2
    obtain ⟨j, hj, hp, hl⟩ := m1 p n ⟨s, h3, h4⟩ hn
    rw [h3] at hp
    injection hp with hp
    refine .inr ⟨j, hj, by rw [← h5, hp]; rfl, hl, fun i hi hli => ?_⟩
    obtain ⟨e, n, he, hn⟩ := m2 i (by omega) hli
    have h7 := h6 e _ (stand_iff.2 ⟨n, hn⟩) he rfl
    have h8 : s.tag = (j : Int) := by rw [hp]; rfl
    have h9 : (endN (i : Int)).tag = (i : Int) := rfl
    omega
/-! ### the machine is right -/
def PqIn (N : Int) (p : Pq) : Prop := (0 ≤ p.tw ∧ p.tw < N) ∧ (p.kind = 3 → p.begin = -1 ∨ (0 ≤ p.begin ∧ p.begin < N)) ∧ (¬ p.kind = 3 → 0 ≤ p.begin ∧ p.begin < N)
def OkI (N : Int) (st : List NS) : Prop := ∀ x ∈ st, rightN x N = true
theorem OkI.snoc {N : Int} {st : List NS} (h : OkI N st) {x : NS} (hx : rightN x N = true) : OkI N (st ++ [x]) := fun y hy => by
  rcases List.mem_append.1 hy with hy | hy
  · exact h y hy
  · rw [List.mem_singleton.1 hy]; exact hx
theorem right_split {N a b : Int} (ha : 0 ≤ a ∧ a < N) (hb : 0 ≤ b ∧ b < N) : rightN (splitN a b) N = true := by
  unfold rightN splitN belowP
  simp [nsSame, ha.1, ha.2, hb.1, hb.2]
theorem right_end {N t : Int} (ht : 0 ≤ t ∧ t < 200) : rightN (endN t) N = true := by
  unfold rightN endN belowP
  simp [nsSame, ht.1, ht.2]
theorem right_byte {N tw : Int} {t : Ry} (hn : noSetB t = false) (ht : 0 ≤ tw ∧ tw < N) : rightN (byteN t tw) N = true := by
  have h : nosetN (byteN t tw) = false := by
    rw [← hn]
    unfold nosetN noSetB byteN
    simp only [Bool.and_assoc]
  unfold rightN
  rw [if_neg (show ¬ (byteN t tw).kind = 0 from by show ¬ 1 = 0; omega), if_pos (show (byteN t tw).kind = 1 from rfl), h]
  unfold byteN belowP
  simp [nsSame, ht.1, ht.2]
theorem open_ok {N : Int} {t : Ry} {tw : Int} {st : List NS} (hal : aloneR t = true) (ht : 0 ≤ tw ∧ tw < N) (h : OkI N st) (hl : ((openP t tw st).2.length : Int) ≤ N) : PqIn N (openP t tw st).1 ∧ OkI N (openP t tw st).2 ∧ (openP t tw st).1.kind = t.kind ∧ (t.kind = 3 → (openP t tw st).1.begin = -1) ∧ (t.kind = 4 → ∃ s, (openP t tw st).2[(openP t tw st).1.begin.toNat]? = some s ∧ s.kind = 2) := by
  unfold openP at *
  by_cases k1 : t.kind = 1
  · simp only [if_pos k1] at hl ⊢
    rw [List.length_append] at hl
    simp only [List.length_cons, List.length_nil] at hl
    have hn : noSetB t = false := by
      unfold aloneR at hal
      rw [if_neg (by omega), if_pos k1] at hal
      simp only [Bool.and_eq_true] at hal
      simpa using hal.1
    exact ⟨⟨ht, fun h => absurd (show t.kind = 3 from h) (by omega), fun _ => ⟨Int.natCast_nonneg _, by push_cast at hl ⊢; omega⟩⟩, h.snoc (right_byte hn ht), by simp, fun h => by omega, fun h => by omega⟩
  · simp only [if_neg k1] at hl ⊢
    by_cases k3 : t.kind = 3
    · simp only [if_pos k3] at hl ⊢
      exact ⟨⟨ht, fun _ => .inl rfl, fun h => absurd k3 h⟩, h, by simp, by simp, fun h => by omega⟩
    · simp only [if_neg k3] at hl ⊢
      by_cases k4 : t.kind = 4
      · simp only [if_pos k4] at hl ⊢
        rw [List.length_append] at hl
        simp only [List.length_cons, List.length_nil] at hl
        have hb : 0 ≤ (st.length : Int) ∧ (st.length : Int) < N := ⟨Int.natCast_nonneg _, by push_cast at hl; omega⟩
        refine ⟨⟨hb, fun h => absurd (show t.kind = 3 from h) (by omega), fun _ => hb⟩, h.snoc (right_split ⟨by omega, by omega⟩ ht), by simp, fun h => by omega, fun _ => ⟨splitN 0 tw, ?_, rfl⟩⟩
        rw [Int.toNat_natCast, List.getElem?_append_right (Nat.le_refl _), Nat.sub_self]
        rfl
      · simp only [if_neg k4] at hl ⊢
        exact ⟨⟨ht, fun h => absurd (show t.kind = 3 from h) (by omega), fun _ => ht⟩, h, by simp, fun h => by omega, fun h => by omega⟩
theorem join_ok {N : Int} {p : Pq} {kid : Int} {st : List NS} (hp : PqIn N p) (hk : 0 ≤ kid ∧ kid < N) (h : OkI N st) (hl : ((joinP p kid st).2.length : Int) ≤ N) (h4 : p.kind = 4 → ∃ s, st[p.begin.toNat]? = some s ∧ s.kind = 2) :
    PqIn N (joinP p kid st).1 ∧ OkI N (joinP p kid st).2 ∧ (p.kind = 3 → 0 ≤ (joinP p kid st).1.begin) := by
  unfold joinP at *
  by_cases k2 : p.kind = 2
  · simp only [if_pos k2] at hl ⊢
    exact ⟨⟨hk, fun h => absurd (show p.kind = 3 from h) (by omega), fun _ => hk⟩, h, fun h => by omega⟩
  · simp only [if_neg k2] at hl ⊢
    by_cases k3 : p.kind = 3
    · simp only [if_pos k3] at hl ⊢
      by_cases hb : p.begin = -1
      · simp only [if_pos hb] at hl ⊢
        exact ⟨⟨hp.1, fun _ => .inr hk, fun h => absurd k3 h⟩, h, fun _ => hk.1⟩
      · simp only [if_neg hb] at hl ⊢
        rw [List.length_append] at hl
        simp only [List.length_cons, List.length_nil] at hl
        have hb2 := (hp.2.1 k3).resolve_left hb
        exact ⟨⟨hp.1, fun _ => .inr ⟨Int.natCast_nonneg _, by push_cast at hl; show (st.length : Int) < N; omega⟩, fun h => absurd k3 h⟩, h.snoc (right_split hk hb2), fun _ => Int.natCast_nonneg _⟩
    · simp only [if_neg k3] at hl ⊢
      by_cases k4 : p.kind = 4
      · simp only [if_pos k4] at hl ⊢
        refine ⟨hp, fun x hx => ?_, fun h => absurd h k3⟩
        obtain ⟨i, hi, rfl⟩ := List.getElem_of_mem hx
        rw [List.getElem_modify]
        rw [List.length_modify] at hi
        split
        · rename_i e
          obtain ⟨s, hs, hs2⟩ := h4 k4
          rw [e, List.getElem?_eq_getElem hi] at hs
          injection hs with hs
          have h5 := h _ (List.getElem_mem hi)
          rw [hs] at h5 ⊢
          unfold rightN at h5 ⊢
          rw [if_neg (by omega), if_neg (by omega), if_pos hs2] at h5
          rw [if_neg (by show ¬ s.kind = 0; omega), if_neg (by show ¬ s.kind = 1; omega), if_pos (by exact hs2)]
          unfold belowP at h5 ⊢
          unfold nsSame splitN at h5 ⊢
          simp only [Bool.and_eq_true, beq_iff_eq, decide_eq_true_eq, decide_true, beq_self_eq_true, true_and, and_true] at h5 ⊢
          simp_all
        · exact h _ (List.getElem_mem hi)
      · simp only [if_neg k4] at hl ⊢
        exact ⟨hp, h, fun h => absurd h k3⟩
mutual
theorem toward_ok {N : Int} : ∀ (t : Ry) (tw : Int) (st : List NS), (∀ x ∈ preR t, aloneR x = true) → 0 ≤ tw ∧ tw < N → OkI N st → ((towardR t tw st).2.length : Int) ≤ N → OkI N (towardR t tw st).2 ∧ 0 ≤ (towardR t tw st).1 ∧ (towardR t tw st).1 < N
  | .mk k s0 s1 s2 s3 a c kids, tw, st, hr, ht, h, hl => by
    have hal := hr (.mk k s0 s1 s2 s3 a c kids) (by rw [preR]; exact List.mem_cons_self)
    rw [towardR] at hl ⊢
    have g := kids_grow kids (openP (.mk k s0 s1 s2 s3 a c kids) tw st).1 (openP (.mk k s0 s1 s2 s3 a c kids) tw st).2
    dsimp only at hl
    obtain ⟨o1, o2, o3, o4, o5⟩ := open_ok hal ht h (by omega)
    have ek : (Ry.mk k s0 s1 s2 s3 a c kids).kind = k := rfl
    have ekk : (Ry.mk k s0 s1 s2 s3 a c kids).kids = kids := rfl
    unfold aloneR at hal
    rw [ek, ekk] at hal
    rw [ek] at o3 o4 o5
    obtain ⟨c1, c2, c3⟩ := kids_ok (N := N) kids _ _ (fun x hx => hr x (by rw [preR]; exact List.mem_cons_of_mem _ hx)) o1 o2 hl (fun h4 => ⟨by
      rw [if_neg (by omega), if_neg (by omega), if_neg (by omega), if_pos (o3.symm.trans h4)] at hal
      simp only [Bool.and_eq_true, beq_iff_eq] at hal
      omega, o5 (o3.symm.trans h4)⟩)
    have hkk := (kidsR_kind kids (openP (.mk k s0 s1 s2 s3 a c kids) tw st).1 (openP (.mk k s0 s1 s2 s3 a c kids) tw st).2).1
    refine ⟨c2, ?_⟩
    by_cases k3 : k = 3
    · have hne : kids ≠ [] := fun e => by
        rw [if_neg (by omega), if_neg (by omega), if_pos (.inr k3), e] at hal
        simp at hal
      have h0 := c3 (o3.trans k3) hne
      rcases c1.2.1 (by rw [hkk, o3]; exact k3) with h1 | h1
      · omega
      · exact h1
    · exact c1.2.2 (by rw [hkk, o3]; exact k3)
theorem kids_ok {N : Int} : ∀ (ks : List Ry) (p : Pq) (st : List NS), (∀ x ∈ preL ks, aloneR x = true) → PqIn N p → OkI N st → ((kidsR ks p st).2.length : Int) ≤ N → (p.kind = 4 → ks.length ≤ 1 ∧ ∃ s, st[p.begin.toNat]? = some s ∧ s.kind = 2) → PqIn N (kidsR ks p st).1 ∧ OkI N (kidsR ks p st).2 ∧ (p.kind = 3 → ks ≠ [] → 0 ≤ (kidsR ks p st).1.begin)
  | [], p, st, _, hp, h, _, _ => by
    rw [kidsR_nil]
    exact ⟨hp, h, fun _ h => absurd rfl h⟩
  | k :: ks, p, st, hr, hp, h, hl, h4 => by
    rw [kidsR_cons] at hl ⊢
    have g1 := toward_grows k (kidsR ks p st).1.tw (kidsR ks p st).2
    have g2 := join_grows (kidsR ks p st).1 (towardR k (kidsR ks p st).1.tw (kidsR ks p st).2).1 (towardR k (kidsR ks p st).1.tw (kidsR ks p st).2).2
    obtain ⟨c1, c2, c3⟩ := kids_ok (N := N) ks p st (fun x hx => hr x (by rw [preL]; exact List.mem_append_right _ hx)) hp h (by omega) (fun h5 => ⟨by have := (h4 h5).1; rw [List.length_cons] at this; omega, (h4 h5).2⟩)
    obtain ⟨t1, t2⟩ := toward_ok (N := N) k (kidsR ks p st).1.tw (kidsR ks p st).2 (fun x hx => hr x (by rw [preL]; exact List.mem_append_left _ hx)) c1.1 c2 (by omega)
    have hkk := (kidsR_kind ks p st).1
    obtain ⟨j1, j2, j3⟩ := join_ok c1 t2 t1 hl (fun h5 => by
      rw [hkk] at h5
      obtain ⟨h6, s, h7, h8⟩ := h4 h5
      have : ks = [] := List.eq_nil_of_length_eq_zero (by rw [List.length_cons] at h6; omega)
      subst this
      rw [kidsR_nil]
      refine ⟨s, ?_, h8⟩
      rw [toward_keeps k _ _ _ (List.getElem?_eq_some_iff.1 h7).1]
      exact h7)
    exact ⟨j1, j2, fun h5 _ => j3 (hkk.trans h5)⟩
end
theorem trees_ok {N : Int} : ∀ (ls : List Ry) (i : Int) (st : List NS), (∀ t ∈ ls, rightR t = true) → OkI N st → ((treesP ls i st).2.length : Int) ≤ N → 0 ≤ i → i + ls.length ≤ 200 → OkI N (treesP ls i st).2 ∧ ∀ b ∈ (treesP ls i st).1, 0 ≤ b ∧ b < N
  | [], i, st, _, h, _, _, _ => by
    rw [treesP]
    exact ⟨h, fun b hb => by cases hb⟩
  | t :: r, i, st, hr, h, hl, h0, h2 => by
    rw [treesP] at hl ⊢
    dsimp only at hl ⊢
    rw [List.length_cons] at h2
    have g := toward_grows t (st.length : Int) (st ++ [endN i])
    have g0 : (st ++ [endN i]).length = st.length + 1 := by rw [List.length_append]; rfl
    have g2 := trees_grow r (i + 1) (towardR t (st.length : Int) (st ++ [endN i])).2
    obtain ⟨t1, t2⟩ := toward_ok (N := N) t (st.length : Int) (st ++ [endN i]) (fun x hx => List.all_eq_true.1 (hr t List.mem_cons_self) x hx) ⟨Int.natCast_nonneg _, by omega⟩ (h.snoc (right_end ⟨h0, by omega⟩)) (by omega)
    obtain ⟨r1, r2⟩ := trees_ok (N := N) r (i + 1) _ (fun x hx => hr x (List.mem_cons_of_mem _ hx)) t1 hl (by omega) (by push_cast at h2; omega)
    refine ⟨r1, fun b hb => ?_⟩
    rcases List.mem_cons.1 hb with rfl | hb
    · exact t2
    · exact r2 b hb
theorem splits_ok {N b : Int} (hb : 0 ≤ b ∧ b < N) {st : List NS} (h : OkI N st) : ∀ L : List Int, (∀ x ∈ L, 0 ≤ x ∧ x < N) → ((splitsP L b st).2.length : Int) ≤ N → OkI N (splitsP L b st).2 ∧ 0 ≤ (splitsP L b st).1 ∧ (splitsP L b st).1 < N
  | [], _, _ => by rw [splitsP]; exact ⟨h, hb⟩
  | x :: r, hx, hl => by
    rw [splitsP] at hl ⊢
    dsimp only at hl ⊢
    rw [List.length_append] at hl
    simp only [List.length_cons, List.length_nil] at hl
    push_cast at hl
    obtain ⟨h1, h2⟩ := splits_ok hb h r (fun y hy => hx y (List.mem_cons_of_mem _ hy)) (by omega)
    exact ⟨h1.snoc (right_split (hx x List.mem_cons_self) h2), Int.natCast_nonneg _, by omega⟩
theorem machine_right {ls : List Ry} (hr : ∀ t ∈ ls, rightR t = true) (h1 : 1 ≤ ls.length) (h2 : ls.length ≤ 200) (h3 : wantP ls ≤ 20000) : nRightB (machineP ls).1 (machineP ls).2 = true := by
  have hL := trees_len ls 0 []
  have hne : (treesP ls 0 []).1 ≠ [] := fun h => by rw [h] at hL; simp at hL; omega
  have hln : ((treesP ls 0 []).2.length : Int) ≤ (wantP ls : Int) := by unfold wantP machineP; rw [splits_len]; omega
  obtain ⟨t1, t2⟩ := trees_ok (N := (wantP ls : Int)) ls 0 [] hr (fun x hx => by cases hx) hln (by omega) (by omega)
  have hlast : (treesP ls 0 []).1.getLastD 0 ∈ (treesP ls 0 []).1 := by
    rw [List.getLastD_eq_getLast?, List.getLast?_eq_some_getLast hne]
    exact List.getLast_mem hne
  obtain ⟨s1, s2⟩ := splits_ok (t2 _ hlast) t1 (treesP ls 0 []).1.dropLast (fun x hx => t2 x (List.dropLast_subset _ hx)) (Int.le_refl _)
  unfold nRightB
  simp only [Bool.and_eq_true, decide_eq_true_eq, List.all_eq_true]
  refine ⟨h3, ?_, s1⟩
  unfold belowP
  simp only [Bool.and_eq_true, decide_eq_true_eq]
  exact s2
end Go.Proofs.YtdckjjkaoecgaaaDoor

/-
  The machine of some right trees as it is built and run: its tags are the first trees that have the text's fronts. Conditions: the trees lie in memory; few; the library's table.
-/
namespace Go.Proofs.YtdckjjkaoecgaaaDoor
open Go.RowKit Go.Shelf

/-- the first tree that has a text -/
def FirstT (rs : List Ry) (u : List UInt8) (t : Int) : Prop := (t = -1 ∧ ∀ j (hj : j < rs.length), ¬ hasR rs[j] u) ∨ ∃ j, ∃ hj : j < rs.length, t = (j : Int) ∧ hasR rs[j] u ∧ ∀ i (hi : i < j), ¬ hasR (rs[i]'(Nat.lt_trans hi hj)) u
theorem FirstT.one {rs : List Ry} {u : List UInt8} {s t : Int} (h : FirstT rs u s) (k : FirstT rs u t) : s = t := by
  rcases h with ⟨h1, h2⟩ | ⟨j, hj, h1, h2, h3⟩ <;> rcases k with ⟨k1, k2⟩ | ⟨i, hi, k1, k2, k3⟩
  · omega
  · exact absurd k2 (h2 i hi)
  · exact absurd h2 (k2 j hj)
  · by_cases e : i < j
    · exact absurd k2 (h3 i e)
    · by_cases e' : j < i
      · exact absurd h2 (k3 j e')
      · omega
/-- all nodes' numbers are within bounds -/
theorem ry_ok {w : World} {S : Nat → Prop} {a : Option Addr} {c : Nat} {ks : List Ry} (h : RyIn w S a c ks) : ∀ x ∈ preL ks, ryOk x := by
  induction h with
  | nil a c => intro x hx; simp [preL] at hx
  | row kids b off cap hS hlt hn hcap hm hok hc hk ih =>
    intro x hx
    obtain ⟨t, ht, hxt⟩ := preL_mem hx
    obtain ⟨i, hi, rfl⟩ := List.getElem_of_mem ht
    rw [preR_eq] at hxt
    rcases List.mem_cons.1 hxt with rfl | hxt
    · exact hok i hi
    · exact ih i hi x hxt
/-! ### what all states are -/
structure Steady (Q : NS → Prop) : Prop where
  split : ∀ a b, Q (splitN a b)
  end_ : ∀ i, Q (endN i)
  turn : ∀ s k, Q s → Q { s with a := k }
def AllQ (Q : NS → Prop) (st : List NS) : Prop := ∀ x ∈ st, Q x
theorem AllQ.snoc {Q : NS → Prop} {st : List NS} (h : AllQ Q st) {x : NS} (hx : Q x) : AllQ Q (st ++ [x]) := fun y hy => by
  rcases List.mem_append.1 hy with hy | hy
  · exact h y hy
  · rw [List.mem_singleton.1 hy]; exact hx
theorem open_all {Q : NS → Prop} (hQ : Steady Q) {t : Ry} {tw : Int} {st : List NS} (ht : Q (byteN t tw)) (h : AllQ Q st) : AllQ Q (openP t tw st).2 := by
  unfold openP
  split
  · exact h.snoc ht
  · split
    · exact h
    · split
      · exact h.snoc (hQ.split _ _)
      · exact h
theorem join_all {Q : NS → Prop} (hQ : Steady Q) {p : Pq} {kid : Int} {st : List NS} (h : AllQ Q st) : AllQ Q (joinP p kid st).2 := by
  unfold joinP
  split
  · exact h
  · split
    · split
      · exact h
      · exact h.snoc (hQ.split _ _)
    · split
      · intro x hx
        obtain ⟨i, hi, rfl⟩ := List.getElem_of_mem hx
        rw [List.getElem_modify]
        rw [List.length_modify] at hi
        split
        · exact hQ.turn _ _ (h _ (List.getElem_mem hi))
        · exact h _ (List.getElem_mem hi)
      · exact h
mutual
theorem toward_all {Q : NS → Prop} (hQ : Steady Q) : ∀ (t : Ry) (tw : Int) (st : List NS), (∀ x ∈ preR t, ∀ tw, Q (byteN x tw)) → AllQ Q st → AllQ Q (towardR t tw st).2
  | .mk k s0 s1 s2 s3 a c kids, tw, st, ht, h => by
    rw [towardR]
    exact kids_all hQ kids _ _ (fun x hx => ht x (by rw [preR]; exact List.mem_cons_of_mem _ hx)) (open_all hQ (ht _ (by rw [preR]; exact List.mem_cons_self) tw) h)
theorem kids_all {Q : NS → Prop} (hQ : Steady Q) : ∀ (ks : List Ry) (p : Pq) (st : List NS), (∀ x ∈ preL ks, ∀ tw, Q (byteN x tw)) → AllQ Q st → AllQ Q (kidsR ks p st).2
  | [], p, st, _, h => by rw [kidsR_nil]; exact h
  | k :: ks, p, st, ht, h => by
    rw [kidsR_cons]
    exact join_all hQ (toward_all hQ k _ _ (fun x hx => ht x (by rw [preL]; exact List.mem_append_left _ hx)) (kids_all hQ ks p st (fun x hx => ht x (by rw [preL]; exact List.mem_append_right _ hx)) h))
end
theorem trees_all {Q : NS → Prop} (hQ : Steady Q) : ∀ (ls : List Ry) (i : Int) (st : List NS), (∀ x ∈ preL ls, ∀ tw, Q (byteN x tw)) → AllQ Q st → AllQ Q (treesP ls i st).2
  | [], i, st, _, h => by rw [treesP]; exact h
  | t :: r, i, st, ht, h => by
    rw [treesP]
    exact trees_all hQ r (i + 1) _ (fun x hx => ht x (by rw [preL]; exact List.mem_append_right _ hx)) (toward_all hQ t _ _ (fun x hx => ht x (by rw [preL]; exact List.mem_append_left _ hx)) (h.snoc (hQ.end_ i)))
theorem splits_all {Q : NS → Prop} (hQ : Steady Q) (b : Int) (st : List NS) (h : AllQ Q st) : ∀ L : List Int, AllQ Q (splitsP L b st).2
  | [] => by rw [splitsP]; exact h
  | x :: r => by
    rw [splitsP]
    exact (splits_all hQ b st h r).snoc (hQ.split _ _)
theorem machine_all {Q : NS → Prop} (hQ : Steady Q) {ls : List Ry} (ht : ∀ x ∈ preL ls, ∀ tw, Q (byteN x tw)) : AllQ Q (machineP ls).2 := by
  unfold machineP
  exact splits_all hQ _ _ (trees_all hQ ls 0 [] ht (fun x hx => by cases hx)) _
theorem machine_fit {ls : List Ry} (h : ∀ x ∈ preL ls, ryOk x) : NsFit (machineP ls).2 :=
  machine_all (Q := fun s => s.s0 < 18446744073709551616 ∧ s.s1 < 18446744073709551616 ∧ s.s2 < 18446744073709551616 ∧ s.s3 < 18446744073709551616) ⟨fun _ _ => ⟨by show 0 < _; decide, by show 0 < _; decide, by show 0 < _; decide, by show 0 < _; decide⟩, fun _ => ⟨by show 0 < _; decide, by show 0 < _; decide, by show 0 < _; decide, by show 0 < _; decide⟩, fun _ _ h => h⟩ (fun x hx _ => (h x hx).2)
/-- a machine that is built of right trees -/
structure Made (W : World) (rs : List Ry) (a : Option Addr) (n : Nat) : Prop where
  ns : NsIn W W.heap.size a (machineP rs).2
  len : (machineP rs).2.length = n
  right : ∀ t ∈ rs, rightR t = true
  few : 1 ≤ rs.length ∧ rs.length ≤ 200
  fit : NsFit (machineP rs).2
  size : n ≤ 20000
theorem Made.below {W W' : World} {rs : List Ry} {a : Option Addr} {n : Nat} (h : Made W rs a n) (hb : Below W.heap.size W W') : Made W' rs a n := ⟨(h.ns.below hb).mono hb.size, h.len, h.right, h.few, h.fit, h.size⟩
theorem build_made {rs : List Ry} (hr : ∀ t ∈ rs, rightR t = true) (h1 : 1 ≤ rs.length) (hl : rs.length ≤ 200) (hn : (preL rs).length ≤ 9000) (a : Option Addr) (c q : Nat) (hq : q = rs.length) (w : World) (h : RyIn w (· < w.heap.size) a c rs) :
    Calls Tryd.prog 12 #[.slice a q c, .int .i64 20000] w fun e w' => ∃ a' n c', e = .returned (.tuple #[.agg #[.int .i64 (machineP rs).1, .slice a' n c'], .int .i64 0]) ∧ Below w.heap.size w w' ∧ Made w' rs a' n := by
  subst hq
  have hw := want_is hr h1
  have hst := (stL_b rs).2
  have hwl : (wantP rs : Int) ≤ 20000 := by omega
  have hwd : wantP rs = (machineP rs).2.length := rfl
  refine (build_any a c rs 20000 w h (by omega)).mono ?_
  rintro e w' ⟨v, he, hb, ho⟩
  rw [build_good ⟨h1, hl, by omega, by omega, List.all_eq_true.2 hr⟩, if_neg (by rw [← hwd]; omega)] at he ho
  obtain ⟨a', c', rfl, hns⟩ := nsIn_own ho rfl (by show (machineP rs).2.length ≤ 100000; omega)
  exact ⟨a', _, c', he, hb, hns, rfl, hr, ⟨h1, hl⟩, machine_fit (ry_ok h), by show (machineP rs).2.length ≤ 20000; omega⟩
theorem made_right {W : World} {rs : List Ry} {a : Option Addr} {n : Nat} (h : Made W rs a n) : nRightB (machineP rs).1 (machineP rs).2 = true := machine_right h.right h.few.1 h.few.2 (by have := h.len; have := h.size; show (machineP rs).2.length ≤ 20000; omega)
/-- its tags -/
theorem run_first {W : World} {rs : List Ry} {a : Option Addr} {n c : Nat} (h : Made W rs a n) (s : ByteArray) (hs : s.size ≤ 1000000) (hT : TzAt W) (htb : 0 < W.heap.size) :
    Calls Tryd.prog 15 #[.agg #[.int .i64 (machineP rs).1, .slice a n c], .string s] W fun e w' => ∃ (g : Nat) (ts : List Int), e = .returned (.tuple #[.slice (some ⟨g, 0, none⟩) (s.size + 1) (s.size + 1), .int .i64 0]) ∧ ts.length = s.size + 1 ∧ Blk w' g 3 (ts.map tV).toArray ∧ W.heap.size ≤ g ∧ Below W.heap.size W w' ∧ ∀ i, i ≤ s.size → FirstT rs (s.data.toList.take i) (ts.getD i 0) := by
  refine (run_yes (sc := c) h.len W h.ns h.fit (made_right h) s hs hT htb).mono ?_
  rintro e w' ⟨g, ts, h1, h2, h3, h4, h5, h6⟩
  exact ⟨g, ts, h1, h2, h3, h4, h5, fun i hi => tag_lang h.right h.few.1 _ _ (h6 i hi)⟩
end Go.Proofs.YtdckjjkaoecgaaaDoor

/-
  The contract of frankinglaw07.NfaTags. Conditions: the trees lie in memory; at most 1100000 nodes; the library's table.
-/
namespace Go.Proofs.YtdckjjkaoecgaaaDoor
open Go.RowKit Go.Shelf

theorem infoRlv : (Tryd.prog.info? 48).map (fun i => (i.zero, i.size, i.bytes)) = some (some (.slice none 0 0), 1, 24) := by kernel_rfl
/-- what each tree has of a text, in a row of one's own -/
structure HaveR (W : World) (B : Nat) (v : Value) (s : ByteArray) (rs : List Ry) (k : Nat) : Prop where
  row : ∃ vs : List Value, vs.length = k ∧ W.ownsRow B 48 1 v k vs ∧ ∀ i (h : i < rs.length), i < k → RelAt W (vs.getD i default) s.size (SubP s.data.toList (hasR rs[i]))
theorem HaveR.below {W W' : World} {B : Nat} {v : Value} {s : ByteArray} {rs : List Ry} {k : Nat} (h : HaveR W B v s rs k) (hb : Below W.heap.size W W') : HaveR W' B v s rs k := by
  obtain ⟨vs, h1, h2, h3⟩ := h
  exact ⟨vs, h1, ownsRow_kept h2 hb, fun i hi hk => (h3 i hi hk).below hb⟩
theorem RelAt.kept {W W' : World} {B z n q : Nat} {e : TypeId} {v u : Value} {xs : List Value} {R : Nat → Nat → Prop} (h : RelAt W u q R) (ho : W.ownsRow B e z v n xs) (hg : W.grownBy W' v.ownBlock) (he : 42 ≠ e) : RelAt W' u q R := by
  obtain ⟨g, ws, h1, h2, h3⟩ := h
  exact ⟨g, ws, h1, h2.kept hg (blk_apart ho h2 he), h3⟩
/-- one more -/
theorem HaveR.more {W W' : World} {B : Nat} {v v' : Value} {s : ByteArray} {rs : List Ry} {k : Nat} {vs : List Value} {u : Value} (h1 : vs.length = k) (h2 : W.ownsRow B 48 1 v k vs) (h3 : ∀ i (h : i < rs.length), i < k → RelAt W (vs.getD i default) s.size (SubP s.data.toList (hasR rs[i]))) (hu : ∀ h : k < rs.length, RelAt W u s.size (SubP s.data.toList (hasR rs[k]))) (ho : W'.ownsRow B 48 1 v' (k + 1) (vs ++ [u])) (hg : W.grownBy W' v.ownBlock) : HaveR W' B v' s rs (k + 1) := by
  refine ⟨vs ++ [u], by rw [List.length_append, h1]; rfl, ho, fun i hi hk => ?_⟩
  by_cases e : i < k
  · rw [List.getD_eq_getElem?_getD, List.getElem?_append_left (by omega), ← List.getD_eq_getElem?_getD]
    exact (h3 i hi e).kept h2 hg (by decide)
  · obtain rfl : i = k := by omega
    rw [List.getD_eq_getElem?_getD, List.getElem?_append_right (by omega), h1, Nat.sub_self]
    exact (hu hi).kept h2 hg (by decide)
/-- the first tree of those from k on that has a text -/
def FromT (rs : List Ry) (k : Nat) (u : List UInt8) (t : Int) : Prop := (t = -1 ∧ ∀ j (hj : j < rs.length), k ≤ j → ¬ hasR rs[j] u) ∨ ∃ j, ∃ hj : j < rs.length, k ≤ j ∧ t = (j : Int) ∧ hasR rs[j] u ∧ ∀ i (hi : i < j), k ≤ i → ¬ hasR (rs[i]'(Nat.lt_trans hi hj)) u
theorem FromT.start (rs : List Ry) (u : List UInt8) : FromT rs rs.length u (-1) := .inl ⟨rfl, fun j hj h => by omega⟩
theorem FromT.hit {rs : List Ry} {k : Nat} {u : List UInt8} (hk : k < rs.length) (h : hasR rs[k] u) : FromT rs k u (k : Int) := .inr ⟨k, hk, Nat.le_refl _, rfl, h, fun i hi h => by omega⟩
theorem FromT.miss {rs : List Ry} {k : Nat} {u : List UInt8} {t : Int} (f : FromT rs (k + 1) u t) (hk : k < rs.length) (h : ¬ hasR rs[k] u) : FromT rs k u t := by
  rcases f with ⟨h1, h2⟩ | ⟨j, hj, h1, h2, h3, h4⟩
  · refine .inl ⟨h1, fun j hj hkj => ?_⟩
    by_cases e : j = k
    · subst e; exact h
    · exact h2 j hj (by omega)
  · refine .inr ⟨j, hj, by omega, h2, h3, fun i hi hki => ?_⟩
    by_cases e : i = k
    · subst e; exact h
    · exact h4 i hi (by omega)
theorem FromT.first {rs : List Ry} {u : List UInt8} {t : Int} (f : FromT rs 0 u t) : FirstT rs u t := by
  rcases f with ⟨h1, h2⟩ | ⟨j, hj, h1, h2, h3, h4⟩
  · exact .inl ⟨h1, fun j hj => h2 j hj (Nat.zero_le _)⟩
  · exact .inr ⟨j, hj, h2, h3, fun i hi => h4 i hi (Nat.zero_le _)⟩
theorem subFront {s : ByteArray} {P : List UInt8 → Prop} {i : Nat} : SubP s.data.toList P 0 i ↔ P (s.data.toList.take i) := by
  unfold SubP
  rw [slc_front]
  exact ⟨fun h => h.2, fun h => ⟨Nat.zero_le _, h⟩⟩
set_option maxRecDepth 100000 in
set_option maxHeartbeats 8000000 in
theorem tags_any (a : Option Addr) (c : Nat) (ls : List Ry) (s0 : ByteArray) (w : World) (h : RyIn w (· < w.heap.size) a c ls) (hb : (preL ls).length ≤ 1100000) (hT : TzAt w) (htb : 0 < w.heap.size) :
    Calls Tryd.prog 4 #[.slice a ls.length c, .string s0] w fun e w' => e = .returned (.bool true) ∧ Below w.heap.size w w' := by
  have HRC := Lib.hid (right7_any a c ls w h hb)
  have HTW : Hid (∀ W, Below w.heap.size w W → TzAt W ∧ 0 < W.heap.size) := fun W hW => ⟨hT.below htb hW, Nat.lt_of_lt_of_le htb hW.size⟩
  have HAW : Hid (∀ W, Below w.heap.size w W → Calls Tryd.prog 10 #[] W fun e w' => e = .returned (.bool true) ∧ Below W.heap.size W w') := fun W hW => awake7_any W (hT.below htb hW) (Nat.lt_of_lt_of_le htb hW.size)
  obtain ⟨i0, hi0, hz0, hz1, hz2⟩ := info_parts infoRlv
  obtain ⟨n, hn⟩ : ∃ n, n = ls.length := ⟨_, rfl⟩
  rw [← hn] at HRC ⊢
  clear h hb hT htb hn
  go_enter Tryd.func4, Tryd.ntmps4
  go_upto_region 2 with (go_at_call 20; refine HRC.out.mono ?_; rintro e w2 ⟨⟨v, rfl, ho⟩, hb2⟩)
  obtain ⟨a', c', rfl, hri⟩ := ho.slice hb2
  have HL2 := Lib.hid hb2
  have HRI := Lib.hid hri
  have HRR : Hid (∀ t ∈ ls.filter rightR, rightR t = true) := fun t ht => (List.mem_filter.1 ht).2
  generalize ls.filter rightR = rs at *
  have hcc := hri.len
  unfold maxLen at hcc
  obtain ⟨m, hm⟩ : ∃ m, m = rs.length := ⟨_, rfl⟩
  have HM := Lib.hid hm
  have HFEW := Lib.hid (few6_any a' c' rs w2 hri)
  rw [← hm] at hcc HFEW ⊢
  obtain ⟨hcc1, hcc2⟩ := hcc
  clear ho hb2 hri HRC hm
  by_cases hm0 : m = 0
  · have hz : ((m : Int) == 0) = true := by rw [beq_iff_eq]; omega
    clear hm0
    go_upto_region 3 with (go_at_call 8; refine HFEW.out.mono ?_; rintro e w3 ⟨⟨b, rfl, hfew⟩, hb3⟩; have HL3 := Lib.hid (low_trans HL2.out hb3); clear hb3 hfew)
    all_goals go_wp2_with (go_at_call 10; refine (HAW.out _ HL3.out).mono ?_; rintro e w4 ⟨rfl, hb4⟩; have HL4 := Lib.hid (low_trans HL3.out hb4); clear hb4)
    all_goals go_ret
    all_goals exact ⟨rfl, HL4.out⟩
  have hz : ((m : Int) == 0) = false := by rw [beq_eq_false_iff_ne]; omega
  go_upto_region 3 with (go_at_call 8; refine HFEW.out.mono ?_; rintro e w3 ⟨⟨b, rfl, hfew⟩, hb3⟩; have HL3 := Lib.hid (low_trans HL2.out hb3); have HL23 := Lib.hid hb3; have HFW := Lib.hid hfew; clear hb3 hfew)
  rotate_left 1
  · go_wp2_with (go_at_call 10; refine (HAW.out _ HL3.out).mono ?_; rintro e w4 ⟨rfl, hb4⟩; have HL4 := Lib.hid (low_trans HL3.out hb4); clear hb4)
    go_ret
    exact ⟨rfl, HL4.out⟩
  have hfr : FewR rs := HFW.out (by assumption)
  have h1 : 1 ≤ rs.length := by rw [← HM.out]; omega
  have HR3 := Lib.hid ((HRI.out.on HL23.out).mono (S' := (· < w3.heap.size)) (fun b hb h => hb))
  have hm6 : m ≤ 6 := by rw [HM.out]; exact hfr.1
  have HBU : Hid (∀ W, Below w3.heap.size w3 W → Calls Tryd.prog 12 #[.slice a' m c', .int .i64 20000] W fun e w' => ∃ a' n c', e = .returned (.tuple #[.agg #[.int .i64 (machineP rs).1, .slice a' n c'], .int .i64 0]) ∧ Below W.heap.size W w' ∧ Made w' rs a' n) := fun W hW => build_made HRR.out h1 (by have := hfr.1; omega) (by have := few_all hfr; omega) a' c' m HM.out W ((HR3.out.on hW).mono (fun b hb h => hb))
  obtain ⟨s, hs⟩ : ∃ s, s = frontB s0 14 := ⟨_, rfl⟩
  have hs14 : s.size ≤ 14 := by rw [hs, frontB_size]; omega
  have HFRO := Lib.hid (fun W => front_any s0 14 (by decide) W)
  rw [← hs] at HFRO
  obtain ⟨p, hp⟩ : ∃ p, p = (machineP rs).1 := ⟨_, rfl⟩
  have HPP := Lib.hid hp
  rw [← hp] at HBU
  clear hfr HFW HFEW hz hs hp
  go_upto_region 5 with (go_at_call 11; refine (HFRO.out _).mono ?_; rintro e w4 ⟨rfl, hb4⟩; have HL4 := Lib.hid hb4; clear hb4)
  go_upto_region 6 with (go_at_call 12; refine (HBU.out _ HL4.out).mono ?_; rintro e w5 ⟨a5, n5, c5, rfl, hl5, hmd⟩; have HL5 := Lib.hid (low_trans HL4.out hl5); have HMD := Lib.hid hmd; clear hl5 hmd)
  obtain ⟨W5, hW5⟩ : ∃ W5, W5 = w5.alloc (.cells #[.int .i64 p, .slice a5 n5 c5] 25) := ⟨_, rfl⟩
  have HL6 : Hid (Below w3.heap.size w3 W5) := by rw [hW5]; exact HL5.out.alloc HL5.out.size _
  have HX6 : Hid (Blk W5 w5.heap.size 25 #[.int .i64 p, .slice a5 n5 c5]) := by rw [hW5]; exact Blk.new _ _ _
  have HM6 : Hid (Made W5 rs a5 n5) := by rw [hW5]; exact HMD.out.below ((Below.refl _ _).alloc (Nat.le_refl _) _)
  rw [← hW5]
  clear hW5 HMD HL5
  obtain ⟨g5, hg5⟩ : ∃ g5, g5 = w5.heap.size := ⟨_, rfl⟩
  rw [← hg5] at HX6 ⊢
  clear hg5
  have c0 := HX6.out.cell 0
  have c1 := HX6.out.cell 1
  simp at c0 c1
  have HTW5 := Lib.hid (HTW.out W5 (low_trans HL3.out HL6.out))
  have HRU := Lib.hid (run_first (c := c5) HM6.out s (by omega) HTW5.out.1 HTW5.out.2)
  rw [← HPP.out] at HRU
  go_upto_region 7 with (go_at_call 15; refine HRU.out.mono ?_; rintro e w6 ⟨tg, ts, rfl, htl, htb, htg, hl6, hfi⟩; have HTL := Lib.hid htl; have HTB := Lib.hid htb; have HL7 := Lib.hid hl6; have HFI := Lib.hid hfi; clear htl htb htg hl6 hfi)
  have hx6 := HX6.out.below HL7.out HX6.out.lt
  have d0 := hx6.cell 0
  have d1 := hx6.cell 1
  simp at d0 d1
  have HM7 := Lib.hid (HM6.out.below HL7.out)
  have HNR := Lib.hid (nRight_any p a5 c5 (machineP rs).2 n5 w6.heap.size HM7.out.len (by have := HM7.out.size; omega) w6 (Nat.le_refl _) HM7.out.ns)
  rw [HPP.out, made_right HM7.out, ← HPP.out] at HNR
  clear c0 c1 hx6 HRU HTW5
  go_upto_region 11 with (go_at_call 17; refine HNR.out.mono ?_; rintro e w7 ⟨rfl, hb7⟩; have HL8 := Lib.hid hb7; clear hb7)
  clear HNR d0 d1
  have HL37 : Hid (Below w3.heap.size w3 w7) := low_trans (low_trans HL6.out (HL7.out)) HL8.out
  have HTB7 : Hid (Blk w7 tg 3 (ts.map tV).toArray) := HTB.out.below HL8.out HTB.out.lt
  have HOF : Hid (∀ k (h : k < rs.length) W, Below w3.heap.size w3 W → Calls Tryd.prog 21 #[.agg (ryCells rs[k]).toArray, .string s] W fun e w2 => OfReOut s rs[k] W e w2) := fun k h W hW => by
    obtain ⟨b, off, _, _, _, hok, _, hk⟩ := HR3.out.at_ h
    exact ofRe_any s (by omega) rs[k] hok W ((hk.on hW).mono (fun b hb h => hb))
  have HFW : Hid (∀ W, Below w7.heap.size w7 W → Below w.heap.size w W) := fun W hW => low_trans HL3.out (low_trans HL37.out hW)
  clear HL2 HL23 HL4 HL6 HL7 HL8 HX6 HM6 HM7 HTB HBU HPP HTW HFRO HRI HRR
  go_loopw [9, 61] (fun v i wr => ∃ k : Nat, k ≤ m ∧ i = .int .i64 (k : Int) ∧ Hid (HaveR wr w7.heap.size v s rs k) ∧ Hid (Below w7.heap.size w7 wr)) (fun _ i _ => m - (intOf i).toNat)
  case atStart => exact ⟨0, Nat.zero_le _, rfl, ⟨[], rfl, World.ownsRow_nil _ _ _ _, fun i _ h => by omega⟩, Below.refl _ _⟩
  case round =>
    obtain ⟨k, hk, rfl, HV, HL⟩ := hrel
    by_cases hlt : k < m
    · have hlt' : (k : Int) < m := by omega
      have h0' : (0 : Int) ≤ k := by omega
      have hkl : k < rs.length := by rw [← HM.out]; exact hlt
      obtain ⟨b, off, rfl, hbl, _, hxok, hxc, hxk⟩ := HR3.out.at_ hkl
      have HQ := Lib.hid (HOF.out k hkl)
      have HXX : Hid (∃ x, x = rs[k]) := ⟨_, rfl⟩
      obtain ⟨x, hx⟩ := HXX.out
      have HXE := Lib.hid hx
      rw [← hx] at hxc HQ
      have hcw : ∀ j u, (ryCells x)[j]? = some u → wr.cell? ⟨b, off + k * 6 + j, none⟩ = some u := fun j u hj => ((low_trans HL37.out HL.out).cell (p := ⟨b, off + k * 6 + j, none⟩) hbl).trans (hxc j u hj)
      have a0 := hcw 0 _ rfl
      have a1 := hcw 1 _ rfl
      have a2 := hcw 2 _ rfl
      have a3 := hcw 3 _ rfl
      have a4 := hcw 4 _ rfl
      have a5' := hcw 5 _ rfl
      rw [Nat.add_zero] at a0
      have HLA : Hid (Below w7.heap.size w7 (wr.alloc (.cells (ryCells x).toArray 46))) := HL.out.alloc HL.out.size _
      have HVA : Hid (HaveR (wr.alloc (.cells (ryCells x).toArray 46)) w7.heap.size u9 s rs k) := HV.out.below ((Below.refl _ _).alloc (Nat.le_refl _) _)
      unfold ryCells at HQ HLA HVA
      obtain ⟨xl, hxl⟩ : ∃ xl, xl = x.kids.length := ⟨_, rfl⟩
      rw [← hxl] at a5' HQ HLA HVA
      clear hcw hx hxl hxok hxc hxk HXX HV
      go_wp2_with (first
        | (go_at_call 21; refine (HQ.out _ (low_trans HL37.out HLA.out)).mono ?_; rintro e w8 ⟨v8, rfl, ⟨gq, wq, rfl, hbq, hrq⟩, hb8⟩; have HL8 := Lib.hid (low_trans HLA.out hb8); have HV8 := Lib.hid (HVA.out.below hb8); have HBQ := Lib.hid hbq; have HRQ := Lib.hid hrq; obtain ⟨vs, hv1, hv2, hv3⟩ := HV8.out; have HV1 := Lib.hid hv1; have HV2 := Lib.hid hv2; have HV3 := Lib.hid hv3; clear hb8 hbq hrq hv1 hv2 hv3)
        | (at_builtin; refine wpList_append_own _ rfl _ _ 41 rfl w7.heap.size 48 i0 (.slice none 0 0) 1 24 Tryd.underlying41 hi0 hz0 hz1 hz2 rfl (by decide) _ _ _ rfl (HV2.out.alloc _) ⟨w8.heap.size, 0, none⟩ 1 1 [.slice (some ⟨gq, 0, none⟩) (s.size + 1) (s.size + 1)] rfl rfl ?c1 ?c2 ?c3 ?c4 ?c5 ?_; rotate_left 5; intro v' w4 hown4 hg4 _; have HO4 := Lib.hid hown4; have HG4 := Lib.hid hg4; clear hown4 hg4))
      case c1 =>
        intro j u hj
        rw [Addr.add_lit, Nat.zero_add, (Blk.new w8 48 #[.slice (some ⟨gq, 0, none⟩) (s.size + 1) (s.size + 1)]).cell j]
        simpa using hj
      case c2 => simp [Value.oneCell']
      case c3 => unfold maxLen; omega
      case c4 => omega
      case c5 => rw [World.size_alloc]; have := HL8.out.size; omega
      refine ⟨⟨k + 1, hlt, by push_cast; rfl, ?_, ?_⟩, by simp [intOf]; omega⟩
      · refine HaveR.more (W := w8.alloc (.cells #[.slice (some ⟨gq, 0, none⟩) (s.size + 1) (s.size + 1)] 48)) (v := u9) HV1.out (HV2.out.alloc _) (fun i hi hk => (HV3.out i hi hk).below ((Below.refl _ _).alloc (Nat.le_refl _) _)) (fun h => ⟨gq, wq, rfl, HBQ.out.alloc _, ?_⟩) HO4.out HG4.out
        rw [← HXE.out]
        exact HRQ.out
      · exact (HL8.out.alloc HL8.out.size _).grown HG4.out (by rw [World.size_alloc]; have := HL8.out.size; omega) (fun r hr => by
          rcases HV2.out.2 with ⟨h1, _⟩ | ⟨g, cap, cur, h1, h2, _⟩
          · rw [h1] at hr; cases hr
          · rw [h1] at hr
            injection hr with hr
            have hr : g = r := hr
            omega)
    · obtain rfl : k = m := by omega
      obtain ⟨WR, rfl⟩ : ∃ WR, WR = wr := ⟨_, rfl⟩
      obtain ⟨vs, hv1, hv2, hv3⟩ := HV.out
      obtain ⟨gh, ch, rfl⟩ := own_there hv2 (by omega)
      have HCE : Hid (∀ j (hj : j < rs.length) W, Below WR.heap.size WR W → ∃ gq, W.cell? ⟨gh, j, none⟩ = some (.slice (some ⟨gq, 0, none⟩) (s.size + 1) (s.size + 1)) ∧ RelAt W (.slice (some ⟨gq, 0, none⟩) (s.size + 1) (s.size + 1)) s.size (SubP s.data.toList (hasR rs[j]))) := fun j hj W hW => by
        have hjk : j < k := by rw [HM.out]; exact hj
        have h3 := hv3 j hj hjk
        obtain ⟨gq, wq, e, _, _⟩ := h3
        have hjv : vs[j]? = some (.slice (some ⟨gq, 0, none⟩) (s.size + 1) (s.size + 1)) := by
          rw [List.getElem?_eq_getElem (by omega)]
          rw [List.getD_eq_getElem?_getD, List.getElem?_eq_getElem (by omega)] at e
          exact congrArg some e
        have hc := own_cell hv2 hjv
        have hg := (own_blk hv2).choose_spec.1.lt
        refine ⟨gq, (hW.cell (p := ⟨gh, j, none⟩) hg).trans hc.1, ?_⟩
        have h4 := (hv3 j hj hjk).below hW
        rw [e] at h4
        exact h4
      have HTG : Hid (∀ W, Below WR.heap.size WR W → ∀ i, i ≤ s.size → W.cell? ⟨tg, i, none⟩ = some (.int .i64 (ts.getD i 0))) := fun W hW i hi => by
        have h1 := HTB7.out.below (low_trans HL.out hW) HTB7.out.lt
        rw [h1.cell, List.getElem?_toArray, List.getElem?_map, List.getElem?_eq_getElem (by rw [HTL.out]; omega), List.getD_eq_getElem?_getD, List.getElem?_eq_getElem (by rw [HTL.out]; omega)]
        rfl
      have HFW2 : Hid (∀ W, Below WR.heap.size WR W → Below w.heap.size w W) := fun W hW => HFW.out W (low_trans HL.out hW)
      clear hv1 hv2 hv3 HV HL HTB7 HFW HOF HL37 HR3 HL3
      go_upto_region 16 with fail
      go_loopw [74] (fun u wr2 => ∃ i : Nat, i ≤ s.size + 1 ∧ u = .int .i64 (i : Int) ∧ Hid (Below WR.heap.size WR wr2)) (fun u _ => s.size + 1 - (intOf u).toNat)
      case atStart => exact ⟨0, Nat.zero_le _, rfl, Below.refl _ _⟩
      case round =>
        obtain ⟨i, hi, rfl, HL⟩ := hrel
        by_cases hlt2 : i < s.size + 1
        · have hlt2' : (i : Int) < (s.size : Int) + 1 := by omega
          have h02 : (0 : Int) ≤ i := by omega
          have t0 := HTG.out _ HL.out i (by omega)
          have HFT := Lib.hid (HFI.out i (by omega))
          obtain ⟨tv, htv⟩ : ∃ tv, tv = ts.getD i 0 := ⟨_, rfl⟩
          rw [← htv] at t0 HFT
          clear htv
          have hk1 : wrap64 ((k : Int) - 1) = (k : Int) - 1 := by unfold wrap64; omega
          go_upto_region 20 with fail
          clear t0 hk1
          go_loopw [14, 15] (fun u14 u15 wr3 => ∃ (q : Nat) (z : Int), q ≤ k ∧ u15 = .int .i64 ((q : Int) - 1) ∧ u14 = .int .i64 z ∧ Hid (FromT rs q (s.data.toList.take i) z) ∧ Hid (Below WR.heap.size WR wr3)) (fun _ u _ => (intOf u + 1).toNat)
          case atStart => exact ⟨k, -1, Nat.le_refl _, rfl, rfl, by show FromT _ _ _ _; rw [HM.out]; exact FromT.start _ _, HL.out⟩
          case round =>
            obtain ⟨q, z, hq, rfl, rfl, HF, HL3⟩ := hrel
            match q, hq, HF with
            | 0, _, HF =>
              obtain rfl : tv = z := FirstT.one HFT.out HF.out.first
              rw [show ((0 : Nat) : Int) - 1 = -1 from rfl]
              clear HFT HF
              go_wp2_with fail
              exact ⟨⟨i + 1, by omega, by push_cast; rfl, HL3.out⟩, by simp [intOf]; omega⟩
            | j + 1, hq, HF =>
              rw [show ((j + 1 : Nat) : Int) - 1 = (j : Int) from by omega]
              have hjl : j < rs.length := by rw [← HM.out]; omega
              have hj1 : (0 : Int) ≤ j := by omega
              have hj2 : (j : Int) < k := by omega
              obtain ⟨gq, q0, hq1⟩ := HCE.out j hjl _ HL3.out
              have HH : Hid (Calls Tryd.prog 22 #[.slice (some ⟨gq, 0, none⟩) (s.size + 1) (s.size + 1), .int .i64 0, .int .i64 (i : Int)] _ fun e w' => ∃ b, e = .returned (.bool b) ∧ (b = true ↔ hasR rs[j] (s.data.toList.take i)) ∧ Below _ _ w') := (relHas_any s.size (by omega) _ _ _ hq1 0 i (Nat.zero_le _) (by omega)).mono fun e w' ⟨b, h1, h2, h3⟩ => ⟨b, h1, h2.trans subFront, h3⟩
              clear hq1
              go_wp2_with (go_at_call 22; refine HH.out.mono ?_; rintro e w9 ⟨b, rfl, hbi, hb9⟩; have HBI := Lib.hid hbi; have HL9 := Lib.hid (low_trans HL3.out hb9); clear hbi hb9)
              · rename_i hbt
                have hj : hasR rs[j] (s.data.toList.take i) := HBI.out.1 hbt
                exact ⟨⟨j, (j : Int), by omega, rfl, rfl, FromT.hit hjl hj, HL9.out⟩, by simp [intOf]⟩
              · rename_i hbt
                have hj : ¬ hasR rs[j] (s.data.toList.take i) := fun h => by rw [HBI.out.2 h] at hbt; cases hbt
                exact ⟨⟨j, z, by omega, rfl, rfl, HF.out.miss hjl hj, HL9.out⟩, by simp [intOf]⟩
        · obtain rfl : i = s.size + 1 := by omega
          go_wp2_with (go_at_call 10; refine (HAW.out _ (HFW2.out _ HL.out)).mono ?_; rintro e w4 ⟨rfl, hb4⟩; have HL4 := Lib.hid (low_trans (HFW2.out _ HL.out) hb4); clear hb4)
          go_ret
          exact ⟨rfl, HL4.out⟩
end Go.Proofs.YtdckjjkaoecgaaaDoor
