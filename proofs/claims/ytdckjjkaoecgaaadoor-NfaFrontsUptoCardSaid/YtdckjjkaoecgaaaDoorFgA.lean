/-
  Merged texts (NlP, NlQ, NlR, NtA, RlF, RxS, NfP, NfO, NfW), each under a head of its own that says what it proves and under which conditions.
-/
import Derived.Test.YtdckjjkaoecgaaaDoorNwP
import Derived.Test.YtdckjjkaoecgaaaDoorNbV
import Derived.Test.YtdckjjkaoecgaaaDoorNcP
import Derived.Test.YtdckjjkaoecgaaaDoorNwR
import Derived.Test.YtdckjjkaoecgaaaDoorNaW
import Derived.Test.YtdckjjkaoecgaaaDoorGa
import Derived.Test.YtdckjjkaoecgaaaDoorRxA
import Derived.BigQuiet
import Derived.Laws.Bits64b
import Derived.Test.YtdckjjkaoecgaaaDoorNaI
import Derived.Test.YtdckjjkaoecgaaaDoorRxO
import Derived.Test.YtdckjjkaoecgaaaDoorNwC
import Derived.Test.YtdckjjkaoecgaaaDoorNwG
import Derived.Test.YtdckjjkaoecgaaaDoorGd
import Derived.OwnWalk
import Derived.Deep.RegionHeld3
/-
  The texts that a regular tree has, and the ways of its machine: a tree toward a state comes to it by just the texts that it has. No conditions but right trees.
-/
namespace Go.Proofs.YtdckjjkaoecgaaaDoor
open Go.RowKit

/-- as often as may be -/
inductive StarL (P : List UInt8 → Prop) : List UInt8 → Prop
  | nil : StarL P []
  | cons {u v : List UInt8} : P u → StarL P v → StarL P (u ++ v)
def inW (s0 s1 s2 s3 b : Nat) : Bool := ((if b / 64 = 0 then s0 else if b / 64 = 1 then s1 else if b / 64 = 2 then s2 else s3)).testBit (b % 64)
mutual
/-- a tree has a text -/
def hasR : Ry → List UInt8 → Prop
  | .mk k s0 s1 s2 s3 _ _ ks, u => if k = 0 then u = [] else if k = 1 then ∃ b : UInt8, u = [b] ∧ inW s0 s1 s2 s3 b.toNat = true else if k = 2 then rowL ks u else if k = 3 then anyL ks u else if k = 4 then ks.length = 1 ∧ StarL (anyL ks) u else False
def rowL : List Ry → List UInt8 → Prop
  | [], u => u = []
  | t :: r, u => ∃ v w, u = v ++ w ∧ hasR t v ∧ rowL r w
def anyL : List Ry → List UInt8 → Prop
  | [], _ => False
  | t :: r, u => hasR t u ∨ anyL r u
end
theorem hasR_eq (t : Ry) (u : List UInt8) : hasR t u = if t.kind = 0 then u = [] else if t.kind = 1 then ∃ b : UInt8, u = [b] ∧ inW t.s0 t.s1 t.s2 t.s3 b.toNat = true else if t.kind = 2 then rowL t.kids u else if t.kind = 3 then anyL t.kids u else if t.kind = 4 then t.kids.length = 1 ∧ StarL (anyL t.kids) u else False := by
  cases t
  rw [hasR]
  rfl
theorem anyL_iff (u : List UInt8) : ∀ ks : List Ry, anyL ks u ↔ ∃ t ∈ ks, hasR t u
  | [] => by simp [anyL]
  | t :: r => by
    rw [anyL, anyL_iff u r]
    simp
/-! ### ways -/
/-- a way of so many steps from a state to another one, by which a text is read -/
inductive WayN (M : List NS) (q : Nat) : Nat → Nat → List UInt8 → Prop
  | done : WayN M q 0 q []
  | byte {n p : Nat} {x : NS} {c : UInt8} {l : List UInt8} : M[p]? = some x → x.kind = 1 → inNs x c.toNat = true → WayN M q n x.a.toNat l → WayN M q (n + 1) p (c :: l)
  | left {n p : Nat} {x : NS} {l : List UInt8} : M[p]? = some x → x.kind = 2 → WayN M q n x.a.toNat l → WayN M q (n + 1) p l
  | right {n p : Nat} {x : NS} {l : List UInt8} : M[p]? = some x → x.kind = 2 → WayN M q n x.b.toNat l → WayN M q (n + 1) p l
/-- an end -/
def EndAt (M : List NS) (q : Nat) : Prop := ∃ y, M[q]? = some y ∧ y.kind = 0
theorem way_end {M : List NS} {q p n : Nat} {l : List UInt8} (hp : EndAt M p) (h : WayN M q n p l) : q = p ∧ l = [] := by
  obtain ⟨y, h1, h2⟩ := hp
  cases h with
  | done => exact ⟨rfl, rfl⟩
  | byte a b _ _ => rw [h1] at a; injection a with a; subst a; omega
  | left a b _ => rw [h1] at a; injection a with a; subst a; omega
  | right a b _ => rw [h1] at a; injection a with a; subst a; omega
theorem way_byte {M : List NS} {q p n : Nat} {x : NS} {l : List UInt8} (hq : EndAt M q) (hx : M[p]? = some x) (hk : x.kind = 1) (h : WayN M q n p l) : ∃ c r m, n = m + 1 ∧ l = c :: r ∧ inNs x c.toNat = true ∧ WayN M q m x.a.toNat r := by
  obtain ⟨y, h1, h2⟩ := hq
  cases h with
  | done => rw [h1] at hx; injection hx with hx; subst hx; omega
  | byte a b c d => rw [hx] at a; injection a with a; subst a; exact ⟨_, _, _, rfl, rfl, c, d⟩
  | left a b _ => rw [hx] at a; injection a with a; subst a; omega
  | right a b _ => rw [hx] at a; injection a with a; subst a; omega
theorem way_split {M : List NS} {q p n : Nat} {x : NS} {l : List UInt8} (hq : EndAt M q) (hx : M[p]? = some x) (hk : x.kind = 2) (h : WayN M q n p l) : ∃ m, n = m + 1 ∧ (WayN M q m x.a.toNat l ∨ WayN M q m x.b.toNat l) := by
  obtain ⟨y, h1, h2⟩ := hq
  cases h with
  | done => rw [h1] at hx; injection hx with hx; subst hx; omega
  | byte a b c d => rw [hx] at a; injection a with a; subst a; omega
  | left a b c => rw [hx] at a; injection a with a; subst a; exact ⟨_, rfl, .inl c⟩
  | right a b c => rw [hx] at a; injection a with a; subst a; exact ⟨_, rfl, .inr c⟩
theorem WayN.more {M : List NS} {q : Nat} {n m p r : Nat} {l k : List UInt8} (h : WayN M r n p l) (g : WayN M q m r k) : WayN M q (n + m) p (l ++ k) := by
  induction h with
  | done => rw [Nat.zero_add]; exact g
  | byte a b c _ ih => rw [Nat.add_right_comm]; exact .byte a b c ih
  | left a b _ ih => rw [Nat.add_right_comm]; exact .left a b ih
  | right a b _ ih => rw [Nat.add_right_comm]; exact .right a b ih
theorem reach_way {M : List NS} {p q : Nat} (h : Reach M p q) : ∃ n, WayN M q n p [] := by
  induction h with
  | refl p => exact ⟨0, .done⟩
  | left a b _ ih => exact ⟨_, .left a b ih.choose_spec⟩
  | right a b _ ih => exact ⟨_, .right a b ih.choose_spec⟩
theorem stand_way {M : List NS} {q : Nat} : ∀ (l : List UInt8) (S : Nat → Prop), StandS M S l q → ∃ p n, S p ∧ WayN M q n p l
  | [], S, h => ⟨q, 0, h, .done⟩
  | c :: r, S, h => by
    obtain ⟨p, n, ⟨p1, x, h1, h2, h3, h4, h5⟩, hw⟩ := stand_way r _ h
    obtain ⟨m, hm⟩ := reach_way h5
    exact ⟨p1, _, h1, .byte h2 h3 h4 (hm.more hw)⟩
theorem stand_mono {M : List NS} {q : Nat} : ∀ (l : List UInt8) (S S' : Nat → Prop), (∀ p, S p → S' p) → StandS M S l q → StandS M S' l q
  | [], _, _, h, k => h q k
  | _ :: r, _, _, h, k => stand_mono r _ _ (fun _ ⟨p1, x, h1, h2⟩ => ⟨p1, x, h p1 h1, h2⟩) k
theorem way_stand {M : List NS} {q n p : Nat} {l : List UInt8} (h : WayN M q n p l) : StandS M (Reach M p) l q := by
  induction h with
  | done => exact .refl _
  | @byte n p x c l a b d _ ih =>
    show StandS M (StepS M (Reach M p) c.toNat) l q
    exact stand_mono l _ _ (fun y hy => ⟨p, x, .refl _, a, b, d, hy⟩) ih
  | left a b _ ih => exact stand_mono _ _ _ (fun y hy => .left a b hy) ih
  | right a b _ ih => exact stand_mono _ _ _ (fun y hy => .right a b hy) ih
theorem stand_iff {M : List NS} {q p : Nat} {l : List UInt8} : StandS M (Reach M p) l q ↔ ∃ n, WayN M q n p l := by
  constructor
  · intro h
    obtain ⟨p1, n, h1, h2⟩ := stand_way l _ h
    obtain ⟨m, hm⟩ := reach_way h1
    exact ⟨_, hm.more h2⟩
  · rintro ⟨n, h⟩
    exact way_stand h
/-! ### what is made stays -/
theorem open_keeps (t : Ry) (tw : Int) (st : List NS) (k : Nat) (hk : k < st.length) : (openP t tw st).2[k]? = st[k]? := by
  unfold openP
  (repeat' split) <;> first | rfl | exact List.getElem?_append_left hk
theorem join_keeps (p : Pq) (kid : Int) (st : List NS) (k : Nat) (hk : k < st.length) (h4 : p.kind = 4 → k ≠ p.begin.toNat) : (joinP p kid st).2[k]? = st[k]? := by
  unfold joinP
  by_cases k2 : p.kind = 2
  · rw [if_pos k2]
  · rw [if_neg k2]
    by_cases k3 : p.kind = 3
    · rw [if_pos k3]
      split
      · rfl
      · exact List.getElem?_append_left hk
    · rw [if_neg k3]
      by_cases k4 : p.kind = 4
      · rw [if_pos k4]
        exact List.getElem?_modify_ne _ _ (Ne.symm (h4 k4))
      · rw [if_neg k4]
theorem joinP_kind (p : Pq) (kid : Int) (st : List NS) : (joinP p kid st).1.kind = p.kind ∧ (p.kind = 4 → (joinP p kid st).1 = p) ∧ (p.kind = 3 → (joinP p kid st).1.tw = p.tw) := by
  unfold joinP
  refine ⟨?_, fun h => ?_, fun h => ?_⟩
  · (repeat' split) <;> rfl
  · rw [if_neg (by omega), if_neg (by omega), if_pos h]
  · rw [if_neg (by omega), if_pos h]
    split <;> rfl
theorem kidsR_kind : ∀ (ks : List Ry) (p : Pq) (st : List NS), (kidsR ks p st).1.kind = p.kind ∧ (p.kind = 4 → (kidsR ks p st).1 = p) ∧ (p.kind = 3 → (kidsR ks p st).1.tw = p.tw)
  | [], p, st => by rw [kidsR_nil]; exact ⟨rfl, fun _ => rfl, fun _ => rfl⟩
  | k :: ks, p, st => by
    obtain ⟨h1, h2, h3⟩ := kidsR_kind ks p st
    rw [kidsR_cons]
    obtain ⟨j1, j2, j3⟩ := joinP_kind (kidsR ks p st).1 (towardR k (kidsR ks p st).1.tw (kidsR ks p st).2).1 (towardR k (kidsR ks p st).1.tw (kidsR ks p st).2).2
    exact ⟨j1.trans h1, fun h => (j2 (h1.trans h)).trans (h2 h), fun h => (j3 (h1.trans h)).trans (h3 h)⟩
mutual
theorem toward_keeps : ∀ (t : Ry) (tw : Int) (st : List NS) (k : Nat), k < st.length → (towardR t tw st).2[k]? = st[k]?
  | .mk kd s0 s1 s2 s3 a c kids, tw, st, k, hk => by
    rw [towardR]
    have h1 := open_keeps (.mk kd s0 s1 s2 s3 a c kids) tw st k hk
    have h2 := open_grows (.mk kd s0 s1 s2 s3 a c kids) tw st
    refine (kids_keep kids _ _ k (by omega) (fun h4 => ?_)).trans h1
    unfold openP at h4 ⊢
    split
    · rename_i h
      rw [if_pos h] at h4
      simp only at h4
      have : (Ry.mk kd s0 s1 s2 s3 a c kids).kind = 4 := h4
      omega
    · split
      · rename_i h h'
        rw [if_neg h, if_pos h'] at h4
        simp only at h4
        have : (Ry.mk kd s0 s1 s2 s3 a c kids).kind = 4 := h4
        omega
      · split
        · simp only [Int.toNat_natCast]
          omega
        · rename_i h h' h''
          rw [if_neg h, if_neg h', if_neg h''] at h4
          exact absurd h4 h''
theorem kids_keep : ∀ (ks : List Ry) (p : Pq) (st : List NS) (k : Nat), k < st.length → (p.kind = 4 → k ≠ p.begin.toNat) → (kidsR ks p st).2[k]? = st[k]?
  | [], p, st, k, _, _ => by rw [kidsR_nil]
  | x :: ks, p, st, k, hk, h4 => by
    rw [kidsR_cons]
    have g1 := kids_grow ks p st
    have g2 := toward_grows x (kidsR ks p st).1.tw (kidsR ks p st).2
    obtain ⟨q1, q2, _⟩ := kidsR_kind ks p st
    rw [join_keeps _ _ _ k (by omega) (fun h => by rw [q2 (q1.symm.trans h)]; exact h4 (q1.symm.trans h)), toward_keeps x _ _ k (by omega)]
    exact kids_keep ks p st k hk h4
end
/-- from a base on no state is an end -/
def NoEnd (lo : Nat) (st : List NS) : Prop := ∀ k x, lo ≤ k → st[k]? = some x → x.kind = 1 ∨ x.kind = 2
theorem NoEnd.snoc {lo : Nat} {st : List NS} (h : NoEnd lo st) {x : NS} (hx : x.kind = 1 ∨ x.kind = 2) : NoEnd lo (st ++ [x]) := fun k y hk hy => by
  by_cases hl : k < st.length
  · rw [List.getElem?_append_left hl] at hy; exact h k y hk hy
  · rw [List.getElem?_append_right (by omega)] at hy
    have := (List.getElem?_eq_some_iff.1 hy).1
    simp at this
    have h0 : k - st.length = 0 := by omega
    rw [h0] at hy
    injection hy with hy
    subst hy
    exact hx
theorem NoEnd.start (st : List NS) : NoEnd st.length st := fun k x hk hx => by have := (List.getElem?_eq_some_iff.1 hx).1; omega
theorem open_noEnd (t : Ry) (tw : Int) {lo : Nat} {st : List NS} (h : NoEnd lo st) : NoEnd lo (openP t tw st).2 := by
  unfold openP
  split
  · exact h.snoc (.inl rfl)
  · split
    · exact h
    · split
      · exact h.snoc (.inr rfl)
      · exact h
theorem join_noEnd (p : Pq) (kid : Int) {lo : Nat} {st : List NS} (h : NoEnd lo st) : NoEnd lo (joinP p kid st).2 := by
  unfold joinP
  split
  · exact h
  · split
    · split
      · exact h
      · exact h.snoc (.inr rfl)
    · split
      · intro k x hk hx
        rw [List.getElem?_modify] at hx
        cases hs : st[k]? with
        | none => rw [hs] at hx; cases hx
        | some y =>
          rw [hs] at hx
          have := h k y hk hs
          by_cases e : p.begin.toNat = k
          · simp [e] at hx; subst hx; exact this
          · simp [e] at hx; subst hx; exact this
      · exact h
mutual
theorem toward_noEnd : ∀ (t : Ry) (tw : Int) {lo : Nat} {st : List NS}, NoEnd lo st → NoEnd lo (towardR t tw st).2
  | .mk k s0 s1 s2 s3 a c kids, tw, lo, st, h => by
    rw [towardR]
    exact kids_noEnd kids _ (open_noEnd _ tw h)
theorem kids_noEnd : ∀ (ks : List Ry) (p : Pq) {lo : Nat} {st : List NS}, NoEnd lo st → NoEnd lo (kidsR ks p st).2
  | [], p, lo, st, h => by rw [kidsR_nil]; exact h
  | k :: ks, p, lo, st, h => by
    rw [kidsR_cons]
    exact join_noEnd _ _ (toward_noEnd k _ (kids_noEnd ks p h))
end
end Go.Proofs.YtdckjjkaoecgaaaDoor

/-
  The machine of some right trees comes to the end of a tree by just the texts that the tree has. No conditions but right trees.
-/
namespace Go.Proofs.YtdckjjkaoecgaaaDoor
open Go.RowKit

def Agree (M st : List NS) (lo : Nat) : Prop := ∀ k, lo ≤ k → k < st.length → M[k]? = st[k]?
theorem Agree.up {M st : List NS} {lo hi : Nat} (h : Agree M st lo) (hl : lo ≤ hi) : Agree M st hi := fun k h1 h2 => h k (Nat.le_trans hl h1) h2
theorem Agree.front {M st st' : List NS} {lo : Nat} (h : Agree M st' lo) (hg : st.length ≤ st'.length) (hk : ∀ k, k < st.length → st'[k]? = st[k]?) : Agree M st lo := fun k h1 h2 => (h k h1 (Nat.lt_of_lt_of_le h2 hg)).trans (hk k h2)
/-- from one state to another one by some texts -/
structure TW (M : List NS) (q : Nat) (P : List UInt8 → Prop) (b tw : Nat) : Prop where
  out : ∀ n l, WayN M q n b l → ∃ u v m, l = u ++ v ∧ m ≤ n ∧ P u ∧ WayN M q m tw v
  in_ : ∀ u v m, P u → WayN M q m tw v → ∃ n, WayN M q n b (u ++ v)
theorem TW.same {M : List NS} {q b : Nat} : TW M q (fun u => u = []) b b := ⟨fun n l h => ⟨[], l, n, rfl, Nat.le_refl _, rfl, h⟩, fun u v m h k => ⟨m, by rw [h]; exact k⟩⟩
theorem TW.congr {M : List NS} {q b tw : Nat} {P Q : List UInt8 → Prop} (h : TW M q P b tw) (e : ∀ u, P u ↔ Q u) : TW M q Q b tw := ⟨fun n l hw => by
  obtain ⟨u, v, m, h1, h2, h3, h4⟩ := h.out n l hw
  exact ⟨u, v, m, h1, h2, (e u).1 h3, h4⟩, fun u v m hu hw => h.in_ u v m ((e u).2 hu) hw⟩
theorem TW.row {M : List NS} {q b c tw : Nat} {P Q : List UInt8 → Prop} (h : TW M q P b c) (k : TW M q Q c tw) : TW M q (fun u => ∃ v w, u = v ++ w ∧ P v ∧ Q w) b tw := ⟨fun n l hw => by
  obtain ⟨u, v, m, h1, h2, h3, h4⟩ := h.out n l hw
  obtain ⟨u', v', m', k1, k2, k3, k4⟩ := k.out m v h4
  exact ⟨u ++ u', v', m', by rw [h1, k1, List.append_assoc], by omega, ⟨u, u', rfl, h3, k3⟩, k4⟩, fun u v m hu hw => by
  obtain ⟨x, y, rfl, hx, hy⟩ := hu
  obtain ⟨n1, h1⟩ := k.in_ y v m hy hw
  obtain ⟨n2, h2⟩ := h.in_ x _ n1 hx h1
  exact ⟨n2, by rw [List.append_assoc]; exact h2⟩⟩
theorem TW.split {M : List NS} {q p tw : Nat} {x : NS} {P Q : List UInt8 → Prop} (hq : EndAt M q) (hx : M[p]? = some x) (hk : x.kind = 2) (h : TW M q P x.a.toNat tw) (k : TW M q Q x.b.toNat tw) : TW M q (fun u => P u ∨ Q u) p tw := ⟨fun n l hw => by
  obtain ⟨m, rfl, hw | hw⟩ := way_split hq hx hk hw
  · obtain ⟨u, v, m', h1, h2, h3, h4⟩ := h.out m l hw
    exact ⟨u, v, m', h1, by omega, .inl h3, h4⟩
  · obtain ⟨u, v, m', h1, h2, h3, h4⟩ := k.out m l hw
    exact ⟨u, v, m', h1, by omega, .inr h3, h4⟩, fun u v m hu hw => by
  rcases hu with hu | hu
  · obtain ⟨n, hn⟩ := h.in_ u v m hu hw
    exact ⟨_, .left hx hk hn⟩
  · obtain ⟨n, hn⟩ := k.in_ u v m hu hw
    exact ⟨_, .right hx hk hn⟩⟩
theorem TW.byte {M : List NS} {q p tw : Nat} {x : NS} (hq : EndAt M q) (hx : M[p]? = some x) (hk : x.kind = 1) (ht : x.a.toNat = tw) : TW M q (fun u => ∃ b : UInt8, u = [b] ∧ inNs x b.toNat = true) p tw := ⟨fun n l hw => by
  obtain ⟨c, r, m, rfl, rfl, h1, h2⟩ := way_byte hq hx hk hw
  exact ⟨[c], r, m, rfl, by omega, ⟨c, rfl, h1⟩, ht ▸ h2⟩, fun u v m hu hw => by
  obtain ⟨b, rfl, hb⟩ := hu
  exact ⟨_, .byte hx hk hb (ht.symm ▸ hw)⟩⟩
theorem TW.star {M : List NS} {q p tw : Nat} {x : NS} {P : List UInt8 → Prop} (hq : EndAt M q) (hx : M[p]? = some x) (hk : x.kind = 2) (ht : x.b.toNat = tw) (h : TW M q P x.a.toNat p) : TW M q (StarL P) p tw := by
  subst ht
  refine ⟨fun n => ?_, fun u v m hu hw => ?_⟩
  · induction n using Nat.strongRecOn with
    | _ n ih =>
      intro l hw
      obtain ⟨m, rfl, hw | hw⟩ := way_split hq hx hk hw
      · obtain ⟨u, v, m1, rfl, h2, h3, h4⟩ := h.out m l hw
        obtain ⟨u', v', m2, rfl, k2, k3, k4⟩ := ih m1 (by omega) v h4
        exact ⟨u ++ u', v', m2, (List.append_assoc _ _ _).symm, by omega, .cons h3 k3, k4⟩
      · exact ⟨[], l, m, rfl, by omega, .nil, hw⟩
  · induction hu with
    | nil => exact ⟨_, .right hx hk hw⟩
    | cons hP _ ih =>
      obtain ⟨n, hn⟩ := ih
      obtain ⟨n2, h2⟩ := h.in_ _ _ n hP hn
      exact ⟨_, by rw [List.append_assoc]; exact .left hx hk h2⟩
/-- a tree's ways -/
def Ways (M : List NS) (q : Nat) (t : Ry) : Prop := (∀ x ∈ preR t, aloneR x = true) → ∀ tw st, 0 ≤ tw → Agree M (towardR t tw st).2 st.length → TW M q (hasR t) (towardR t tw st).1.toNat tw.toNat
theorem row_ways {M : List NS} {q : Nat} : ∀ (ks : List Ry) (p : Pq) (st : List NS), (∀ x ∈ ks, Ways M q x) → (∀ x ∈ preL ks, aloneR x = true) → p.kind = 2 → p.tw = p.begin → 0 ≤ p.tw → Agree M (kidsR ks p st).2 st.length →
    (kidsR ks p st).1.tw = (kidsR ks p st).1.begin ∧ 0 ≤ (kidsR ks p st).1.tw ∧ TW M q (rowL ks) (kidsR ks p st).1.begin.toNat p.begin.toNat
  | [], p, st, _, _, hk, ht, h0, _ => by
    rw [kidsR_nil]
    exact ⟨ht, h0, TW.same.congr fun u => by rw [rowL]⟩
  | k :: ks, p, st, hw, hr, hk, ht, h0, ha => by
    have hr1 : ∀ x ∈ preR k, aloneR x = true := fun x hx => hr x (by rw [preL]; exact List.mem_append_left _ hx)
    have hr2 : ∀ x ∈ preL ks, aloneR x = true := fun x hx => hr x (by rw [preL]; exact List.mem_append_right _ hx)
    rw [kidsR_cons] at ha ⊢
    have hkk := (kidsR_kind ks p st).1.trans hk
    have e : joinP (kidsR ks p st).1 (towardR k (kidsR ks p st).1.tw (kidsR ks p st).2).1 (towardR k (kidsR ks p st).1.tw (kidsR ks p st).2).2 = (⟨2, (towardR k (kidsR ks p st).1.tw (kidsR ks p st).2).1, (towardR k (kidsR ks p st).1.tw (kidsR ks p st).2).1⟩, (towardR k (kidsR ks p st).1.tw (kidsR ks p st).2).2) := by
      unfold joinP
      rw [if_pos hkk, hkk]
    rw [e] at ha ⊢
    have g1 := kids_grow ks p st
    have g2 := toward_grows k (kidsR ks p st).1.tw (kidsR ks p st).2
    obtain ⟨i1, i2, i3⟩ := row_ways ks p st (fun x hx => hw x (List.mem_cons_of_mem _ hx)) hr2 hk ht h0 (ha.front g2 (toward_keeps k _ _))
    have h1 := hw k List.mem_cons_self hr1 _ _ i2 (ha.up g1)
    refine ⟨rfl, (toward_len k _ _ (fun x hx => ?_) i2).2, ?_⟩
    · have := good_of_right (ls := [k]) (fun t ht => by rw [List.mem_singleton.1 ht]; exact List.all_eq_true.2 hr1) x (by rw [preL]; exact List.mem_append_left _ hx)
      exact this
    · have i4 : TW M q (rowL ks) (kidsR ks p st).1.tw.toNat p.begin.toNat := by rw [i1]; exact i3
      refine (h1.row i4).congr fun u => ?_
      rw [rowL]
theorem good_one {k : Ry} (hr : ∀ x ∈ preR k, aloneR x = true) : GoodR (preR k) := fun x hx => good_of_right (ls := [k]) (fun t ht => by rw [List.mem_singleton.1 ht]; exact List.all_eq_true.2 hr) x (by rw [preL]; exact List.mem_append_left _ hx)
theorem alt_ways {M : List NS} {q : Nat} (hq : EndAt M q) : ∀ (ks : List Ry) (p : Pq) (st : List NS), (∀ x ∈ ks, Ways M q x) → (∀ x ∈ preL ks, aloneR x = true) → p.kind = 3 → p.begin = -1 → 0 ≤ p.tw → Agree M (kidsR ks p st).2 st.length → ks ≠ [] →
    0 ≤ (kidsR ks p st).1.begin ∧ TW M q (anyL ks) (kidsR ks p st).1.begin.toNat p.tw.toNat
  | [], p, st, _, _, hk, ht, h0, _, hne => absurd rfl hne
  | k :: ks, p, st, hw, hr, hk, ht, h0, ha, _ => by
    have hr1 : ∀ x ∈ preR k, aloneR x = true := fun x hx => hr x (by rw [preL]; exact List.mem_append_left _ hx)
    have hr2 : ∀ x ∈ preL ks, aloneR x = true := fun x hx => hr x (by rw [preL]; exact List.mem_append_right _ hx)
    rw [kidsR_cons] at ha ⊢
    obtain ⟨k1, _, k3⟩ := kidsR_kind ks p st
    have hkk := k1.trans hk
    have htw := k3 hk
    have hgrow := join_grows (kidsR ks p st).1 (towardR k (kidsR ks p st).1.tw (kidsR ks p st).2).1 (towardR k (kidsR ks p st).1.tw (kidsR ks p st).2).2
    have ha' : Agree M (towardR k (kidsR ks p st).1.tw (kidsR ks p st).2).2 st.length := ha.front hgrow (fun j hj => join_keeps _ _ _ j hj (fun h => by omega))
    have g1 := kids_grow ks p st
    have g2 := toward_grows k (kidsR ks p st).1.tw (kidsR ks p st).2
    have h1 := hw k List.mem_cons_self hr1 (kidsR ks p st).1.tw (kidsR ks p st).2 (by rw [htw]; exact h0) (ha'.up g1)
    have hb := (toward_len k (kidsR ks p st).1.tw (kidsR ks p st).2 (good_one hr1) (by rw [htw]; exact h0)).2
    have e9 : (kidsR ks p st).1.tw.toNat = p.tw.toNat := by rw [htw]
    rw [e9] at h1
    by_cases hks : ks = []
    · subst hks
      rw [kidsR_nil] at h1 hb ha ⊢
      have e : joinP p (towardR k p.tw st).1 (towardR k p.tw st).2 = (⟨3, p.tw, (towardR k p.tw st).1⟩, (towardR k p.tw st).2) := by
        unfold joinP
        rw [if_neg (by omega), if_pos hk, if_pos ht, hk]
      rw [e]
      refine ⟨hb, h1.congr fun u => ?_⟩
      rw [anyL, anyL, or_false]
    · obtain ⟨i1, i2⟩ := alt_ways hq ks p st (fun x hx => hw x (List.mem_cons_of_mem _ hx)) hr2 hk ht h0 (ha'.front g2 (toward_keeps k _ _)) hks
      have e : joinP (kidsR ks p st).1 (towardR k (kidsR ks p st).1.tw (kidsR ks p st).2).1 (towardR k (kidsR ks p st).1.tw (kidsR ks p st).2).2 = (⟨3, (kidsR ks p st).1.tw, ((towardR k (kidsR ks p st).1.tw (kidsR ks p st).2).2.length : Int)⟩, (towardR k (kidsR ks p st).1.tw (kidsR ks p st).2).2 ++ [splitN (towardR k (kidsR ks p st).1.tw (kidsR ks p st).2).1 (kidsR ks p st).1.begin]) := by
        unfold joinP
        rw [if_neg (by omega), if_pos hkk, if_neg (by omega), hkk]
      rw [e] at ha ⊢
      refine ⟨Int.natCast_nonneg _, ?_⟩
      have hx := ha (towardR k (kidsR ks p st).1.tw (kidsR ks p st).2).2.length (by omega) (by rw [List.length_append]; simp)
      rw [List.getElem?_append_right (Nat.le_refl _), Nat.sub_self] at hx
      refine ((TW.split hq hx rfl h1 i2)).congr fun u => ?_
      rw [anyL]
mutual
theorem toward_ways {M : List NS} {q : Nat} (hq : EndAt M q) : ∀ t : Ry, Ways M q t
  | .mk k s0 s1 s2 s3 a c kids => by
    have hall := all_ways hq kids
    intro hr tw st h0 ha
    have hal := hr (.mk k s0 s1 s2 s3 a c kids) (by rw [preR]; exact List.mem_cons_self)
    have hrk : ∀ x ∈ preL kids, aloneR x = true := fun x hx => hr x (by rw [preR]; exact List.mem_cons_of_mem _ hx)
    unfold aloneR at hal
    have ek : (Ry.mk k s0 s1 s2 s3 a c kids).kind = k := rfl
    have ekk : (Ry.mk k s0 s1 s2 s3 a c kids).kids = kids := rfl
    rw [ek, ekk] at hal
    have HE : ∀ (r : Pq × List NS), openP (.mk k s0 s1 s2 s3 a c kids) tw st = r → towardR (.mk k s0 s1 s2 s3 a c kids) tw st = ((kidsR kids r.1 r.2).1.begin, (kidsR kids r.1 r.2).2) := fun r hr => by rw [towardR, hr]
    by_cases k0 : k = 0
    · rw [if_pos k0] at hal
      simp only [Bool.and_eq_true, beq_iff_eq] at hal
      obtain rfl := List.eq_nil_of_length_eq_zero hal.2
      have := HE (⟨k, tw, tw⟩, st) (by unfold openP; rw [ek, if_neg (by omega), if_neg (by omega), if_neg (by omega)])
      rw [kidsR_nil] at this
      rw [this]
      exact TW.same.congr fun u => by rw [hasR, if_pos k0]
    · rw [if_neg k0] at hal
      by_cases k1 : k = 1
      · rw [if_pos k1] at hal
        simp only [Bool.and_eq_true, beq_iff_eq] at hal
        obtain rfl := List.eq_nil_of_length_eq_zero hal.2
        have := HE (⟨k, tw, st.length⟩, st ++ [byteN (.mk k s0 s1 s2 s3 a c []) tw]) (by unfold openP; rw [ek, if_pos k1])
        rw [kidsR_nil] at this
        rw [this] at ha ⊢
        have hx := ha st.length (Nat.le_refl _) (by rw [List.length_append]; simp)
        rw [List.getElem?_append_right (Nat.le_refl _), Nat.sub_self] at hx
        refine (TW.byte hq hx rfl rfl).congr fun u => ?_
        rw [hasR, if_neg k0, if_pos k1]
        rfl
      · rw [if_neg k1] at hal
        by_cases k2 : k = 2
        · have := HE (⟨k, tw, tw⟩, st) (by unfold openP; rw [ek, if_neg (by omega), if_neg (by omega), if_neg (by omega)])
          rw [this] at ha ⊢
          refine (row_ways kids ⟨k, tw, tw⟩ st hall hrk k2 rfl h0 ha).2.2.congr fun u => ?_
          rw [hasR, if_neg k0, if_neg k1, if_pos k2]
        · by_cases k3 : k = 3
          · rw [if_pos (.inr k3)] at hal
            simp only [Bool.and_eq_true, decide_eq_true_eq] at hal
            have := HE (⟨k, tw, -1⟩, st) (by unfold openP; rw [ek, if_neg (by omega), if_pos k3])
            rw [this] at ha ⊢
            refine (alt_ways hq kids ⟨k, tw, -1⟩ st hall hrk k3 rfl h0 ha (fun h => by rw [h] at hal; simp at hal)).2.congr fun u => ?_
            rw [hasR, if_neg k0, if_neg k1, if_neg k2, if_pos k3]
          · rw [if_neg (by omega)] at hal
            by_cases k4 : k = 4
            · rw [if_pos k4] at hal
              simp only [Bool.and_eq_true, beq_iff_eq] at hal
              match kids, hal.2, hall, hrk, HE, ha with
              | [x], _, hall, hrk, HE, ha =>
                have := HE (⟨k, st.length, st.length⟩, st ++ [splitN 0 tw]) (by unfold openP; rw [show (Ry.mk k s0 s1 s2 s3 a c [x]).kind = k from rfl, if_neg (by omega), if_neg (by omega), if_pos k4])
                rw [kidsR_cons, kidsR_nil] at this
                have e : joinP ⟨k, (st.length : Int), (st.length : Int)⟩ (towardR x (st.length : Int) (st ++ [splitN 0 tw])).1 (towardR x (st.length : Int) (st ++ [splitN 0 tw])).2 = (⟨k, (st.length : Int), (st.length : Int)⟩, (towardR x (st.length : Int) (st ++ [splitN 0 tw])).2.modify st.length (fun s => { s with a := (towardR x (st.length : Int) (st ++ [splitN 0 tw])).1 })) := by
                  unfold joinP
                  rw [if_neg (by show ¬ k = 2; omega), if_neg (by show ¬ k = 3; omega), if_pos (by show k = 4; omega)]
                  rfl
                have this2 := this.trans (by rw [show ((⟨k, (st.length : Int), (st.length : Int)⟩ : Pq), st ++ [splitN 0 tw]).1.tw = (st.length : Int) from rfl, e])
                rw [this2] at ha ⊢
                have g := toward_grows x (st.length : Int) (st ++ [splitN 0 tw])
                rw [List.length_append] at g
                simp only [List.length_cons, List.length_nil] at g
                have hkeep := toward_keeps x (st.length : Int) (st ++ [splitN 0 tw]) st.length (by rw [List.length_append]; simp)
                rw [List.getElem?_append_right (Nat.le_refl _), Nat.sub_self] at hkeep
                have hx := ha st.length (Nat.le_refl _) (by simp only [List.length_modify]; omega)
                rw [List.getElem?_modify_eq, hkeep] at hx
                have hxr : ∀ y ∈ preR x, aloneR y = true := fun y hy => hrk y (by rw [preL]; exact List.mem_append_left _ hy)
                have h1 := hall x List.mem_cons_self hxr (st.length : Int) (st ++ [splitN 0 tw]) (Int.natCast_nonneg _) (fun j h1 h2 => by
                  rw [List.length_append] at h1
                  simp only [List.length_cons, List.length_nil] at h1
                  have := ha j (by omega) (by simp only [List.length_modify]; exact h2)
                  rw [this, List.getElem?_modify_ne _ _ (by omega)])
                rw [Int.toNat_natCast] at h1 ⊢
                have h2 := TW.star hq hx rfl rfl h1
                refine h2.congr fun u => ?_
                rw [hasR, if_neg k0, if_neg k1, if_neg k2, if_neg k3, if_pos k4]
                have : anyL [x] = hasR x := funext fun v => by rw [anyL, anyL, or_false]
                rw [this]
                simp
            · rw [if_neg k4] at hal
              cases hal
theorem all_ways {M : List NS} {q : Nat} (hq : EndAt M q) : ∀ ks : List Ry, ∀ x ∈ ks, Ways M q x
  | [], x, h => by cases h
  | t :: r, x, h => by
    rcases List.mem_cons.1 h with h | h
    · rw [h]; exact toward_ways hq t
    · exact all_ways hq r x h
end
end Go.Proofs.YtdckjjkaoecgaaaDoor

/-
  Behind some bytes the machine's tag is the place of the first tree that has them; the machine is right. No conditions but right trees.
-/
namespace Go.Proofs.YtdckjjkaoecgaaaDoor
open Go.RowKit

theorem trees_keep : ∀ (ls : List Ry) (i : Int) (st : List NS) (k : Nat), k < st.length → (treesP ls i st).2[k]? = st[k]?
  | [], i, st, k, _ => by rw [treesP]
  | t :: r, i, st, k, hk => by
    rw [treesP]
    have g := toward_grows t (st.length : Int) (st ++ [endN i])
    rw [List.length_append] at g
    rw [trees_keep r (i + 1) _ k (by omega), toward_keeps t _ _ k (by rw [List.length_append]; omega), List.getElem?_append_left hk]
theorem trees_ways {M : List NS} : ∀ (ls : List Ry) (i : Int) (st : List NS), (∀ t ∈ ls, rightR t = true) → Agree M (treesP ls i st).2 st.length → ∀ j (hj : j < ls.length), ∃ e, M[e]? = some (endN (i + j)) ∧ ∀ q, EndAt M q → TW M q (hasR ls[j]) ((treesP ls i st).1.getD j 0).toNat e
  | [], i, st, _, _, j, hj => by simp at hj
  | t :: r, i, st, hr, ha, j, hj => by
    rw [treesP] at ha ⊢
    dsimp only at ha ⊢
    have g := toward_grows t (st.length : Int) (st ++ [endN i])
    have g0 : (st ++ [endN i]).length = st.length + 1 := by rw [List.length_append]; rfl
    have g2 := trees_grow r (i + 1) (towardR t (st.length : Int) (st ++ [endN i])).2
    have ha1 : Agree M (towardR t (st.length : Int) (st ++ [endN i])).2 st.length := ha.front g2 (trees_keep r _ _)
    match j, hj with
    | 0, _ =>
      refine ⟨st.length, ?_, ?_⟩
      · rw [ha1 st.length (Nat.le_refl _) (by omega), toward_keeps t _ _ _ (by omega), List.getElem?_append_right (Nat.le_refl _), Nat.sub_self]
        simp
      · intro q hq
        have := toward_ways hq t (fun x hx => List.all_eq_true.1 (hr t List.mem_cons_self) x hx) (st.length : Int) (st ++ [endN i]) (Int.natCast_nonneg _) (ha1.up (by omega))
        rw [Int.toNat_natCast] at this
        exact this
    | j + 1, hj =>
      obtain ⟨e, h1, h2⟩ := trees_ways r (i + 1) _ (fun x hx => hr x (List.mem_cons_of_mem _ hx)) (ha.up (by omega)) j (by simpa using hj)
      refine ⟨e, ?_, h2⟩
      rw [h1]
      congr 2
      push_cast
      omega
theorem splits_keep (b : Int) (st : List NS) : ∀ (L : List Int) (k : Nat), k < st.length → (splitsP L b st).2[k]? = st[k]?
  | [], k, _ => by rw [splitsP]
  | x :: r, k, hk => by
    rw [splitsP]
    have := splits_len b st r
    rw [List.getElem?_append_left (by omega)]
    exact splits_keep b st r k hk
theorem splits_ways {M : List NS} {q : Nat} (hq : EndAt M q) (b : Int) (st : List NS) (l : List UInt8) : ∀ L : List Int, Agree M (splitsP L b st).2 st.length → ((∃ n, WayN M q n (splitsP L b st).1.toNat l) ↔ (∃ x ∈ L, ∃ n, WayN M q n x.toNat l) ∨ ∃ n, WayN M q n b.toNat l)
  | [], _ => by
    rw [splitsP]
    simp
  | x :: r, ha => by
    rw [splitsP] at ha ⊢
    dsimp only at ha ⊢
    have hg := splits_len b st r
    have ih := splits_ways hq b st l r (ha.front (by rw [List.length_append]; omega) (fun k hk => List.getElem?_append_left hk))
    have hx := ha (splitsP r b st).2.length (by omega) (by rw [List.length_append]; simp)
    rw [List.getElem?_append_right (Nat.le_refl _), Nat.sub_self] at hx
    rw [Int.toNat_natCast]
    constructor
    · rintro ⟨n, hn⟩
      obtain ⟨m, _, hm | hm⟩ := way_split hq hx rfl hn
      · exact .inl ⟨x, List.mem_cons_self, m, hm⟩
      · rcases ih.1 ⟨m, hm⟩ with ⟨y, hy, h1⟩ | h1
        · exact .inl ⟨y, List.mem_cons_of_mem _ hy, h1⟩
        · exact .inr h1
    · rintro (⟨y, hy, n, hn⟩ | h1)
      · rcases List.mem_cons.1 hy with rfl | hy
        · exact ⟨_, .left hx rfl hn⟩
        · obtain ⟨m, hm⟩ := ih.2 (.inl ⟨y, hy, n, hn⟩)
          exact ⟨_, .right hx rfl hm⟩
      · obtain ⟨m, hm⟩ := ih.2 (.inr h1)
        exact ⟨_, .right hx rfl hm⟩
theorem last_or {P : Int → Prop} (L : List Int) (h : L ≠ []) : ((∃ x ∈ L.dropLast, P x) ∨ P (L.getLastD 0)) ↔ ∃ x ∈ L, P x := by
  have e := List.dropLast_concat_getLast h
  have e2 : L.getLastD 0 = L.getLast h := by rw [List.getLastD_eq_getLast?, List.getLast?_eq_some_getLast h]; rfl
  rw [e2]
  constructor
  · rintro (⟨x, hx, hp⟩ | hp)
    · exact ⟨x, by rw [← e]; exact List.mem_append_left _ hx, hp⟩
    · exact ⟨_, List.getLast_mem h, hp⟩
  · rintro ⟨x, hx, hp⟩
    rw [← e] at hx
    rcases List.mem_append.1 hx with hx | hx
    · exact .inl ⟨x, hx, hp⟩
    · rw [List.mem_singleton.1 hx] at hp
      exact .inr hp
/-- the ends that the machine comes to by a text -/
theorem machine_ways {ls : List Ry} (hr : ∀ t ∈ ls, rightR t = true) (h1 : 1 ≤ ls.length) (l : List UInt8) :
    (∀ q n, EndAt (machineP ls).2 q → WayN (machineP ls).2 q n (machineP ls).1.toNat l → ∃ j, ∃ hj : j < ls.length, (machineP ls).2[q]? = some (endN j) ∧ hasR ls[j] l) ∧
    (∀ j (hj : j < ls.length), hasR ls[j] l → ∃ e n, (machineP ls).2[e]? = some (endN j) ∧ WayN (machineP ls).2 e n (machineP ls).1.toNat l) := by
  have hL := trees_len ls 0 []
  have hne : (treesP ls 0 []).1 ≠ [] := fun h => by rw [h] at hL; simp at hL; omega
  have ha : Agree (machineP ls).2 (treesP ls 0 []).2 0 := by
    refine Agree.front (st' := (machineP ls).2) (fun k _ _ => rfl) (by unfold machineP; rw [splits_len]; omega) (fun k hk => ?_)
    unfold machineP
    exact splits_keep _ _ _ k hk
  have hs := fun q (hq : EndAt (machineP ls).2 q) => splits_ways hq ((treesP ls 0 []).1.getLastD 0) (treesP ls 0 []).2 l (treesP ls 0 []).1.dropLast (fun k _ _ => rfl)
  have ht := trees_ways ls 0 [] hr ha
  have h2 : (machineP ls).1 = (splitsP (treesP ls 0 []).1.dropLast ((treesP ls 0 []).1.getLastD 0) (treesP ls 0 []).2).1 := rfl
  refine ⟨fun q n hq hn => ?_, fun j hj hl => ?_⟩
  · have h3 := (hs q hq).1 ⟨n, hn⟩
    rw [last_or (P := fun x => ∃ n, WayN (machineP ls).2 q n x.toNat l) _ hne] at h3
    obtain ⟨x, hx, n, hn⟩ := h3
    obtain ⟨j, hj, rfl⟩ := List.getElem_of_mem hx
    obtain ⟨e, he, hw⟩ := ht j (by omega)
    have hw := hw q hq
    rw [List.getD_eq_getElem?_getD, List.getElem?_eq_getElem hj, Option.getD_some] at hw
    obtain ⟨u, v, m, hl, _, hu, hv⟩ := hw.out n l hn
    obtain ⟨h3, h4⟩ := way_end ⟨_, he, rfl⟩ hv
    rw [h4, List.append_nil] at hl
    rw [Int.zero_add] at he
    exact ⟨j, by omega, by rw [h3]; exact he, by rw [hl]; exact hu⟩
  · obtain ⟨e, he, hw⟩ := ht j hj
    have hq : EndAt (machineP ls).2 e := ⟨_, he, rfl⟩
    have hw := hw e hq
    have hj2 : j < (treesP ls 0 []).1.length := by omega
    rw [List.getD_eq_getElem?_getD, List.getElem?_eq_getElem hj2, Option.getD_some] at hw
    obtain ⟨n, hn⟩ := hw.in_ l [] 0 hl .done
    rw [List.append_nil] at hn
    rw [Int.zero_add] at he
    have h3 := hs e hq
    rw [last_or (P := fun x => ∃ n, WayN (machineP ls).2 e n x.toNat l) _ hne] at h3
    obtain ⟨n2, h4⟩ := h3.2 ⟨_, List.getElem_mem hj2, n, hn⟩
    exact ⟨e, n2, he, h4⟩
/-- behind a text the tag is the place of the first tree that has it -/
theorem tag_lang {ls : List Ry} (hr : ∀ t ∈ ls, rightR t = true) (h1 : 1 ≤ ls.length) (l : List UInt8) (t : Int) (h : TagOf (machineP ls).2 (StandS (machineP ls).2 (Reach (machineP ls).2 (machineP ls).1.toNat) l) t) :
    (t = -1 ∧ ∀ j (hj : j < ls.length), ¬ hasR ls[j] l) ∨ ∃ j, ∃ hj : j < ls.length, t = (j : Int) ∧ hasR ls[j] l ∧ ∀ i (hi : i < j), ¬ hasR (ls[i]'(by omega)) l := by
  obtain ⟨m1, m2⟩ := machine_ways hr h1 l
  rcases h with ⟨h2, h3⟩ | ⟨⟨p, s, h2, h3, h4, h5⟩, h6⟩
  · refine .inl ⟨h2, fun j hj hl => ?_⟩
    obtain ⟨e, n, he, hn⟩ := m2 j hj hl
    exact h3 e _ (stand_iff.2 ⟨n, hn⟩) he rfl
  · obtain ⟨n, hn⟩ := stand_iff.1 h2
    obtain ⟨j, hj, hp, hl⟩ := m1 p n ⟨s, h3, h4⟩ hn
    rw [h3] at hp
    injection hp with hp
    refine .inr ⟨j, hj, by rw [← h5, hp]; rfl, hl, fun i hi hli => ?_⟩
    obtain ⟨e, n, he, hn⟩ := m2 i (by omega) hli
    have h7 := h6 e _ (stand_iff.2 ⟨n, hn⟩) he rfl
    have h8 : s.tag = (j : Int) := by rw [hp]; rfl
    have h9 : (endN (i : Int)).tag = (i : Int) := rfl
    omega
/-! ### the machine is right -/
def PqIn (N : Int) (p : Pq) : Prop := (0 ≤ p.tw ∧ p.tw < N) ∧ (p.kind = 3 → p.begin = -1 ∨ (0 ≤ p.begin ∧ p.begin < N)) ∧ (¬ p.kind = 3 → 0 ≤ p.begin ∧ p.begin < N)
def OkI (N : Int) (st : List NS) : Prop := ∀ x ∈ st, rightN x N = true
theorem OkI.snoc {N : Int} {st : List NS} (h : OkI N st) {x : NS} (hx : rightN x N = true) : OkI N (st ++ [x]) := fun y hy => by
  rcases List.mem_append.1 hy with hy | hy
  · exact h y hy
  · rw [List.mem_singleton.1 hy]; exact hx
theorem right_split {N a b : Int} (ha : 0 ≤ a ∧ a < N) (hb : 0 ≤ b ∧ b < N) : rightN (splitN a b) N = true := by
  unfold rightN splitN belowP
  simp [nsSame, ha.1, ha.2, hb.1, hb.2]
theorem right_end {N t : Int} (ht : 0 ≤ t ∧ t < 200) : rightN (endN t) N = true := by
  unfold rightN endN belowP
  simp [nsSame, ht.1, ht.2]
theorem right_byte {N tw : Int} {t : Ry} (hn : noSetB t = false) (ht : 0 ≤ tw ∧ tw < N) : rightN (byteN t tw) N = true := by
  have h : nosetN (byteN t tw) = false := by
    rw [← hn]
    unfold nosetN noSetB byteN
    simp only [Bool.and_assoc]
  unfold rightN
  rw [if_neg (show ¬ (byteN t tw).kind = 0 from by show ¬ 1 = 0; omega), if_pos (show (byteN t tw).kind = 1 from rfl), h]
  unfold byteN belowP
  simp [nsSame, ht.1, ht.2]
theorem open_ok {N : Int} {t : Ry} {tw : Int} {st : List NS} (hal : aloneR t = true) (ht : 0 ≤ tw ∧ tw < N) (h : OkI N st) (hl : ((openP t tw st).2.length : Int) ≤ N) : PqIn N (openP t tw st).1 ∧ OkI N (openP t tw st).2 ∧ (openP t tw st).1.kind = t.kind ∧ (t.kind = 3 → (openP t tw st).1.begin = -1) ∧ (t.kind = 4 → ∃ s, (openP t tw st).2[(openP t tw st).1.begin.toNat]? = some s ∧ s.kind = 2) := by
  unfold openP at *
  by_cases k1 : t.kind = 1
  · simp only [if_pos k1] at hl ⊢
    rw [List.length_append] at hl
    simp only [List.length_cons, List.length_nil] at hl
    have hn : noSetB t = false := by
      unfold aloneR at hal
      rw [if_neg (by omega), if_pos k1] at hal
      simp only [Bool.and_eq_true] at hal
      simpa using hal.1
    exact ⟨⟨ht, fun h => absurd (show t.kind = 3 from h) (by omega), fun _ => ⟨Int.natCast_nonneg _, by push_cast at hl ⊢; omega⟩⟩, h.snoc (right_byte hn ht), by simp, fun h => by omega, fun h => by omega⟩
  · simp only [if_neg k1] at hl ⊢
    by_cases k3 : t.kind = 3
    · simp only [if_pos k3] at hl ⊢
      exact ⟨⟨ht, fun _ => .inl rfl, fun h => absurd k3 h⟩, h, by simp, by simp, fun h => by omega⟩
    · simp only [if_neg k3] at hl ⊢
      by_cases k4 : t.kind = 4
      · simp only [if_pos k4] at hl ⊢
        rw [List.length_append] at hl
        simp only [List.length_cons, List.length_nil] at hl
        have hb : 0 ≤ (st.length : Int) ∧ (st.length : Int) < N := ⟨Int.natCast_nonneg _, by push_cast at hl; omega⟩
        refine ⟨⟨hb, fun h => absurd (show t.kind = 3 from h) (by omega), fun _ => hb⟩, h.snoc (right_split ⟨by omega, by omega⟩ ht), by simp, fun h => by omega, fun _ => ⟨splitN 0 tw, ?_, rfl⟩⟩
        rw [Int.toNat_natCast, List.getElem?_append_right (Nat.le_refl _), Nat.sub_self]
        rfl
      · simp only [if_neg k4] at hl ⊢
        exact ⟨⟨ht, fun h => absurd (show t.kind = 3 from h) (by omega), fun _ => ht⟩, h, by simp, fun h => by omega, fun h => by omega⟩
theorem join_ok {N : Int} {p : Pq} {kid : Int} {st : List NS} (hp : PqIn N p) (hk : 0 ≤ kid ∧ kid < N) (h : OkI N st) (hl : ((joinP p kid st).2.length : Int) ≤ N) (h4 : p.kind = 4 → ∃ s, st[p.begin.toNat]? = some s ∧ s.kind = 2) :
    PqIn N (joinP p kid st).1 ∧ OkI N (joinP p kid st).2 ∧ (p.kind = 3 → 0 ≤ (joinP p kid st).1.begin) := by
  unfold joinP at *
  by_cases k2 : p.kind = 2
  · simp only [if_pos k2] at hl ⊢
    exact ⟨⟨hk, fun h => absurd (show p.kind = 3 from h) (by omega), fun _ => hk⟩, h, fun h => by omega⟩
  · simp only [if_neg k2] at hl ⊢
    by_cases k3 : p.kind = 3
    · simp only [if_pos k3] at hl ⊢
      by_cases hb : p.begin = -1
      · simp only [if_pos hb] at hl ⊢
        exact ⟨⟨hp.1, fun _ => .inr hk, fun h => absurd k3 h⟩, h, fun _ => hk.1⟩
      · simp only [if_neg hb] at hl ⊢
        rw [List.length_append] at hl
        simp only [List.length_cons, List.length_nil] at hl
        have hb2 := (hp.2.1 k3).resolve_left hb
        exact ⟨⟨hp.1, fun _ => .inr ⟨Int.natCast_nonneg _, by push_cast at hl; show (st.length : Int) < N; omega⟩, fun h => absurd k3 h⟩, h.snoc (right_split hk hb2), fun _ => Int.natCast_nonneg _⟩
    · simp only [if_neg k3] at hl ⊢
      by_cases k4 : p.kind = 4
      · simp only [if_pos k4] at hl ⊢
        refine ⟨hp, fun x hx => ?_, fun h => absurd h k3⟩
        obtain ⟨i, hi, rfl⟩ := List.getElem_of_mem hx
        rw [List.getElem_modify]
        rw [List.length_modify] at hi
        split
        · rename_i e
          obtain ⟨s, hs, hs2⟩ := h4 k4
          rw [e, List.getElem?_eq_getElem hi] at hs
          injection hs with hs
          have h5 := h _ (List.getElem_mem hi)
          rw [hs] at h5 ⊢
          unfold rightN at h5 ⊢
          rw [if_neg (by omega), if_neg (by omega), if_pos hs2] at h5
          rw [if_neg (by show ¬ s.kind = 0; omega), if_neg (by show ¬ s.kind = 1; omega), if_pos (by exact hs2)]
          unfold belowP at h5 ⊢
          unfold nsSame splitN at h5 ⊢
          simp only [Bool.and_eq_true, beq_iff_eq, decide_eq_true_eq, decide_true, beq_self_eq_true, true_and, and_true] at h5 ⊢
          simp_all
        · exact h _ (List.getElem_mem hi)
      · simp only [if_neg k4] at hl ⊢
        exact ⟨hp, h, fun h => absurd h k3⟩
mutual
theorem toward_ok {N : Int} : ∀ (t : Ry) (tw : Int) (st : List NS), (∀ x ∈ preR t, aloneR x = true) → 0 ≤ tw ∧ tw < N → OkI N st → ((towardR t tw st).2.length : Int) ≤ N → OkI N (towardR t tw st).2 ∧ 0 ≤ (towardR t tw st).1 ∧ (towardR t tw st).1 < N
  | .mk k s0 s1 s2 s3 a c kids, tw, st, hr, ht, h, hl => by
    have hal := hr (.mk k s0 s1 s2 s3 a c kids) (by rw [preR]; exact List.mem_cons_self)
    rw [towardR] at hl ⊢
    have g := kids_grow kids (openP (.mk k s0 s1 s2 s3 a c kids) tw st).1 (openP (.mk k s0 s1 s2 s3 a c kids) tw st).2
    dsimp only at hl
    obtain ⟨o1, o2, o3, o4, o5⟩ := open_ok hal ht h (by omega)
    have ek : (Ry.mk k s0 s1 s2 s3 a c kids).kind = k := rfl
    have ekk : (Ry.mk k s0 s1 s2 s3 a c kids).kids = kids := rfl
    unfold aloneR at hal
    rw [ek, ekk] at hal
    rw [ek] at o3 o4 o5
    obtain ⟨c1, c2, c3⟩ := kids_ok (N := N) kids _ _ (fun x hx => hr x (by rw [preR]; exact List.mem_cons_of_mem _ hx)) o1 o2 hl (fun h4 => ⟨by
      rw [if_neg (by omega), if_neg (by omega), if_neg (by omega), if_pos (o3.symm.trans h4)] at hal
      simp only [Bool.and_eq_true, beq_iff_eq] at hal
      omega, o5 (o3.symm.trans h4)⟩)
    have hkk := (kidsR_kind kids (openP (.mk k s0 s1 s2 s3 a c kids) tw st).1 (openP (.mk k s0 s1 s2 s3 a c kids) tw st).2).1
    refine ⟨c2, ?_⟩
    by_cases k3 : k = 3
    · have hne : kids ≠ [] := fun e => by
        rw [if_neg (by omega), if_neg (by omega), if_pos (.inr k3), e] at hal
        simp at hal
      have h0 := c3 (o3.trans k3) hne
      rcases c1.2.1 (by rw [hkk, o3]; exact k3) with h1 | h1
      · omega
      · exact h1
    · exact c1.2.2 (by rw [hkk, o3]; exact k3)
theorem kids_ok {N : Int} : ∀ (ks : List Ry) (p : Pq) (st : List NS), (∀ x ∈ preL ks, aloneR x = true) → PqIn N p → OkI N st → ((kidsR ks p st).2.length : Int) ≤ N → (p.kind = 4 → ks.length ≤ 1 ∧ ∃ s, st[p.begin.toNat]? = some s ∧ s.kind = 2) → PqIn N (kidsR ks p st).1 ∧ OkI N (kidsR ks p st).2 ∧ (p.kind = 3 → ks ≠ [] → 0 ≤ (kidsR ks p st).1.begin)
  | [], p, st, _, hp, h, _, _ => by
    rw [kidsR_nil]
    exact ⟨hp, h, fun _ h => absurd rfl h⟩
  | k :: ks, p, st, hr, hp, h, hl, h4 => by
    rw [kidsR_cons] at hl ⊢
    have g1 := toward_grows k (kidsR ks p st).1.tw (kidsR ks p st).2
    have g2 := join_grows (kidsR ks p st).1 (towardR k (kidsR ks p st).1.tw (kidsR ks p st).2).1 (towardR k (kidsR ks p st).1.tw (kidsR ks p st).2).2
    obtain ⟨c1, c2, c3⟩ := kids_ok (N := N) ks p st (fun x hx => hr x (by rw [preL]; exact List.mem_append_right _ hx)) hp h (by omega) (fun h5 => ⟨by have := (h4 h5).1; rw [List.length_cons] at this; omega, (h4 h5).2⟩)
    obtain ⟨t1, t2⟩ := toward_ok (N := N) k (kidsR ks p st).1.tw (kidsR ks p st).2 (fun x hx => hr x (by rw [preL]; exact List.mem_append_left _ hx)) c1.1 c2 (by omega)
    have hkk := (kidsR_kind ks p st).1
    obtain ⟨j1, j2, j3⟩ := join_ok c1 t2 t1 hl (fun h5 => by
      rw [hkk] at h5
      obtain ⟨h6, s, h7, h8⟩ := h4 h5
      have : ks = [] := List.eq_nil_of_length_eq_zero (by rw [List.length_cons] at h6; omega)
      subst this
      rw [kidsR_nil]
      refine ⟨s, ?_, h8⟩
      rw [toward_keeps k _ _ _ (List.getElem?_eq_some_iff.1 h7).1]
      exact h7)
    exact ⟨j1, j2, fun h5 _ => j3 (hkk.trans h5)⟩
end
theorem trees_ok {N : Int} : ∀ (ls : List Ry) (i : Int) (st : List NS), (∀ t ∈ ls, rightR t = true) → OkI N st → ((treesP ls i st).2.length : Int) ≤ N → 0 ≤ i → i + ls.length ≤ 200 → OkI N (treesP ls i st).2 ∧ ∀ b ∈ (treesP ls i st).1, 0 ≤ b ∧ b < N
  | [], i, st, _, h, _, _, _ => by
    rw [treesP]
    exact ⟨h, fun b hb => by cases hb⟩
  | t :: r, i, st, hr, h, hl, h0, h2 => by
    rw [treesP] at hl ⊢
    dsimp only at hl ⊢
    rw [List.length_cons] at h2
    have g := toward_grows t (st.length : Int) (st ++ [endN i])
    have g0 : (st ++ [endN i]).length = st.length + 1 := by rw [List.length_append]; rfl
    have g2 := trees_grow r (i + 1) (towardR t (st.length : Int) (st ++ [endN i])).2
    obtain ⟨t1, t2⟩ := toward_ok (N := N) t (st.length : Int) (st ++ [endN i]) (fun x hx => List.all_eq_true.1 (hr t List.mem_cons_self) x hx) ⟨Int.natCast_nonneg _, by omega⟩ (h.snoc (right_end ⟨h0, by omega⟩)) (by omega)
    obtain ⟨r1, r2⟩ := trees_ok (N := N) r (i + 1) _ (fun x hx => hr x (List.mem_cons_of_mem _ hx)) t1 hl (by omega) (by push_cast at h2; omega)
    refine ⟨r1, fun b hb => ?_⟩
    rcases List.mem_cons.1 hb with rfl | hb
    · exact t2
    · exact r2 b hb
theorem splits_ok {N b : Int} (hb : 0 ≤ b ∧ b < N) {st : List NS} (h : OkI N st) : ∀ L : List Int, (∀ x ∈ L, 0 ≤ x ∧ x < N) → ((splitsP L b st).2.length : Int) ≤ N → OkI N (splitsP L b st).2 ∧ 0 ≤ (splitsP L b st).1 ∧ (splitsP L b st).1 < N
  | [], _, _ => by rw [splitsP]; exact ⟨h, hb⟩
  | x :: r, hx, hl => by
    rw [splitsP] at hl ⊢
    dsimp only at hl ⊢
    rw [List.length_append] at hl
    simp only [List.length_cons, List.length_nil] at hl
    push_cast at hl
    obtain ⟨h1, h2⟩ := splits_ok hb h r (fun y hy => hx y (List.mem_cons_of_mem _ hy)) (by omega)
    exact ⟨h1.snoc (right_split (hx x List.mem_cons_self) h2), Int.natCast_nonneg _, by omega⟩
theorem machine_right {ls : List Ry} (hr : ∀ t ∈ ls, rightR t = true) (h1 : 1 ≤ ls.length) (h2 : ls.length ≤ 200) (h3 : wantP ls ≤ 20000) : nRightB (machineP ls).1 (machineP ls).2 = true := by
  have hL := trees_len ls 0 []
  have hne : (treesP ls 0 []).1 ≠ [] := fun h => by rw [h] at hL; simp at hL; omega
  have hln : ((treesP ls 0 []).2.length : Int) ≤ (wantP ls : Int) := by unfold wantP machineP; rw [splits_len]; omega
  obtain ⟨t1, t2⟩ := trees_ok (N := (wantP ls : Int)) ls 0 [] hr (fun x hx => by cases hx) hln (by omega) (by omega)
  have hlast : (treesP ls 0 []).1.getLastD 0 ∈ (treesP ls 0 []).1 := by
    rw [List.getLastD_eq_getLast?, List.getLast?_eq_some_getLast hne]
    exact List.getLast_mem hne
  obtain ⟨s1, s2⟩ := splits_ok (t2 _ hlast) t1 (treesP ls 0 []).1.dropLast (fun x hx => t2 x (List.dropLast_subset _ hx)) (Int.le_refl _)
  unfold nRightB
  simp only [Bool.and_eq_true, decide_eq_true_eq, List.all_eq_true]
  refine ⟨h3, ?_, s1⟩
  unfold belowP
  simp only [Bool.and_eq_true, decide_eq_true_eq]
  exact s2
end Go.Proofs.YtdckjjkaoecgaaaDoor

/-
  The machine of some right trees as it is built and run: its tags are the first trees that have the text's fronts. Conditions: the trees lie in memory; few; the library's table.
-/
namespace Go.Proofs.YtdckjjkaoecgaaaDoor
open Go.RowKit Go.Shelf

/-- the first tree that has a text -/
def FirstT (rs : List Ry) (u : List UInt8) (t : Int) : Prop := (t = -1 ∧ ∀ j (hj : j < rs.length), ¬ hasR rs[j] u) ∨ ∃ j, ∃ hj : j < rs.length, t = (j : Int) ∧ hasR rs[j] u ∧ ∀ i (hi : i < j), ¬ hasR (rs[i]'(Nat.lt_trans hi hj)) u
theorem FirstT.one {rs : List Ry} {u : List UInt8} {s t : Int} (h : FirstT rs u s) (k : FirstT rs u t) : s = t := by
  rcases h with ⟨h1, h2⟩ | ⟨j, hj, h1, h2, h3⟩ <;> rcases k with ⟨k1, k2⟩ | ⟨i, hi, k1, k2, k3⟩
  · omega
  · exact absurd k2 (h2 i hi)
  · exact absurd h2 (k2 j hj)
  · by_cases e : i < j
    · exact absurd k2 (h3 i e)
    · by_cases e' : j < i
      · exact absurd h2 (k3 j e')
      · omega
/-- all nodes' numbers are within bounds -/
theorem ry_ok {w : World} {S : Nat → Prop} {a : Option Addr} {c : Nat} {ks : List Ry} (h : RyIn w S a c ks) : ∀ x ∈ preL ks, ryOk x := by
  induction h with
  | nil a c => intro x hx; simp [preL] at hx
  | row kids b off cap hS hlt hn hcap hm hok hc hk ih =>
    intro x hx
    obtain ⟨t, ht, hxt⟩ := preL_mem hx
    obtain ⟨i, hi, rfl⟩ := List.getElem_of_mem ht
    rw [preR_eq] at hxt
    rcases List.mem_cons.1 hxt with rfl | hxt
    · exact hok i hi
    · exact ih i hi x hxt
/-! ### what all states are -/
structure Steady (Q : NS → Prop) : Prop where
  split : ∀ a b, Q (splitN a b)
  end_ : ∀ i, Q (endN i)
  turn : ∀ s k, Q s → Q { s with a := k }
def AllQ (Q : NS → Prop) (st : List NS) : Prop := ∀ x ∈ st, Q x
theorem AllQ.snoc {Q : NS → Prop} {st : List NS} (h : AllQ Q st) {x : NS} (hx : Q x) : AllQ Q (st ++ [x]) := fun y hy => by
  rcases List.mem_append.1 hy with hy | hy
  · exact h y hy
  · rw [List.mem_singleton.1 hy]; exact hx
theorem open_all {Q : NS → Prop} (hQ : Steady Q) {t : Ry} {tw : Int} {st : List NS} (ht : Q (byteN t tw)) (h : AllQ Q st) : AllQ Q (openP t tw st).2 := by
  unfold openP
  split
  · exact h.snoc ht
  · split
    · exact h
    · split
      · exact h.snoc (hQ.split _ _)
      · exact h
theorem join_all {Q : NS → Prop} (hQ : Steady Q) {p : Pq} {kid : Int} {st : List NS} (h : AllQ Q st) : AllQ Q (joinP p kid st).2 := by
  unfold joinP
  split
  · exact h
  · split
    · split
      · exact h
      · exact h.snoc (hQ.split _ _)
    · split
      · intro x hx
        obtain ⟨i, hi, rfl⟩ := List.getElem_of_mem hx
        rw [List.getElem_modify]
        rw [List.length_modify] at hi
        split
        · exact hQ.turn _ _ (h _ (List.getElem_mem hi))
        · exact h _ (List.getElem_mem hi)
      · exact h
mutual
theorem toward_all {Q : NS → Prop} (hQ : Steady Q) : ∀ (t : Ry) (tw : Int) (st : List NS), (∀ x ∈ preR t, ∀ tw, Q (byteN x tw)) → AllQ Q st → AllQ Q (towardR t tw st).2
  | .mk k s0 s1 s2 s3 a c kids, tw, st, ht, h => by
    rw [towardR]
    exact kids_all hQ kids _ _ (fun x hx => ht x (by rw [preR]; exact List.mem_cons_of_mem _ hx)) (open_all hQ (ht _ (by rw [preR]; exact List.mem_cons_self) tw) h)
theorem kids_all {Q : NS → Prop} (hQ : Steady Q) : ∀ (ks : List Ry) (p : Pq) (st : List NS), (∀ x ∈ preL ks, ∀ tw, Q (byteN x tw)) → AllQ Q st → AllQ Q (kidsR ks p st).2
  | [], p, st, _, h => by rw [kidsR_nil]; exact h
  | k :: ks, p, st, ht, h => by
    rw [kidsR_cons]
    exact join_all hQ (toward_all hQ k _ _ (fun x hx => ht x (by rw [preL]; exact List.mem_append_left _ hx)) (kids_all hQ ks p st (fun x hx => ht x (by rw [preL]; exact List.mem_append_right _ hx)) h))
end
theorem trees_all {Q : NS → Prop} (hQ : Steady Q) : ∀ (ls : List Ry) (i : Int) (st : List NS), (∀ x ∈ preL ls, ∀ tw, Q (byteN x tw)) → AllQ Q st → AllQ Q (treesP ls i st).2
  | [], i, st, _, h => by rw [treesP]; exact h
  | t :: r, i, st, ht, h => by
    rw [treesP]
    exact trees_all hQ r (i + 1) _ (fun x hx => ht x (by rw [preL]; exact List.mem_append_right _ hx)) (toward_all hQ t _ _ (fun x hx => ht x (by rw [preL]; exact List.mem_append_left _ hx)) (h.snoc (hQ.end_ i)))
theorem splits_all {Q : NS → Prop} (hQ : Steady Q) (b : Int) (st : List NS) (h : AllQ Q st) : ∀ L : List Int, AllQ Q (splitsP L b st).2
  | [] => by rw [splitsP]; exact h
  | x :: r => by
    rw [splitsP]
    exact (splits_all hQ b st h r).snoc (hQ.split _ _)
theorem machine_all {Q : NS → Prop} (hQ : Steady Q) {ls : List Ry} (ht : ∀ x ∈ preL ls, ∀ tw, Q (byteN x tw)) : AllQ Q (machineP ls).2 := by
  unfold machineP
  exact splits_all hQ _ _ (trees_all hQ ls 0 [] ht (fun x hx => by cases hx)) _
theorem machine_fit {ls : List Ry} (h : ∀ x ∈ preL ls, ryOk x) : NsFit (machineP ls).2 :=
  machine_all (Q := fun s => s.s0 < 18446744073709551616 ∧ s.s1 < 18446744073709551616 ∧ s.s2 < 18446744073709551616 ∧ s.s3 < 18446744073709551616) ⟨fun _ _ => ⟨by show 0 < _; decide, by show 0 < _; decide, by show 0 < _; decide, by show 0 < _; decide⟩, fun _ => ⟨by show 0 < _; decide, by show 0 < _; decide, by show 0 < _; decide, by show 0 < _; decide⟩, fun _ _ h => h⟩ (fun x hx _ => (h x hx).2)
/-- a machine that is built of right trees -/
structure Made (W : World) (rs : List Ry) (a : Option Addr) (n : Nat) : Prop where
  ns : NsIn W W.heap.size a (machineP rs).2
  len : (machineP rs).2.length = n
  right : ∀ t ∈ rs, rightR t = true
  few : 1 ≤ rs.length ∧ rs.length ≤ 200
  fit : NsFit (machineP rs).2
  size : n ≤ 20000
theorem Made.below {W W' : World} {rs : List Ry} {a : Option Addr} {n : Nat} (h : Made W rs a n) (hb : Below W.heap.size W W') : Made W' rs a n := ⟨(h.ns.below hb).mono hb.size, h.len, h.right, h.few, h.fit, h.size⟩
theorem build_made {rs : List Ry} (hr : ∀ t ∈ rs, rightR t = true) (h1 : 1 ≤ rs.length) (hl : rs.length ≤ 200) (hn : (preL rs).length ≤ 9000) (a : Option Addr) (c q : Nat) (hq : q = rs.length) (w : World) (h : RyIn w (· < w.heap.size) a c rs) :
    Calls Tryd.prog 12 #[.slice a q c, .int .i64 20000] w fun e w' => ∃ a' n c', e = .returned (.tuple #[.agg #[.int .i64 (machineP rs).1, .slice a' n c'], .int .i64 0]) ∧ Below w.heap.size w w' ∧ Made w' rs a' n := by
  subst hq
  have hw := want_is hr h1
  have hst := (stL_b rs).2
  have hwl : (wantP rs : Int) ≤ 20000 := by omega
  have hwd : wantP rs = (machineP rs).2.length := rfl
  refine (build_any a c rs 20000 w h (by omega)).mono ?_
  rintro e w' ⟨v, he, hb, ho⟩
  rw [build_good ⟨h1, hl, by omega, by omega, List.all_eq_true.2 hr⟩, if_neg (by rw [← hwd]; omega)] at he ho
  obtain ⟨a', c', rfl, hns⟩ := nsIn_own ho rfl (by show (machineP rs).2.length ≤ 100000; omega)
  exact ⟨a', _, c', he, hb, hns, rfl, hr, ⟨h1, hl⟩, machine_fit (ry_ok h), by show (machineP rs).2.length ≤ 20000; omega⟩
theorem made_right {W : World} {rs : List Ry} {a : Option Addr} {n : Nat} (h : Made W rs a n) : nRightB (machineP rs).1 (machineP rs).2 = true := machine_right h.right h.few.1 h.few.2 (by have := h.len; have := h.size; show (machineP rs).2.length ≤ 20000; omega)
/-- its tags -/
theorem run_first {W : World} {rs : List Ry} {a : Option Addr} {n c : Nat} (h : Made W rs a n) (s : ByteArray) (hs : s.size ≤ 1000000) (hT : TzAt W) (htb : 0 < W.heap.size) :
    Calls Tryd.prog 15 #[.agg #[.int .i64 (machineP rs).1, .slice a n c], .string s] W fun e w' => ∃ (g : Nat) (ts : List Int), e = .returned (.tuple #[.slice (some ⟨g, 0, none⟩) (s.size + 1) (s.size + 1), .int .i64 0]) ∧ ts.length = s.size + 1 ∧ Blk w' g 3 (ts.map tV).toArray ∧ W.heap.size ≤ g ∧ Below W.heap.size W w' ∧ ∀ i, i ≤ s.size → FirstT rs (s.data.toList.take i) (ts.getD i 0) := by
  refine (run_yes (sc := c) h.len W h.ns h.fit (made_right h) s hs hT htb).mono ?_
  rintro e w' ⟨g, ts, h1, h2, h3, h4, h5, h6⟩
  exact ⟨g, ts, h1, h2, h3, h4, h5, fun i hi => tag_lang h.right h.few.1 _ _ (h6 i hi)⟩
end Go.Proofs.YtdckjjkaoecgaaaDoor

/-
  The contract of frankinglow.Front. No conditions.
-/
namespace Go.Proofs.YtdckjjkaoecgaaaDoor
open Go.RowKit

/-- the first bytes of a text -/
def frontB (s : ByteArray) (n : Nat) : ByteArray := s.extract 0 n
theorem frontB_size (s : ByteArray) (n : Nat) : (frontB s n).size = min n s.size := by
  unfold frontB
  rw [ByteArray.size_extract]
  simp
theorem frontB_list (s : ByteArray) (n : Nat) : (frontB s n).data.toList = s.data.toList.take n := by
  unfold frontB
  rw [ByteArray.data_extract, Array.toList_extract]
  simp
theorem frontB_all (s : ByteArray) (n : Nat) (h : s.size ≤ n) : frontB s n = s := by
  unfold frontB
  apply ByteArray.ext
  rw [ByteArray.data_extract]
  apply Array.toList_inj.1
  rw [Array.toList_extract]
  simp
  rw [List.take_of_length_le]
  rw [Array.length_toList]
  exact h
set_option maxRecDepth 100000 in
set_option maxHeartbeats 1000000 in
theorem front_any (s : ByteArray) (n : Nat) (hn : n ≤ 100000) (w : World) :
    Calls Tryd.prog 11 #[.string s, .int .i64 (n : Int)] w fun e w' => e = .returned (.string (frontB s n)) ∧ Below w.heap.size w w' := by
  go_enter Tryd.func11, Tryd.ntmps11
  go_wp2
  · go_ret
    exact ⟨rfl, Below.refl _ _⟩
  · go_ret
    exact ⟨by rw [frontB_all s n (by omega)]; rfl, Below.refl _ _⟩
end Go.Proofs.YtdckjjkaoecgaaaDoor

/-
  A byte in a set; the contract of frankinglow.In. Conditions: a byte, words.
-/
namespace Go.Proofs.YtdckjjkaoecgaaaDoor
open Go.RowKit

/-- a set: four words -/
structure St where
  s0 : Nat
  s1 : Nat
  s2 : Nat
  s3 : Nat
def St.word (s : St) (k : Nat) : Nat := if k = 0 then s.s0 else if k = 1 then s.s1 else if k = 2 then s.s2 else s.s3
def inS (s : St) (b : Nat) : Bool := (s.word (b / 64)).testBit (b % 64)
def setC (s : St) : List Value := [.int .u64 (s.s0 : Int), .int .u64 (s.s1 : Int), .int .u64 (s.s2 : Int), .int .u64 (s.s3 : Int)]
def setV (s : St) : Value := .agg (setC s).toArray
def St.ok (s : St) : Prop := s.s0 < 18446744073709551616 ∧ s.s1 < 18446744073709551616 ∧ s.s2 < 18446744073709551616 ∧ s.s3 < 18446744073709551616
def Ry.set (t : Ry) : St := ⟨t.s0, t.s1, t.s2, t.s3⟩
theorem setC_at (s : St) (k : Nat) (hk : k < 4) : (setC s)[k]? = some (.int .u64 (s.word k : Int)) := by
  match k, hk with
  | 0, _ => rfl
  | 1, _ => rfl
  | 2, _ => rfl
  | 3, _ => rfl
theorem bit_shr (x k : Nat) : decide (x / 2 ^ k % 2 = 1) = x.testBit k := by
  rw [Nat.testBit_eq_decide_div_mod_eq]
theorem word_lt (s : St) (hs : s.ok) (k : Nat) : s.word k < 18446744073709551616 := by
  obtain ⟨h0, h1, h2, h3⟩ := hs
  unfold St.word
  split
  · exact h0
  · split
    · exact h1
    · split
      · exact h2
      · exact h3
theorem and_one (s : St) (b : Nat) (hs : s.ok) : bits BinOp.and IntKind.u64 ((s.word (b / 64) : Int) / 2 ^ (b % 64)) 1 = ((s.word (b / 64) / 2 ^ (b % 64) % 2 : Nat) : Int) := by
  have h1 : s.word (b / 64) / 2 ^ (b % 64) < 18446744073709551616 := Nat.lt_of_le_of_lt (Nat.div_le_self _ _) (word_lt s hs _)
  have h2 := bits_and_u64_nat (s.word (b / 64) / 2 ^ (b % 64)) 1 h1 (by decide)
  have h3 : (s.word (b / 64) / 2 ^ (b % 64)) &&& 1 = s.word (b / 64) / 2 ^ (b % 64) % 2 := by
    have := Nat.and_two_pow_sub_one_eq_mod (s.word (b / 64) / 2 ^ (b % 64)) 1
    rwa [show (2 : Nat) ^ 1 - 1 = 1 from rfl, show (2 : Nat) ^ 1 = 2 from rfl] at this
  rw [h3] at h2
  rw [← h2, Int.natCast_ediv]
  norm_cast
theorem and_pow (s : St) (b : Nat) (hs : s.ok) : (bits BinOp.and IntKind.u64 (s.word (b / 64) : Int) (IntKind.u64.wrap (2 ^ (b % 64))) != 0) = inS s b := by
  have h0 : b % 64 < 64 := Nat.mod_lt _ (by decide)
  have hp : 2 ^ (b % 64) < 18446744073709551616 := Nat.lt_of_lt_of_le (Nat.pow_lt_pow_right (by decide) h0) (by decide)
  have hw : IntKind.u64.wrap (2 ^ (b % 64)) = ((2 ^ (b % 64) : Nat) : Int) := by
    have : ((2 : Int) ^ (b % 64)) = ((2 ^ (b % 64) : Nat) : Int) := by norm_cast
    rw [this]
    generalize 2 ^ (b % 64) = p at *
    unfold IntKind.wrap
    simp [IntKind.bits, IntKind.signed]
    omega
  rw [hw, bits_and_u64_nat _ _ (word_lt s hs _) hp]
  unfold inS
  generalize s.word (b / 64) = x
  generalize b % 64 = k
  have h1 : ∀ i, (x &&& 2 ^ k).testBit i = (x.testBit i && decide (k = i)) := fun i => by rw [Nat.testBit_and, Nat.testBit_two_pow]
  cases hx : x.testBit k with
  | false =>
    have : x &&& 2 ^ k = 0 := Nat.eq_of_testBit_eq fun i => by
      rw [h1, Nat.zero_testBit]
      by_cases hk : k = i
      · subst hk; simp [hx]
      · simp [hk]
    rw [this]
    rfl
  | true =>
    have h2 := h1 k
    rw [hx] at h2
    have : x &&& 2 ^ k ≠ 0 := fun h => by rw [h] at h2; simp at h2
    rw [bne_iff_ne]
    omega
theorem below_drewNc {B : Nat} {a w : World} (h : Below B a w) : ∀ n, Below B a (w.drewN n)
  | 0 => h
  | n + 1 => (below_drewNc h n).drew
set_option maxRecDepth 100000 in
set_option maxHeartbeats 1000000 in
theorem in_any (s : St) (b : Nat) (hb : b < 256) (hs : s.ok) (w : World) :
    Calls Tryd.prog 24 #[setV s, .int .u8 (b : Int)] w fun e w' => e = .returned (.bool (inS s b)) ∧ Below w.heap.size w w' := by
  have HB : Hid (Below w.heap.size w (w.alloc (.cells (setC s).toArray 44))) := (Below.refl _ _).alloc (Nat.le_refl _) _
  have hc : (w.alloc (.cells (setC s).toArray 44)).cell? ⟨w.heap.size, b / 64, none⟩ = some (.int .u64 (s.word (b / 64) : Int)) := ((Blk.new w 44 (setC s).toArray).cell _).trans (by simpa using setC_at s (b / 64) (by omega))
  unfold setV
  unfold setC at *
  go_enter Tryd.func24, Tryd.ntmps24
  go_wp2
  refine bodyPost_ret (results_tmp rfl _ _ _) rfl ?_
  refine ⟨?_, HB.out⟩
  exact ret_bool (by
    show (bits BinOp.and IntKind.u64 ((s.word (b / 64) : Int) / 2 ^ (b % 64)) 1 == 1) = inS s b
    rw [and_one s b hs]
    unfold inS
    rw [← bit_shr]
    generalize s.word (b / 64) / 2 ^ (b % 64) % 2 = m
    rw [Bool.eq_iff_iff, beq_iff_eq, decide_eq_true_iff]
    omega)
end Go.Proofs.YtdckjjkaoecgaaaDoor

/-
  NfaFronts in plain terms: the tags of a front; behind a byte that no set has there are none. The contract of frankinglaw07.Few. No conditions.
-/
namespace Go.Proofs.YtdckjjkaoecgaaaDoor
open Go.RowKit Go.Shelf

/-- these are a text's tags -/
def TagsOf (st : List NS) (start : Int) (l : List UInt8) (ts : List Int) : Prop := ts.length = l.length + 1 ∧ ∀ i, i ≤ l.length → TagOf st (StandS st (Reach st start.toNat) (l.take i)) (ts.getD i 0)
theorem front_tags {st : List NS} {start : Int} {l : List UInt8} {ts us : List Int} {k : Nat} (hk : k ≤ l.length) (hp : ∀ s ∈ st, s.kind = 0 → 0 ≤ s.tag) (h : TagsOf st start l ts) (g : TagsOf st start (l.take k) us) : us = ts.take (k + 1) := by
  have hl : (l.take k).length = k := by rw [List.length_take]; omega
  obtain ⟨h1, h2⟩ := h
  obtain ⟨g1, g2⟩ := g
  rw [hl] at g1 g2
  refine List.ext_getElem (by rw [List.length_take]; omega) fun i hi1 hi2 => ?_
  have h3 := h2 i (by omega)
  have h4 := g2 i (by omega)
  rw [List.take_take, Nat.min_eq_left (by omega)] at h4
  have h5 := TagOf.one (fun q s _ hs hk => hp s (List.mem_of_getElem? hs) hk) h3 h4
  rw [List.getD_eq_getElem?_getD, List.getElem?_eq_getElem (by omega), List.getD_eq_getElem?_getD, List.getElem?_eq_getElem hi1] at h5
  rw [List.getElem_take]
  exact h5.symm
/-- no state has this byte -/
def deadB (st : List NS) (b : Nat) : Bool := st.all fun y => !(y.kind == 1 && inNs y b)
theorem stand_none {st : List NS} : ∀ (l : List UInt8) (S : Nat → Prop), (∀ p, ¬ S p) → ∀ q, ¬ StandS st S l q
  | [], S, h, q => h q
  | c :: r, S, h, q => stand_none r _ (fun p ⟨x, s, h1, _⟩ => h x h1) q
theorem stand_cat {st : List NS} : ∀ (l m : List UInt8) (S : Nat → Prop), StandS st S (l ++ m) = StandS st (StandS st S l) m
  | [], _, _ => rfl
  | c :: r, m, S => stand_cat r m (StepS st S c.toNat)
theorem dead_tags {st : List NS} {start : Int} {l : List UInt8} {ts : List Int} (h : TagsOf st start l ts) {i : Nat} (hi : i < l.length) (hd : deadB st l[i].toNat = true) {j : Nat} (hij : i < j) (hj : j ≤ l.length) : ts.getD j 0 = -1 := by
  have h1 := h.2 j hj
  have h2 : l.take j = l.take (i + 1) ++ (l.take j).drop (i + 1) := by
    have := List.take_append_drop (i + 1) (l.take j)
    rw [List.take_take, Nat.min_eq_left (by omega)] at this
    exact this.symm
  rw [h2, stand_cat, List.take_succ_eq_append_getElem hi, stand_snoc] at h1
  have h3 : ∀ q, ¬ StandS st (StepS st (StandS st (Reach st start.toNat) (l.take i)) l[i].toNat) ((l.take j).drop (i + 1)) q := stand_none _ _ (fun p ⟨q, s, _, g2, g3, g4, _⟩ => by
    unfold deadB at hd
    have := List.all_eq_true.1 hd s (List.mem_of_getElem? g2)
    rw [g3, g4] at this
    cases this)
  rcases h1 with ⟨h4, _⟩ | ⟨⟨p, s, h4, _⟩, _⟩
  · exact h4
  · exact absurd h4 (h3 p)
theorem dead_step (st : List NS) (b q : Nat) (h : q < st.length) : deadB (st.take (q + 1)) b = (deadB (st.take q) b && !(st[q].kind == 1 && inNs st[q] b)) := by
  unfold deadB
  rw [List.take_succ_eq_append_getElem h, List.all_append]
  simp
set_option maxRecDepth 100000 in
set_option maxHeartbeats 1000000 in
theorem few7_any (z : Int) (a : Option Addr) (n c : Nat) (w : World) :
    Calls Tryd.prog 9 #[.agg #[.int .i64 z, .slice a n c]] w fun e w' => e = .returned (.bool (decide ((n : Int) ≤ 300))) ∧ Below w.heap.size w w' := by
  have HL : Hid (Below w.heap.size w (w.alloc (.cells #[.int .i64 z, .slice a n c] 25))) := (Below.refl _ _).alloc (Nat.le_refl _) _
  go_enter Tryd.func9, Tryd.ntmps9
  go_wp2
  go_ret
  exact ⟨rfl, HL.out⟩
/-- a machine is built, or none -/
theorem build_some {rs : List Ry} (hl : rs.length ≤ 200) (hn : (preL rs).length ≤ 9000) (a : Option Addr) (c q : Nat) (hq : q = rs.length) (w : World) (h : RyIn w (· < w.heap.size) a c rs) :
    Calls Tryd.prog 12 #[.slice a q c, .int .i64 20000] w fun e w' => ∃ (z : Int) (st : List NS) (x : Int) (a' : Option Addr) (n c' : Nat), e = .returned (.tuple #[.agg #[.int .i64 z, .slice a' n c'], .int .i64 x]) ∧ st.length = n ∧ n ≤ 100000 ∧ Below w.heap.size w w' ∧ NsIn w' w'.heap.size a' st ∧ NsFit st := by
  subst hq
  refine (build_any a c rs 20000 w h (by omega)).mono ?_
  rintro e w' ⟨v, he, hb, ho⟩
  have hlen : (buildP rs 20000).2.1.length ≤ 100000 ∧ NsFit (buildP rs 20000).2.1 := by
    unfold buildP
    split
    · split
      · exact ⟨Nat.zero_le _, fun s hs => by cases hs⟩
      · exact ⟨by show (machineP rs).2.length ≤ 100000; omega, machine_fit (ry_ok h)⟩
    · exact ⟨Nat.zero_le _, fun s hs => by cases hs⟩
  obtain ⟨a', c', rfl, hns⟩ := nsIn_own ho rfl hlen.1
  exact ⟨_, _, _, a', _, c', he, rfl, hlen.1, hb, hns, hlen.2⟩
/-- the beginning of a row of numbers -/
theorem ints_front {W : World} {g : Nat} {ts : List Int} (h : Blk W g 3 (ts.map tV).toArray) (n : Nat) (hm : ts.length ≤ 1000001) : IntsAt W (some ⟨g, 0, none⟩) (ts.take n) := by
  refine ⟨by rw [List.length_map, List.length_take]; unfold maxLen; omega, fun _ => ⟨g, 0, rfl, h.lt, fun j hj => ?_⟩⟩
  rw [List.length_map, List.length_take] at hj
  rw [h.cell, Nat.zero_add, List.getElem?_toArray, List.getElem?_map, List.getElem?_eq_getElem (by omega), List.getElem_map, List.getElem_take]
  rfl
end Go.Proofs.YtdckjjkaoecgaaaDoor

/-
  A machine that came in lies in memory. No conditions.
-/
namespace Go.Proofs.YtdckjjkaoecgaaaDoor
open Go.ChangeShapes Go.RowKit
section
variable {H : Type} {enc : TypeId × Value → H} {w : World} {base : Nat} {spare : Nat → Bool} {held : Bool}
theorem nfInt : Tryd.prog.cellsOf 3 = 1 := by kernel_rfl
theorem nfStates : Tryd.prog.cellsOf 23 = 1 := by kernel_rfl
theorem nfState : Tryd.prog.cellsOf 56 = 8 := by kernel_rfl
theorem nfNfa : Tryd.prog.cellsOf 25 = 2 := by kernel_rfl
theorem l2 {α : Type} (l : List α) (h : l.length = 2) : ∃ a0 a1, l = [a0, a1] := by
  match l, h with
  | [a0, a1], _ => exact ⟨a0, a1, rfl⟩
theorem l5 {α : Type} (l : List α) (h : l.length = 5) : ∃ a0 a1 a2 a3 a4, l = [a0, a1, a2, a3, a4] := by
  match l, h with
  | [a0, a1, a2, a3, a4], _ => exact ⟨a0, a1, a2, a3, a4, rfl⟩
theorem l8 {α : Type} (l : List α) (h : l.length = 8) : ∃ a0 a1 a2 a3 a4 a5 a6 a7, l = [a0, a1, a2, a3, a4, a5, a6, a7] := by
  match l, h with
  | [a0, a1, a2, a3, a4, a5, a6, a7], _ => exact ⟨a0, a1, a2, a3, a4, a5, a6, a7, rfl⟩
set_option maxRecDepth 100000 in
theorem ns_parts {fuel : Nat} {cs : List Value} {x : DataW H × List MemPlace} (h : DataW.trod enc Tryd.prog w base spare held fuel 56 cs = some x) :
    ∃ s : NS, cs = nsCells s ∧ s.s0 < 18446744073709551616 ∧ s.s1 < 18446744073709551616 ∧ s.s2 < 18446744073709551616 ∧ s.s3 < 18446744073709551616 := by
  obtain ⟨xs, n, rfl, rfl, hl, hlen, hf⟩ := DataW.trod_struct Tryd.underlying56 h
  rw [nfState] at hl
  have hlen : xs.length = 5 := hlen
  obtain ⟨c0, c1, c2, c3, c4, c5, c6, c7, rfl⟩ := l8 cs hl
  obtain ⟨y0, y1, y2, y3, y4, rfl⟩ := l5 xs hlen
  have h0 : DataW.trod enc Tryd.prog w base spare held n 5 (([c0, c1, c2, c3, c4, c5, c6, c7].drop 0).take (Tryd.prog.cellsOf 5)) = some y0 := hf 0 _ rfl
  have h1 : DataW.trod enc Tryd.prog w base spare held n 44 (([c0, c1, c2, c3, c4, c5, c6, c7].drop 1).take (Tryd.prog.cellsOf 44)) = some y1 := hf 1 _ rfl
  have h2 : DataW.trod enc Tryd.prog w base spare held n 3 (([c0, c1, c2, c3, c4, c5, c6, c7].drop 5).take (Tryd.prog.cellsOf 3)) = some y2 := hf 2 _ rfl
  have h3 : DataW.trod enc Tryd.prog w base spare held n 3 (([c0, c1, c2, c3, c4, c5, c6, c7].drop 6).take (Tryd.prog.cellsOf 3)) = some y3 := hf 3 _ rfl
  have h4 : DataW.trod enc Tryd.prog w base spare held n 3 (([c0, c1, c2, c3, c4, c5, c6, c7].drop 7).take (Tryd.prog.cellsOf 3)) = some y4 := hf 4 _ rfl
  rw [rxU8] at h0
  rw [rxSet] at h1
  rw [nfInt] at h2 h3 h4
  obtain ⟨k, e0, _, hw⟩ := DataW.trod_int Tryd.underlying5 h0
  have hk : 0 ≤ k ∧ k < 256 := by have := hw; simp [Lit.wf, IntKind.min, IntKind.max, IntKind.signed, IntKind.bits] at this; omega
  obtain ⟨s0, s1, s2, s3, e1, b0, b1, b2, b3⟩ := set_cells h1
  obtain ⟨za, e2, _, _⟩ := DataW.trod_int Tryd.underlying3 h2
  obtain ⟨zb, e3, _, _⟩ := DataW.trod_int Tryd.underlying3 h3
  obtain ⟨zt, e4, _, _⟩ := DataW.trod_int Tryd.underlying3 h4
  have g0 : c0 = .int .u8 ((k.toNat : Nat) : Int) := by injection e0 with e0; rw [e0]; congr 1; omega
  have e1' : [c1, c2, c3, c4] = [Value.int .u64 (s0 : Int), .int .u64 (s1 : Int), .int .u64 (s2 : Int), .int .u64 (s3 : Int)] := e1
  simp only [List.cons.injEq, and_true] at e1'
  obtain ⟨g1, g2, g3, g4⟩ := e1'
  have g5 : c5 = .int .i64 za := by injection e2
  have g6 : c6 = .int .i64 zb := by injection e3
  have g7 : c7 = .int .i64 zt := by injection e4
  subst g0 g1 g2 g3 g4 g5 g6 g7
  exact ⟨⟨k.toNat, s0, s1, s2, s3, za, zb, zt⟩, rfl, b0, b1, b2, b3⟩
set_option maxRecDepth 100000 in
theorem open_nfa {fuel : Nat} {cs : List Value} {x : DataW H × List MemPlace} (h : DataW.trod enc Tryd.prog w base spare held fuel 25 cs = some x) :
    ∃ (z : Int) (a : Option Addr) (c : Nat) (st : List NS), cs = [.int .i64 z, .slice a st.length c] ∧ NsIn w w.heap.size a st ∧ NsFit st ∧ st.length ≤ maxLen := by
  obtain ⟨xs, n, rfl, rfl, hl, hlen, hf⟩ := DataW.trod_struct Tryd.underlying25 h
  rw [nfNfa] at hl
  have hlen : xs.length = 2 := hlen
  obtain ⟨c0, c1, rfl⟩ := l2 cs hl
  obtain ⟨y0, y1, rfl⟩ := l2 xs hlen
  have h0 : DataW.trod enc Tryd.prog w base spare held n 3 (([c0, c1].drop 0).take (Tryd.prog.cellsOf 3)) = some y0 := hf 0 _ rfl
  have h1 : DataW.trod enc Tryd.prog w base spare held n 23 (([c0, c1].drop 1).take (Tryd.prog.cellsOf 23)) = some y1 := hf 1 _ rfl
  rw [nfInt] at h0
  rw [nfStates] at h1
  obtain ⟨z, e0, _, _⟩ := DataW.trod_int Tryd.underlying3 h0
  have g0 : c0 = .int .i64 z := by injection e0
  subst g0
  have h1 : DataW.trod enc Tryd.prog w base spare held n 23 [c1] = some y1 := h1
  rcases DataW.trod_slice Tryd.underlying23 h1 with ⟨hn, rfl⟩ | ⟨a, len, cap, elems, rest, m, rfl, hcs, rfl, hb, hl2, hm, hlen2, hel, _, _⟩
  · have hn : c1 = .slice none 0 0 := by injection hn
    subst hn
    exact ⟨z, none, 0, [], rfl, fun k s hk => (by simp at hk), fun s hs => (by cases hs), by unfold maxLen; simp⟩
  · have hcs : c1 = .slice (some a) len cap := by injection hcs
    subst hcs
    have each : ∀ i : Nat, ∃ s : NS, i < len → (s.s0 < 18446744073709551616 ∧ s.s1 < 18446744073709551616 ∧ s.s2 < 18446744073709551616 ∧ s.s3 < 18446744073709551616) ∧ ∀ j u, (nsCells s)[j]? = some u → w.cell? ((a.add (i * 8)).add j) = some u := fun i => by
      by_cases hi : i < len
      · have he := hel i hi
        rw [List.getElem?_eq_getElem (by omega), nfState, Option.bind_eq_some_iff] at he
        obtain ⟨cs', hc', ht'⟩ := he
        obtain ⟨s, rfl, hw⟩ := ns_parts ht'
        refine ⟨s, fun _ => ⟨hw, fun j u hu => ?_⟩⟩
        obtain ⟨_, _, hcell⟩ := World.cells?_some hc'
        have hj : j < 8 := (List.getElem?_eq_some_iff.1 hu).1
        rw [hcell j hj, hu]
      · exact ⟨⟨0, 0, 0, 0, 0, 0, 0, 0⟩, fun h => absurd h hi⟩
    obtain ⟨f, hf2⟩ := Classical.axiomOfChoice each
    have hkl : ((List.range len).map f).length = len := by simp
    have hki : ∀ i s, ((List.range len).map f)[i]? = some s → i < len ∧ s = f i := fun i s h => by
      obtain ⟨h1, h2⟩ := List.getElem?_eq_some_iff.1 h
      rw [hkl] at h1
      exact ⟨h1, by rw [← h2]; simp⟩
    refine ⟨z, some a, cap, (List.range len).map f, by rw [hkl], fun k s hk => ?_, fun s hs => ?_, by rw [hkl]; omega⟩
    · obtain ⟨h1, rfl⟩ := hki k s hk
      obtain ⟨_, hc⟩ := hf2 k h1
      obtain ⟨b, off, spot⟩ := a
      have hcell00 := (hf2 0 (by omega)).2 0 _ rfl
      have hspot : spot = none := by simpa [Addr.add] using World.cell?_spot hcell00
      subst hspot
      have hcell0 := hc 0 _ rfl
      rw [Go.WideShapes.add_plain, Go.WideShapes.add_plain] at hcell0
      refine ⟨b, off, rfl, World.block_lt_of_cell? _ _ hcell0, fun j u hj => ?_⟩
      have := hc j u hj
      rw [Go.WideShapes.add_plain, Go.WideShapes.add_plain] at this
      exact this
    · obtain ⟨i, hi, rfl⟩ := List.getElem_of_mem hs
      obtain ⟨h1, h2⟩ := hki i _ (List.getElem?_eq_getElem hi)
      rw [h2]
      exact (hf2 i h1).1
end
end Go.Proofs.YtdckjjkaoecgaaaDoor

/-
  The contract of frankinglaw07.NfaFronts. Conditions: the trees and the machine lie in memory; at most 1100000 nodes; the library's table.
-/
namespace Go.Proofs.YtdckjjkaoecgaaaDoor
open Go.RowKit Go.Shelf

/-- a machine in memory, its words words -/
structure NfaIn (W : World) (a : Option Addr) (st : List NS) (n : Nat) : Prop where
  ns : NsIn W W.heap.size a st
  fit : NsFit st
  len : st.length = n
  few : n ≤ 281474976710656
theorem NfaIn.below {W W' : World} {a : Option Addr} {st : List NS} {n : Nat} (h : NfaIn W a st n) (hb : Below W.heap.size W W') : NfaIn W' a st n := ⟨(h.ns.below hb).mono hb.size, h.fit, h.len, h.few⟩
set_option maxRecDepth 100000 in
set_option maxHeartbeats 2000000 in
theorem fronts_any (z0 : Int) (na : Option Addr) (nc : Nat) (st0 : List NS) (a : Option Addr) (c : Nat) (ls : List Ry) (s0 : ByteArray) (cut : Nat) (hcut : cut < 256) (w : World) (hns : NsIn w w.heap.size na st0) (hfit : NsFit st0) (hnl : st0.length ≤ maxLen) (h : RyIn w (· < w.heap.size) a c ls) (hb : (preL ls).length ≤ 1100000) (hT : TzAt w) (htb : 0 < w.heap.size) :
    Calls Tryd.prog 6 #[.agg #[.int .i64 z0, .slice na st0.length nc], .slice a ls.length c, .string s0, .int .u8 (cut : Int)] w fun e w' => e = .returned (.bool true) ∧ Below w.heap.size w w' := by
  obtain ⟨n0, hn0⟩ : ∃ n0, n0 = st0.length := ⟨_, rfl⟩
  rw [← hn0] at hnl ⊢
  obtain ⟨W0, hW0⟩ : ∃ W0, W0 = w.alloc (.cells #[.int .i64 z0, .slice na n0 nc] 25) := ⟨_, rfl⟩
  have HL0 : Hid (Below w.heap.size w W0) := by rw [hW0]; exact (Below.refl _ _).alloc (Nat.le_refl _) _
  have HB0 : Hid (Blk W0 w.heap.size 25 #[.int .i64 z0, .slice na n0 nc]) := by rw [hW0]; exact Blk.new _ _ _
  have HRC := Lib.hid (right7_any a c ls W0 ((h.on HL0.out).mono (fun b hb h => hb)) hb)
  have HTW : Hid (∀ W, Below w.heap.size w W → TzAt W ∧ 0 < W.heap.size) := fun W hW => ⟨hT.below htb hW, Nat.lt_of_lt_of_le htb hW.size⟩
  have HAW : Hid (∀ W, Below w.heap.size w W → Calls Tryd.prog 10 #[] W fun e w' => e = .returned (.bool true) ∧ Below W.heap.size W w') := fun W hW => awake7_any W (hT.below htb hW) (Nat.lt_of_lt_of_le htb hW.size)
  have HIN : Hid (n0 ≤ 281474976710656 → ∀ W, Below w.heap.size w W → NfaIn W na st0 n0) := fun hn W hW => ⟨(hns.below hW).mono hW.size, hfit, hn0.symm, hn⟩
  have HF7 := Lib.hid (few7_any z0 na n0 nc)
  obtain ⟨n, hn⟩ : ∃ n, n = ls.length := ⟨_, rfl⟩
  rw [← hn] at HRC ⊢
  unfold maxLen at hnl
  clear h hb hT htb hn hns hfit hn0
  go_enter Tryd.func6, Tryd.ntmps6
  go_upto_region 1 with fail
  rw [← hW0]
  clear hW0
  obtain ⟨B, hB⟩ : ∃ B, B = w.heap.size := ⟨_, rfl⟩
  rw [← hB] at HB0 ⊢
  clear hB
  go_upto_region 2 with (go_at_call 20; refine HRC.out.mono ?_; rintro e w2 ⟨⟨v, rfl, ho⟩, hb2⟩)
  obtain ⟨a', c', rfl, hri⟩ := ho.slice hb2
  have HL2 := Lib.hid (low_trans HL0.out hb2)
  have HB2 := Lib.hid (HB0.out.below hb2 HB0.out.lt)
  have HRI := Lib.hid hri
  generalize ls.filter rightR = rs at *
  have hcc := hri.len
  unfold maxLen at hcc
  obtain ⟨m, hm⟩ : ∃ m, m = rs.length := ⟨_, rfl⟩
  have HM := Lib.hid hm
  have HFEW : Hid (∀ W, Below w2.heap.size w2 W → Calls Tryd.prog 8 #[.slice a' m c'] W fun e w3 => (∃ b, e = .returned (.bool b) ∧ (b = true → FewR rs)) ∧ Below W.heap.size W w3) := fun W hW => by
    rw [hm]
    exact few6_any a' c' rs W ((hri.on hW).mono (fun b hb h => hb))
  rw [← hm] at hcc ⊢
  obtain ⟨hcc1, hcc2⟩ := hcc
  have b0 := HB2.out.cell 0
  have b1 := HB2.out.cell 1
  simp at b0 b1
  clear ho hb2 hri HRC hm HL0 HB0
  by_cases hn3 : (n0 : Int) ≤ 300
  · have hdn : decide ((n0 : Int) ≤ 300) = true := decide_eq_true hn3
    rw [hdn] at HF7
    go_upto_if 35 with (first
      | (go_at_call 9; refine (HF7.out _).mono ?_; rintro e w3 ⟨rfl, hb3⟩; have HL3 := Lib.hid hb3; clear hb3)
      | (go_at_call 8; refine (HFEW.out _ HL3.out).mono ?_; rintro e w4 ⟨⟨b, rfl, hfew⟩, hb4⟩; have HL4 := Lib.hid (low_trans HL3.out hb4); have HFW := Lib.hid hfew; clear hb4 hfew))
    cases b with
    | false =>
      go_wp2_with (go_at_call 10; refine (HAW.out _ (low_trans HL2.out HL4.out)).mono ?_; rintro e w5 ⟨rfl, hb5⟩; have HL5 := Lib.hid (low_trans (low_trans HL2.out HL4.out) hb5); clear hb5)
      go_ret
      exact ⟨rfl, HL5.out⟩
    | true =>
      have hfr : FewR rs := HFW.out rfl
      have hpn := few_all hfr
      have hm6 : m ≤ 6 := by rw [HM.out]; exact hfr.1
      have HBU : Hid (∀ W, Below w4.heap.size w4 W → Calls Tryd.prog 12 #[.slice a' m c', .int .i64 20000] W fun e w' => ∃ (z : Int) (st : List NS) (x : Int) (a' : Option Addr) (n c' : Nat), e = .returned (.tuple #[.agg #[.int .i64 z, .slice a' n c'], .int .i64 x]) ∧ st.length = n ∧ n ≤ 100000 ∧ Below W.heap.size W w' ∧ NsIn w' w'.heap.size a' st ∧ NsFit st) := fun W hW => build_some (by have := hfr.1; omega) (by omega) a' c' m HM.out W ((HRI.out.on (low_trans HL4.out hW)).mono (fun b hb h => hb))
      obtain ⟨s, hs⟩ : ∃ s, s = frontB s0 30 := ⟨_, rfl⟩
      have hs14 : s.size ≤ 30 := by rw [hs, frontB_size]; omega
      have HFRO := Lib.hid (fun W => front_any s0 30 (by decide) W)
      rw [← hs] at HFRO
      have HL24 := Lib.hid (low_trans HL2.out HL4.out)
      have HB4 := Lib.hid (HB2.out.below HL4.out HB2.out.lt)
      clear hfr hpn HFW HFEW HF7 hs b0 b1 HB2 HRI HL2 HL3 HL4 hdn
      go_upto_region 5 with (go_at_call 11; refine (HFRO.out _).mono ?_; rintro e w5 ⟨rfl, hb5⟩; have HL5 := Lib.hid hb5; clear hb5)
      go_upto_region 6 with (go_at_call 12; refine (HBU.out _ HL5.out).mono ?_; rintro e w6 ⟨z1, st1, x1, ma, n1, mc, rfl, hl1, hn1, hb6, hns1, hft1⟩; have HL6 := Lib.hid (low_trans HL5.out hb6); have HN1 := Lib.hid hl1; have HNS1 := Lib.hid hns1; have HFT1 := Lib.hid hft1; clear hb6 hl1 hns1 hft1)
      obtain ⟨W6, hW6⟩ : ∃ W6, W6 = w6.alloc (.cells #[.int .i64 z1, .slice ma n1 mc] 25) := ⟨_, rfl⟩
      have HL7 : Hid (Below w4.heap.size w4 W6) := by rw [hW6]; exact HL6.out.alloc HL6.out.size _
      have HX7 : Hid (Blk W6 w6.heap.size 25 #[.int .i64 z1, .slice ma n1 mc]) := by rw [hW6]; exact Blk.new _ _ _
      have HI1 : Hid (NfaIn W6 ma st1 n1) := by
        rw [hW6]
        exact NfaIn.below ⟨HNS1.out, HFT1.out, HN1.out, by omega⟩ ((Below.refl _ _).alloc (Nat.le_refl _) _)
      rw [← hW6]
      clear hW6 HNS1 HL6
      obtain ⟨g6, hg6⟩ : ∃ g6, g6 = w6.heap.size := ⟨_, rfl⟩
      rw [← hg6] at HX7 ⊢
      clear hg6
      have hb7 := HB4.out.below HL7.out HB4.out.lt
      have b0 := hb7.cell 0
      have b1 := hb7.cell 1
      have c0 := HX7.out.cell 0
      have c1 := HX7.out.cell 1
      simp at b0 b1 c0 c1
      clear hb7
      go_upto_region 7 with fail
      obtain ⟨W7, hW7⟩ : ∃ W7, W7 = W6.alloc (.cells #[.int .i64 z0, .slice na n0 nc, .int .i64 z1, .slice ma n1 mc] 25) := ⟨_, rfl⟩
      have HL8 : Hid (Below W6.heap.size W6 W7) := by rw [hW7]; exact (Below.refl _ _).alloc (Nat.le_refl _) _
      have HY8 : Hid (Blk W7 W6.heap.size 25 #[.int .i64 z0, .slice na n0 nc, .int .i64 z1, .slice ma n1 mc]) := by rw [hW7]; exact Blk.new _ _ _
      rw [← hW7]
      clear hW7 b0 b1 c0 c1
      obtain ⟨g7, hg7⟩ : ∃ g7, g7 = W6.heap.size := ⟨_, rfl⟩
      rw [← hg7] at HY8 ⊢
      clear hg7
      have HW7 : Hid (Below w.heap.size w W7) := low_trans HL24.out (low_trans HL7.out HL8.out)
      have HAT : Hid (∀ j, j < 2 → ∃ (z : Int) (ad : Option Addr) (nn cc : Nat) (st : List NS), ∀ W, Below W7.heap.size W7 W → W.cell? ⟨g7, j * 2, none⟩ = some (.int .i64 z) ∧ W.cell? ⟨g7, j * 2 + 1, none⟩ = some (.slice ad nn cc) ∧ NfaIn W ad st nn) := fun j hj => by
        match j, hj with
        | 0, _ => exact ⟨z0, na, n0, nc, st0, fun W hW => ⟨((HY8.out.below hW HY8.out.lt).cell 0).trans rfl, ((HY8.out.below hW HY8.out.lt).cell 1).trans rfl, HIN.out (by omega) W (low_trans HW7.out hW)⟩⟩
        | 1, _ => exact ⟨z1, ma, n1, mc, st1, fun W hW => ⟨((HY8.out.below hW HY8.out.lt).cell 2).trans rfl, ((HY8.out.below hW HY8.out.lt).cell 3).trans rfl, (HI1.out.below HL8.out).below hW⟩⟩
      have HFW : Hid (∀ W, Below W7.heap.size W7 W → Below w.heap.size w W) := fun W hW => low_trans HW7.out hW
      clear HY8 HL8 HIN HI1 HX7 HL7 HL24 HB4 HL5 HBU HFRO HW7
      go_loopw [48] (fun u wr => ∃ j : Nat, j ≤ 2 ∧ u = .int .i64 (j : Int) ∧ Hid (Below W7.heap.size W7 wr)) (fun u _ => 2 - (intOf u).toNat)
      case atStart => exact ⟨0, by omega, rfl, Below.refl _ _⟩
      case round =>
        as_aux_lemma =>
          obtain ⟨j, hj, rfl, HL⟩ := hrel
          by_cases hlt : j < 2
          · have hlt' : (j : Int) < 2 := by omega
            have h0' : (0 : Int) ≤ j := by omega
            obtain ⟨z, ad, nn, cc, st, hmc⟩ := HAT.out j hlt
            have HMC := Lib.hid hmc
            obtain ⟨t0, t1, hni⟩ := hmc wr HL.out
            clear hmc hni
            go_upto_region 9 with fail
            obtain ⟨W8, hW8⟩ : ∃ W8, W8 = wr.alloc (.cells #[.int .i64 z, .slice ad nn cc] 25) := ⟨_, rfl⟩
            have HL9 : Hid (Below W7.heap.size W7 W8) := by rw [hW8]; exact HL.out.alloc HL.out.size _
            have HX9 : Hid (Blk W8 wr.heap.size 25 #[.int .i64 z, .slice ad nn cc]) := by rw [hW8]; exact Blk.new _ _ _
            rw [← hW8]
            clear hW8 t0 t1
            obtain ⟨g8, hg8⟩ : ∃ g8, g8 = wr.heap.size := ⟨_, rfl⟩
            rw [← hg8] at HX9 ⊢
            clear hg8
            have HNI : Hid (∀ W, Below W8.heap.size W8 W → NfaIn W ad st nn) := fun W hW => (HMC.out W (low_trans HL9.out hW)).2.2
            have HC9 : Hid (∀ W, Below W8.heap.size W8 W → W.cell? ⟨g8, 0, none⟩ = some (.int .i64 z) ∧ W.cell? ⟨g8, 1, none⟩ = some (.slice ad nn cc)) := fun W hW => by
              have h1 := HX9.out.below hW HX9.out.lt
              have h2 := h1.cell 0
              have h3 := h1.cell 1
              exact ⟨by simpa using h2, by simpa using h3⟩
            have HF9 : Hid (∀ W, Below W8.heap.size W8 W → Below w.heap.size w W) := fun W hW => HFW.out W (low_trans HL9.out hW)
            have HF7 : Hid (∀ W, Below W8.heap.size W8 W → Below W7.heap.size W7 W) := fun W hW => low_trans HL9.out hW
            obtain ⟨c0, c1⟩ := HC9.out W8 (Below.refl _ _)
            have hni8 := HNI.out W8 (Below.refl _ _)
            have HNR := Lib.hid (nRight_any z ad cc st nn W8.heap.size hni8.len hni8.few W8 (Nat.le_refl _) hni8.ns)
            have HRN : Hid (nRightB z st = false → ∀ W, Below W8.heap.size W8 W → Calls Tryd.prog 15 #[.agg #[.int .i64 z, .slice ad nn cc], .string s] W fun e w' => e = .returned (.tuple #[.slice none 0 0, .int .i64 2]) ∧ Below W.heap.size W w') := fun hr W hW => run_no (HNI.out W hW).len (HNI.out W hW).few W (HNI.out W hW).ns hr s
            have HRY : Hid (nRightB z st = true → ∀ W, Below W8.heap.size W8 W → ∀ s' : ByteArray, s'.size ≤ 30 → Calls Tryd.prog 15 #[.agg #[.int .i64 z, .slice ad nn cc], .string s'] W fun e w' => ∃ (g : Nat) (ts : List Int), e = .returned (.tuple #[.slice (some ⟨g, 0, none⟩) (s'.size + 1) (s'.size + 1), .int .i64 0]) ∧ Blk w' g 3 (ts.map tV).toArray ∧ Below W.heap.size W w' ∧ TagsOf st z s'.data.toList ts) := fun hr W hW s' hs' =>
              (run_yes (sc := cc) (HNI.out W hW).len W (HNI.out W hW).ns (HNI.out W hW).fit hr s' (by omega) (HTW.out W (HF9.out W hW)).1 (HTW.out W (HF9.out W hW)).2).mono fun e w' ⟨g, ts, h1, h2, h3, _, h5, h6⟩ => ⟨g, ts, h1, h3, h5, by rw [Array.length_toList]; exact h2, fun i hi => h6 i (by rw [Array.length_toList] at hi; exact hi)⟩
            have HTP : Hid (nRightB z st = true → ∀ s ∈ st, s.kind = 0 → 0 ≤ s.tag) := fun hr => (right_facts hr).2.2.2.2
            have HSN : Hid (st.length = nn) := hni8.len
            have hnnb : nn ≤ 281474976710656 := hni8.few
            clear hni8 HMC HL9 HX9
            generalize nRightB z st = R at *
            cases R with
            | false =>
              have HRN2 := Lib.hid (HRN.out rfl)
              clear HRN HRY HTP
              go_upto_region 10 with (go_at_call 17; refine HNR.out.mono ?_; rintro e w9 ⟨rfl, hb9⟩; have HL10 := Lib.hid hb9; obtain ⟨d0, d1⟩ := HC9.out w9 hb9; clear hb9)
              go_wp2_with (go_at_call 15; refine (HRN2.out _ HL10.out).mono ?_; rintro e w10 ⟨rfl, hb10⟩; have HL11 := Lib.hid (low_trans HL10.out hb10); clear hb10)
              exact ⟨⟨j + 1, by omega, by push_cast; rfl, HF7.out _ HL11.out⟩, by simp [intOf]; omega⟩
            | true =>
              have HRY2 := Lib.hid (HRY.out rfl)
              have HTP2 := Lib.hid (HTP.out rfl)
              clear HRN HRY HTP
              obtain ⟨k, hk⟩ : ∃ k, k = cut % (s.size + 1) := ⟨_, rfl⟩
              have hks : k ≤ s.size := by rw [hk]; have := Nat.mod_lt cut (show 0 < s.size + 1 by omega); omega
              have hrem : (cut : Int).tmod ((s.size : Int) + 1) = (k : Int) := by
                rw [hk, Int.tmod_eq_emod_of_nonneg (by omega), Int.natCast_emod]
                push_cast
                rfl
              clear hk
              have hs1 : ¬ ((s.size : Int) + 1 = 0) := by omega
              go_upto_region 14 with (go_at_call 17; refine HNR.out.mono ?_; rintro e w9 ⟨rfl, hb9⟩; have HL10 := Lib.hid hb9; obtain ⟨d0, d1⟩ := HC9.out w9 hb9; clear hb9)
              go_upto_region 15 with (go_at_call 15; refine (HRY2.out _ HL10.out s hs14).mono ?_; rintro e w10 ⟨g9, ts9, rfl, hb9, hbw, ht9⟩; have HB9 := Lib.hid hb9; have HT9 := Lib.hid ht9; have HL11 := Lib.hid (low_trans HL10.out hbw); clear hb9 hbw ht9)
              have hk0 : (0 : Int) ≤ (k : Int) := by omega
              have hks2 : (k : Int) ≤ (s.size : Int) := by omega
              obtain ⟨s', hs'⟩ : ∃ s', s' = s.extract 0 k := ⟨_, rfl⟩
              have hsz : s'.size = k := by rw [hs']; have := frontB_size s k; unfold frontB at this; omega
              have HSL : Hid (s'.data.toList = s.data.toList.take k) := by rw [hs']; exact frontB_list s k
              have HE := Lib.hid hs'
              have HSW : Hid (∀ W, Below W8.heap.size W8 W → (Below W8.heap.size W8 W ∧ W.cell? ⟨g8, 0, none⟩ = some (.int .i64 z) ∧ W.cell? ⟨g8, 1, none⟩ = some (.slice ad nn cc))) := fun W h => ⟨h, HC9.out W h⟩
              have HS1 := Lib.hid (HSW.out _ HL11.out.drew)
              have HQ := Lib.hid (HRY2.out w10.drew HL11.out.drew s' (by omega))
              rw [hsz] at HQ
              have HQ2 : Hid (∀ x, x = s.extract 0 k → Calls Tryd.prog 15 #[.agg #[.int .i64 z, .slice ad nn cc], .string x] w10.drew fun e w' => ∃ (g : Nat) (ts : List Int), e = .returned (.tuple #[.slice (some ⟨g, 0, none⟩) (k + 1) (k + 1), .int .i64 0]) ∧ Blk w' g 3 (ts.map tV).toArray ∧ Below w10.drew.heap.size w10.drew w' ∧ TagsOf st z s'.data.toList ts) := fun x hx => by rw [hx, ← HE.out]; exact HQ.out
              clear hs' hsz HQ HE
              go_region_held3 (fun W => Below W8.heap.size W8 W ∧ W.cell? ⟨g8, 0, none⟩ = some (.int .i64 z) ∧ W.cell? ⟨g8, 1, none⟩ = some (.slice ad nn cc))
                (first | (with_reducible exact HS1.out) | (with_reducible exact HS2.out))
                ((go_at_call 15; refine (HQ2.out _ rfl).mono ?_; rintro e w11 ⟨g10, ts10, rfl, hb10, hbw, ht10⟩; have HS2 := Lib.hid (HSW.out _ (low_trans HS1.out.1 hbw)); have HB10 := Lib.hid hb10; have HT10 := Lib.hid ht10; have HB11 := Lib.hid (HB9.out.drew.below hbw HB9.out.lt); clear hb10 hbw ht10))
              have hln : s.data.toList.length = s.size := by rw [Array.length_toList]; rfl
              have hft : ts10 = ts9.take (k + 1) := front_tags (by omega) HTP2.out HT9.out (by rw [← HSL.out]; exact HT10.out)
              have hl9 : ts9.length = s.size + 1 := by rw [HT9.out.1, hln]
              have hl10 : ts10.length = k + 1 := by rw [hft, List.length_take]; omega
              have hl11 : (ts9.take (k + 1)).length = k + 1 := by rw [List.length_take]; omega
              have HIS := Lib.hid (ints_same (some ⟨g10, 0, none⟩) (some ⟨g9, 0, none⟩) ts10 (ts9.take (k + 1)) (k + 1) (s.size + 1) w11 true (by simp [hft]) (ints_blk HB10.out (by omega)) (ints_front HB11.out (k + 1) (by omega)))
              rw [hl10, hl11] at HIS
              have HLN := Lib.hid hln
              have HL9 := Lib.hid hl9
              have HL12 : Hid (Below W8.heap.size W8 w11) := HS2.out.1
              obtain ⟨d2, d3⟩ := HS2.out.2
              have hm1 : ¬ (s.size : Int) + 1 < (k : Int) + 1 := by omega
              have hm2 : ¬ (s.size : Int) < (k : Int) := by omega
              have hm3 : (0 : Int) ≤ (k : Int) + 1 := by omega
              have hm4 : (k : Int) + 1 ≤ (s.size : Int) + 1 := by omega
              rename_i hHeld
              clear hHeld hln hft hl9 hl10 hl11 HB9 HB10 HT10 HSL HQ2 HS1 HS2 HL11 HL10 HRY2 HSW
              go_upto_region 19 with (go_at_call 19; refine HIS.out.mono ?_; rintro e w12 ⟨rfl, hb12⟩; have HL13 := Lib.hid (low_trans HL12.out hb12); have HB12 := Lib.hid (HB11.out.below hb12 HB11.out.lt); clear hb12 HIS)
              clear hm1 hm2 hm3 hm4 d0 d1 d2 d3 hrem hk0 hks2 hs1 HL12 HB11 HNR c0 c1
              have HNS8 := Lib.hid (HNI.out W8 (Below.refl _ _)).ns
              have HFT8 := Lib.hid (HNI.out W8 (Below.refl _ _)).fit
              have HDT : Hid (∀ i (h : i < s.size) j, deadB st s[i].toNat = true → i < j → j ≤ s.size → ts9.getD j 0 = -1) := fun i h j hd hij hj => dead_tags HT9.out (i := i) (by rw [HLN.out]; exact h) hd hij (by rw [HLN.out]; exact hj)
              have HT12 : Hid (∀ W, Below w12.heap.size w12 W → ∀ j, j ≤ s.size → W.cell? ⟨g9, j, none⟩ = some (.int .i64 (ts9.getD j 0))) := fun W hW j hj => by
                rw [(HB12.out.below hW HB12.out.lt).cell, List.getElem?_toArray, List.getElem?_map, List.getElem?_eq_getElem (by rw [HL9.out]; omega), List.getD_eq_getElem?_getD, List.getElem?_eq_getElem (by rw [HL9.out]; omega)]
                rfl
              clear HT9 HTP2 HB12 HL9 HLN
              go_loopw [116] (fun u wr2 => ∃ i : Nat, i ≤ s.size ∧ u = .int .i64 (i : Int) ∧ Hid (Below w12.heap.size w12 wr2)) (fun u _ => s.size - (intOf u).toNat)
              case atStart => exact ⟨0, Nat.zero_le _, rfl, Below.refl _ _⟩
              case round =>
                as_aux_lemma =>
                  obtain ⟨i, hi, rfl, HL2⟩ := hrel
                  by_cases hlt2 : i < s.size
                  · have hlt2' : (i : Int) < (s.size : Int) := by omega
                    have h02 : (0 : Int) ≤ i := by omega
                    obtain ⟨q0, q1⟩ := HC9.out wr (low_trans HL13.out HL2.out)
                    have HDI := Lib.hid (HDT.out i hlt2)
                    obtain ⟨b, hb⟩ : ∃ b, b = s[i].toNat := ⟨_, rfl⟩
                    have HBE := Lib.hid hb
                    have hb256 : b < 256 := by rw [hb]; exact s[i].toNat_lt
                    rw [← hb] at HDI
                    clear hb
                    go_upto_region 23 with fail
                    clear q0 q1
                    go_loopw [21, 122] (fun d u wr3 => ∃ q : Nat, q ≤ nn ∧ u = .int .i64 (q : Int) ∧ d = .bool (deadB (st.take q) b) ∧ Hid (Below w12.heap.size w12 wr3)) (fun _ u _ => nn - (intOf u).toNat)
                    case atStart => exact ⟨0, Nat.zero_le _, rfl, rfl, HL2.out⟩
                    case round =>
                      as_aux_lemma =>
                        obtain ⟨q, hq, rfl, rfl, HL3⟩ := hrel
                        by_cases hlt3 : q < nn
                        · have hlt3' : (q : Int) < (nn : Int) := by omega
                          have h03 : (0 : Int) ≤ q := by omega
                          have hql : q < st.length := by rw [HSN.out]; exact hlt3
                          obtain ⟨y, hy⟩ : ∃ y, y = st[q] := ⟨_, rfl⟩
                          obtain ⟨gs, off, rfl, hgl, hcs⟩ := HNS8.out q y (by rw [hy]; exact List.getElem?_eq_getElem hql)
                          have hcw : ∀ j u, (nsCells y)[j]? = some u → wr.cell? ⟨gs, off + q * 8 + j, none⟩ = some u := fun j u hj => ((low_trans HL13.out HL3.out).cell (p := ⟨gs, off + q * 8 + j, none⟩) hgl).trans (hcs j u hj)
                          have x0 := hcw 0 _ rfl
                          have x1 := hcw 1 _ rfl
                          have x2 := hcw 2 _ rfl
                          have x3 := hcw 3 _ rfl
                          have x4 := hcw 4 _ rfl
                          have x5 := hcw 5 _ rfl
                          have x6 := hcw 6 _ rfl
                          have x7 := hcw 7 _ rfl
                          rw [Nat.add_zero] at x0
                          have HDS : Hid (deadB (st.take (q + 1)) b = (deadB (st.take q) b && !(y.kind == 1 && inNs y b))) := by show _ = _; rw [hy]; exact dead_step st b q hql
                          have HYF : Hid (y.s0 < 18446744073709551616 ∧ y.s1 < 18446744073709551616 ∧ y.s2 < 18446744073709551616 ∧ y.s3 < 18446744073709551616) := HFT8.out y (by rw [hy]; exact List.getElem_mem _)
                          clear hcw hcs hgl hy hql
                          go_upto_region 25 with fail
                          obtain ⟨W25, hW25⟩ : ∃ W25, W25 = wr.alloc (.cells (nsCells y).toArray 56) := ⟨_, rfl⟩
                          have HL25 : Hid (Below w12.heap.size w12 W25) := by rw [hW25]; exact HL3.out.alloc HL3.out.size _
                          have HX25 : Hid (Blk W25 wr.heap.size 56 (nsCells y).toArray) := by rw [hW25]; exact Blk.new _ _ _
                          unfold nsCells at hW25 HX25
                          rw [← hW25]
                          clear hW25 x0 x1 x2 x3 x4 x5 x6 x7
                          obtain ⟨g25, hg25⟩ : ∃ g25, g25 = wr.heap.size := ⟨_, rfl⟩
                          rw [← hg25] at HX25 ⊢
                          clear hg25
                          have HSW : Hid (∀ W, Below W25.heap.size W25 W → (Below W25.heap.size W25 W ∧ W.cell? ⟨g25, 0, none⟩ = some (.int .u8 (y.kind : Int)) ∧ W.cell? ⟨g25, 1, none⟩ = some (.int .u64 (y.s0 : Int)) ∧ W.cell? ⟨g25, 2, none⟩ = some (.int .u64 (y.s1 : Int)) ∧ W.cell? ⟨g25, 3, none⟩ = some (.int .u64 (y.s2 : Int)) ∧ W.cell? ⟨g25, 4, none⟩ = some (.int .u64 (y.s3 : Int)))) := fun W hW => by
                            have h1 := HX25.out.below hW HX25.out.lt
                            have e0 := h1.cell 0
                            have e1 := h1.cell 1
                            have e2 := h1.cell 2
                            have e3 := h1.cell 3
                            have e4 := h1.cell 4
                            simp at e0 e1 e2 e3 e4
                            exact ⟨hW, e0, e1, e2, e3, e4⟩
                          obtain ⟨-, e0, e1, e2, e3, e4⟩ := HSW.out W25 (Below.refl _ _)
                          obtain ⟨D, hD⟩ : ∃ D, D = deadB (st.take q) b := ⟨_, rfl⟩
                          rw [← hD] at HDS ⊢
                          clear hD
                          have HLX : Hid (∀ W, Below W25.heap.size W25 W → Below w12.heap.size w12 W) := fun W hW => low_trans HL25.out hW
                          by_cases hk1 : y.kind = 1
                          · have hkk : ((y.kind : Int) == 1) = true := by rw [beq_iff_eq]; omega
                            have hkn : ((y.kind : Int) != 1) = false := by rw [bne, hkk]; rfl
                            have HDS2 : Hid (deadB (st.take (q + 1)) b = (D && !inNs y b)) := by show _ = _; rw [HDS.out]; simp [hk1]
                            have HIN : Hid (∀ W, Calls Tryd.prog 24 #[.agg #[.int .u64 (y.s0 : Int), .int .u64 (y.s1 : Int), .int .u64 (y.s2 : Int), .int .u64 (y.s3 : Int)], .int .u8 (s[i].toNat : Int)] W fun e w' => e = .returned (.bool (inNs y b)) ∧ Below W.heap.size W w') := fun W => by
                              rw [← HBE.out]
                              exact in_any ⟨y.s0, y.s1, y.s2, y.s3⟩ b hb256 HYF.out W
                            clear hk1 HDS
                            cases D with
                            | false =>
                              go_quiet (fail)
                              go_wp2_with fail
                              exact ⟨⟨q + 1, hlt3, by push_cast; rfl, by rw [HDS2.out]; rfl, HLX.out _ (below_drewNc (Below.refl _ _) _)⟩, by simp [intOf]; omega⟩
                            | true =>
                              have HS1 := Lib.hid (HSW.out _ (Below.refl _ _).drew)
                              obtain ⟨iv, hiv⟩ : ∃ iv, iv = inNs y b := ⟨_, rfl⟩
                              rw [← hiv] at HIN HDS2
                              clear hiv e0 e1 e2 e3 e4
                              go_region_held3 (fun W => Below W25.heap.size W25 W ∧ W.cell? ⟨g25, 0, none⟩ = some (.int .u8 (y.kind : Int)) ∧ W.cell? ⟨g25, 1, none⟩ = some (.int .u64 (y.s0 : Int)) ∧ W.cell? ⟨g25, 2, none⟩ = some (.int .u64 (y.s1 : Int)) ∧ W.cell? ⟨g25, 3, none⟩ = some (.int .u64 (y.s2 : Int)) ∧ W.cell? ⟨g25, 4, none⟩ = some (.int .u64 (y.s3 : Int)))
                                (first | (with_reducible exact HS1.out) | (with_reducible exact HS2.out))
                                ((go_at_call 24; refine (HIN.out _).mono ?_; rintro e w8 ⟨rfl, hb8⟩; have HS2 := Lib.hid (HSW.out _ (low_trans HS1.out.1 hb8)); clear hb8))
                              go_wp2_with fail
                              exact ⟨⟨q + 1, hlt3, by push_cast; rfl, by rw [HDS2.out]; simp, HLX.out _ HS2.out.1⟩, by simp [intOf]; omega⟩
                          · have hkk : ((y.kind : Int) == 1) = false := by rw [beq_eq_false_iff_ne]; omega
                            have hkn : ((y.kind : Int) != 1) = true := by rw [bne, hkk]; rfl
                            have HDS2 : Hid (deadB (st.take (q + 1)) b = D) := by show _ = _; rw [HDS.out]; simp [hk1]
                            clear hk1 HDS
                            cases D with
                            | false =>
                              go_quiet (fail)
                              go_wp2_with fail
                              exact ⟨⟨q + 1, hlt3, by push_cast; rfl, by rw [HDS2.out], HLX.out _ (below_drewNc (Below.refl _ _) _)⟩, by simp [intOf]; omega⟩
                            | true =>
                              go_quiet (fail)
                              go_wp2_with fail
                              exact ⟨⟨q + 1, hlt3, by push_cast; rfl, by rw [HDS2.out], HLX.out _ (below_drewNc (Below.refl _ _) _)⟩, by simp [intOf]; omega⟩
                        · obtain rfl : q = nn := by omega
                          have hdd : deadB (st.take q) b = deadB st b := by rw [← HSN.out, List.take_length]
                          rw [hdd]
                          clear hdd
                          obtain ⟨D, hD⟩ : ∃ D, D = deadB st b := ⟨_, rfl⟩
                          rw [← hD] at HDI ⊢
                          clear hD
                          go_upto_region 28 with fail
                          have h1i : (0 : Int) ≤ (i : Int) + 1 := by omega
                          have h2i : (i : Int) + 1 ≤ (s.size : Int) + 1 := by omega
                          clear HNS8 HFT8 HBE h1i h2i
                          obtain ⟨N, hN⟩ : ∃ N, N = s.size - i := ⟨_, rfl⟩
                          have HNN := Lib.hid hN
                          rw [← hN]
                          clear hN
                          go_loopw [147] (fun u wr4 => ∃ p : Nat, p ≤ N ∧ u = .int .i64 (p : Int) ∧ Hid (Below w12.heap.size w12 wr4)) (fun u _ => N - (intOf u).toNat)
                          case atStart => exact ⟨0, Nat.zero_le _, rfl, HL3.out⟩
                          case round =>
                            as_aux_lemma =>
                              obtain ⟨p, hp, rfl, HL4⟩ := hrel
                              by_cases hlt4 : p < N
                              · have hlt4' : (p : Int) < (N : Int) := by omega
                                have h04 : (0 : Int) ≤ p := by omega
                                have t0 := HT12.out _ HL4.out (i + 1 + p) (by have := HNN.out; omega)
                                have HTV : Hid (D = true → ts9.getD (i + 1 + p) 0 = -1) := fun h => HDI.out _ h (by omega) (by have := HNN.out; omega)
                                have hNb : N ≤ 30 := by have := HNN.out; omega
                                generalize ts9.getD (i + 1 + p) 0 = tv at *
                                cases D with
                                | false =>
                                  go_wp2_with fail
                                  exact ⟨⟨p + 1, by omega, by push_cast; rfl, HL4.out⟩, by simp [intOf]; omega⟩
                                | true =>
                                  obtain rfl : tv = -1 := HTV.out rfl
                                  go_wp2_with fail
                                  exact ⟨⟨p + 1, by omega, by push_cast; rfl, HL4.out⟩, by simp [intOf]; omega⟩
                              · obtain rfl : p = N := by omega
                                go_wp2_with fail
                                exact ⟨⟨i + 1, by omega, by push_cast; rfl, HL4.out⟩, by simp [intOf]; omega⟩
                  · obtain rfl : i = s.size := by omega
                    go_wp2_with fail
                    exact ⟨⟨j + 1, by omega, by push_cast; rfl, HF7.out _ (low_trans HL13.out HL2.out)⟩, by simp [intOf]; omega⟩
          · obtain rfl : j = 2 := by omega
            go_wp2_with (go_at_call 10; refine (HAW.out _ (HFW.out _ HL.out)).mono ?_; rintro e w5 ⟨rfl, hb5⟩; have HL5 := Lib.hid (low_trans (HFW.out _ HL.out) hb5); clear hb5)
            go_ret
            exact ⟨rfl, HL5.out⟩
  · have hdn : decide ((n0 : Int) ≤ 300) = false := decide_eq_false hn3
    rw [hdn] at HF7
    go_wp2_with (first
      | (go_at_call 9; refine (HF7.out _).mono ?_; rintro e w3 ⟨rfl, hb3⟩; have HL3 := Lib.hid (low_trans HL2.out hb3); clear hb3)
      | (go_at_call 10; refine (HAW.out _ HL3.out).mono ?_; rintro e w4 ⟨rfl, hb4⟩; have HL4 := Lib.hid (low_trans HL3.out hb4); clear hb4))
    go_ret
    exact ⟨rfl, HL4.out⟩
end Go.Proofs.YtdckjjkaoecgaaaDoor
