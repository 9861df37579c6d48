/-
  What the parts of a table's bytes are, place by place. No conditions.
-/
import Derived.Test.YtkgfjapflpjdbaaTrG
namespace Go.Proofs.Ytkgfjapflpjdbaa
open Go.RowKit

def byteN (l : List UInt8) (k : Nat) : Nat := (l.getD k 0).toNat
theorem byteN_of {l r : List UInt8} {k : Nat} {c : UInt8} (h : l.drop k = c :: r) : byteN l k = c.toNat ∧ k < l.length ∧ l.drop (k + 1) = r := by
  have hl := congrArg List.length h
  rw [List.length_drop, List.length_cons] at hl
  refine ⟨?_, by omega, ?_⟩
  · unfold byteN
    have := congrArg (fun x => x[0]?) h
    simp only [List.getElem?_drop, Nat.add_zero, List.getElem?_cons_zero] at this
    rw [List.getD_eq_getElem?_getD, this]
    rfl
  · rw [← List.drop_drop, h]
    rfl
theorem byteN_get {l : List UInt8} {k : Nat} (h : k < l.length) : byteN l k = l[k].toNat := by
  unfold byteN
  rw [List.getD_eq_getElem?_getD, List.getElem?_eq_getElem h]
  rfl
theorem byteN_lt (l : List UInt8) (k : Nat) : byteN l k < 256 := (l.getD k 0).toNat_lt
/-- what is known of bytes that are a table's -/
structure RefP (l : List UInt8) (T : Tab) : Prop where
  right : RightT T
  rb : tabRightB T = true
  of : T.of.length = 256
  pack : packP T = l
  seven : 7 ≤ l.length
  many : (byteN l 3 : Int) + 1 = T.dmany
  states : byteN l 4 * 256 + byteN l 5 = T.tags.length
  names : byteN l 6 = T.names.length
  rest : l.drop 7 = namesP T.names ++ (T.of ++ (tagsP T.tags ++ nextP T.next))
theorem refP {l : List UInt8} (h : readB l = true) : RefP l (readT l) := by
  obtain ⟨e1, e2, e3⟩ := pack_read l h
  have hr := (rightT_iff _).1 e2
  obtain ⟨hn1, hn2⟩ := names_short2 hr.names
  have h1 := hr.lo
  have h2 := hr.hi
  have h3 := hr.thi
  generalize readT l = T at *
  have hl : l = [70, 84, 1, byteOf (T.dmany - 1), hiB T.tags.length, loB T.tags.length, UInt8.ofNat T.names.length] ++ (namesP T.names ++ (T.of ++ (tagsP T.tags ++ nextP T.next))) := by
    rw [← e1]
    unfold packP headP twoOf
    rw [Int.toNat_natCast]
    simp
  refine ⟨hr, e2, e3, e1, by rw [hl]; simp, ?_, ?_, ?_, by rw [hl]; rfl⟩
  · have := (byteN_of (l := l) (k := 3) (by rw [hl]; rfl)).1
    rw [this, byteOf_nat _ (by omega) (by omega)]
    omega
  · have a1 := (byteN_of (l := l) (k := 4) (by rw [hl]; rfl)).1
    have a2 := (byteN_of (l := l) (k := 5) (by rw [hl]; rfl)).1
    have b1 := hiB_nat T.tags.length (by omega)
    have b2 := loB_nat T.tags.length
    rw [a1, a2]
    omega
  · have := (byteN_of (l := l) (k := 6) (by rw [hl]; rfl)).1
    rw [this, UInt8.toNat_ofNat']
    omega
/-- where a name begins -/
def nameAt (T : Tab) (i : Nat) : Nat := 7 + (namesP (T.names.take i)).length
theorem nameAt_zero (T : Tab) : nameAt T 0 = 7 := rfl
theorem RefP.drop {l : List UInt8} {T : Tab} (h : RefP l T) (i : Nat) (hi : i ≤ T.names.length) : l.drop (nameAt T i) = namesP (T.names.drop i) ++ (T.of ++ (tagsP T.tags ++ nextP T.next)) := by
  unfold nameAt
  rw [← List.drop_drop, h.rest]
  have e : namesP T.names = namesP (T.names.take i) ++ namesP (T.names.drop i) := by
    unfold namesP
    rw [← List.flatMap_append, List.take_append_drop]
  rw [e, List.append_assoc, List.drop_left]
theorem RefP.name {l : List UInt8} {T : Tab} (h : RefP l T) (i : Nat) (hi : i < T.names.length) : nameAt T i < l.length ∧ byteN l (nameAt T i) = T.names[i].length ∧ nameAt T i + 1 + T.names[i].length ≤ l.length ∧ (l.drop (nameAt T i + 1)).take T.names[i].length = T.names[i] ∧ nameAt T (i + 1) = nameAt T i + 1 + T.names[i].length := by
  have hd := h.drop i (by omega)
  rw [List.drop_eq_getElem_cons hi] at hd
  have e : namesP (T.names[i] :: T.names.drop (i + 1)) = nameBytes T.names[i] ++ namesP (T.names.drop (i + 1)) := List.flatMap_cons ..
  rw [e] at hd
  obtain ⟨a1, a2, a3⟩ := byteN_of (l := l) (k := nameAt T i) (c := UInt8.ofNat T.names[i].length) (r := T.names[i] ++ (namesP (T.names.drop (i + 1)) ++ (T.of ++ (tagsP T.tags ++ nextP T.next)))) (by rw [hd]; unfold nameBytes; simp)
  have hs := (names_short2 h.right.names).2 _ (List.getElem_mem hi)
  have hl := congrArg List.length a3
  rw [List.length_drop, List.length_append] at hl
  refine ⟨a2, by rw [a1, UInt8.toNat_ofNat']; omega, by omega, by rw [a3, List.take_left], ?_⟩
  unfold nameAt
  rw [namesP_snoc T.names i hi]
  simp
  omega
/-- where the classes begin -/
theorem RefP.tail {l : List UInt8} {T : Tab} (h : RefP l T) : l.drop (nameAt T T.names.length) = T.of ++ (tagsP T.tags ++ nextP T.next) ∧ l.length = nameAt T T.names.length + 256 + T.tags.length + 2 * T.next.length := by
  have hd := h.drop T.names.length (Nat.le_refl _)
  rw [List.drop_length] at hd
  refine ⟨hd, ?_⟩
  have hl := congrArg List.length hd
  have hx : (nextP T.next).length = 2 * T.next.length := nextP_len _
  have ht : (tagsP T.tags).length = T.tags.length := by unfold tagsP; simp
  rw [List.length_drop] at hl
  simp only [List.length_append, h.of, ht, hx] at hl
  have hh : namesP ([] : List (List UInt8)) = [] := rfl
  rw [hh] at hl
  simp only [List.length_nil] at hl
  have hle : nameAt T T.names.length ≤ l.length := by omega
  omega
theorem RefP.ofAt {l : List UInt8} {T : Tab} (h : RefP l T) (k : Nat) (hk : k < T.of.length) : byteN l (nameAt T T.names.length + k) = T.of[k].toNat := by
  have hd := h.tail.1
  refine (byteN_of (l := l) (r := T.of.drop (k + 1) ++ (tagsP T.tags ++ nextP T.next)) ?_).1
  rw [← List.drop_drop, hd, List.drop_append_of_le_length (by omega), List.drop_eq_getElem_cons hk]
  rfl
theorem RefP.tagAt {l : List UInt8} {T : Tab} (h : RefP l T) (k : Nat) (hk : k < T.tags.length) : (byteN l (nameAt T T.names.length + 256 + k) : Int) - 1 = T.tags[k] := by
  have hd := h.tail.1
  have ht : (tagsP T.tags).length = T.tags.length := by unfold tagsP; simp
  have hz := h.right.tags _ (List.getElem_mem hk)
  have e : l.drop (nameAt T T.names.length + 256 + k) = byteOf (T.tags[k] + 1) :: ((tagsP T.tags).drop (k + 1) ++ nextP T.next) := by
    rw [← List.drop_drop, ← List.drop_drop, hd, ← h.of, List.drop_left, List.drop_append_of_le_length (by omega), List.drop_eq_getElem_cons (by omega)]
    have : (tagsP T.tags)[k]'(by omega) = byteOf (T.tags[k] + 1) := by unfold tagsP; rw [List.getElem_map]
    rw [this]
    rfl
  rw [(byteN_of e).1, byteOf_nat _ (by omega) (by omega)]
  omega
theorem RefP.nextAt {l : List UInt8} {T : Tab} (h : RefP l T) (k : Nat) (hk : k < T.next.length) : ((byteN l (nameAt T T.names.length + 256 + T.tags.length + 2 * k) * 256 + byteN l (nameAt T T.names.length + 256 + T.tags.length + 2 * k + 1) : Nat) : Int) - 1 = T.next[k] := by
  have hd := h.tail.1
  have ht : (tagsP T.tags).length = T.tags.length := by unfold tagsP; simp
  have hz := h.right.next _ (List.getElem_mem hk)
  have h5 := h.right.thi
  have hx : ∀ L : List Int, ∀ j, (hj : j < L.length) → (nextP L).drop (2 * j) = twoOf (L[j] + 1) ++ nextP (L.drop (j + 1)) := fun L j hj => by
    have e : nextP L = nextP (L.take j) ++ (twoOf (L[j] + 1) ++ nextP (L.drop (j + 1))) := by
      conv => lhs; rw [← List.take_append_drop j L, List.drop_eq_getElem_cons hj]
      unfold nextP
      rw [List.flatMap_append, List.flatMap_cons]
    have e2 : (nextP (L.take j)).length = 2 * j := by rw [nextP_len, List.length_take]; omega
    rw [e, ← e2, List.drop_left]
  have e : l.drop (nameAt T T.names.length + 256 + T.tags.length + 2 * k) = hiB (T.next[k] + 1).toNat :: loB (T.next[k] + 1).toNat :: nextP (T.next.drop (k + 1)) := by
    rw [← List.drop_drop, ← List.drop_drop, ← List.drop_drop, hd]
    rw [show (T.of ++ (tagsP T.tags ++ nextP T.next)).drop 256 = tagsP T.tags ++ nextP T.next from by rw [← h.of, List.drop_left]]
    rw [show (tagsP T.tags ++ nextP T.next).drop T.tags.length = nextP T.next from by rw [← ht, List.drop_left]]
    rw [hx _ k hk]
    rfl
  obtain ⟨a1, a2, a3⟩ := byteN_of e
  obtain ⟨c1, _, _⟩ := byteN_of a3
  have b1 := hiB_nat (T.next[k] + 1).toNat (by omega)
  have b2 := loB_nat (T.next[k] + 1).toNat
  rw [a1, c1]
  omega
end Go.Proofs.Ytkgfjapflpjdbaa
