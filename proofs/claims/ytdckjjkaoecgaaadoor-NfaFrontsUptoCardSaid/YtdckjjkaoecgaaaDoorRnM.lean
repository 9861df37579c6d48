/-
  The lists that regex.nodes walks by: what they still hold, in which order. No conditions.
-/
import Derived.Test.YtdckjjkaoecgaaaDoorRnL
import Derived.Test.YtdckjjkaoecgaaaDoorRxB
import Derived.Deep.LoopGhost
namespace Go.Proofs.YtdckjjkaoecgaaaDoor
open Go.RowKit Go.Shelf

theorem RyIn.keepX {X : Nat → Prop} {w w' : World} {S : Nat → Prop} {a : Option Addr} {c : Nat} {ks : List Ry} (h : RyIn w S a c ks) (hk : KeepX X w w') (hS : ∀ b, S b → ¬ X b) : RyIn w' S a c ks := by
  induction h with
  | nil a c => exact .nil a c
  | row ks b off c hSb hlt hn hcap hm hok hc hkk ih => exact .row ks b off c hSb (Nat.lt_of_lt_of_le hlt hk.size) hn hcap hm hok (fun i h j u hu => hk.cell (p := ⟨b, off + i * 6 + j, none⟩) (hS b hSb) (hc i h j u hu)) ih
theorem ownsRow_keepX {X : Nat → Prop} {w w' : World} {B sz n : Nat} {e : TypeId} {v : Value} {xs : List Value} (h : w.ownsRow B e sz v n xs) (hk : KeepX X w w') (hX : ∀ b, X b → b < B) : w'.ownsRow B e sz v n xs := by
  refine ⟨h.1, ?_⟩
  rcases h.2 with hn | ⟨g, cap, cur, hv, hb, hg, rest⟩
  · exact .inl hn
  · exact .inr ⟨g, cap, cur, hv, hb, hk.same _ _ _ _ (fun hx => by have := hX _ hx; omega) hg, rest⟩
/-- the first places -/
def finTo (q : Nat) : (k : Nat) → k ≤ q → List (Fin q)
  | 0, _ => []
  | k + 1, h => finTo q k (by omega) ++ [⟨k, by omega⟩]
theorem finTo_len (q : Nat) : ∀ k h, (finTo q k h).length = k
  | 0, _ => rfl
  | k + 1, h => by simp [finTo, finTo_len q k]
/-- a list that is under way: where it lies, its bound, what is left of it -/
abbrev Ent := Option Addr × Nat × List Ry
def entV (e : Ent) : Value := .slice e.1 e.2.2.length e.2.1
/-- what the lists still hold, the last list ahead -/
def pendS : List Ent → List Ry
  | [] => []
  | e :: r => pendS r ++ preL e.2.2
theorem pendS_snoc (l : List Ent) (e : Ent) : pendS (l ++ [e]) = preL e.2.2 ++ pendS l := by
  induction l with
  | nil => simp [pendS]
  | cons x r ih => simp [pendS, ih, List.append_assoc]
/-- the lists lie in a row of the call's own; so much of the walk is done -/
structure Stk (S : Nat → Prop) (base : Nat) (t : Ry) (k g c : Nat) (st : List Ent) (w : World) : Prop where
  own : w.ownsRow base 22 1 (.slice (some ⟨g, 0, none⟩) st.length c) st.length (st.map entV)
  ins : ∀ e ∈ st, RyIn w S e.1 e.2.1 e.2.2
  pend : (preR t).drop k = pendS st
  len : st.length ≤ k + 1
theorem Stk.row {S : Nat → Prop} {base : Nat} {t : Ry} {k g c : Nat} {st : List Ent} {w : World} (h : Stk S base t k g c st w) :
    ∃ cur, Blk w g 22 cur ∧ base ≤ g ∧ st.length ≤ c ∧ c ≤ maxLen ∧ cur.size = c ∧ ∀ i (hi : i < st.length), cur[i]? = some (entV st[i]) := by
  rcases h.own.2 with ⟨hn, _⟩ | ⟨g', c', cur, hv, hb, hg, hn, hm, hs, ht⟩
  · cases hn
  · injection hv with h1 h2 h3
    injection h1 with h1
    injection h1 with h1
    subst h1 h3
    refine ⟨cur, hg, hb, hn, hm, by omega, fun i hi => ?_⟩
    have := congrArg (fun l => l[i]?) ht
    simp only [List.getElem?_take, Nat.mul_one, if_pos hi, List.getElem?_map, List.getElem?_eq_getElem hi, Option.map_some] at this
    simpa using this
theorem Stk.mk_row {S : Nat → Prop} {base : Nat} {t : Ry} {k g c : Nat} {st : List Ent} {w : World} {cur : Array Value} (hg : Blk w g 22 cur) (hb : base ≤ g) (hn : st.length ≤ c) (hm : c ≤ maxLen) (hs : cur.size = c) (ht : ∀ i (hi : i < st.length), cur[i]? = some (entV st[i]))
    (ins : ∀ e ∈ st, RyIn w S e.1 e.2.1 e.2.2) (pend : (preR t).drop k = pendS st) (len : st.length ≤ k + 1) : Stk S base t k g c st w := by
  refine ⟨⟨by simp, .inr ⟨g, c, cur, rfl, hb, hg, hn, hm, by omega, ?_⟩⟩, ins, pend, len⟩
  refine List.ext_getElem? fun i => ?_
  by_cases hi : i < st.length
  · rw [List.getElem?_take, Nat.mul_one, if_pos hi, List.getElem?_map, List.getElem?_eq_getElem hi]
    simpa using ht i hi
  · rw [List.getElem?_eq_none (by simp; omega), List.getElem?_eq_none (by simp; omega)]
/-- the first: the tree alone -/
theorem Stk.start {S : Nat → Prop} {base B0 g : Nat} {t : Ry} {w : World} (hg : Blk w g 22 #[.slice (some ⟨B0, 0, none⟩) 1 1]) (hb : base ≤ g) (hB0 : Blk w B0 46 (ryCells t).toArray) (hS : S B0) (hok : ryOk t) (hk : RyIn w S t.a t.cap t.kids) : Stk S base t 0 g 1 [(some ⟨B0, 0, none⟩, 1, [t])] w := by
  refine Stk.mk_row hg hb (Nat.le_refl _) (by decide) rfl (fun i hi => ?_) (fun e he => ?_) ?_ (Nat.le_refl _)
  · match i, hi with
    | 0, _ => rfl
  · obtain rfl := List.mem_singleton.1 he
    refine .row [t] B0 0 1 hS hB0.lt (by simp) (Nat.le_refl _) (by simp [maxLen]) (fun i hi => ?_) (fun i hi j u hu => ?_) (fun i hi => ?_) <;> (have hi : i = 0 := by simpa using hi) <;> subst hi
    · exact hok
    · rw [hB0.cell]
      simpa using hu
    · exact hk
  · simp [pendS, preL]
/-- the last list is done -/
theorem Stk.pop {S : Nat → Prop} {base : Nat} {t : Ry} {k g c : Nat} {st : List Ent} {e : Ent} {w : World} (h : Stk S base t k g c (st ++ [e]) w) (he : e.2.2 = []) : Stk S base t k g c st w := by
  obtain ⟨cur, hg, hb, hn, hm, hs, ht⟩ := h.row
  have hl := h.len
  simp at hn hl
  refine Stk.mk_row hg hb (by omega) hm hs (fun i hi => ?_) (fun x hx => h.ins x (List.mem_append_left _ hx)) ?_ (by omega)
  · have := ht i (by simp; omega)
    rwa [List.getElem_append_left hi] at this
  · rw [h.pend, pendS_snoc, he]
    rfl
theorem Stk.last {S : Nat → Prop} {base : Nat} {t : Ry} {k g c : Nat} {st : List Ent} {e : Ent} {w : World} (h : Stk S base t k g c (st ++ [e]) w) : w.cell? ⟨g, st.length, none⟩ = some (entV e) ∧ w.frozen? ⟨g, st.length, none⟩ = false ∧ RyIn w S e.1 e.2.1 e.2.2 := by
  obtain ⟨cur, hg, hb, hn, hm, hs, ht⟩ := h.row
  refine ⟨?_, hg.frozen _, h.ins e (by simp)⟩
  rw [hg.cell, ht st.length (by simp)]
  simp
theorem Stk.later {S : Nat → Prop} {base : Nat} {t : Ry} {k g c : Nat} {st : List Ent} {w w' : World} (h : Stk S base t k g c st w) (hg : w'.heap[g]? = w.heap[g]?) (hi : ∀ e ∈ st, RyIn w' S e.1 e.2.1 e.2.2) : Stk S base t k g c st w' := by
  obtain ⟨cur, hgb, hb, hn, hm, hs, ht⟩ := h.row
  exact Stk.mk_row (hg.trans hgb) hb hn hm hs ht hi h.pend h.len
/-- the last list's first is taken off -/
theorem Stk.take {S : Nat → Prop} {base : Nat} {t x : Ry} {k g c cc : Nat} {a a' : Option Addr} {rest : List Ry} {st : List Ent} {w w' : World} (h : Stk S base t k g c (st ++ [(a, cc, x :: rest)]) w) (hw : w' = w.setCell ⟨g, st.length, none⟩ (.slice a' rest.length (cc - 1)))
    (hS : ∀ b, S b → b < base) (ha : RyIn w S a' (cc - 1) rest) :
    (w'.ownsRow base 22 1 (.slice (some ⟨g, 0, none⟩) (st.length + 1) c) (st.length + 1) ((st ++ [(a', cc - 1, rest)]).map entV)) ∧ (∀ e ∈ st ++ [(a', cc - 1, rest)], RyIn w' S e.1 e.2.1 e.2.2) ∧ (preR t).drop (k + 1) = preL x.kids ++ pendS (st ++ [(a', cc - 1, rest)]) ∧ (preR t)[k]? = some x ∧ Below base w w' := by
  obtain ⟨cur, hg, hb, hn, hm, hs, ht⟩ := h.row
  have hbl : Below base w w' := by rw [hw]; exact (Below.refl _ w).setCell (p := ⟨g, st.length, none⟩) hb _
  have hgt : g < w.heap.size := hg.lt
  have ry : ∀ (a : Option Addr) (c : Nat) (ks : List Ry), RyIn w S a c ks → RyIn w' S a c ks := fun a c ks hr => hr.later hbl.size (fun b _ hSb => ⟨hSb, hbl.block b (hS b hSb)⟩)
  have hp : (preR t).drop k = x :: (preL x.kids ++ pendS (st ++ [(a', cc - 1, rest)])) := by
    rw [h.pend, pendS_snoc, pendS_snoc]
    show preL (x :: rest) ++ _ = _
    rw [preL_cons]
    simp
  have hrow : ∀ i (hi : i < (st ++ [(a', cc - 1, rest)]).length), (cur.setIfInBounds st.length (.slice a' rest.length (cc - 1)))[i]? = some (entV (st ++ [(a', cc - 1, rest)])[i]) := fun i hi => by
    have hl : st.length < cur.size := by simp at hn; omega
    by_cases hi2 : i < st.length
    · rw [Array.getElem?_setIfInBounds_ne (by omega), ht i (by simp; omega), List.getElem_append_left hi2, List.getElem_append_left hi2]
    · obtain rfl : i = st.length := by simp at hi; omega
      rw [Array.getElem?_setIfInBounds_self_of_lt hl]
      simp [entV]
  have hlen : (st ++ [(a', cc - 1, rest)]).length = st.length + 1 := by simp
  have hst : Stk S base (Ry.mk 0 0 0 0 0 none 0 []) (st.length + 1) g c (st ++ [(a', cc - 1, rest)]) w' → w'.ownsRow base 22 1 (.slice (some ⟨g, 0, none⟩) (st.length + 1) c) (st.length + 1) ((st ++ [(a', cc - 1, rest)]).map entV) := fun h => by
    have := h.own
    rwa [hlen] at this
  refine ⟨?_, fun e he => ?_, ?_, ?_, hbl⟩
  · refine ⟨by simp, .inr ⟨g, c, cur.setIfInBounds st.length (.slice a' rest.length (cc - 1)), rfl, hb, ?_, by simp at hn; omega, hm, by simpa using hs, ?_⟩⟩
    · rw [hw]; exact hg.set_ _ _
    · refine List.ext_getElem? fun i => ?_
      by_cases hi : i < st.length + 1
      · have hlt : i < (st ++ [(a', cc - 1, rest)]).length := by rw [hlen]; exact hi
        rw [List.getElem?_take, Nat.mul_one, if_pos hi, List.getElem?_map, List.getElem?_eq_getElem hlt]
        rw [Array.getElem?_toList, hrow i hlt]
        rfl
      · rw [List.getElem?_eq_none (by simp; omega), List.getElem?_eq_none (by simp; omega)]
  · rcases List.mem_append.1 he with he | he
    · exact ry _ _ _ (h.ins e (List.mem_append_left _ he))
    · obtain rfl := List.mem_singleton.1 he
      exact ry _ _ _ ha
  · rw [← List.drop_drop, hp]
    rfl
  · have := congrArg (fun l => l[0]?) hp
    simpa using this
end Go.Proofs.YtdckjjkaoecgaaaDoor
