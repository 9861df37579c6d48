/-
  The lists that classes.eachSet walks by. No conditions.
-/
import Derived.Test.YtlaccbkhlkomhaaCpC
import Derived.Test.YtlaccbkhlkomhaaRnM
namespace Go.Proofs.Ytlaccbkhlkomhaa
open Go.RowKit Go.Shelf

def SetIn (l : List Ry) (s : St) : Prop := ∃ x ∈ l, x.kind = 1 ∧ x.set = s
theorem SetIn.app (l m : List Ry) (s : St) : SetIn (l ++ m) s ↔ SetIn l s ∨ SetIn m s := by
  unfold SetIn
  constructor
  · rintro ⟨x, hx, h⟩
    rcases List.mem_append.1 hx with hx | hx
    · exact .inl ⟨x, hx, h⟩
    · exact .inr ⟨x, hx, h⟩
  · rintro (⟨x, hx, h⟩ | ⟨x, hx, h⟩)
    · exact ⟨x, List.mem_append_left _ hx, h⟩
    · exact ⟨x, List.mem_append_right _ hx, h⟩
theorem SetIn.cons (x : Ry) (m : List Ry) (s : St) : SetIn (x :: m) s ↔ (x.kind = 1 ∧ x.set = s) ∨ SetIn m s := by
  unfold SetIn
  simp
theorem SetIn.nil (s : St) : ¬ SetIn [] s := fun ⟨_, h, _⟩ => by cases h
theorem own_row {B g c n : Nat} {t : TypeId} {w : World} {xs : List Value} (h : w.ownsRow B t 1 (.slice (some ⟨g, 0, none⟩) n c) n xs) : ∃ cur, Blk w g t cur ∧ B ≤ g ∧ n ≤ c ∧ c ≤ maxLen ∧ cur.size = c ∧ ∀ i (hi : i < xs.length), cur[i]? = some xs[i] := by
  have hxl := h.1
  rcases h.2 with ⟨hn, _⟩ | ⟨g', c', cur, hv, hb, hg, hn, hm, hs, ht⟩
  · cases hn
  · injection hv with h1 h2 h3
    injection h1 with h1
    injection h1 with h1
    subst h1 h3
    refine ⟨cur, hg, hb, hn, hm, by omega, fun i hi => ?_⟩
    have := congrArg (fun l => l[i]?) ht
    simp only [List.getElem?_take, Nat.mul_one] at this
    rw [if_pos (by omega), List.getElem?_eq_getElem hi] at this
    simpa using this
theorem row_own {B g c n : Nat} {t : TypeId} {w : World} {xs : List Value} {cur : Array Value} (hg : Blk w g t cur) (hb : B ≤ g) (hn : n ≤ c) (hm : c ≤ maxLen) (hs : cur.size = c) (hl : xs.length = n) (ht : ∀ i (hi : i < xs.length), cur[i]? = some xs[i]) : w.ownsRow B t 1 (.slice (some ⟨g, 0, none⟩) n c) n xs := by
  refine ⟨by omega, .inr ⟨g, c, cur, rfl, hb, hg, hn, hm, by omega, ?_⟩⟩
  refine List.ext_getElem? fun i => ?_
  by_cases hi : i < n
  · rw [List.getElem?_take, Nat.mul_one, if_pos hi, List.getElem?_eq_getElem (l := xs) (by omega)]
    simpa using ht i (by omega)
  · rw [List.getElem?_eq_none (l := xs) (by omega), List.getElem?_eq_none (by simp; omega)]
/-- what is ahead: lists, and nodes of the list under way -/
structure Ahd (C : Nat) (w0 : World) (ls : List Ry) (V : List St) (g c : Nat) (st : List Ent) (mid : List Ry) (w : World) : Prop where
  own : w.ownsRow w0.heap.size 22 1 (.slice (some ⟨g, 0, none⟩) st.length c) st.length (st.map entV)
  ins : ∀ e ∈ st, RyIn w (fun b => b < w0.heap.size ∧ b ≠ C) e.1 e.2.1 e.2.2
  only : Only C w0 w
  cl : Blk w C 25 (clV V)
  sets : ∀ s, SetIn (preL ls) s ↔ (s ∈ V ∨ SetIn (mid ++ pendS st) s)
def mu (st : List Ent) : Nat := (pendS st).length + st.length
theorem mu_snoc (st : List Ent) (e : Ent) : mu (st ++ [e]) = mu st + (preL e.2.2).length + 1 := by
  unfold mu
  rw [pendS_snoc]
  simp
  omega
section
variable {C : Nat} {w0 : World} {ls : List Ry} {V : List St} {g c : Nat} {st : List Ent} {mid : List Ry} {w : World}
theorem RyIn.onlyC {S : Nat → Prop} {w w' : World} {a : Option Addr} {n : Nat} {ks : List Ry} (h : RyIn w S a n ks) (ho : Only C w w') (hS : ∀ b, S b → b ≠ C) : RyIn w' S a n ks :=
  h.later ho.size (fun b hlt hb => ⟨hb, ho.block b hlt (fun e => hS b hb (by injection e))⟩)
theorem Only.trans_grown {C g : Nat} {a w w' : World} (h : Only C a w) (hb : w.grownBy w' (some g)) (hg : a.heap.size ≤ g) : Only C a w' :=
  ⟨hb.os.trans h.os, hb.tape.trans h.tape, hb.output.trans h.output, Nat.le_trans h.size hb.size, fun k hk hne => (hb.block k (Nat.lt_of_lt_of_le hk h.size) (fun e => by injection e with e; omega)).trans (h.block k hk hne)⟩
theorem Ahd.later (h : Ahd C w0 ls V g c st mid w) {w' : World} (hb : Below w.heap.size w w') : Ahd C w0 ls V g c st mid w' :=
  ⟨h.own.kept (row := none) ⟨hb.os, hb.tape, hb.output, hb.size, fun i hi _ => hb.block i hi⟩ (by cases (Value.slice (some ⟨g, 0, none⟩) st.length c).ownBlock <;> simp), fun e he => (h.ins e he).on hb, h.only.trans (Only.of_below hb), h.cl.below hb h.cl.lt, h.sets⟩
theorem Ahd.start {a : Option Addr} {n : Nat} (hC : Blk w0 C 25 (clV [])) (hr : RyIn w0 (fun b => b < w0.heap.size ∧ b ≠ C) a n ls) :
    Ahd C w0 ls [] w0.heap.size 1 [(a, n, ls)] [] (w0.alloc (.cells #[.slice a ls.length n] 22)) := by
  have hb : Below w0.heap.size w0 (w0.alloc (.cells #[.slice a ls.length n] 22)) := (Below.refl _ _).alloc (Nat.le_refl _) _
  refine ⟨row_own (Blk.new _ _ _) (Nat.le_refl _) (Nat.le_refl _) (by decide) rfl rfl (fun i hi => ?_), fun e he => ?_, Only.of_below hb, hC.alloc _, fun s => ?_⟩
  · match i, hi with
    | 0, _ => rfl
  · obtain rfl := List.mem_singleton.1 he
    exact hr.on hb
  · simp [pendS]
theorem Ahd.last {e : Ent} (h : Ahd C w0 ls V g c (st ++ [e]) mid w) : w.cell? ⟨g, st.length, none⟩ = some (entV e) ∧ w.frozen? ⟨g, st.length, none⟩ = false ∧ RyIn w (fun b => b < w0.heap.size ∧ b ≠ C) e.1 e.2.1 e.2.2 := by
  obtain ⟨cur, hg, hb, hn, hm, hs, ht⟩ := own_row h.own
  refine ⟨?_, hg.frozen _, h.ins e (by simp)⟩
  rw [hg.cell, ht st.length (by simp)]
  simp
theorem Ahd.pop {e : Ent} (h : Ahd C w0 ls V g c (st ++ [e]) [] w) : Ahd C w0 ls V g c st (preL e.2.2) w := by
  obtain ⟨cur, hg, hb, hn, hm, hs, ht⟩ := own_row h.own
  simp at hn
  refine ⟨row_own hg hb (by omega) hm hs (by simp) (fun i hi => ?_), fun x hx => h.ins x (List.mem_append_left _ hx), h.only, h.cl, fun s => ?_⟩
  · have := ht i (by simp at hi ⊢; omega)
    rw [this]
    simp only [List.getElem_map]
    rw [List.getElem_append_left]
  · rw [h.sets, pendS_snoc]
    rfl
theorem Ahd.bound (h : Ahd C w0 ls V g c st mid w) : st.length ≤ c ∧ c ≤ maxLen ∧ w0.heap.size ≤ g := by
  obtain ⟨cur, hg, hb, hn, hm, hs, ht⟩ := own_row h.own
  exact ⟨hn, hm, hb⟩
theorem Ahd.did {x : Ry} (h : Ahd C w0 ls V g c st (x :: mid) w) (hC : C < w0.heap.size) {w' : World} (ho : Only C w w') (hb : Blk w' C 25 (clV (V ++ [x.set]))) (hk : x.kind = 1) : Ahd C w0 ls (V ++ [x.set]) g c st mid w' := by
  have hbd := h.bound.2.2
  refine ⟨h.own.kept ho (.inr (fun e => ?_)), fun e he => (h.ins e he).onlyC ho (fun b hb => hb.2), h.only.trans ho, hb, fun s => ?_⟩
  · have e : g = C := by injection e
    omega
  · rw [h.sets, List.cons_append, SetIn.cons, List.mem_append, List.mem_singleton]
    constructor
    · rintro (h | ⟨_, h⟩ | h)
      · exact .inl (.inl h)
      · exact .inl (.inr h.symm)
      · exact .inr h
    · rintro ((h | h) | h)
      · exact .inl h
      · exact .inr (.inl ⟨hk, h.symm⟩)
      · exact .inr (.inr h)
theorem Ahd.skip {x : Ry} (h : Ahd C w0 ls V g c st (x :: mid) w) (hk : x.kind ≠ 1) : Ahd C w0 ls V g c st mid w := by
  refine ⟨h.own, h.ins, h.only, h.cl, fun s => ?_⟩
  rw [h.sets, List.cons_append, SetIn.cons]
  constructor
  · rintro (h | ⟨h, _⟩ | h)
    · exact .inl h
    · exact absurd h hk
    · exact .inr h
  · rintro (h | h)
    · exact .inl h
    · exact .inr (.inr h)
theorem Ahd.push {a : Option Addr} {n : Nat} {ks m : List Ry} (h : Ahd C w0 ls V g c st (preL ks ++ m) w) {w' : World} {g' c' : Nat} (hC : C < w0.heap.size) (hr : RyIn w (fun b => b < w0.heap.size ∧ b ≠ C) a n ks) (hb : w.grownBy w' (some g))
    (ho : w'.ownsRow w0.heap.size 22 1 (.slice (some ⟨g', 0, none⟩) (st.length + 1) c') (st.length + 1) ((st ++ [(a, n, ks)]).map entV)) : Ahd C w0 ls V g' c' (st ++ [(a, n, ks)]) m w' := by
  have hbd := h.bound.2.2
  have keep : ∀ k, k < w0.heap.size → k < w.heap.size → w'.heap[k]? = w.heap[k]? := fun k hk hkw => hb.block k hkw (fun e => by injection e with e; omega)
  refine ⟨by simpa using ho, fun e he => ?_, ?_, ?_, fun s => ?_⟩
  · have : RyIn w (fun b => b < w0.heap.size ∧ b ≠ C) e.1 e.2.1 e.2.2 := by
      rcases List.mem_append.1 he with he | he
      · exact h.ins e he
      · obtain rfl := List.mem_singleton.1 he
        exact hr
    exact this.later hb.size (fun b hlt hS => ⟨hS, keep b hS.1 hlt⟩)
  · exact h.only.trans_grown hb (by omega)
  · exact (hb.block C h.cl.lt (fun e => by injection e with e; omega)).trans h.cl
  · rw [h.sets, pendS_snoc, List.append_assoc, SetIn.app, SetIn.app, SetIn.app, SetIn.app]
    constructor
    · rintro (h | h | h | h)
      · exact .inl h
      · exact .inr (.inr (.inl h))
      · exact .inr (.inl h)
      · exact .inr (.inr (.inr h))
    · rintro (h | h | h | h)
      · exact .inl h
      · exact .inr (.inr (.inl h))
      · exact .inr (.inl h)
      · exact .inr (.inr (.inr h))
end
end Go.Proofs.Ytlaccbkhlkomhaa
