/-
  Rows of one's own: as slices that are read; rows and blocks of different types lie apart. No conditions.
-/
import Derived.Test.YtjgadocojdieeaaGreatDoorGa
import Derived.Laws.AppendOwn
namespace Go.Proofs.YtjgadocojdieeaaGreatDoor
open Go.RowKit

theorem own_slice {B n sz : Nat} {e : TypeId} {W : World} {v : Value} {l : List Value} (h : W.ownsRow B e sz v n l) (hm : l.length ≤ maxLen) : ∃ a c, v = .slice a n c ∧ RowAt W a l := by
  have h' := h
  obtain ⟨h1, h2⟩ := h
  rcases h2 with ⟨e1, h0⟩ | ⟨g, cap, cur, e1, _⟩
  · subst e1
    subst h0
    exact ⟨none, 0, rfl, row_of_own h' hm⟩
  · subst e1
    exact ⟨_, cap, rfl, row_of_own h' hm⟩
theorem own_apart {W : World} {B1 B2 z1 z2 n1 n2 : Nat} {e1 e2 : TypeId} {v1 v2 : Value} {x1 x2 : List Value} (h1 : W.ownsRow B1 e1 z1 v1 n1 x1) (h2 : W.ownsRow B2 e2 z2 v2 n2 x2) (hne : e1 ≠ e2) : v1.ownBlock = none ∨ v1.ownBlock ≠ v2.ownBlock := by
  rcases h1.2 with ⟨e, _⟩ | ⟨g, cap, cur, e, _, hb, _⟩
  · subst e; exact .inl rfl
  · subst e
    rcases h2.2 with ⟨e', _⟩ | ⟨g', cap', cur', e', _, hb', _⟩
    · subst e'; exact .inr (by simp [Value.ownBlock])
    · subst e'
      refine .inr (fun h => hne ?_)
      simp only [Value.ownBlock, Option.some.injEq] at h
      subst h
      rw [hb] at hb'
      injection hb' with hb'
      injection hb'
theorem blk_apart {W : World} {B z n g : Nat} {e t : TypeId} {v : Value} {x : List Value} {cs : Array Value} (h : W.ownsRow B e z v n x) (hb : Blk W g t cs) (hne : t ≠ e) : some g ≠ v.ownBlock := by
  rcases h.2 with ⟨e', _⟩ | ⟨g', cap', cur', e', _, hb', _⟩
  · subst e'; simp [Value.ownBlock]
  · subst e'
    intro h
    simp only [Value.ownBlock, Option.some.injEq] at h
    subst h
    unfold Blk at hb
    rw [hb] at hb'
    injection hb' with hb'
    injection hb' with _ hb'
    exact hne hb'
/-- a row of one's own stays, where a block of another type is written to -/
theorem own_set {W : World} {B z n g : Nat} {e t : TypeId} {v : Value} {x : List Value} {cs : Array Value} (h : W.ownsRow B e z v n x) (hb : Blk W g t cs) (hne : t ≠ e) (i : Nat) (u : Value) : (W.setCell ⟨g, i, none⟩ u).ownsRow B e z v n x :=
  h.kept (row := some g) ⟨rfl, rfl, rfl, by simp [World.setCell], fun k _ hk => heap_setCell_other W ⟨g, i, none⟩ k u (fun e => hk (by rw [e]))⟩ (.inr (fun e => blk_apart h hb hne e.symm))
/-- a row of one's own that is there: its block -/
theorem own_blk {W : World} {B g z n c : Nat} {e : TypeId} {xs : List Value} (h : W.ownsRow B e z (.slice (some ⟨g, 0, none⟩) n c) n xs) : ∃ cur, Blk W g e cur ∧ B ≤ g ∧ n ≤ c ∧ c ≤ maxLen ∧ cur.size = c * z ∧ cur.toList.take (n * z) = xs := by
  rcases h.2 with ⟨e1, _⟩ | ⟨g', cap, cur, e1, hg, hb, h3, h4, h5, h6⟩
  · cases e1
  · injection e1 with e1 e2 e3
    injection e1 with e1
    injection e1 with e1
    subst e1
    subst e3
    exact ⟨cur, hb, hg, h3, h4, h5, h6⟩
theorem own_of {W : World} {B g z n c : Nat} {e : TypeId} {xs : List Value} {cur : Array Value} (hb : Blk W g e cur) (hg : B ≤ g) (hn : n ≤ c) (hc : c ≤ maxLen) (hs : cur.size = c * z) (ht : cur.toList.take (n * z) = xs) : W.ownsRow B e z (.slice (some ⟨g, 0, none⟩) n c) n xs := by
  refine ⟨?_, .inr ⟨g, c, cur, rfl, hg, hb, hn, hc, hs, ht⟩⟩
  rw [← ht, List.length_take, Array.length_toList, hs]
  exact Nat.min_eq_left (Nat.mul_le_mul_right z hn)
/-- where it is, if there is anything in it -/
theorem own_there {W : World} {B z n : Nat} {e : TypeId} {v : Value} {xs : List Value} (h : W.ownsRow B e z v n xs) (h0 : 0 < n) : ∃ g c, v = .slice (some ⟨g, 0, none⟩) n c := by
  rcases h.2 with ⟨_, e0⟩ | ⟨g, cap, cur, e1, _⟩
  · omega
  · exact ⟨g, cap, e1⟩
/-- a cell of it is written -/
theorem own_put {W : World} {B g z n c : Nat} {e : TypeId} {xs : List Value} (h : W.ownsRow B e z (.slice (some ⟨g, 0, none⟩) n c) n xs) (i : Nat) (u : Value) : (W.setCell ⟨g, i, none⟩ u).ownsRow B e z (.slice (some ⟨g, 0, none⟩) n c) n (xs.set i u) := by
  obtain ⟨cur, hb, hg, hn, hc, hs, ht⟩ := own_blk h
  refine own_of (hb.set_ i u) hg hn hc (by rw [Array.size_setIfInBounds]; exact hs) ?_
  rw [Array.toList_setIfInBounds, List.take_set, ht]
/-- its beginning -/
theorem own_front {W : World} {B g z n c : Nat} {e : TypeId} {xs ys : List Value} (h : W.ownsRow B e z (.slice (some ⟨g, 0, none⟩) n c) n (xs ++ ys)) (m : Nat) (hm : m ≤ n) (hx : xs.length = m * z) : W.ownsRow B e z (.slice (some ⟨g, 0, none⟩) m c) m xs := by
  obtain ⟨cur, hb, hg, hn, hc, hs, ht⟩ := own_blk h
  refine own_of hb hg (by omega) hc hs ?_
  have h1 := congrArg (List.take (m * z)) ht
  rw [List.take_take, Nat.min_eq_left (Nat.mul_le_mul_right z hm), ← hx, List.take_left] at h1
  rw [← hx]
  exact h1
theorem own_cell {W : World} {B g z n c : Nat} {e : TypeId} {xs : List Value} (h : W.ownsRow B e z (.slice (some ⟨g, 0, none⟩) n c) n xs) {j : Nat} {u : Value} (hj : xs[j]? = some u) : W.cell? ⟨g, j, none⟩ = some u ∧ W.frozen? ⟨g, j, none⟩ = false := by
  obtain ⟨cur, hb, _, _, _, _, _⟩ := own_blk h
  have h1 := h.cells (g := g) rfl j u hj
  rw [Addr.add_lit, Nat.zero_add] at h1
  exact ⟨h1, hb.frozen j⟩
end Go.Proofs.YtjgadocojdieeaaGreatDoor
