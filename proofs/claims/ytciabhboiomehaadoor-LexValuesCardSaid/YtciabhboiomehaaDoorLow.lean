/-
  The contracts of frankinglow's Toks and Alike where the two lists are the same (but for places): they answer true. Conditions: the lists as they lie in memory, of at most 200000 tokens.
-/
import Derived.Test.YtciabhboiomehaaDoorLex
namespace Go.Proofs.YtciabhboiomehaaDoor
open Go.RowKit

/-- a slice value whose cells are these tokens -/
def TokRow (w : World) (v : Value) (toks : List Tk) : Prop :=
  ∃ (A : Option Addr) (c : Nat), v = .slice A toks.length c ∧ (0 < toks.length → ∃ g off, A = some ⟨g, off, none⟩ ∧ g < w.heap.size ∧ ∀ j u, (toksCells toks)[j]? = some u → w.cell? ⟨g, off + j, none⟩ = some u)

theorem TokRow.of_own {w : World} {base : Nat} {v : Value} {toks : List Tk} (h : w.ownsRow base 35 7 v toks.length (toksCells toks)) : TokRow w v toks := by
  rcases h.2 with ⟨rfl, h0⟩ | ⟨g, cap, cur, rfl, hg, hh, _⟩
  · exact ⟨none, 0, by rw [h0], fun hp => by omega⟩
  · refine ⟨_, cap, rfl, fun _ => ⟨g, 0, rfl, (Array.getElem?_eq_some_iff.1 hh).1, fun j u hu => ?_⟩⟩
    have := h.cells (g := g) rfl j u hu
    have hadd : (⟨g, 0, none⟩ : Addr).add j = ⟨g, 0 + j, none⟩ := by unfold Addr.add; split <;> simp_all
    rw [hadd] at this
    exact this
theorem TokRow.below {w w' : World} {v : Value} {toks : List Tk} (h : TokRow w v toks) (hb : Below w.heap.size w w') : TokRow w' v toks := by
  obtain ⟨A, c, hv, hA⟩ := h
  refine ⟨A, c, hv, fun hp => ?_⟩
  obtain ⟨g, off, rfl, hg, hc⟩ := hA hp
  exact ⟨g, off, rfl, by have := hb.size; omega, fun j u hu => (hb.cell (p := ⟨g, off + j, none⟩) hg).trans (hc j u hu)⟩

theorem toksCells_at : ∀ (toks : List Tk) (k : Nat) (t : Tk), toks[k]? = some t → ∀ j, j < 7 → (toksCells toks)[k * 7 + j]? = (tokCells t)[j]? := by
  intro toks
  induction toks with
  | nil => intro k t h; simp at h
  | cons a r ih =>
    intro k t h j hj
    have e : toksCells (a :: r) = tokCells a ++ toksCells r := by simp [toksCells]
    have hl : (tokCells a).length = 7 := rfl
    rw [e]
    cases k with
    | zero =>
      have : a = t := by simpa using h
      subst this
      rw [Nat.zero_mul, Nat.zero_add, List.getElem?_append_left (by rw [hl]; exact hj)]
    | succ k =>
      rw [List.getElem?_append_right (by rw [hl]; omega), hl, show (k + 1) * 7 + j - 7 = k * 7 + j from by omega]
      exact ih k t (by simpa using h) j hj

/-- the cells of one token of a row -/
theorem TokRow.at_ {w : World} {A : Option Addr} {n c : Nat} {toks : List Tk} (h : TokRow w (.slice A n c) toks) {k : Nat} {t : Tk} (ht : toks[k]? = some t) :
    ∃ g off, A = some ⟨g, off, none⟩ ∧ g < w.heap.size ∧ w.cell? ⟨g, off + k * 7, none⟩ = some (.int .u8 t.kind) ∧ w.cell? ⟨g, off + k * 7 + 1, none⟩ = some (.int .i64 t.place) ∧ w.cell? ⟨g, off + k * 7 + 2, none⟩ = some (.string (bs t.text)) ∧
      w.cell? ⟨g, off + k * 7 + 3, none⟩ = some (.int .i64 t.mn) ∧ w.cell? ⟨g, off + k * 7 + 4, none⟩ = some (.int .i64 t.mx) ∧ w.cell? ⟨g, off + k * 7 + 5, none⟩ = some (.int .u8 t.lo) ∧ w.cell? ⟨g, off + k * 7 + 6, none⟩ = some (.int .u8 t.hi) := by
  obtain ⟨A', c', hv, hA⟩ := h
  injection hv with h1 h2 h3
  subst h1
  obtain ⟨hk, _⟩ := List.getElem?_eq_some_iff.1 ht
  obtain ⟨g, off, rfl, hg, hc⟩ := hA (by omega)
  have key : ∀ j u, (tokCells t)[j]? = some u → j < 7 → w.cell? ⟨g, off + k * 7 + j, none⟩ = some u := fun j u hu hj => by
    rw [Nat.add_assoc]
    exact hc _ u (by rw [toksCells_at toks k t ht j hj, hu])
  exact ⟨g, off, rfl, hg, key 0 _ rfl (by omega), key 1 _ rfl (by omega), key 2 _ rfl (by omega), key 3 _ rfl (by omega), key 4 _ rfl (by omega), key 5 _ rfl (by omega), key 6 _ rfl (by omega)⟩
theorem TokRow.len {w : World} {v : Value} {toks : List Tk} (h : TokRow w v toks) : ∃ A c, v = .slice A toks.length c := by
  obtain ⟨A, c, hv, _⟩ := h
  exact ⟨A, c, hv⟩
end Go.Proofs.YtciabhboiomehaaDoor
