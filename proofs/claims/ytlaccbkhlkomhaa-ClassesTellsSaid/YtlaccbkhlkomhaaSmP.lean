/-
  What the statements on classes share: sets of trees that lie in memory, a row of sets that is read, whether all sets have two bytes alike. No conditions.
-/
import Derived.Test.YtlaccbkhlkomhaaCmP
namespace Go.Proofs.Ytlaccbkhlkomhaa
open Go.RowKit

theorem own_slice {B n sz : Nat} {e : TypeId} {W : World} {v : Value} {l : List Value} (h : W.ownsRow B e sz v n l) (hm : l.length ≤ maxLen) : ∃ a c, v = .slice a n c ∧ RowAt W a l := by
  have h' := h
  obtain ⟨h1, h2⟩ := h
  rcases h2 with ⟨e1, h0⟩ | ⟨g, cap, cur, e1, _⟩
  · subst e1
    subst h0
    exact ⟨none, 0, rfl, row_of_own h' hm⟩
  · subst e1
    exact ⟨_, cap, rfl, row_of_own h' hm⟩
theorem set_okB (x : Ry) (h : ryOk x) : x.set.ok := h.2
theorem sets_ok {w : World} {S : Nat → Prop} {a : Option Addr} {c : Nat} {ks : List Ry} (h : RyIn w S a c ks) : ∀ s ∈ setsL ks, s.ok := by
  intro s hs
  unfold setsL at hs
  obtain ⟨x, hx, rfl⟩ := List.mem_map.1 hs
  exact set_okB x (h.nodes x (List.mem_filter.1 hx).1).1
theorem setsL_mem {t : Ry} {rs : List Ry} (ht : t ∈ rs) : ∀ s ∈ setsL [t], s ∈ setsL rs := by
  intro s hs
  obtain ⟨u, v, rfl⟩ := List.append_of_mem ht
  rw [show u ++ t :: v = u ++ ([t] ++ v) from rfl, setsL_app, setsL_app]
  exact List.mem_append_right _ (List.mem_append_left _ hs)
/-- do all sets have both bytes, or neither? -/
def agB (x y : Nat) (V : List St) : Bool := V.all (fun s => inS s x == inS s y)
theorem agB_iff (x y : Nat) (V : List St) : agB x y V = true ↔ ∀ s ∈ V, inS s x = inS s y := by
  unfold agB
  rw [List.all_eq_true]
  constructor
  · intro h s hs; exact beq_iff_eq.1 (h s hs)
  · intro h s hs; exact beq_iff_eq.2 (h s hs)
theorem agB_app (x y : Nat) (U V : List St) : agB x y (U ++ V) = (agB x y U && agB x y V) := by unfold agB; rw [List.all_append]
theorem agB_one (x y : Nat) (s : St) : agB x y [s] = (inS s x == inS s y) := by unfold agB; simp
/-- the cells of a row of sets -/
theorem setCells_row {W : World} {a : Option Addr} {V : List St} (h : RowAt W a (setCells V)) {j : Nat} (hj : j < V.length) : ∃ b off, a = some ⟨b, off, none⟩ ∧ b < W.heap.size ∧
    W.cell? ⟨b, off + j * 4, none⟩ = some (.int .u64 (V[j].s0 : Int)) ∧ W.cell? ⟨b, off + j * 4 + 1, none⟩ = some (.int .u64 (V[j].s1 : Int)) ∧ W.cell? ⟨b, off + j * 4 + 2, none⟩ = some (.int .u64 (V[j].s2 : Int)) ∧ W.cell? ⟨b, off + j * 4 + 3, none⟩ = some (.int .u64 (V[j].s3 : Int)) := by
  have hl := setCells_len V
  obtain ⟨b, off, h1, h2, h3⟩ := h.row (by omega)
  have g : ∀ i (hi : i < 4) u, (setC V[j])[i]? = some u → W.cell? ⟨b, off + j * 4 + i, none⟩ = some u := fun i hi u hu => by
    have h4 := h3 (j * 4 + i) (by omega)
    rw [← Nat.add_assoc] at h4
    rw [h4]
    have h5 := setCells_at V j hj i hi
    rw [hu, List.getElem?_eq_getElem (by omega)] at h5
    exact h5
  exact ⟨b, off, h1, h2, g 0 (by decide) _ rfl, g 1 (by decide) _ rfl, g 2 (by decide) _ rfl, g 3 (by decide) _ rfl⟩
end Go.Proofs.Ytlaccbkhlkomhaa
