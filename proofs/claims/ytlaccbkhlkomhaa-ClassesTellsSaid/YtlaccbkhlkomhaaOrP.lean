/-
  What ClassesOrder and ClassesTwo share: trees of one set each are right where the sets are a right tree's; an append of one tree to a row of one's own; two rows of different types lie apart. No conditions.
-/
import Derived.Test.YtlaccbkhlkomhaaSmP
import Derived.Test.YtlaccbkhlkomhaaClE
namespace Go.Proofs.Ytlaccbkhlkomhaa
open Go.RowKit

theorem own_apart {W : World} {B1 B2 z1 z2 n1 n2 : Nat} {e1 e2 : TypeId} {v1 v2 : Value} {x1 x2 : List Value} (h1 : W.ownsRow B1 e1 z1 v1 n1 x1) (h2 : W.ownsRow B2 e2 z2 v2 n2 x2) (hne : e1 ≠ e2) : v1.ownBlock = none ∨ v1.ownBlock ≠ v2.ownBlock := by
  rcases h1.2 with ⟨e, _⟩ | ⟨g, cap, cur, e, _, hb, _⟩
  · subst e; exact .inl rfl
  · subst e
    rcases h2.2 with ⟨e', _⟩ | ⟨g', cap', cur', e', _, hb', _⟩
    · subst e'; exact .inr (by simp [Value.ownBlock])
    · subst e'
      refine .inr (fun h => hne ?_)
      simp only [Value.ownBlock, Option.some.injEq] at h
      subst h
      rw [hb] at hb'
      injection hb' with hb'
      injection hb'
theorem blk_apart {W : World} {B z n g : Nat} {e t : TypeId} {v : Value} {x : List Value} {cs : Array Value} (h : W.ownsRow B e z v n x) (hb : Blk W g t cs) (hne : t ≠ e) : some g ≠ v.ownBlock := by
  rcases h.2 with ⟨e', _⟩ | ⟨g', cap', cur', e', _, hb', _⟩
  · subst e'; simp [Value.ownBlock]
  · subst e'
    intro h
    simp only [Value.ownBlock, Option.some.injEq] at h
    subst h
    unfold Blk at hb
    rw [hb] at hb'
    injection hb' with hb'
    injection hb' with _ hb'
    exact hne hb'
/-- one tree more -/
theorem wpList_app_re {W : World} {ops : Array Oper} {rest : List Oper} {o : Oper} {a : Act} {Q : Exit → Act → World → Prop} (hgd : o.guard = none) (s x : Operand)
    (ho : o.op = .call { callee := .builtin .append, args := #[s, x], argTypes := #[22, 22] })
    (B : Nat) (v : Value) (l : List Ry) (t : Ry) (hs : a.eval s = v) (hown : W.ownsRow B 42 6 v l.length (l.flatMap ryCells)) (g : Nat) (cs : Array Value) (hcs : cs = (ryCells t).toArray) (hx : a.eval x = .slice (some ⟨g, 0, none⟩) 1 1)
    (hb : Blk W g 42 cs) (hl : l.length ≤ 100000) (hbase : B ≤ W.heap.size)
    (h : ∀ v' w', w'.ownsRow B 42 6 v' (l ++ [t]).length ((l ++ [t]).flatMap ryCells) → W.grownBy w' v.ownBlock → wpList Try.prog ops Q rest (a.put o.dst v') w') : wpList Try.prog ops Q (o :: rest) a W := by
  obtain ⟨i0, hi0, hz0, hz1, hz2⟩ := info_parts infoRe
  refine wpList_append_own _ hgd s x 22 ho B 42 i0 (.agg #[.int .u8 0, .int .u64 0, .int .u64 0, .int .u64 0, .int .u64 0, .slice none 0 0]) 6 64 Try.underlying22 hi0 hz0 hz1 hz2 rfl (by decide) v l.length _ hs hown ⟨g, 0, none⟩ 1 1 (ryCells t) hx rfl ?_ ?_ ?_ ?_ hbase (fun v' w' h1 h2 _ => h v' w' ?_ h2)
  · intro j u hj
    rw [Addr.add_lit, Nat.zero_add, hb.cell j, hcs]
    simpa using hj
  · simp [ryCells, Value.oneCell']
  · unfold maxLen; omega
  · omega
  · rw [List.length_append, List.flatMap_append, show [t].flatMap ryCells = ryCells t by simp]
    exact h1
theorem preL_bound {m : Nat} : ∀ (l : List Ry), (∀ t ∈ l, (preR t).length ≤ m) → (preL l).length ≤ m * l.length
  | [], _ => by simp [preL]
  | t :: l, h => by
    have h1 := preL_bound l (fun x hx => h x (List.mem_cons_of_mem _ hx))
    have h2 := h t (List.mem_cons_self ..)
    rw [show t :: l = [t] ++ l from rfl, preL_app, List.length_append, show preL [t] = preR t by simp [preL], List.length_append, Nat.mul_add, List.length_singleton]
    omega
/-- of right trees no set is empty -/
theorem sets_some {rs : List Ry} (h : ∀ t ∈ rs, rightR t = true) : ∀ s ∈ setsL rs, rightR (oneR s) = true := by
  intro s hs
  unfold setsL at hs
  obtain ⟨x, hx, rfl⟩ := List.mem_map.1 hs
  obtain ⟨hx1, hx2⟩ := List.mem_filter.1 hx
  obtain ⟨t, ht, hxt⟩ : ∃ t ∈ rs, x ∈ preR t := by
    clear hx hx2 hs h
    induction rs with
    | nil => simp [preL] at hx1
    | cons t r ih =>
      rw [show t :: r = [t] ++ r from rfl, preL_app, show preL [t] = preR t by simp [preL]] at hx1
      rcases List.mem_append.1 hx1 with hx1 | hx1
      · exact ⟨t, List.mem_cons_self .., hx1⟩
      · obtain ⟨u, hu, hxu⟩ := ih hx1
        exact ⟨u, List.mem_cons_of_mem _ hu, hxu⟩
  have ha := List.all_eq_true.1 (h t ht) x hxt
  have hk : x.kind = 1 := beq_iff_eq.1 hx2
  have hn : noSetB x = false := by
    unfold aloneR at ha
    simp [hk] at ha
    simp [ha]
  refine oneR_right _ ?_
  refine Classical.byContradiction (fun hd => ?_)
  have g : ∀ k, k < 4 → x.set.word k = 0 := fun k hk => Classical.byContradiction (fun h => hd ⟨k, hk, h⟩)
  have g0 : x.s0 = 0 := g 0 (by decide)
  have g1 : x.s1 = 0 := g 1 (by decide)
  have g2 : x.s2 = 0 := g 2 (by decide)
  have g3 : x.s3 = 0 := g 3 (by decide)
  unfold noSetB at hn
  simp [g0, g1, g2, g3] at hn
/-- each set is a tree's -/
theorem setsL_of : ∀ (L : List Ry), ∀ s ∈ setsL L, ∃ t ∈ L, s ∈ setsL [t]
  | [], s, h => by simp [setsL, preL] at h
  | t :: r, s, h => by
    rw [show t :: r = [t] ++ r from rfl, setsL_app] at h
    rcases List.mem_append.1 h with h | h
    · exact ⟨t, List.mem_cons_self .., h⟩
    · obtain ⟨u, hu, hs⟩ := setsL_of r s h
      exact ⟨u, List.mem_cons_of_mem _ hu, hs⟩
/-- a row of trees of one's own, as trees in memory -/
theorem res_in {W : World} {B : Nat} {v : Value} {l : List Ry} (h : W.ownsRow B 42 6 v l.length (l.flatMap ryCells)) (hok : ∀ t ∈ l, ryOk t ∧ RyIn W (· < W.heap.size) t.a t.cap t.kids) : ∃ a c, v = .slice a l.length c ∧ RyIn W (· < W.heap.size) a c l := by
  rcases h.2 with ⟨hv, hn⟩ | ⟨g, cap, cur, hv, hg, hh, hn, hm, hs, ht⟩
  · have : l = [] := List.eq_nil_of_length_eq_zero hn
    rw [this]
    exact ⟨none, 0, hv, .nil _ _⟩
  · refine ⟨_, cap, hv, ?_⟩
    have hgl : g < W.heap.size := (Array.getElem?_eq_some_iff.1 hh).1
    by_cases h0 : 0 < l.length
    · refine .row l g 0 cap hgl hgl h0 hn (Nat.le_trans hn hm) (fun i hi => (hok _ (List.getElem_mem hi)).1) (fun i hi j u hu => ?_) (fun i hi => (hok _ (List.getElem_mem hi)).2)
      have hj : j < 6 := (List.getElem?_eq_some_iff.1 hu).1
      rw [cell_of_row W g _ cur 42 (0, 0) hh]
      have h1 := flatCells_at l i hi j hj
      rw [← ht, List.getElem?_take, if_pos (by omega), hu] at h1
      rw [Nat.zero_add]
      simpa using h1
    · have : l = [] := List.eq_nil_of_length_eq_zero (by omega)
      rw [this]
      exact .nil _ _
theorem ones_in {W : World} {B : Nat} {v : Value} {ss : List St} (h : W.ownsRow B 42 6 v (ss.map oneR).length ((ss.map oneR).flatMap ryCells)) (hok : ∀ s ∈ ss, s.ok) : ∃ a c, v = .slice a (ss.map oneR).length c ∧ RyIn W (· < W.heap.size) a c (ss.map oneR) :=
  res_in h (fun t ht => by
    obtain ⟨s, hs, rfl⟩ := List.mem_map.1 ht
    exact ⟨oneR_ok _ (hok s hs), .nil _ _⟩)
end Go.Proofs.Ytlaccbkhlkomhaa
