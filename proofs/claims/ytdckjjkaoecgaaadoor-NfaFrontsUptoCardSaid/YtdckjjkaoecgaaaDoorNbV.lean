/-
  nfa's maker: the trees one by one, in plain terms, and one number more behind a row. No conditions.
-/
import Derived.Test.YtdckjjkaoecgaaaDoorNbU
import Derived.Test.YtdckjjkaoecgaaaDoorGe
namespace Go.Proofs.YtdckjjkaoecgaaaDoor
open Go.RowKit


def nV (i : Int) : Value := .int .i64 i
theorem infoIn : (Tryd.prog.info? 3).map (fun i => (i.zero, i.size, i.bytes)) = some (some (.int .i64 0), 1, 8) := by kernel_rfl
/-- one number more, as a step of a region that draws -/
theorem step_int {ops : Array Oper} {o : Oper} {act : Act} {K : Act → World → Prop} {Q : Exit → Act → World → Prop} {W : World} {E : Prop} (hgd : o.guard = none) (s x : Operand)
    (ho : o.op = .call { callee := .builtin .append, args := #[s, x], argTypes := #[35, 35] })
    (B : Nat) (v : Value) (l : List Int) (t : Int) (hs : act.eval s = v) (hown : W.ownsRow B 3 1 v l.length (l.map nV)) (hB : B ≤ W.heap.size) (g : Nat) (hx : act.eval x = .slice (some ⟨g, 0, none⟩) 1 1) (hb : Blk W g 3 #[nV t]) (hl : l.length ≤ 1000000)
    (h : ∀ v' W', W'.ownsRow B 3 1 v' (l ++ [t]).length ((l ++ [t]).map nV) → W.grownBy W' v.ownBlock → K (act.put o.dst v') W') :
    if Region.wanted o (yielded ops act.tmps) = true then Oper.wp Tryd.prog o act W K Q else E := by
  obtain ⟨i0, hi, hz0, hz1, hz2⟩ := info_parts infoIn
  have hw : Region.wanted o (yielded ops act.tmps) = true := by simp [Region.wanted, hgd]
  rw [if_pos hw]
  refine wp_append_own W s x 35 ho B 3 i0 (.int .i64 0) 1 8 Tryd.underlying35 hi hz0 hz1 hz2 rfl (by decide) v l.length _ hs hown ⟨g, 0, none⟩ 1 1 [nV t] hx rfl ?_ ?_ (by unfold maxLen; omega) (by omega) hB ?_
  · intro j u hj
    rw [Addr.add_lit, Nat.zero_add, hb.cell j]
    simpa using hj
  · simp [nV, Value.oneCell']
  · intro v' W' h2 h3 _
    refine h v' W' ?_ h3
    rw [List.length_append, List.map_append]
    exact h2
/-- the splits, in the order in which they are made -/
def foldB (P : List (Nat × Int)) (b : Int) (st : List NS) : Int × List NS := P.foldl (fun s x => ((s.2.length : Int), s.2 ++ [splitN x.2 s.1])) (b, st)
theorem foldB_snoc (P : List (Nat × Int)) (x : Nat × Int) (b : Int) (st : List NS) : foldB (P ++ [x]) b st = (((foldB P b st).2.length : Int), (foldB P b st).2 ++ [splitN x.2 (foldB P b st).1]) := by
  unfold foldB
  rw [List.foldl_append]
  rfl
theorem foldB_len (b : Int) (st : List NS) : ∀ (n : Nat) (P : List (Nat × Int)), P.length = n → (foldB P b st).2.length = st.length + n := by
  intro n
  induction n with
  | zero => intro P h; obtain rfl := List.eq_nil_of_length_eq_zero h; rfl
  | succ n ih =>
    intro P h
    rcases List.eq_nil_or_concat P with rfl | ⟨Q, x, rfl⟩
    · cases h
    · rw [List.concat_eq_append] at h ⊢
      rw [List.length_append, List.length_singleton] at h
      rw [foldB_snoc, List.length_append, ih Q (by omega), List.length_singleton]
      omega
theorem foldB_bwd (L : List Int) (b : Int) (st : List NS) : ∀ k, k ≤ L.length → foldB (bwd L k) b st = splitsP (L.drop (L.length - k)) b st
  | 0, _ => by rw [Nat.sub_zero, List.drop_length]; rfl
  | k + 1, h => by
    have e : L.length - (k + 1) = L.length - 1 - k := by omega
    rw [bwd, foldB_snoc, foldB_bwd L b st k (by omega), e, List.drop_eq_getElem_cons (by omega : L.length - 1 - k < L.length), splitsP, show L.length - 1 - k + 1 = L.length - k from by omega]
    simp [List.getD_eq_getElem?_getD, List.getElem?_eq_getElem (by omega : L.length - 1 - k < L.length)]
/-- all of it -/
def machineP (ls : List Ry) : Int × List NS := splitsP (treesP ls 0 []).1.dropLast ((treesP ls 0 []).1.getLastD 0) (treesP ls 0 []).2
theorem trees_grow : ∀ (ls : List Ry) (i : Int) (st : List NS), st.length ≤ (treesP ls i st).2.length
  | [], _, _ => Nat.le_refl _
  | t :: r, i, st => by
    rw [treesP]
    refine Nat.le_trans ?_ (trees_grow r (i + 1) _)
    refine Nat.le_trans ?_ (toward_grows t _ _)
    simp
theorem trees_len : ∀ (ls : List Ry) (i : Int) (st : List NS), (treesP ls i st).1.length = ls.length
  | [], _, _ => rfl
  | t :: r, i, st => by
    rw [treesP]
    simp [trees_len r]
theorem splits_len (b : Int) (st : List NS) : ∀ L, (splitsP L b st).2.length = st.length + L.length
  | [] => rfl
  | x :: r => by
    rw [splitsP]
    simp [splits_len b st r]
    omega
/-- how far the trees have come: nothing lost yet, or there are too many states -/
def Come (ls : List Ry) (most : Int) (k : Nat) (L : List Int) (st : List NS) : Prop :=
  L.length = k ∧ (((st.length : Int) ≤ most ∧ treesP ls 0 [] = (L ++ (treesP (ls.drop k) k st).1, (treesP (ls.drop k) k st).2)) ∨ (most < (st.length : Int) ∧ most < ((treesP ls 0 []).2.length : Int)))
theorem Come.start (ls : List Ry) (most : Int) (h : 0 ≤ most) : Come ls most 0 [] [] := ⟨rfl, .inl ⟨h, by simp⟩⟩
theorem Come.step {ls : List Ry} {most : Int} {k : Nat} {L : List Int} {st st' : List NS} (h : Come ls most k L st) (hk : k < ls.length) (n : Int)
    (ht : ((st'.length : Int) ≤ most ∧ (n, st') = towardR ls[k] (st.length : Int) (st ++ [endN k])) ∨ (most < (st'.length : Int) ∧ most < ((towardR ls[k] (st.length : Int) (st ++ [endN k])).2.length : Int))) :
    Come ls most (k + 1) (L ++ [n]) st' := by
  refine ⟨by rw [List.length_append, h.1]; rfl, ?_⟩
  rcases h.2 with ⟨h1, h2⟩ | ⟨h1, h2⟩
  · have hd : ls.drop k = ls[k] :: ls.drop (k + 1) := List.drop_eq_getElem_cons hk
    rw [hd, treesP] at h2
    simp only at h2
    rcases ht with ⟨h3, h4⟩ | ⟨h3, h4⟩
    · refine .inl ⟨h3, ?_⟩
      rw [← h4] at h2
      rw [h2]
      simp
    · refine .inr ⟨h3, ?_⟩
      rw [h2]
      simp only
      have := trees_grow (ls.drop (k + 1)) (k + 1 : Int) (towardR ls[k] (st.length : Int) (st ++ [endN k])).2
      omega
  · refine .inr ⟨?_, h2⟩
    rcases ht with ⟨h3, h4⟩ | ⟨h3, _⟩
    · have h5 := toward_grows ls[k] (st.length : Int) (st ++ [endN k])
      rw [← h4] at h5
      simp at h5
      omega
    · exact h3
theorem Come.end_ {ls : List Ry} {most : Int} {L : List Int} {st : List NS} (h : Come ls most ls.length L st) : L.length = ls.length ∧ (((st.length : Int) ≤ most ∧ treesP ls 0 [] = (L, st)) ∨ (most < (st.length : Int) ∧ most < ((treesP ls 0 []).2.length : Int))) := by
  refine ⟨h.1, ?_⟩
  rcases h.2 with ⟨h1, h2⟩ | h2
  · refine .inl ⟨h1, ?_⟩
    rw [List.drop_length, treesP] at h2
    simpa using h2
  · exact .inr h2
/-- a step that turns nothing but what is no cells -/
theorem own_beside {W W' : World} {B z n : Nat} {e : TypeId} {v : Value} {xs : List Value} {row : Option Nat} (h : W.ownsRow B e z v n xs) (hg : W.grownBy W' row) (hr : ∀ r, row = some r → ∃ o : Obj, W.heap[r]? = some o ∧ o.isCells = false) : W'.ownsRow B e z v n xs := by
  refine h.kept hg ?_
  cases hv : v.ownBlock with
  | none => exact .inl rfl
  | some j =>
    refine .inr (fun e => ?_)
    obtain ⟨o, ho, hc⟩ := hr j e.symm
    have := own_cells h hv ho
    rw [hc] at this
    cases this
theorem blk_beside {W W' : World} {g : Nat} {t : TypeId} {cs : Array Value} {row : Option Nat} (h : Blk W g t cs) (hg : W.grownBy W' row) (hr : ∀ r, row = some r → ∃ o : Obj, W.heap[r]? = some o ∧ o.isCells = false) : Blk W' g t cs := by
  refine h.kept hg (fun e => ?_)
  obtain ⟨o, ho, hc⟩ := hr g e.symm
  rw [show W.heap[g]? = _ from h] at ho
  injection ho with ho
  subst ho
  cases hc
theorem MkOut.beside {B M : Nat} {a W W' : World} {st : List NS} {most : Int} {row : Option Nat} (h : MkOut B a W M st most) (hg : W.grownBy W' row) (hr : ∀ r, row = some r → B ≤ r ∧ ∃ o : Obj, W.heap[r]? = some o ∧ o.isCells = false) : MkOut B a W' M st most := by
  obtain ⟨v, hv⟩ := h.maker
  have hr2 := fun r e => (hr r e).2
  exact ⟨⟨v, blk_beside hv.blk hg hr2, own_beside hv.own hg hr2, hv.low⟩, h.low.grown hg hv.ge (fun r e => (hr r e).1), fun g t cs hb k1 k2 => blk_beside (h.keep g t cs hb k1 k2) hg hr2⟩
theorem keepsFrom_low (B : Nat) {W W' : World} (h : Below W.heap.size W W') : KeepsFrom B W W' := ⟨h.size, fun k o _ hk _ => (h.block k (Array.getElem?_eq_some_iff.1 hk).1).trans hk⟩
theorem keepX_two {W W' : World} {g b : Nat} {t t' : TypeId} {cs cs' : Array Value} (hs : W.heap.size ≤ W'.heap.size) (h1 : Blk W g t cs) (h2 : Blk W b t' cs') (h1' : Blk W' g t cs) (h2' : Blk W' b t' cs') : KeepX (fun j => j ≠ g ∧ j ≠ b) W W' := by
  refine ⟨hs, fun k us u fr hx hk => ?_⟩
  by_cases e1 : k = g
  · subst e1
    exact (show W'.heap[k]? = _ from h1').trans ((show W.heap[k]? = _ from h1).symm.trans hk)
  · by_cases e2 : k = b
    · subst e2
      exact (show W'.heap[k]? = _ from h2').trans ((show W.heap[k]? = _ from h2).symm.trans hk)
    · exact absurd ⟨e1, e2⟩ hx
end Go.Proofs.YtdckjjkaoecgaaaDoor
