/-
  The contract of (*nfa.maker).tree. Conditions: the tree lies in memory below the maker; at most 100000 nodes, a cap of at most 20000.
-/
import Derived.Test.YtdckjjkaoecgaaaDoorNbK
import Derived.Deep.LoopGhost
import Derived.StillTailTactics
namespace Go.Proofs.YtdckjjkaoecgaaaDoor
open Go.RowKit

theorem RyIn.front {w : World} {S : Nat → Prop} {a : Option Addr} {c : Nat} {ks : List Ry} (h : RyIn w S a c ks) (n : Nat) : RyIn w S a c (ks.take n) := by
  cases h with
  | nil => rw [List.take_nil]; exact .nil _ _
  | row _ b off _ hS hlt hn hcap hm hok hc hk =>
    by_cases h0 : n = 0
    · subst h0; exact .nil _ _
    · have hl : (ks.take n).length ≤ ks.length := by rw [List.length_take]; omega
      refine .row _ b off c hS hlt (by rw [List.length_take]; omega) (by omega) (by omega) (fun i hi => ?_) (fun i hi j u hu => ?_) (fun i hi => ?_)
      · rw [List.getElem_take]; exact hok i (by omega)
      · rw [List.getElem_take] at hu; exact hc i (by omega) j u hu
      · rw [List.getElem_take]; exact hk i (by omega)
/-- a tree that is under way, as it lies in memory -/
structure Pm where
  q : Pq
  L : List Ry
  a : Option Addr
  c : Nat
def pmC (x : Pm) : List Value := ptC x.q x.L.length x.a x.c
theorem pmFlat_len (l : List Pm) : (l.flatMap pmC).length = l.length * 4 := by
  induction l with
  | nil => rfl
  | cons s r ih => rw [List.flatMap_cons, List.length_append, ih, List.length_cons]; show 4 + _ = _; omega
theorem pmFlat_app (l : List Pm) (s : Pm) : (l ++ [s]).flatMap pmC = l.flatMap pmC ++ pmC s := by rw [List.flatMap_append]; simp
theorem infoPt : (Tryd.prog.info? 104).map (fun i => (i.zero, i.size, i.bytes)) = some (some (.agg #[.int .u8 0, .slice none 0 0, .int .i64 0, .int .i64 0]), 4, 48) := by kernel_rfl
def stackP (V : List Pm) (x : Pm) : List (List Ry × Pq) := (x.L, x.q) :: (V.reverse.map fun y => (y.L, y.q))
theorem stack_snoc (V : List Pm) (y x : Pm) : stackP (V ++ [y]) x = (x.L, x.q) :: stackP V y := by simp [stackP]
theorem stack_tail (V : List Pm) (x x' : Pm) : (stackP V x).tail = (stackP V x').tail := rfl
theorem left_ge : ∀ (S : List (List Ry × Pq)), S.length ≤ leftP S
  | [] => Nat.zero_le _
  | x :: r => by
    have := left_ge r
    unfold leftP at *
    simp only [List.map_cons, List.sum_cons, List.length_cons]
    omega
theorem stack_len (V : List Pm) (x : Pm) : (stackP V x).length = V.length + 1 := by simp [stackP]
/-- a star's state is there -/
def StarOk (q : Pq) (n : Nat) : Prop := q.kind = 4 → 0 ≤ q.begin ∧ q.begin.toNat < n
theorem StarOk.more {q : Pq} {n m : Nat} (h : StarOk q n) (hm : n ≤ m) : StarOk q m := fun hk => ⟨(h hk).1, Nat.lt_of_lt_of_le (h hk).2 hm⟩
theorem star_open (t : Ry) (tw : Int) (st : List NS) : StarOk (openP t tw st).1 (openP t tw st).2.length := by
  unfold openP
  split
  · intro h; dsimp only at h; omega
  · split
    · intro h; dsimp only at h; omega
    · split
      · intro _; simp
      · intro h; dsimp only at h; omega
theorem star_join {q : Pq} {kid : Int} {st : List NS} (h : StarOk q st.length) : StarOk (joinP q kid st).1 (joinP q kid st).2.length := by
  unfold joinP
  split
  · intro h; dsimp only at h; omega
  · split
    · split
      · intro h; dsimp only at h; omega
      · intro h; dsimp only at h; omega
    · split
      · simpa using h
      · exact h
/-- one part more, as a step of a region that draws -/
theorem step_pm {ops : Array Oper} {o : Oper} {act : Act} {K : Act → World → Prop} {Q : Exit → Act → World → Prop} {W : World} {E : Prop} (hgd : o.guard = none) (s x : Operand)
    (ho : o.op = .call { callee := .builtin .append, args := #[s, x], argTypes := #[106, 106] })
    (B : Nat) (v : Value) (l : List Pm) (t : Pm) (hs : act.eval s = v) (hown : W.ownsRow B 104 4 v l.length (l.flatMap pmC)) (hB : B ≤ W.heap.size) (g : Nat) (hx : act.eval x = .slice (some ⟨g, 0, none⟩) 1 1) (hb : Blk W g 104 (pmC t).toArray) (hl : l.length ≤ 1000000)
    (h : ∀ v' W', W'.ownsRow B 104 4 v' (l ++ [t]).length ((l ++ [t]).flatMap pmC) → W.grownBy W' v.ownBlock → K (act.put o.dst v') W') :
    if Region.wanted o (yielded ops act.tmps) = true then Oper.wp Tryd.prog o act W K Q else E := by
  obtain ⟨i0, hi, hz0, hz1, hz2⟩ := info_parts infoPt
  have hw : Region.wanted o (yielded ops act.tmps) = true := by simp [Region.wanted, hgd]
  rw [if_pos hw]
  refine wp_append_own W s x 106 ho B 104 i0 (.agg #[.int .u8 0, .slice none 0 0, .int .i64 0, .int .i64 0]) 4 48 Tryd.underlying106 hi hz0 hz1 hz2 rfl (by decide) v l.length _ hs hown ⟨g, 0, none⟩ 1 1 (pmC t) hx rfl ?_ ?_ (by unfold maxLen; omega) (by omega) hB ?_
  · intro j u hj
    rw [Addr.add_lit, Nat.zero_add, hb.cell j]
    simpa using hj
  · simp [pmC, ptC, Value.oneCell']
  · intro v' W' h2 h3 _
    refine h v' W' ?_ h3
    rw [List.length_append, pmFlat_app]
    exact h2
/-- the parts in memory: the row, and the trees below the base -/
structure Under (B BU : Nat) (w W : World) (u : Value) (V : List Pm) (x : Pm) (st : List NS) : Prop where
  own : W.ownsRow BU 104 4 u (V ++ [x]).length ((V ++ [x]).flatMap pmC)
  kids : ∀ y ∈ V ++ [x], RyIn w (· < B) y.a y.c y.L
  star : ∀ y ∈ V ++ [x], StarOk y.q st.length
theorem Under.more {B BU : Nat} {w W W' : World} {u : Value} {V : List Pm} {x : Pm} {st st' : List NS} (h : Under B BU w W u V x st) (hk : KeepT W W') (hm : st.length ≤ st'.length) : Under B BU w W' u V x st' :=
  ⟨hk.own h.own (by decide) (by decide), h.kids, fun y hy => (h.star y hy).more hm⟩
theorem Under.cell {B BU g c : Nat} {w W : World} {V : List Pm} {x : Pm} {st : List NS} (h : Under B BU w W (.slice (some ⟨g, 0, none⟩) (V ++ [x]).length c) V x st) {j : Nat} {u : Value} (hj : (pmC x)[j]? = some u) : W.cell? ⟨g, V.length * 4 + j, none⟩ = some u ∧ W.frozen? ⟨g, V.length * 4 + j, none⟩ = false :=
  own_cell h.own (by
    rw [pmFlat_app, List.getElem?_append_right (by rw [pmFlat_len]; omega), pmFlat_len, Nat.add_sub_cancel_left]
    exact hj)
/-- the last kid is taken -/
theorem Under.taken {B BU g c : Nat} {w W : World} {V : List Pm} {x : Pm} {st : List NS} {L : List Ry} {k : Ry} (h : Under B BU w W (.slice (some ⟨g, 0, none⟩) (V ++ [x]).length c) V x st) (hx : x.L = L ++ [k]) :
    Under B BU w (W.setCell ⟨g, V.length * 4 + 1, none⟩ (.slice x.a L.length x.c)) (.slice (some ⟨g, 0, none⟩) (V ++ [x]).length c) V ⟨x.q, L, x.a, x.c⟩ st := by
  refine ⟨?_, fun y hy => ?_, fun y hy => ?_⟩
  · have h1 := own_put h.own (V.length * 4 + 1) (.slice x.a L.length x.c)
    rw [pmFlat_app, List.set_append_right _ _ (by rw [pmFlat_len]; omega), pmFlat_len, show V.length * 4 + 1 - V.length * 4 = 1 by omega] at h1
    rw [pmFlat_app, show (V ++ [(⟨x.q, L, x.a, x.c⟩ : Pm)]).length = (V ++ [x]).length by simp]
    exact h1
  · rcases List.mem_append.1 hy with hy | hy
    · exact h.kids y (List.mem_append_left _ hy)
    · obtain rfl := List.mem_singleton.1 hy
      have h1 := (h.kids x (List.mem_append_right _ (List.mem_singleton.2 rfl))).front L.length
      rw [hx, List.take_left] at h1
      exact h1
  · rcases List.mem_append.1 hy with hy | hy
    · exact h.star y (List.mem_append_left _ hy)
    · obtain rfl := List.mem_singleton.1 hy
      exact h.star x (List.mem_append_right _ (List.mem_singleton.2 rfl))
/-- the part at the end is joined to the one ahead of it -/
theorem Under.joined {B BU g c : Nat} {w W W' : World} {V : List Pm} {y x : Pm} {st st' : List NS} {q' : Pq} {cur : Array Value} (h : Under B BU w W (.slice (some ⟨g, 0, none⟩) (V ++ [y] ++ [x]).length c) (V ++ [y]) x st) (hb : Blk W g 104 cur)
    (hb' : Blk W' g 104 ((cur.setIfInBounds (V.length * 4 + 2) (.int .i64 q'.tw)).setIfInBounds (V.length * 4 + 3) (.int .i64 q'.begin))) (hk : q'.kind = y.q.kind) (hq : StarOk q' st'.length) (hm : st.length ≤ st'.length) :
    Under B BU w W' (.slice (some ⟨g, 0, none⟩) (V ++ [y]).length c) V ⟨q', y.L, y.a, y.c⟩ st' := by
  refine ⟨?_, fun z hz => ?_, fun z hz => ?_⟩
  · obtain ⟨cur2, hb2, hg, hn, hc, hs, ht⟩ := own_blk h.own
    obtain rfl := (blk_same hb hb2).2
    have h1 : W'.ownsRow BU 104 4 (.slice (some ⟨g, 0, none⟩) (V ++ [y] ++ [x]).length c) (V ++ [y] ++ [x]).length ((((V ++ [y] ++ [x]).flatMap pmC).set (V.length * 4 + 2) (.int .i64 q'.tw)).set (V.length * 4 + 3) (.int .i64 q'.begin)) := by
      refine own_of hb' hg hn hc (by rw [Array.size_setIfInBounds, Array.size_setIfInBounds]; exact hs) ?_
      rw [Array.toList_setIfInBounds, Array.toList_setIfInBounds, List.take_set, List.take_set, ht]
    have e : ((((V ++ [y] ++ [x]).flatMap pmC).set (V.length * 4 + 2) (.int .i64 q'.tw)).set (V.length * 4 + 3) (.int .i64 q'.begin)) = (V ++ [(⟨q', y.L, y.a, y.c⟩ : Pm)]).flatMap pmC ++ pmC x := by
      rw [pmFlat_app, pmFlat_app, pmFlat_app, List.append_assoc, List.set_append_right _ _ (by rw [pmFlat_len]; omega), List.set_append_right _ _ (by rw [pmFlat_len]; omega), pmFlat_len, show V.length * 4 + 2 - V.length * 4 = 2 by omega, show V.length * 4 + 3 - V.length * 4 = 3 by omega, List.append_assoc]
      unfold pmC ptC
      rw [hk]
      rfl
    rw [e] at h1
    have h2 := own_front h1 (V ++ [(⟨q', y.L, y.a, y.c⟩ : Pm)]).length (by simp) (pmFlat_len _)
    rw [show (V ++ [(⟨q', y.L, y.a, y.c⟩ : Pm)]).length = (V ++ [y]).length by simp] at h2 ⊢
    exact h2
  · rcases List.mem_append.1 hz with hz | hz
    · exact h.kids z (List.mem_append_left _ (List.mem_append_left _ hz))
    · obtain rfl := List.mem_singleton.1 hz
      exact h.kids y (List.mem_append_left _ (List.mem_append_right _ (List.mem_singleton.2 rfl)))
  · rcases List.mem_append.1 hz with hz | hz
    · exact (h.star z (List.mem_append_left _ (List.mem_append_left _ hz))).more hm
    · obtain rfl := List.mem_singleton.1 hz
      exact hq
theorem join_kind (q : Pq) (kid : Int) (st : List NS) : (joinP q kid st).1.kind = q.kind := by
  unfold joinP
  (repeat' split) <;> rfl
theorem open_small (t : Ry) (tw : Int) (st : List NS) : (openP t tw st).2.length ≤ st.length + 1 := by unfold openP; (repeat' split) <;> simp
theorem join_small (q : Pq) (kid : Int) (st : List NS) : (joinP q kid st).2.length ≤ st.length + 1 := by unfold joinP; (repeat' split) <;> simp
end Go.Proofs.YtdckjjkaoecgaaaDoor
