/-
  nfa.Build in plain terms: states, trees toward a state, the trees that are under way. No conditions.
-/
import Derived.Test.YtdckjjkaoecgaaaDoorRxA
namespace Go.Proofs.YtdckjjkaoecgaaaDoor
open Go.RowKit

/-- a state -/
structure NS where
  kind : Nat
  s0 : Nat
  s1 : Nat
  s2 : Nat
  s3 : Nat
  a : Int
  b : Int
  tag : Int
def endN (t : Int) : NS := ⟨0, 0, 0, 0, 0, 0, 0, t⟩
def byteN (t : Ry) (tw : Int) : NS := ⟨1, t.s0, t.s1, t.s2, t.s3, tw, 0, 0⟩
def splitN (a b : Int) : NS := ⟨2, 0, 0, 0, 0, a, b, 0⟩
/-- a tree that is under way, but for its kids -/
structure Pq where
  kind : Nat
  tw : Int
  begin : Int
def openP (t : Ry) (tw : Int) (st : List NS) : Pq × List NS :=
  if t.kind = 1 then (⟨t.kind, tw, st.length⟩, st ++ [byteN t tw])
  else if t.kind = 3 then (⟨t.kind, tw, -1⟩, st)
  else if t.kind = 4 then (⟨t.kind, st.length, st.length⟩, st ++ [splitN 0 tw])
  else (⟨t.kind, tw, tw⟩, st)
def joinP (p : Pq) (kid : Int) (st : List NS) : Pq × List NS :=
  if p.kind = 2 then (⟨p.kind, kid, kid⟩, st)
  else if p.kind = 3 then (if p.begin = -1 then (⟨p.kind, p.tw, kid⟩, st) else (⟨p.kind, p.tw, st.length⟩, st ++ [splitN kid p.begin]))
  else if p.kind = 4 then (p, st.modify p.begin.toNat (fun s => { s with a := kid }))
  else (p, st)
mutual
def towardR : Ry → Int → List NS → Int × List NS
  | .mk k s0 s1 s2 s3 a c kids, tw, st => let r := kidsR kids (openP (.mk k s0 s1 s2 s3 a c kids) tw st).1 (openP (.mk k s0 s1 s2 s3 a c kids) tw st).2; (r.1.begin, r.2)
def kidsR : List Ry → Pq → List NS → Pq × List NS
  | [], p, st => (p, st)
  | k :: ks, p, st => let r := kidsR ks p st; let b := towardR k r.1.tw r.2; joinP r.1 b.1 b.2
end
theorem towardR_eq (t : Ry) (tw : Int) (st : List NS) : towardR t tw st = ((kidsR t.kids (openP t tw st).1 (openP t tw st).2).1.begin, (kidsR t.kids (openP t tw st).1 (openP t tw st).2).2) := by
  cases t
  rw [towardR]
  rfl
theorem kidsR_nil (p : Pq) (st : List NS) : kidsR [] p st = (p, st) := by rw [kidsR]
theorem kidsR_cons (k : Ry) (ks : List Ry) (p : Pq) (st : List NS) : kidsR (k :: ks) p st = joinP (kidsR ks p st).1 (towardR k (kidsR ks p st).1.tw (kidsR ks p st).2).1 (towardR k (kidsR ks p st).1.tw (kidsR ks p st).2).2 := by rw [kidsR]
theorem kidsR_snoc (k : Ry) : ∀ (L : List Ry) (p : Pq) (st : List NS), kidsR (L ++ [k]) p st = kidsR L (joinP p (towardR k p.tw st).1 (towardR k p.tw st).2).1 (joinP p (towardR k p.tw st).1 (towardR k p.tw st).2).2
  | [], p, st => by
    rw [List.nil_append, kidsR_cons, kidsR_nil, kidsR_nil]
  | x :: L, p, st => by
    rw [List.cons_append, kidsR_cons, kidsR_snoc k L p st, kidsR_cons]
/-- what comes of the trees that are under way, the innermost ahead -/
def finishP : List (List Ry × Pq) → List NS → Int × List NS
  | [], st => (0, st)
  | (L, p) :: rest, st => match rest with
    | [] => ((kidsR L p st).1.begin, (kidsR L p st).2)
    | (L2, q) :: rest => finishP ((L2, (joinP q (kidsR L p st).1.begin (kidsR L p st).2).1) :: rest) (joinP q (kidsR L p st).1.begin (kidsR L p st).2).2
termination_by l => l.length
theorem finish_one (L : List Ry) (p : Pq) (st : List NS) : finishP [(L, p)] st = ((kidsR L p st).1.begin, (kidsR L p st).2) := by rw [finishP]
theorem finish_two (L : List Ry) (p : Pq) (L2 : List Ry) (q : Pq) (rest : List (List Ry × Pq)) (st : List NS) : finishP ((L, p) :: (L2, q) :: rest) st = finishP ((L2, (joinP q (kidsR L p st).1.begin (kidsR L p st).2).1) :: rest) (joinP q (kidsR L p st).1.begin (kidsR L p st).2).2 := by rw [finishP]
theorem finish_alike {L L' : List Ry} {p p' : Pq} {st st' : List NS} (h : kidsR L p st = kidsR L' p' st') (rest : List (List Ry × Pq)) : finishP ((L, p) :: rest) st = finishP ((L', p') :: rest) st' := by
  cases rest with
  | nil => rw [finish_one, finish_one, h]
  | cons x rest =>
    obtain ⟨L2, q⟩ := x
    rw [finish_two, finish_two, h]
/-- a kid is opened -/
theorem finish_push (k : Ry) (L : List Ry) (p : Pq) (rest : List (List Ry × Pq)) (st : List NS) : finishP ((k.kids, (openP k p.tw st).1) :: (L, p) :: rest) (openP k p.tw st).2 = finishP ((L ++ [k], p) :: rest) st := by
  rw [finish_two]
  refine finish_alike ?_ rest
  rw [kidsR_snoc, towardR_eq]
/-- a tree is at its end -/
theorem finish_pop (p : Pq) (L : List Ry) (q : Pq) (rest : List (List Ry × Pq)) (st : List NS) : finishP (([], p) :: (L, q) :: rest) st = finishP ((L, (joinP q p.begin st).1) :: rest) (joinP q p.begin st).2 := by rw [finish_two, kidsR_nil]
theorem finish_end (p : Pq) (st : List NS) : finishP [([], p)] st = (p.begin, st) := by rw [finish_one, kidsR_nil]
/-! ### there are never fewer states -/
theorem open_grows (t : Ry) (tw : Int) (st : List NS) : st.length ≤ (openP t tw st).2.length := by
  unfold openP
  (repeat' split) <;> simp
theorem join_grows (p : Pq) (kid : Int) (st : List NS) : st.length ≤ (joinP p kid st).2.length := by
  unfold joinP
  (repeat' split) <;> simp
mutual
theorem toward_grows : ∀ (t : Ry) (tw : Int) (st : List NS), st.length ≤ (towardR t tw st).2.length
  | .mk k s0 s1 s2 s3 a c kids, tw, st => by
    rw [towardR]
    exact Nat.le_trans (open_grows _ tw st) (kids_grow kids _ _)
theorem kids_grow : ∀ (ks : List Ry) (p : Pq) (st : List NS), st.length ≤ (kidsR ks p st).2.length
  | [], p, st => by rw [kidsR]; exact Nat.le_refl _
  | k :: ks, p, st => by
    rw [kidsR]
    exact Nat.le_trans (kids_grow ks p st) (Nat.le_trans (toward_grows k _ _) (join_grows _ _ _))
end
theorem finish_grows : ∀ (n : Nat) (S : List (List Ry × Pq)) (st : List NS), S.length = n → st.length ≤ (finishP S st).2.length := by
  intro n
  induction n with
  | zero =>
    intro S st h
    obtain rfl := List.eq_nil_of_length_eq_zero h
    rw [finishP]
    exact Nat.le_refl _
  | succ n ih =>
    intro S st h
    match S, h with
    | [(L, p)], _ => rw [finish_one]; exact kids_grow L p st
    | (L, p) :: (L2, q) :: rest, h =>
      rw [finish_two]
      exact Nat.le_trans (kids_grow L p st) (Nat.le_trans (join_grows q _ _) (ih _ _ (by simp at h ⊢; omega)))
/-- how much is left tw do -/
def leftP (S : List (List Ry × Pq)) : Nat := (S.map (fun x => 2 * (preL x.1).length + 1)).sum
theorem left_push (k : Ry) (L : List Ry) (p q : Pq) (rest : List (List Ry × Pq)) : leftP ((k.kids, q) :: (L, p) :: rest) < leftP ((L ++ [k], p) :: rest) := by
  unfold leftP
  simp only [List.map_cons, List.sum_cons, preL_app, List.length_append]
  have : (preL [k]).length = (preL k.kids).length + 1 := by rw [preL_cons]; simp [preL]
  omega
theorem left_pop (p q q' : Pq) (L : List Ry) (rest : List (List Ry × Pq)) : leftP ((L, q') :: rest) < leftP (([], p) :: (L, q) :: rest) := by
  unfold leftP
  simp only [List.map_cons, List.sum_cons]
  omega
/-- all trees: their ends, and what leads tw them -/
def treesP : List Ry → Int → List NS → List Int × List NS
  | [], _, st => ([], st)
  | t :: r, i, st => let b := towardR t (st.length : Int) (st ++ [endN i]); let q := treesP r (i + 1) b.2; (b.1 :: q.1, q.2)
/-- the splits ahead of them, from the last one on -/
def splitsP : List Int → Int → List NS → Int × List NS
  | [], b, st => (b, st)
  | x :: r, b, st => let q := splitsP r b st; ((q.2.length : Int), q.2 ++ [splitN x q.1])
end Go.Proofs.YtdckjjkaoecgaaaDoor
