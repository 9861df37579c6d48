/-
  classes.parted: its map of the pairs met in plain terms, the classes as far as they are numbered. No conditions.
-/
import Derived.Test.YtlaccbkhlkomhaaCpP
import Derived.Maps.Own
import Derived.Maps.OwnSet
import Derived.DeepKeys4
namespace Go.Proofs.Ytlaccbkhlkomhaa
open Go.RowKit Go.Maps

def sideV (x : Nat × Bool) : Value := .agg #[.int .u8 (x.1 : Int), .bool x.2]
theorem laidOut : laidOutB Try.prog = true := by kernel_rfl
theorem sideLaw : Keyed Try.prog 70 := Keyed.of_law (deep_law_laid laidOut (m := 2) (by omega) (of_decide_eq_true (by kernel_rfl)) (by kernel_rfl) (by kernel_rfl))
theorem side_all : ((List.range 256).all fun c => [true, false].all fun b => (keyOf Try.prog 70 (.agg #[.int .u8 (c : Int), .bool b])).isSome) = true := by kernel_rfl
noncomputable def klOf (x : Nat × Bool) : Lit := (keyOf Try.prog 70 (sideV x)).getD (.bool false)
theorem klOf_key (x : Nat × Bool) (h : x.1 < 256) : keyOf Try.prog 70 (sideV x) = some (klOf x) := by
  have h1 := List.all_eq_true.1 side_all x.1 (List.mem_range.2 h)
  have h2 := List.all_eq_true.1 h1 x.2 (by cases x.2 <;> simp)
  unfold klOf sideV
  cases hk : keyOf Try.prog 70 (.agg #[.int .u8 (x.1 : Int), .bool x.2]) with
  | none => rw [hk] at h2; cases h2
  | some l => rfl
theorem klOf_inj {x y : Nat × Bool} (hx : x.1 < 256) (hy : y.1 < 256) (h : klOf x = klOf y) : x = y := by
  have h1 := klOf_key x hx
  rw [h] at h1
  have := sideLaw.inj h1 (klOf_key y hy)
  unfold sideV at this
  simp at this
  exact Prod.ext (by omega) this.2
theorem posL_new {α : Type} [DecidableEq α] {s : List α} {x : α} (hx : x ∉ s) : posL (s ++ [x]) x = s.length := by
  unfold posL
  rw [List.idxOf_append, if_neg hx]
  simp
theorem posL_old {α : Type} [DecidableEq α] {s : List α} {x y : α} (hx : y ∈ s) : posL (s ++ [x]) y = posL s y := by
  unfold posL
  rw [List.idxOf_append, if_pos hx]
theorem posL_out {α : Type} [DecidableEq α] {s : List α} {x : α} (hx : x ∉ s) : posL s x = s.length := idx_of_not hx
/-- the map of what is met, numbered as it is met -/
noncomputable def numD : List (Nat × Bool) → Nat → DataW Unit → DataW Unit
  | [], _, m => m
  | x :: r, i, m => numD r (i + 1) (m.put (klOf x) (.lit (.int .u8 (i : Int))))
noncomputable def mapD (s : List (Nat × Bool)) : DataW Unit := numD s 0 (.map [])
theorem numD_snoc : ∀ (s : List (Nat × Bool)) (i : Nat) (m : DataW Unit) (x : Nat × Bool), numD (s ++ [x]) i m = (numD s i m).put (klOf x) (.lit (.int .u8 ((i + s.length : Nat) : Int)))
  | [], i, m, x => rfl
  | y :: r, i, m, x => by
    rw [List.cons_append, numD, numD_snoc r, numD]
    congr 4
    simp
    omega
theorem mapD_snoc (s : List (Nat × Bool)) (x : Nat × Bool) : mapD (s ++ [x]) = (mapD s).put (klOf x) (.lit (.int .u8 (s.length : Int))) := by
  unfold mapD
  rw [numD_snoc, Nat.zero_add]
structure MapOk (s : List (Nat × Bool)) : Prop where
  tidy : Tidy (mapD s)
  size : Maps.size (mapD s) = s.length
  has : ∀ x : Nat × Bool, x.1 < 256 → Maps.has (mapD s) (klOf x) = decide (x ∈ s)
  at_ : ∀ x ∈ s, ∀ z, (mapD s).atKey (klOf x) z = .lit (.int .u8 (posL s x : Int))
theorem isKey_klOf (x : Nat × Bool) (h : x.1 < 256) : WideAt.IsKeyLit (klOf x) := sideLaw.key (klOf_key x h)
theorem mapOk : ∀ (n : Nat) (s : List (Nat × Bool)), s.length = n → s.Nodup → (∀ x ∈ s, x.1 < 256) → MapOk s := by
  intro n
  induction n with
  | zero =>
    intro s hl _ _
    have : s = [] := List.eq_nil_of_length_eq_zero hl
    subst this
    exact ⟨tidy_empty, rfl, fun x _ => rfl, fun x hx => by cases hx⟩
  | succ n ih =>
    intro l hl hnd hb
    obtain ⟨s, x, rfl⟩ : ∃ s x, l = s ++ [x] := ⟨l.dropLast, l.getLast (fun e => by rw [e] at hl; simp at hl), (List.dropLast_concat_getLast _).symm⟩
    have hs : s.length = n := by simpa using hl
    rw [List.nodup_append] at hnd
    have hx : x ∉ s := fun h => hnd.2.2 x h x (by simp) rfl
    have hx256 : x.1 < 256 := hb x (by simp)
    have hb' : ∀ y ∈ s, y.1 < 256 := fun y hy => hb y (List.mem_append_left _ hy)
    have h := ih s hs hnd.1 hb'
    have hno : Maps.has (mapD s) (klOf x) = false := by rw [h.has x hx256]; simpa using hx
    refine ⟨?_, ?_, fun y hy => ?_, fun y hy z => ?_⟩
    · rw [mapD_snoc]; exact h.tidy.put (isKey_klOf x hx256) _
    · rw [mapD_snoc, size_put h.tidy, hno, h.size]; simp
    · rw [mapD_snoc]
      by_cases he : y = x
      · subst he
        rw [has_put_same h.tidy.isMap (isKey_klOf y hy)]
        simp
      · rw [has_put_other (fun e => he (klOf_inj hy hx256 e)), h.has y hy]
        simp [he]
    · rw [mapD_snoc]
      by_cases he : y = x
      · subst he
        rw [atKey_put_same h.tidy.isMap (isKey_klOf y hx256)]
        rw [posL_new hx]
      · have hys : y ∈ s := by simpa [he] using hy
        rw [atKey_put_other (fun e => he (klOf_inj (hb' y hys) hx256 e)), h.at_ y hys z]
        rw [posL_old hys]
theorem seenL_nodup {α : Type} [DecidableEq α] : ∀ (l s : List α), s.Nodup → (seenL l s).Nodup
  | [], s, h => h
  | x :: r, s, h => by
    rw [seenL]
    refine seenL_nodup r _ ?_
    split
    · exact h
    · rename_i hx
      rw [List.nodup_append]
      exact ⟨h, by simp, fun a ha b hb => by
        obtain rfl := List.mem_singleton.1 hb
        exact fun e => hx (e ▸ ha)⟩
theorem seenL_sub {α : Type} [DecidableEq α] : ∀ (l s : List α) (x : α), x ∈ seenL l s → x ∈ s ∨ x ∈ l
  | [], s, x, h => .inl h
  | y :: r, s, x, h => by
    rw [seenL] at h
    rcases seenL_sub r _ x h with h1 | h1
    · split at h1
      · exact .inl h1
      · rcases List.mem_append.1 h1 with h2 | h2
        · exact .inl h2
        · obtain rfl := List.mem_singleton.1 h2
          exact .inr (by simp)
    · exact .inr (List.mem_cons_of_mem _ h1)
/-- what is met of the first bytes -/
def seenB (of : List UInt8) (s : St) (k : Nat) : List (Nat × Bool) := seenL (keysB of s k) []
theorem keyB_lt (of : List UInt8) (s : St) (i : Nat) : (keyB of s i).1 < 256 := UInt8.toNat_lt _
theorem seenB_lt (of : List UInt8) (s : St) (k : Nat) : ∀ x ∈ seenB of s k, x.1 < 256 := fun x hx => by
  rcases seenL_sub _ _ _ hx with h | h
  · cases h
  · obtain ⟨i, _, rfl⟩ := List.mem_map.1 h
    exact keyB_lt of s i
theorem seenB_ok (of : List UInt8) (s : St) (k : Nat) : MapOk (seenB of s k) := mapOk _ _ rfl (seenL_nodup _ _ List.nodup_nil) (seenB_lt of s k)
theorem seenB_len (of : List UInt8) (s : St) (k : Nat) : (seenB of s k).length ≤ k := seen_le of s k
theorem seenB_hit {of : List UInt8} {s : St} {k : Nat} (h : keyB of s k ∈ seenB of s k) : seenB of s (k + 1) = seenB of s k := by
  unfold seenB at *
  rw [keysB_succ, seenL_snoc, if_pos h]
theorem seenB_miss {of : List UInt8} {s : St} {k : Nat} (h : keyB of s k ∉ seenB of s k) : seenB of s (k + 1) = seenB of s k ++ [keyB of s k] := by
  unfold seenB at *
  rw [keysB_succ, seenL_snoc, if_neg h]
/-- the classes as far as they are numbered -/
def padL (of : List UInt8) (s : St) (k : Nat) : List UInt8 := (numL (keysB of s k) []).map UInt8.ofNat ++ List.replicate (256 - k) 0
theorem padL_len (of : List UInt8) (s : St) (k : Nat) (hk : k ≤ 256) : (padL of s k).length = 256 := by
  simp [padL, numL_len, keysB_len]
  omega
theorem padL_zero (of : List UInt8) (s : St) : padL of s 0 = cl0 := by
  show List.map UInt8.ofNat [] ++ List.replicate 256 0 = List.replicate 256 0
  rfl
theorem padL_end (of : List UInt8) (s : St) : padL of s 256 = partedL of s := by simp [padL, partedL]
theorem padL_set (of : List UInt8) (s : St) (k : Nat) (hk : k < 256) : padL of s (k + 1) = (padL of s k).set k (UInt8.ofNat (posL (seenB of s k) (keyB of s k))) := by
  unfold padL seenB
  rw [keysB_succ, numL_snoc, List.map_append, show 256 - k = (256 - (k + 1)) + 1 by omega, List.replicate_succ]
  rw [List.set_append_right _ _ (by rw [List.length_map, numL_len, keysB_len]; exact Nat.le_refl _)]
  rw [List.length_map, numL_len, keysB_len, Nat.sub_self, List.set_cons_zero, List.append_assoc]
  rfl
theorem clCells_set (of : List UInt8) (many : Int) (k : Nat) (c : UInt8) (hk : k < of.length) : ((clCells of many).toArray).setIfInBounds k (byteV c) = (clCells (of.set k c) many).toArray := by
  rw [List.setIfInBounds_toArray]
  unfold clCells
  rw [List.set_append_left _ _ (by simpa using hk), List.map_set]
theorem clCells_many_set (of : List UInt8) (m m' : Int) (ho : of.length = 256) : ((clCells of m).toArray).setIfInBounds 256 (intV m') = (clCells of m').toArray := by
  rw [List.setIfInBounds_toArray]
  unfold clCells
  rw [List.set_append_right _ _ (by simp [ho])]
  simp [ho]
/-- a whole struct of classes stored -/
noncomputable def StoreCl (p v : Value) : Sem Unit := Instr.storeAt 25 p v
theorem storeCl_eq (p v : Value) : Instr.storeAt 25 p v = StoreCl p v := rfl
theorem storeCl_run {cs old : Array Value} {W : World} {B : Nat} {t : TypeId} (ho : old.size = 257) (hc : cs.size = 257) (h1 : cs.all (·.oneCell') = true) (h : Blk W B t old) : (StoreCl (.pointer (some ⟨B, 0, none⟩)) (.agg cs)).run Try.prog W = .ok () (W.setRow B cs) := by
  have hi : (Try.prog.info? 25).map (·.size) = some 257 := by kernel_rfl
  unfold StoreCl
  simp only [Instr.storeAt, Instr.sureAddr, Sem.run_bind, Sem.run_pure, Result.andThen_ok, run_storeVar_row W B t 25 old cs h (by rw [hc]; exact hi) (by omega) h1]
theorem cl_one (of : List UInt8) (many : Int) : (clCells of many).toArray.all (·.oneCell') = true := by
  unfold clCells
  simp [Array.all_eq_true, byteV, intV, Value.oneCell']
theorem Blk.setRow {w : World} {g : Nat} {t : TypeId} {cs : Array Value} (h : Blk w g t cs) (cs' : Array Value) : Blk (w.setRow g cs') g t cs' := setRow_heap w g cs cs' t (0, 0) h
theorem Blk.setRow_other {w : World} {g g' : Nat} {t : TypeId} {cs : Array Value} (h : Blk w g t cs) (hne : g ≠ g') (cs' : Array Value) : Blk (w.setRow g' cs') g t cs := (Go.setRow_other w g' g cs' hne).trans h
theorem below_row {B g : Nat} {w0 w : World} (h : Below B w0 w) (hg : B ≤ g) (cs : Array Value) : Below B w0 (w.setRow g cs) := ⟨h.os, h.tape, h.output, by rw [size_setRow]; exact h.size, fun k hk => (Go.setRow_other w g k cs (by omega)).trans (h.block k hk)⟩
end Go.Proofs.Ytlaccbkhlkomhaa
