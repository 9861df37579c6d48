/-
  The maker of a machine's states in memory; the contracts of nfa.end, onByte, split, and of (*maker).add and tooMany. Conditions: at most a million states.
-/
import Derived.Test.YtdckjjkaoecgaaaDoorNbP
import Derived.Test.YtdckjjkaoecgaaaDoorGd
import Derived.Deep.RegionLaw
namespace Go.Proofs.YtdckjjkaoecgaaaDoor
open Go.RowKit

def nsCells (s : NS) : List Value := [.int .u8 (s.kind : Int), .int .u64 (s.s0 : Int), .int .u64 (s.s1 : Int), .int .u64 (s.s2 : Int), .int .u64 (s.s3 : Int), .int .i64 s.a, .int .i64 s.b, .int .i64 s.tag]
theorem nsFlat_len (l : List NS) : (l.flatMap nsCells).length = l.length * 8 := by
  induction l with
  | nil => rfl
  | cons s r ih => rw [List.flatMap_cons, List.length_append, ih, List.length_cons]; show 8 + _ = _; omega
theorem nsFlat_at (l : List NS) (i : Nat) (hi : i < l.length) (j : Nat) (hj : j < 8) : (l.flatMap nsCells)[i * 8 + j]? = (nsCells l[i])[j]? := by
  induction l generalizing i with
  | nil => simp at hi
  | cons t r ih =>
    rw [List.flatMap_cons]
    match i, hi with
    | 0, _ => rw [Nat.zero_mul, Nat.zero_add, List.getElem?_append_left (by show j < 8; omega)]; rfl
    | i + 1, hi =>
      rw [List.getElem?_append_right (by show 8 ≤ _; omega), show (i + 1) * 8 + j - (nsCells t).length = i * 8 + j from by show (i + 1) * 8 + j - 8 = _; omega]
      simp at hi
      rw [ih i hi]
      rfl
theorem nsFlat_app (l : List NS) (s : NS) : (l ++ [s]).flatMap nsCells = l.flatMap nsCells ++ nsCells s := by rw [List.flatMap_append]; simp
theorem infoNs : (Tryd.prog.info? 56).map (fun i => (i.zero, i.size, i.bytes)) = some (some (.agg #[.int .u8 0, .int .u64 0, .int .u64 0, .int .u64 0, .int .u64 0, .int .i64 0, .int .i64 0, .int .i64 0]), 8, 64) := by kernel_rfl
/-- the maker: its block, its states in a row of its own -/
structure Mk (w : World) (M B : Nat) (v : Value) (st : List NS) (most : Int) : Prop where
  blk : Blk w M 65 #[v, .int .i64 most]
  own : w.ownsRow B 56 8 v st.length (st.flatMap nsCells)
  low : B ≤ M
/-- blocks of other types stay -/
def KeepT (w w' : World) : Prop := ∀ g t cs, Blk w g t cs → t ≠ 65 → t ≠ 56 → Blk w' g t cs
theorem KeepT.refl (w : World) : KeepT w w := fun _ _ _ h _ _ => h
theorem KeepT.trans {a b c : World} (h : KeepT a b) (k : KeepT b c) : KeepT a c := fun g t cs hb h1 h2 => k g t cs (h g t cs hb h1 h2) h1 h2
theorem KeepT.of_below {w w' : World} (h : Below w.heap.size w w') : KeepT w w' := fun _ _ _ hb _ _ => hb.below h hb.lt
theorem KeepT.alloc {a w : World} (h : KeepT a w) (o : Obj) : KeepT a (w.alloc o) := fun g t cs hb h1 h2 => (h g t cs hb h1 h2).alloc o
theorem KeepT.own {w w' : World} (h : KeepT w w') {B z n : Nat} {e : TypeId} {v : Value} {x : List Value} (ho : w.ownsRow B e z v n x) (h1 : e ≠ 65) (h2 : e ≠ 56) : w'.ownsRow B e z v n x := by
  refine ⟨ho.1, ?_⟩
  rcases ho.2 with h0 | ⟨g, cap, cur, e1, hg, hb, r⟩
  · exact .inl h0
  · exact .inr ⟨g, cap, cur, e1, hg, h g e cur hb h1 h2, r⟩
theorem KeepT.lt {w w' : World} (h : KeepT w w') {g : Nat} {t : TypeId} {cs : Array Value} (hb : Blk w g t cs) (h1 : t ≠ 65) (h2 : t ≠ 56) : Blk w' g t cs := h g t cs hb h1 h2
theorem Mk.later {w w' : World} {M B : Nat} {v : Value} {st : List NS} {most : Int} (h : Mk w M B v st most) (hb : Below w.heap.size w w') : Mk w' M B v st most :=
  ⟨h.blk.below hb h.blk.lt, ownsRow_kept h.own hb, h.low⟩
theorem Mk.alloc {w : World} {M B : Nat} {v : Value} {st : List NS} {most : Int} (h : Mk w M B v st most) (o : Obj) : Mk (w.alloc o) M B v st most := ⟨h.blk.alloc o, h.own.alloc o, h.low⟩
theorem Mk.drew {w : World} {M B : Nat} {v : Value} {st : List NS} {most : Int} (h : Mk w M B v st most) : Mk w.drew M B v st most := ⟨h.blk.drew, h.own.drew, h.low⟩
theorem Mk.ge {w : World} {M B : Nat} {v : Value} {st : List NS} {most : Int} (h : Mk w M B v st most) : B ≤ w.heap.size := Nat.le_trans h.low (Nat.le_of_lt h.blk.lt)
/-- what a call of the maker leaves -/
structure MkOut (B : Nat) (w w' : World) (M : Nat) (st : List NS) (most : Int) : Prop where
  maker : ∃ v, Mk w' M B v st most
  low : Below B w w'
  keep : KeepT w w'

set_option maxRecDepth 100000 in
theorem end_any (t : Int) (w : World) : Calls Tryd.prog 52 #[.int .i64 t] w fun e w' => e = .returned (.agg (nsCells (endN t)).toArray) ∧ Below w.heap.size w w' := by
  have HL : Hid (Below w.heap.size w (w.alloc (.cells #[.int .u8 0, .int .u64 0, .int .u64 0, .int .u64 0, .int .u64 0, .int .i64 0, .int .i64 0, .int .i64 t] 56))) := (Below.refl _ _).alloc (Nat.le_refl _) _
  have HK : Hid (Blk (w.alloc (.cells #[.int .u8 0, .int .u64 0, .int .u64 0, .int .u64 0, .int .u64 0, .int .i64 0, .int .i64 0, .int .i64 t] 56)) w.heap.size 56 #[.int .u8 0, .int .u64 0, .int .u64 0, .int .u64 0, .int .u64 0, .int .i64 0, .int .i64 0, .int .i64 t]) := Blk.new _ _ _
  go_enter Tryd.func52, Tryd.ntmps52
  go_wp2
  refine bodyPost_ret (results_cell1 rfl _ _ w.heap.size _ _ _ _ rfl HK.out Tryd.underlying56 rfl (by kernel_rfl)) rfl ?_
  exact ⟨rfl, HL.out⟩
set_option maxRecDepth 100000 in
theorem split_any (a b : Int) (w : World) : Calls Tryd.prog 54 #[.int .i64 a, .int .i64 b] w fun e w' => e = .returned (.agg (nsCells (splitN a b)).toArray) ∧ Below w.heap.size w w' := by
  have HL : Hid (Below w.heap.size w (w.alloc (.cells #[.int .u8 2, .int .u64 0, .int .u64 0, .int .u64 0, .int .u64 0, .int .i64 a, .int .i64 b, .int .i64 0] 56))) := (Below.refl _ _).alloc (Nat.le_refl _) _
  have HK : Hid (Blk (w.alloc (.cells #[.int .u8 2, .int .u64 0, .int .u64 0, .int .u64 0, .int .u64 0, .int .i64 a, .int .i64 b, .int .i64 0] 56)) w.heap.size 56 #[.int .u8 2, .int .u64 0, .int .u64 0, .int .u64 0, .int .u64 0, .int .i64 a, .int .i64 b, .int .i64 0]) := Blk.new _ _ _
  go_enter Tryd.func54, Tryd.ntmps54
  go_wp2
  refine bodyPost_ret (results_cell1 rfl _ _ w.heap.size _ _ _ _ rfl HK.out Tryd.underlying56 rfl (by kernel_rfl)) rfl ?_
  exact ⟨rfl, HL.out⟩
set_option maxRecDepth 100000 in
theorem onByte_any (t : Ry) (tw : Int) (w : World) : Calls Tryd.prog 61 #[.agg #[.int .u64 (t.s0 : Int), .int .u64 (t.s1 : Int), .int .u64 (t.s2 : Int), .int .u64 (t.s3 : Int)], .int .i64 tw] w fun e w' => e = .returned (.agg (nsCells (byteN t tw)).toArray) ∧ Below w.heap.size w w' := by
  have HL : Hid (Below w.heap.size w ((w.alloc (.cells #[.int .u64 (t.s0 : Int), .int .u64 (t.s1 : Int), .int .u64 (t.s2 : Int), .int .u64 (t.s3 : Int)] 44)).alloc (.cells #[.int .u8 1, .int .u64 (t.s0 : Int), .int .u64 (t.s1 : Int), .int .u64 (t.s2 : Int), .int .u64 (t.s3 : Int), .int .i64 tw, .int .i64 0, .int .i64 0] 56))) := ((Below.refl _ _).alloc (Nat.le_refl _) _).alloc (by simp) _
  have HK : Hid (Blk ((w.alloc (.cells #[.int .u64 (t.s0 : Int), .int .u64 (t.s1 : Int), .int .u64 (t.s2 : Int), .int .u64 (t.s3 : Int)] 44)).alloc (.cells #[.int .u8 1, .int .u64 (t.s0 : Int), .int .u64 (t.s1 : Int), .int .u64 (t.s2 : Int), .int .u64 (t.s3 : Int), .int .i64 tw, .int .i64 0, .int .i64 0] 56)) (w.heap.size + 1) 56 #[.int .u8 1, .int .u64 (t.s0 : Int), .int .u64 (t.s1 : Int), .int .u64 (t.s2 : Int), .int .u64 (t.s3 : Int), .int .i64 tw, .int .i64 0, .int .i64 0]) := Blk.new_at _ _ _ _ (by simp)
  go_enter Tryd.func61, Tryd.ntmps61
  go_wp2
  refine bodyPost_ret (results_cell1 rfl _ _ (w.heap.size + 1) _ _ _ _ rfl HK.out Tryd.underlying56 rfl (by kernel_rfl)) rfl ?_
  exact ⟨rfl, HL.out⟩
/-- one state more, as a step of a region that draws -/
theorem step_ns {ops : Array Oper} {o : Oper} {act : Act} {K : Act → World → Prop} {Q : Exit → Act → World → Prop} {W : World} {E : Prop} (hgd : o.guard = none) (s x : Operand)
    (ho : o.op = .call { callee := .builtin .append, args := #[s, x], argTypes := #[23, 23] })
    (B : Nat) (v : Value) (l : List NS) (t : NS) (hs : act.eval s = v) (hown : W.ownsRow B 56 8 v l.length (l.flatMap nsCells)) (hB : B ≤ W.heap.size) (g : Nat) (hx : act.eval x = .slice (some ⟨g, 0, none⟩) 1 1) (hb : Blk W g 56 (nsCells t).toArray) (hl : l.length ≤ 1000000)
    (h : ∀ g cap W', W'.ownsRow B 56 8 (.slice (some ⟨g, 0, none⟩) (l.length + 1) cap) (l.length + 1) ((l ++ [t]).flatMap nsCells) → W.grownBy W' v.ownBlock → K (act.put o.dst (.slice (some ⟨g, 0, none⟩) (l.length + 1) cap)) W') :
    if Region.wanted o (yielded ops act.tmps) = true then Oper.wp Tryd.prog o act W K Q else E := by
  obtain ⟨i0, hi, hz0, hz1, hz2⟩ := info_parts infoNs
  have hw : Region.wanted o (yielded ops act.tmps) = true := by simp [Region.wanted, hgd]
  rw [if_pos hw]
  refine wp_append_own W s x 23 ho B 56 i0 (.agg #[.int .u8 0, .int .u64 0, .int .u64 0, .int .u64 0, .int .u64 0, .int .i64 0, .int .i64 0, .int .i64 0]) 8 64 Tryd.underlying23 hi hz0 hz1 hz2 rfl (by decide) v l.length _ hs hown ⟨g, 0, none⟩ 1 1 (nsCells t) hx rfl ?_ ?_ (by unfold maxLen; omega) (by omega) hB ?_
  · intro j u hj
    rw [Addr.add_lit, Nat.zero_add, hb.cell j]
    simpa using hj
  · simp [nsCells, Value.oneCell']
  · intro v' W' h2 h3 _
    have h4 := h2.2
    rcases h4 with ⟨_, h0⟩ | ⟨g', cap, cur, e, _⟩
    · omega
    · subst e
      refine h g' cap W' ?_ h3
      rw [nsFlat_app]
      exact h2
end Go.Proofs.YtdckjjkaoecgaaaDoor
