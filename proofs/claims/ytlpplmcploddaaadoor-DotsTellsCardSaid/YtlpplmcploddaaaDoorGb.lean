/-
  Slices of bytes, parted: what 'b[k:]' and 'b[:k]' are. No conditions but the cells.
-/
import Derived.Test.YtlpplmcploddaaaDoorGc
import Derived.OwnWalk
namespace Go.Proofs.YtlpplmcploddaaaDoor
open Go.RowKit

theorem take_bytes {W : World} {a : Option Addr} {l : List UInt8} (h : BytesAt W a l) (k : Nat) : BytesAt W a (l.take k) := by
  have hlen : (l.take k).length ≤ l.length := by rw [List.length_take]; omega
  refine ⟨by have := h.len; rw [List.length_map]; omega, fun h0 => ?_⟩
  rw [List.length_map] at h0
  obtain ⟨g, off, e1, e2, e3⟩ := RowAt.row h (by rw [List.length_map]; omega)
  refine ⟨g, off, e1, e2, fun j hj => ?_⟩
  rw [List.length_map] at hj
  rw [e3 j (by rw [List.length_map]; omega), List.getElem_map, List.getElem_map, List.getElem_take]
theorem rem_of (n m : Nat) (h : 0 < m) : (n : Int).tmod (m : Int) = ((n % m : Nat) : Int) := by
  rw [Int.tmod_eq_emod_of_nonneg (by omega), Int.natCast_emod]
theorem below_drewN {B : Nat} {a w : World} (h : Below B a w) (n : Nat) : Below B a (w.drewN n) := ⟨h.os, h.tape, h.output, h.size, h.block⟩
theorem drop_bytes {W : World} {a : Option Addr} {l : List UInt8} (h : BytesAt W a l) (k : Nat) (e : Option Addr) (he : k < l.length → e = a.map (·.add k)) : BytesAt W e (l.drop k) := by
  have hlen : (l.drop k).length = l.length - k := List.length_drop
  refine ⟨by have := h.len; rw [List.length_map]; omega, fun h0 => ?_⟩
  rw [List.length_map] at h0
  obtain ⟨g, off, rfl, e2, e3⟩ := RowAt.row h (by rw [List.length_map]; omega)
  refine ⟨g, off + k, by rw [he (by omega)]; simp [Addr.add_mid], e2, fun j hj => ?_⟩
  rw [List.length_map] at hj
  have := e3 (k + j) (by rw [List.length_map]; omega)
  rw [Nat.add_assoc, this, List.getElem_map, List.getElem_map, List.getElem_drop]
theorem u8_size (W : World) : (sizeOf (Tryd.prog.elem 22)).run Tryd.prog W = .ok 1 W := by kernel_rfl
/-- 'b[k:]' -/
theorem slice_from (a : Option Addr) (n c k : Nat) (hc : n ≤ c) (hk : k ≤ n) : ∃ a' : Option Addr, (k < n → a' = a.map (·.add k)) ∧ ∀ W, (Instr.slice 22 (.slice a n c) (some (.int .i64 (k : Int))) none none).run Tryd.prog W = .ok (.slice a' (n - k) (c - k)) W := by
  refine ⟨(if c = k then a else a.map (·.add k)), fun h => by rw [if_neg (by omega)], fun W => ?_⟩
  rw [run_slice_l W 22 _ _ _ (by kernel_rfl) .i64 (k : Int) (by omega) (by omega), u8_size]
  simp [sliced]
/-- 'b[:k]' -/
theorem slice_to (a : Option Addr) (n c k : Nat) (hk : k ≤ c) (W : World) : (Instr.slice 22 (.slice a n c) none (some (.int .i64 (k : Int))) none).run Tryd.prog W = .ok (.slice a k c) W := by
  rw [run_slice_h W 22 _ _ _ (by kernel_rfl) .i64 (k : Int) (by omega) (by omega), u8_size]
  simp [sliced]
  intro _
  cases a with
  | none => rfl
  | some x => simp; unfold Addr.add; split <;> simp_all
/-- append of no element at all -/
theorem run_append_zero {P : Program} {w : World} (base : Nat) (t ty e : TypeId) (i : TypeInfo) (size : Nat) (ht : P.underlying t = some (.slice e)) (hi : P.info? e = some i)
    (v : Value) (n : Nat) (xs : List Value) (hown : w.ownsRow base e size v n xs) (A : Option Addr) (c : Nat) :
    (Builtin.append_ #[t, t] ty #[v, .slice A 0 c]).run P w = .ok v w := by
  rcases hown.2 with ⟨rfl, rfl⟩ | ⟨g, cap, cur, rfl, _, _, hnc, _⟩
  · cases A <;> simp [Builtin.append_, run_underlying ht, sizeOf, typeInfo, hi, Builtin.lenOf, Builtin.firstCells, loadCells, loadCellsFrom]
  · cases A <;> simp [Builtin.append_, run_underlying ht, sizeOf, typeInfo, hi, Builtin.lenOf, Builtin.firstCells, hnc, storeCells, loadCells, loadCellsFrom]
theorem wpList_append_zero {P : Program} {w : World} {ops : Array Oper} {rest : List Oper} {o : Oper} {a : Act} {Q : Exit → Act → World → Prop} (hgd : o.guard = none) (s x : Operand) (t : TypeId)
    (ho : o.op = .call { callee := .builtin .append, args := #[s, x], argTypes := #[t, t] })
    (base : Nat) (e : TypeId) (i : TypeInfo) (size : Nat) (ht : P.underlying t = some (.slice e)) (hi : P.info? e = some i)
    (v : Value) (n : Nat) (xs : List Value) (hs : a.eval s = v) (hown : w.ownsRow base e size v n xs) (A : Option Addr) (c : Nat) (hx : a.eval x = .slice A 0 c)
    (h : wpList P ops Q rest (a.put o.dst v) w) : wpList P ops Q (o :: rest) a w := by
  refine wpList_plain hgd fun K hK => ?_
  have hrun := run_append_zero (P := P) (w := w) base t o.type e i size ht hi v n xs hown A c
  unfold Oper.wp
  simp [execOp, ho, resolve, invoke, builtin, hs, hx, hrun, Result.andThen]
  exact hK _ _ h
/-- append of a row that may be empty, to a row of one's own that may be nil -/
theorem wpList_append_rows {P : Program} {w : World} {ops : Array Oper} {rest : List Oper} {o : Oper} {a : Act} {Q : Exit → Act → World → Prop} (hgd : o.guard = none) (s x : Operand) (t : TypeId)
    (ho : o.op = .call { callee := .builtin .append, args := #[s, x], argTypes := #[t, t] })
    (base : Nat) (e : TypeId) (i : TypeInfo) (z : Value) (size bytes : Nat) (ht : P.underlying t = some (.slice e)) (hi : P.info? e = some i) (hz : i.zero = some z)
    (hsize : i.size = size) (hby : i.bytes = bytes) (hzs : z.cells.size = size) (hsz : 0 < size)
    (v : Value) (n : Nat) (xs : List Value) (hs : a.eval s = v) (hown : w.ownsRow base e size v n xs)
    (A : Option Addr) (m c : Nat) (news : List Value) (hx : a.eval x = .slice A m c) (hl : news.length = m * size) (hnews : RowAt w A news) (h1 : ∀ u ∈ news, u.oneCell' = true)
    (h63 : n + m ≤ maxLen) (hbytes : (n + m) * bytes ≤ 140737488355328) (hbase : base ≤ w.heap.size)
    (h : ∀ v' w', w'.ownsRow base e size v' (n + m) (xs ++ news) → w.grownBy w' v.ownBlock → wpList P ops Q rest (a.put o.dst v') w') : wpList P ops Q (o :: rest) a w := by
  by_cases hm : m = 0
  · subst hm
    have hn : news = [] := List.eq_nil_of_length_eq_zero (by omega)
    subst hn
    refine wpList_append_zero hgd s x t ho base e i size ht hi _ n xs hs hown A c hx ?_
    exact h v w (by rw [List.append_nil]; exact hown) (World.grownBy.refl _ _)
  · have h0 : 0 < news.length := by rw [hl]; exact Nat.mul_pos (by omega) hsz
    obtain ⟨b, off, rfl, _, hc⟩ := hnews.row h0
    refine wpList_append_own w hgd s x t ho base e i z size bytes ht hi hz hsize hby hzs hsz v n xs hs hown ⟨b, off, none⟩ m c news hx hl ?_ h1 h63 hbytes hbase (fun v' w' k1 k2 _ => h v' w' k1 k2)
    intro j u hj
    obtain ⟨hj2, rfl⟩ := List.getElem?_eq_some_iff.1 hj
    rw [Addr.add_mid]
    exact hc j hj2
end Go.Proofs.YtlpplmcploddaaaDoor
