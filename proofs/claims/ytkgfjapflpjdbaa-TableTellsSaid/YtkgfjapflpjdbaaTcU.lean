/-
  Appends of rows of bytes, as TableCut makes them; how many bytes a small table has; a byte is stored in a row of one's own. No conditions but the cells.
-/
import Derived.Test.YtkgfjapflpjdbaaTkA
import Derived.Laws.OwnMore
namespace Go.Proofs.Ytkgfjapflpjdbaa
open Go.RowKit

theorem app_more {ops : Array Oper} {rest : List Oper} {o : Oper} {act : Act} {Q : Exit → Act → World → Prop} {w : World} (hgd : o.guard = none) (s x : Operand)
    (ho : o.op = .call { callee := .builtin .append, args := #[s, x], argTypes := #[31, 31] })
    (W1 : World) (v : Value) (l : List UInt8) (hs : act.eval s = v) (hv : OutAt W1 w v l)
    (a : Addr) (m c : Nat) (r : List UInt8) (hx : act.eval x = .slice (some a) m c) (hr : r.length = m) (hb : BytesAt w (some a) r) (hle : l.length + m ≤ 1000000)
    (h : ∀ v' w', OutAt W1 w' v' (l ++ r) → wpList Try.prog ops Q rest (act.put o.dst v') w') : wpList Try.prog ops Q (o :: rest) act w := by
  obtain ⟨i0, hi, hz0, hz1, hz2⟩ := info_parts info8
  refine wpList_append_own w hgd s x 31 ho W1.heap.size 5 i0 (.int .u8 0) 1 1 Try.underlying31 hi hz0 hz1 hz2 rfl (by decide) v l.length (l.map byteV) hs hv.own a m c (r.map byteV) hx (by rw [List.length_map, hr, Nat.mul_one]) ?_ ?_ (by unfold maxLen; omega) (by omega) hv.low.size ?_
  · intro j u hj
    obtain ⟨hj2, rfl⟩ := List.getElem?_eq_some_iff.1 hj
    obtain ⟨b, off, e1, e2, e3⟩ := RowAt.row hb (by omega)
    injection e1 with e1
    subst e1
    rw [Addr.add_mid]
    exact e3 j hj2
  · intro u hu
    obtain ⟨b, _, rfl⟩ := List.mem_map.1 hu
    rfl
  · intro v' w' h2 h3 _
    refine h v' w' (hv.grown ?_ h3)
    rw [List.length_append, hr, List.map_append]
    exact h2
theorem lit_start (W1 : World) (g : Nat) (hg : g = W1.heap.size) : OutAt W1 (W1.alloc (.cells #[] 5)) (.slice (some ⟨g, 0, none⟩) 0 0) [] := by
  subst hg
  exact ⟨World.ownsRow_lit W1 #[] 0 (Nat.le_refl _) (Nat.zero_le _) rfl, (Below.refl _ _).alloc (Nat.le_refl _) _⟩
theorem lit_one (w : World) : BytesAt (w.alloc (.cells #[.int .u8 0] 5)) (some ⟨w.heap.size, 0, none⟩) [0] := by
  refine ⟨by decide, fun _ => ⟨w.heap.size, 0, rfl, by simp, fun j hj => ?_⟩⟩
  have := (Blk.new w 5 #[.int .u8 0]).cell j
  rw [Nat.zero_add, this]
  simp at hj
  subst hj
  rfl
theorem sum_names : ∀ (l : List (List UInt8)), (∀ s ∈ l, s.length ≤ 100) → (namesP l).length ≤ l.length * 101
  | [], _ => Nat.le_refl _
  | s :: r, h => by
    have h1 := h s (List.mem_cons_self ..)
    have h2 := sum_names r (fun x hx => h x (List.mem_cons_of_mem _ hx))
    have e : namesP (s :: r) = nameBytes s ++ namesP r := List.flatMap_cons ..
    rw [e, List.length_append, List.length_cons]
    have : (nameBytes s).length = s.length + 1 := rfl
    omega
theorem pack_few (t : Tab) (hf : fewB t = true) (ho : t.of.length = 256) : (packP t).length ≤ 10000 := by
  unfold fewB fewD at hf
  simp only [Bool.and_eq_true, decide_eq_true_eq, List.all_eq_true] at hf
  obtain ⟨⟨h1, h2⟩, h3, h4⟩ := hf
  have h5 := sum_names t.names h2
  have h6 : (tagsP t.tags).length = t.tags.length := by unfold tagsP; simp
  have h7 : (nextP t.next).length = t.next.length * 2 := by unfold nextP; exact flat_len (wd := 2) _ (fun z _ => rfl)
  have h8 : (headP t).length = 7 := by unfold headP; simp [twoOf]
  unfold packP
  simp only [List.length_append, h6, h7, h8, ho]
  have : t.names.length * 101 ≤ 20 * 101 := Nat.mul_le_mul_right _ h1
  omega
/-- a byte is stored -/
theorem OutAt.stored {W1 W : World} {g m cap : Nat} {l : List UInt8} (h : OutAt W1 W (.slice (some ⟨g, 0, none⟩) m cap) l) (hm : l.length = m) (i : Nat) (x : UInt8) : OutAt W1 (W.setCell ⟨g, i, none⟩ (.int .u8 (x.toNat : Int))) (.slice (some ⟨g, 0, none⟩) m cap) (l.set i x) := by
  have h1 := h.own
  rw [hm] at h1
  obtain ⟨h2, h3⟩ := h1.stored i (byteV x)
  refine h.grown ?_ h3
  rw [List.length_set, hm, List.map_set]
  exact h2
theorem OutAt.bytes {W1 W : World} {v : Value} {l : List UInt8} {m : Nat} (h : OutAt W1 W v l) (hm : l.length = m) (hpos : 0 < m) : ∃ g cap, v = .slice (some ⟨g, 0, none⟩) m cap ∧ BytesAt W (some ⟨g, 0, none⟩) l ∧ m ≤ cap ∧ cap ≤ maxLen := by
  have := own_bytes h.own (by omega)
  rw [hm] at this
  exact this
theorem OutAt.bytes2 {W1 W : World} {g m cap : Nat} {l : List UInt8} (h : OutAt W1 W (.slice (some ⟨g, 0, none⟩) m cap) l) (hm : l.length = m) (hpos : 0 < m) : BytesAt W (some ⟨g, 0, none⟩) l := by
  obtain ⟨g', cap', e, hb, _⟩ := h.bytes hm hpos
  simp only [Value.slice.injEq, Option.some.injEq, Addr.mk.injEq, and_true, true_and] at e
  obtain ⟨rfl, rfl⟩ := e
  exact hb
theorem OutAt.place {W1 W : World} {g m cap : Nat} {l : List UInt8} (h : OutAt W1 W (.slice (some ⟨g, 0, none⟩) m cap) l) (hm : l.length = m) (i : Nat) (hi : i < m) : ∃ z, W.frozen? ⟨g, i, none⟩ = false ∧ W.cell? ⟨g, i, none⟩ = some (.int .u8 z) := by
  have h1 := h.own
  rw [hm] at h1
  have hi2 : i < l.length := by omega
  refine ⟨(l[i].toNat : Int), h1.frozenAt i, ?_⟩
  rw [h1.cellAt i (by omega), List.getElem?_map, List.getElem?_eq_getElem hi2]
  rfl
/-- what is kept of the table, its bytes and the bytes that came in -/
structure CtW (w W : World) (t : Tab) (p : Lie) (ab : Option Addr) (bl : List UInt8) (g : Nat) (P : List UInt8) : Prop where
  k : BkW w W t p ab bl
  pk : BytesAt W (some ⟨g, 0, none⟩) P
theorem CtW.later {w W W2 : World} {t : Tab} {p : Lie} {ab : Option Addr} {bl : List UInt8} {g : Nat} {P : List UInt8} (h : CtW w W t p ab bl g P) (hb : Below W.heap.size W W2) : CtW w W2 t p ab bl g P :=
  ⟨h.k.later hb, RowAt.below h.pk hb⟩
/-- a table is stored in a block that was just made, whatever it is -/
theorem made_any (W : World) (Y Z : Array Value) (hz : Z.size = 261) (h : ∃ t lie, (tabCells t lie).toArray = Y ∧ TabAt W t lie) :
    (StoreOp 30 (.pointer (some ⟨W.heap.size, 0, none⟩)) (.agg Y)).run Try.prog (W.alloc (.cells Z 30)) = .ok () ((W.alloc (.cells Z 30)).setRow W.heap.size Y) ∧ Below W.heap.size W ((W.alloc (.cells Z 30)).setRow W.heap.size Y) := by
  obtain ⟨t, lie, rfl, ht⟩ := h
  obtain ⟨h1, _, h3⟩ := tab_made W t lie Z hz ht
  exact ⟨h1, h3⟩
theorem take_bytes {W : World} {a : Option Addr} {l : List UInt8} (h : BytesAt W a l) (k : Nat) : BytesAt W a (l.take k) := by
  have hlen : (l.take k).length ≤ l.length := by rw [List.length_take]; omega
  refine ⟨by have := h.len; rw [List.length_map]; omega, fun h0 => ?_⟩
  rw [List.length_map] at h0
  obtain ⟨g, off, e1, e2, e3⟩ := RowAt.row h (by rw [List.length_map]; omega)
  refine ⟨g, off, e1, e2, fun j hj => ?_⟩
  rw [List.length_map] at hj
  rw [e3 j (by rw [List.length_map]; omega), List.getElem_map, List.getElem_map, List.getElem_take]
theorem rem_of (n m : Nat) (h : 0 < m) : (n : Int).tmod (m : Int) = ((n % m : Nat) : Int) := by
  rw [Int.tmod_eq_emod_of_nonneg (by omega), Int.natCast_emod]
end Go.Proofs.Ytkgfjapflpjdbaa
