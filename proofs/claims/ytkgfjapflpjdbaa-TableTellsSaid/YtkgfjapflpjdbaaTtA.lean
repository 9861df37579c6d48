/-
  What TableTells leans on: rows whose cells are written one by one, and what stays beside them; the ways that answer early. Conditions: the table and the bytes lie in memory.
-/
import Derived.Test.YtkgfjapflpjdbaaTrJ
namespace Go.Proofs.Ytkgfjapflpjdbaa
open Go.RowKit Go.Shelf

theorem size_made (W : World) (o : Obj) (g : Nat) (cs : Array Value) : ((W.alloc o).setRow g cs).heap.size = W.heap.size + 1 := by simp [World.setRow]
/-- a row of bytes that may be written -/
def PbW (W : World) (g m : Nat) : Prop := ∃ cs, Blk W g 5 cs ∧ ∀ j, j < m → ∃ z, cs[j]? = some (.int .u8 z)
theorem PbW.lt {W : World} {g m : Nat} (h : PbW W g m) : g < W.heap.size := by obtain ⟨cs, hb, _⟩ := h; exact hb.lt
theorem PbW.below {W W2 : World} {g m : Nat} (h : PbW W g m) (hb : Below W.heap.size W W2) : PbW W2 g m := by obtain ⟨cs, h1, h2⟩ := h; exact ⟨cs, h1.below hb h1.lt, h2⟩
theorem PbW.only {W W2 : World} {g m R : Nat} (h : PbW W g m) (ho : Only R W W2) (hne : g ≠ R) : PbW W2 g m := by obtain ⟨cs, h1, h2⟩ := h; exact ⟨cs, ho.blk h1 hne, h2⟩
theorem PbW.at_ {W : World} {g m : Nat} (h : PbW W g m) (k : Nat) (hk : k < m) : ∃ z, W.cell? ⟨g, k, none⟩ = some (.int .u8 z) ∧ W.frozen? ⟨g, k, none⟩ = false := by
  obtain ⟨cs, h1, h2⟩ := h
  obtain ⟨z, hz⟩ := h2 k hk
  exact ⟨z, by rw [h1.cell]; exact hz, h1.frozen k⟩
theorem PbW.set_ {W : World} {g m : Nat} (h : PbW W g m) (k : Nat) (y : Int) : PbW (W.setCell ⟨g, k, none⟩ (.int .u8 y)) g m := by
  obtain ⟨cs, h1, h2⟩ := h
  refine ⟨_, h1.set_ k _, fun j hj => ?_⟩
  obtain ⟨z, hz⟩ := h2 j hj
  rw [Array.getElem?_setIfInBounds]
  split
  · rename_i e
    subst e
    rw [if_pos (Array.getElem?_eq_some_iff.1 hz).1]
    exact ⟨y, rfl⟩
  · exact ⟨z, hz⟩
theorem PbW.of_out {W1 W : World} {g m cap : Nat} {l : List UInt8} (h : OutAt W1 W (.slice (some ⟨g, 0, none⟩) m cap) l) (hm : l.length = m) : PbW W g m := by
  rcases h.own.2 with ⟨e, _⟩ | ⟨g2, cap2, cur, e, _, hh, hcap, _, hcs, ht⟩
  · cases e
  · simp only [Value.slice.injEq, Option.some.injEq, Addr.mk.injEq, and_true, true_and] at e
    obtain ⟨rfl, _, _⟩ := e
    refine ⟨cur, hh, fun j hj => ?_⟩
    have hjl : j < l.length := by omega
    have h1 : (l.map byteV)[j]? = cur.toList[j]? := by rw [← ht, List.getElem?_take, if_pos (by omega)]
    refine ⟨(l[j].toNat : Int), ?_⟩
    rw [← Array.getElem?_toList, ← h1, List.getElem?_map, List.getElem?_eq_getElem hjl]
    rfl
/-- a row of numbers that may be written -/
def TgW (W : World) (a : Option Addr) (m : Nat) : Prop := 0 < m → ∃ g off t cs, a = some ⟨g, off, none⟩ ∧ Blk W g t cs ∧ ∀ j, j < m → ∃ z, cs[off + j]? = some (.int .i64 z)
theorem TgW.below {W W2 : World} {a : Option Addr} {m : Nat} (h : TgW W a m) (hb : Below W.heap.size W W2) : TgW W2 a m := fun h0 => by obtain ⟨g, off, t, cs, h1, h2, h3⟩ := h h0; exact ⟨g, off, t, cs, h1, h2.below hb h2.lt, h3⟩
theorem TgW.only {W W2 : World} {a : Option Addr} {m R : Nat} (h : TgW W a m) (ho : Only R W W2) (hne : ∀ x, a = some x → x.block ≠ R) : TgW W2 a m := fun h0 => by obtain ⟨g, off, t, cs, h1, h2, h3⟩ := h h0; exact ⟨g, off, t, cs, h1, ho.blk h2 (hne _ h1), h3⟩
theorem TgW.of {W : World} {a : Option Addr} {l : List Int} (h : IntsAt W a l) (hf : ∀ y, a = some y → FreeB W y.block) : TgW W a l.length := fun h0 => by
  obtain ⟨g, off, h1, _⟩ := h.at_ h0
  obtain ⟨t, cs, hb⟩ := hf _ h1
  refine ⟨g, off, t, cs, h1, hb, fun j hj => ?_⟩
  obtain ⟨g2, off2, e, hc⟩ := h.at_ hj
  rw [h1] at e
  simp only [Option.some.injEq, Addr.mk.injEq, and_true] at e
  obtain ⟨rfl, rfl⟩ := e
  exact ⟨l[j], by rw [← hb.cell]; exact hc⟩
theorem TgW.set_ {W : World} {g off m : Nat} (h : TgW W (some ⟨g, off, none⟩) m) (k : Nat) (y : Int) : TgW (W.setCell ⟨g, off + k, none⟩ (.int .i64 y)) (some ⟨g, off, none⟩) m := fun h0 => by
  obtain ⟨g2, off2, t, cs, h1, h2, h3⟩ := h h0
  simp only [Option.some.injEq, Addr.mk.injEq, and_true] at h1
  obtain ⟨rfl, rfl⟩ := h1
  refine ⟨g, off, t, _, rfl, h2.set_ (off + k) _, fun j hj => ?_⟩
  obtain ⟨z, hz⟩ := h3 j hj
  rw [Array.getElem?_setIfInBounds]
  split
  · rename_i e
    rw [← e] at hz
    rw [if_pos (Array.getElem?_eq_some_iff.1 hz).1]
    exact ⟨y, rfl⟩
  · exact ⟨z, hz⟩
theorem TgW.at_ {W : World} {a : Option Addr} {m : Nat} (h : TgW W a m) (k : Nat) (hk : k < m) : ∃ g off z, a = some ⟨g, off, none⟩ ∧ W.cell? ⟨g, off + k, none⟩ = some (.int .i64 z) ∧ W.frozen? ⟨g, off + k, none⟩ = false := by
  obtain ⟨g, off, t, cs, h1, h2, h3⟩ := h (by omega)
  obtain ⟨z, hz⟩ := h3 k hk
  exact ⟨g, off, z, h1, by rw [h2.cell]; exact hz, h2.frozen _⟩
/-- what stays while rows are written -/
structure LpW (w W : World) (X : Array Value) (g4 : Nat) (P : List UInt8) (BU : Nat) (Y : Array Value) (BV : Nat) (U : Tab) (lv : Lie) : Prop where
  low : Below w.heap.size w W
  box : Blk W w.heap.size 30 X
  q : BytesAt W (some ⟨g4, 0, none⟩) P
  bu : Blk W BU 30 Y
  v : TabIn W BV U lv
theorem LpW.later {w W W2 : World} {X : Array Value} {g4 : Nat} {P : List UInt8} {BU : Nat} {Y : Array Value} {BV : Nat} {U : Tab} {lv : Lie} (h : LpW w W X g4 P BU Y BV U lv) (hb : Below W.heap.size W W2) : LpW w W2 X g4 P BU Y BV U lv :=
  ⟨low_trans h.low hb, h.box.below hb h.box.lt, RowAt.below h.q hb, h.bu.below hb h.bu.lt, h.v.below hb⟩
theorem LpW.only {w W W2 : World} {X : Array Value} {g4 : Nat} {P : List UInt8} {BU : Nat} {Y : Array Value} {BV : Nat} {U : Tab} {lv : Lie} (h : LpW w W X g4 P BU Y BV U lv) {R : Nat} (ho : Only R W W2) (h1 : w.heap.size < R) (h2 : g4 ≠ R) (h3 : BU ≠ R) (h4 : BV ≠ R) (h5 : LieFrom (R + 1) lv) : LpW w W2 X g4 P BU Y BV U lv := by
  refine ⟨h.low.trans (ho.below (by omega) h.low.size), ho.blk h.box (by omega), RowAt.only h.q ho (fun _ x hx => by injection hx with hx; rw [← hx]; exact h2), ho.blk h.bu h3, ⟨?_, h.v.at_.only ho (fun x hx => by have := h5.an x hx; omega) (fun x hx => by have := h5.at_ x hx; omega) (fun x hx => by have := h5.ns x hx; omega)⟩⟩
  have : Blk W BV 30 (tabCells U lv).toArray := h.v.blk
  exact ho.blk this h4
theorem LpW.bk {w W : World} {X : Array Value} {g4 : Nat} {P : List UInt8} {BU : Nat} {Y : Array Value} {BV : Nat} {U : Tab} {lv : Lie} (h : LpW w W X g4 P BU Y BV U lv) {t : Tab} {p : Lie} (hX : (tabCells t p).toArray = X) {ab : Option Addr} {bl : List UInt8} (ht : TabAt w t p) (hb : BytesAt w ab bl) : BkW w W t p ab bl :=
  ⟨⟨by rw [hX]; exact h.box, ht.below h.low⟩, RowAt.below hb h.low, h.low⟩
/-- a table is read anew into the first one's block -/
theorem LpW.anew {w W : World} {X : Array Value} {g4 : Nat} {P : List UInt8} {BU : Nat} {Y : Array Value} {BV : Nat} {U : Tab} {lv : Lie} (h : LpW w W X g4 P BU Y BV U lv) (hY : Y.size = 261) {l2 : Lie} {Y2 : Array Value} (h2 : (tabCells U l2).toArray = Y2) (ht : TabAt W U l2) (hl : LieFrom (BU + 1) l2) (h1 : w.heap.size < BU) (h3 : g4 ≠ BU) (h4 : BV ≠ BU) (h5 : LieFrom (BU + 1) lv) :
    (StoreOp 30 (.pointer (some ⟨BU, 0, none⟩)) (.agg Y2)).run Try.prog W = .ok () (W.setRow BU Y2) ∧ Below w.heap.size w (W.setRow BU Y2) ∧ TabIn (W.setRow BU Y2) BU U l2 ∧ TabIn (W.setRow BU Y2) BV U lv ∧ BytesAt (W.setRow BU Y2) (some ⟨g4, 0, none⟩) P ∧ Only BU W (W.setRow BU Y2) := by
  subst h2
  have ho := only_setRow BU W (tabCells U l2).toArray
  refine ⟨store_run W BU Y U l2 h.bu hY ht.of, below_row h.low _ _ (by omega), ⟨setRow_heap _ _ _ _ _ _ h.bu, ht.only ho (fun x hx => by have := hl.an x hx; omega) (fun x hx => by have := hl.at_ x hx; omega) (fun x hx => by have := hl.ns x hx; omega)⟩, ⟨?_, h.v.at_.only ho (fun x hx => by have := h5.an x hx; omega) (fun x hx => by have := h5.at_ x hx; omega) (fun x hx => by have := h5.ns x hx; omega)⟩, RowAt.only h.q ho (fun _ x hx => by injection hx with hx; rw [← hx]; exact h3), ho⟩
  have : Blk W BV 30 (tabCells U lv).toArray := h.v.blk
  exact ho.blk this h4
theorem readT_wf (l : List UInt8) : (Lit.int .i64 (readT l).many).wf = true := by
  cases h : readB l with
  | true => exact right_wf (pack_read l h).2.1
  | false =>
    unfold readT
    rw [h]
    rfl
attribute [local go_sem ↓] loadOp_C loadOp_T allocOp_T storeOp_T buildOp_T
set_option maxRecDepth 100000 in
set_option maxHeartbeats 2000000 in
theorem tableTells_early (t : Tab) (p : Lie) (X : Array Value) (hX : (tabCells t p).toArray = X) (s : Int) (x : UInt8) (ab : Option Addr) (bl : List UInt8) (cb n : Nat) (w : World) (h : TabAt w t p) (hb : BytesAt w ab bl) (hf : fewB t = false ∨ fewB t = true ∧ 6000 < n) :
    Calls Try.prog 3 #[.agg X, .int .i64 s, .int .u8 (x.toNat : Int), .slice ab n cb] w fun e w' => e = .returned (.bool true) ∧ Below w.heap.size w w' := by
  have h0 := BkW.start h hb
  rw [hX] at h0
  have hld := h0.tab.read.all
  rw [hX] at hld
  have HW0 := Lib.hid h0
  have HFW : Hid (∀ W, BkW w W t p ab bl → Calls Try.prog 7 #[.agg X] W fun e w' => e = .returned (.bool (fewB t)) ∧ Below W.heap.size W w') := fun W hW => few_any t p X hX W hW.tab.at_
  have HAW := Lib.hid awake_any
  clear h hb hX h0
  rcases hf with hf | ⟨hf, hl⟩
  · rw [hf] at HFW
    clear hf
    go_enter Try.func3, Try.ntmps3
    go_wp2_with (first
      | (go_at_call 7; refine (HFW.out _ HW0.out).mono ?_; rintro e w1 ⟨rfl, hb1⟩; have HW1 := Lib.hid (HW0.out.later hb1); clear hb1)
      | (go_at_call 8; refine (HAW.out _).mono ?_; rintro e w2 ⟨rfl, hb2⟩; have HW2 := Lib.hid (HW1.out.later hb2); clear hb2))
    go_ret
    exact ⟨rfl, HW2.out.low⟩
  · rw [hf] at HFW
    clear hf
    have hl2 : (6000 : Int) < (n : Int) := by omega
    go_enter Try.func3, Try.ntmps3
    go_wp2_with (first
      | (go_at_call 7; refine (HFW.out _ HW0.out).mono ?_; rintro e w1 ⟨rfl, hb1⟩; have HW1 := Lib.hid (HW0.out.later hb1); clear hb1)
      | (go_at_call 8; refine (HAW.out _).mono ?_; rintro e w2 ⟨rfl, hb2⟩; have HW2 := Lib.hid (HW1.out.later hb2); clear hb2))
    go_ret
    exact ⟨rfl, HW2.out.low⟩
end Go.Proofs.Ytkgfjapflpjdbaa
