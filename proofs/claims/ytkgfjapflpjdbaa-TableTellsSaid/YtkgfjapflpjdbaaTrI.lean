/-
  A table that the document's reader fills: how it lies in memory, and what an append to one of its lists leaves. No conditions but the cells.
-/
import Derived.Test.YtkgfjapflpjdbaaTrH
import Derived.RangeFuncBox
namespace Go.Proofs.Ytkgfjapflpjdbaa
open Go.RowKit Go.Shelf

/-- all blocks but two stay -/
structure Kept2 (W W' : World) (row : Option Nat) (G : Nat) : Prop where
  os : W'.os = W.os
  tape : W'.tape = W.tape
  output : W'.output = W.output
  size : W.heap.size ≤ W'.heap.size
  block : ∀ k, k < W.heap.size → some k ≠ row → k ≠ G → W'.heap[k]? = W.heap[k]?
theorem Kept2.row {W W' : World} {row : Option Nat} {G : Nat} (h : Kept2 W W' row G) {a : Option Addr} {l : List Value} (hr : RowAt W a l) (ne : 0 < l.length → ∀ x, a = some x → some x.block ≠ row ∧ x.block ≠ G) : RowAt W' a l := by
  refine ⟨hr.len, fun h0 => ?_⟩
  obtain ⟨b, off, h1, h2, h3⟩ := hr.row h0
  obtain ⟨n1, n2⟩ := ne h0 _ h1
  exact ⟨b, off, h1, by have := h.size; omega, fun j hj => (World.cell?_of_block (a := ⟨b, off + j, none⟩) (h.block b h2 n1 n2)).trans (h3 j hj)⟩
theorem Kept2.below {W W' : World} {row : Option Nat} {G B : Nat} (h : Kept2 W W' row G) (hB : B ≤ W.heap.size) (hr : ∀ g, row = some g → B ≤ g) (hG : B ≤ G) : Below B W W' :=
  ⟨h.os, h.tape, h.output, h.size, fun k hk => h.block k (by omega) (fun e => by have := hr k e.symm; omega) (by omega)⟩
theorem Kept2.blk {W W' : World} {row : Option Nat} {G g : Nat} {t : TypeId} {cs : Array Value} (h : Kept2 W W' row G) (hb : Blk W g t cs) (n1 : some g ≠ row) (n2 : g ≠ G) : Blk W' g t cs := (h.block g hb.lt n1 n2).trans hb
/-- an append of one cell to a row of one's own; the row is then stored in a block further down -/
theorem app_put {T E : TypeId} {z : Value} {by_ : Nat} (hT : Try.prog.underlying T = some (.slice E)) (hE : (Try.prog.info? E).map (fun i => (i.zero, i.size, i.bytes)) = some (some z, 1, by_)) (hz : z.cells.size = 1) (hby : by_ ≤ 16)
    (W : World) (G : Nat) (cs : Array Value) (hv : Blk W G 30 cs) (base : Nat) (hG : G < base) (hbW : base ≤ W.heap.size) (v : Value) (xs : List Value) (n : Nat) (own : W.ownsRow base E 1 v n xs) (u : Value) (hu : u.oneCell' = true) (hle : n ≤ 100000000) (ix : Nat) :
    ∃ g cap w1, (Builtin.append_ #[T, T] T #[v, .slice (some ⟨W.heap.size, 0, none⟩) 1 1]).run Try.prog ((W.alloc (.cells #[u] E)).drew) = .ok (.slice (some ⟨g, 0, none⟩) (n + 1) cap) w1 ∧
      Blk w1 G 30 cs ∧ base ≤ g ∧
      (w1.setCell ⟨G, ix, none⟩ (.slice (some ⟨g, 0, none⟩) (n + 1) cap)).ownsRow base E 1 (.slice (some ⟨g, 0, none⟩) (n + 1) cap) (n + 1) (xs ++ [u]) ∧
      Blk (w1.setCell ⟨G, ix, none⟩ (.slice (some ⟨g, 0, none⟩) (n + 1) cap)) G 30 (cs.setIfInBounds ix (.slice (some ⟨g, 0, none⟩) (n + 1) cap)) ∧
      Kept2 W (w1.setCell ⟨G, ix, none⟩ (.slice (some ⟨g, 0, none⟩) (n + 1) cap)) v.ownBlock G := by
  obtain ⟨i0, hi0, hz0, hz1, hz2⟩ := info_parts hE
  obtain ⟨v', w1, hr, hown', hgrow, _, _⟩ := run_append_own_at (P := Try.prog) (W.drew.alloc (.cells #[u] E)) base T T E i0 z 1 by_ hT hi0 hz0 hz1 hz2 hz (by decide) v n xs (own.drew.alloc _) ⟨W.drew.heap.size, 0, none⟩ 1 1 [u] rfl (cell_one_new W.drew _ _) (by intro u' hu'; simp at hu'; subst hu'; exact hu) (by unfold maxLen; omega) (by
    have : (n + 1) * by_ ≤ (n + 1) * 16 := Nat.mul_le_mul_left _ hby
    omega) (by rw [World.size_alloc]; show base ≤ W.heap.size + 1; omega)
  obtain ⟨g', cap', rfl⟩ := ownsRow_succ hown'
  have hv1 : Blk (W.drew.alloc (.cells #[u] E)) G 30 cs := hv.drew.below ((Below.refl _ _).alloc (Nat.le_refl _) _) hv.lt
  have hne : some G ≠ v.ownBlock := fun e => by
    have := (own.lt G e.symm).1
    omega
  have hv2 : Blk w1 G 30 cs := (hgrow.block G hv1.lt hne).trans hv1
  have hg : base ≤ g' := (hown'.lt g' rfl).1
  refine ⟨g', cap', w1, hr, hv2, hg, ownsRow_setCell_below hown' (show G < base from hG) _, hv2.set_ _ _, ⟨?_, ?_, ?_, ?_, fun k hk n1 n2 => ?_⟩⟩
  · exact hgrow.os
  · exact hgrow.tape
  · exact hgrow.output
  · have := hgrow.size
    rw [World.size_alloc] at this
    have h2 : W.heap.size + 1 ≤ w1.heap.size := this
    show W.heap.size ≤ (w1.setCell _ _).heap.size
    simp only [World.setCell]
    simp
    omega
  · have h1 : (w1.setCell ⟨G, ix, none⟩ (.slice (some ⟨g', 0, none⟩) (n + 1) cap')).heap[k]? = w1.heap[k]? := heap_setCell_other w1 ⟨G, ix, none⟩ k _ (fun e => n2 (by rw [e]))
    have h2 : w1.heap[k]? = (W.drew.alloc (.cells #[u] E)).heap[k]? := hgrow.block k (by rw [World.size_alloc]; show k < W.heap.size + 1; omega) n1
    have h3 : (W.drew.alloc (.cells #[u] E)).heap[k]? = W.heap[k]? := heap_alloc_old W.drew _ hk
    rw [h1, h2, h3]
/-- a table that is being filled in the second new block; the first one waits -/
structure RfW (w W : World) (ab : Option Addr) (l : List UInt8) (t : Tab) (p : Lie) : Prop where
  low : Below w.heap.size w W
  res : Blk W w.heap.size 30 (tabCells zeroTab zeroLie).toArray
  var : Blk W (w.heap.size + 1) 30 (tabCells t p).toArray
  tab : TabAt W t p
  b : BytesAt W ab l
  pn : ∀ x, p.an = some x → w.heap.size + 2 ≤ x.block
  pt : ∀ x, p.at_ = some x → w.heap.size + 2 ≤ x.block
  ps : ∀ x, p.ns = some x → w.heap.size + 2 ≤ x.block
  ba : ∀ x, ab = some x → 0 < l.length → x.block < w.heap.size
theorem RfW.start {w : World} {ab : Option Addr} {l : List UInt8} (hb : BytesAt w ab l) : RfW w ((w.alloc (.cells (tabCells zeroTab zeroLie).toArray 30)).alloc (.cells (tabCells zeroTab zeroLie).toArray 30)) ab l zeroTab zeroLie := by
  have h0 : Below w.heap.size w ((w.alloc (.cells (tabCells zeroTab zeroLie).toArray 30)).alloc (.cells (tabCells zeroTab zeroLie).toArray 30)) := ((Below.refl _ _).alloc (Nat.le_refl _) _).alloc (by simp) _
  have hn : ∀ W, RowAt W none [] := fun W => ⟨by decide, fun h => absurd h (by decide)⟩
  refine ⟨h0, ?_, ?_, ⟨List.length_replicate, hn _, hn _, hn _, fun s hs => (by cases hs)⟩, RowAt.below hb h0, fun x hx => (by cases hx), fun x hx => (by cases hx), fun x hx => (by cases hx), fun x hx h => ?_⟩
  · have := Blk.new w 30 (tabCells zeroTab zeroLie).toArray
    exact this.below ((Below.refl _ _).alloc (Nat.le_refl _) _) this.lt
  · have := Blk.new (w.alloc (.cells (tabCells zeroTab zeroLie).toArray 30)) 30 (tabCells zeroTab zeroLie).toArray
    rw [World.size_alloc] at this
    exact this
  · obtain ⟨g, off, h1, h2, _⟩ := RowAt.row hb (by simpa using h)
    rw [hx] at h1
    injection h1 with h1
    rw [h1]
    exact h2
theorem RfW.later {w W W2 : World} {ab : Option Addr} {l : List UInt8} {t : Tab} {p : Lie} (h : RfW w W ab l t p) (hb : Below W.heap.size W W2) : RfW w W2 ab l t p :=
  ⟨low_trans h.low hb, h.res.below hb h.res.lt, h.var.below hb h.var.lt, h.tab.below hb, RowAt.below h.b hb, h.pn, h.pt, h.ps, h.ba⟩
theorem RfW.size {w W : World} {ab : Option Addr} {l : List UInt8} {t : Tab} {p : Lie} (h : RfW w W ab l t p) : w.heap.size + 2 ≤ W.heap.size := by have := h.var.lt; omega
theorem RfW.cells {w W : World} {ab : Option Addr} {l : List UInt8} {t : Tab} {p : Lie} (h : RfW w W ab l t p) :
    W.cell? ⟨w.heap.size + 1, 256, none⟩ = some (.int .i64 t.many) ∧ W.cell? ⟨w.heap.size + 1, 257, none⟩ = some (.int .i64 t.dmany) ∧ W.cell? ⟨w.heap.size + 1, 258, none⟩ = some (.slice p.an t.next.length p.cn) ∧ W.cell? ⟨w.heap.size + 1, 259, none⟩ = some (.slice p.at_ t.tags.length p.ct) ∧ W.cell? ⟨w.heap.size + 1, 260, none⟩ = some (.slice p.ns t.names.length p.cs) :=
  have h' : TabIn W (w.heap.size + 1) t p := TabIn.mk h.var h.tab
  ⟨h'.many, h'.dmany, h'.next, h'.tags, h'.names⟩
theorem RfW.frozen {w W : World} {ab : Option Addr} {l : List UInt8} {t : Tab} {p : Lie} (h : RfW w W ab l t p) (j : Nat) : W.frozen? ⟨w.heap.size + 1, j, none⟩ = false := h.var.frozen j
/-- the second block is written in place -/
theorem RfW.wrote {w W : World} {ab : Option Addr} {l : List UInt8} {t t2 : Tab} {p : Lie} (h : RfW w W ab l t p) (j : Nat) (v : Value) (hc : (tabCells t p).toArray.setIfInBounds j v = (tabCells t2 p).toArray) (ht : TabAt W t2 p) : RfW w (W.setCell ⟨w.heap.size + 1, j, none⟩ v) ab l t2 p := by
  have ho := only_set (w.heap.size + 1) W j v
  refine ⟨h.low.trans (ho.below (by omega) h.low.size), ho.blk h.res (by omega), ?_, ?_, ?_, h.pn, h.pt, h.ps, h.ba⟩
  · have := h.var.set_ j v
    rw [hc] at this
    exact this
  · exact ht.only ho (fun x hx => by have := h.pn x hx; omega) (fun x hx => by have := h.pt x hx; omega) (fun x hx => by have := h.ps x hx; omega)
  · exact RowAt.only h.b ho (fun h0 x hx => by have := h.ba x hx (by simpa using h0); omega)
theorem RfW.setMany {w W : World} {ab : Option Addr} {l : List UInt8} {t : Tab} {p : Lie} (h : RfW w W ab l t p) (m : Int) : RfW w (W.setCell ⟨w.heap.size + 1, 256, none⟩ (.int .i64 m)) ab l { t with many := m } p :=
  h.wrote 256 _ (by rw [show (256 : Nat) = 256 + 0 from rfl, tail_set t p h.tab.of 0, tab_spell]; rfl) ⟨h.tab.of, h.tab.next, h.tab.tags, h.tab.names, h.tab.each⟩
theorem RfW.setDmany {w W : World} {ab : Option Addr} {l : List UInt8} {t : Tab} {p : Lie} (h : RfW w W ab l t p) (m : Int) : RfW w (W.setCell ⟨w.heap.size + 1, 257, none⟩ (.int .i64 m)) ab l { t with dmany := m } p :=
  h.wrote 257 _ (by rw [show (257 : Nat) = 256 + 1 from rfl, tail_set t p h.tab.of 1, tab_spell]; rfl) ⟨h.tab.of, h.tab.next, h.tab.tags, h.tab.names, h.tab.each⟩
theorem RfW.setOf {w W : World} {ab : Option Addr} {l : List UInt8} {t : Tab} {p : Lie} (h : RfW w W ab l t p) (k : Nat) (hk : k < 256) (c : UInt8) : RfW w (W.setCell ⟨w.heap.size + 1, k, none⟩ (.int .u8 (c.toNat : Int))) ab l { t with of := t.of.set k c } p := by
  refine h.wrote k _ ?_ ⟨by simpa using h.tab.of, h.tab.next, h.tab.tags, h.tab.names, h.tab.each⟩
  have hl : k < (t.of.map byteV).length := by rw [List.length_map, h.tab.of]; exact hk
  unfold tabCells clCells midCells
  rw [List.setIfInBounds_toArray, List.append_assoc, List.append_assoc, List.set_append_left _ _ hl, List.map_set]
  rfl
noncomputable def AppSOp (ty : TypeId) (args : Array Value) : Sem Value := Builtin.append_ #[28, 28] ty args
theorem appSOp_eq (ty : TypeId) (args : Array Value) : Builtin.append_ #[28, 28] ty args = AppSOp ty args := rfl
/-- what is read of the world behind an append -/
structure PutW (w w1 W' : World) (ab : Option Addr) (l : List UInt8) (t2 : Tab) (p2 : Lie) (j : Nat) (old : Value) : Prop where
  rf : RfW w W' ab l t2 p2
  cell : w1.cell? ⟨w.heap.size + 1, j, none⟩ = some old
  frozen : w1.frozen? ⟨w.heap.size + 1, j, none⟩ = false
theorem RfW.addName {w W : World} {ab : Option Addr} {l : List UInt8} {t : Tab} {p : Lie} (h : RfW w W ab l t p) (base : Nat) (hb1 : w.heap.size + 2 ≤ base) (hb2 : base ≤ W.heap.size) (own : W.ownsRow base 9 1 (.slice p.ns t.names.length p.cs) t.names.length (t.names.map textV)) (h1 : ∀ x, p.an = some x → x.block < base) (h2 : ∀ x, p.at_ = some x → x.block < base) (s : List UInt8) (hs : s.length ≤ maxLen) (hle : t.names.length ≤ 100000000) :
    ∃ g cap w1, (AppSOp 28 #[.slice p.ns t.names.length p.cs, .slice (some ⟨W.heap.size, 0, none⟩) 1 1]).run Try.prog ((W.alloc (.cells #[.string (bs s)] 9)).drew) = .ok (.slice (some ⟨g, 0, none⟩) (t.names.length + 1) cap) w1 ∧ base ≤ g ∧
      PutW w w1 (w1.setCell ⟨w.heap.size + 1, 260, none⟩ (.slice (some ⟨g, 0, none⟩) (t.names.length + 1) cap)) ab l { t with names := t.names ++ [s] } { p with ns := some ⟨g, 0, none⟩, cs := cap } 260 (.slice p.ns t.names.length p.cs) ∧
      (w1.setCell ⟨w.heap.size + 1, 260, none⟩ (.slice (some ⟨g, 0, none⟩) (t.names.length + 1) cap)).ownsRow base 9 1 (.slice (some ⟨g, 0, none⟩) (t.names.length + 1) cap) (t.names.length + 1) ((t.names ++ [s]).map textV) := by
  obtain ⟨g, cap, w1, hr, hb1', hg, hown, hb2', hk⟩ := app_put (T := 28) (E := 9) Try.underlying28 info9 rfl (by decide) W (w.heap.size + 1) _ h.var base (by omega) hb2 _ _ t.names.length own (.string (bs s)) rfl hle 260
  have hrow : ∀ k, (Value.slice p.ns t.names.length p.cs).ownBlock = some k → base ≤ k := fun k e => (own.lt k e).1
  have hrow2 : ∀ k, k < base → some k ≠ (Value.slice p.ns t.names.length p.cs).ownBlock := fun k hk e => by have := hrow k e.symm; omega
  have hc : (w1.cell? ⟨w.heap.size + 1, 260, none⟩) = some (.slice p.ns t.names.length p.cs) := by
    rw [hb1'.cell]
    have := (TabIn.mk h.var h.tab).cell 260
    rw [h.var.cell] at this
    rw [this]
    exact tab_tail t p h.tab.of 4 (by decide)
  have hrw : RowAt (w1.setCell ⟨w.heap.size + 1, 260, none⟩ (.slice (some ⟨g, 0, none⟩) (t.names.length + 1) cap)) (some ⟨g, 0, none⟩) ((t.names ++ [s]).map textV) := by
    refine ⟨by rw [List.length_map, List.length_append]; unfold maxLen; simp; omega, fun _ => ⟨g, 0, rfl, (hown.lt g rfl).2, fun j hj => ?_⟩⟩
    have := hown.cellAt j (by simpa using hj)
    rw [Nat.zero_add, this]
    rw [show t.names.map textV ++ [.string (bs s)] = (t.names ++ [s]).map textV from by rw [List.map_append]; rfl]
    exact List.getElem?_eq_getElem hj
  have hcs : Blk (w1.setCell ⟨w.heap.size + 1, 260, none⟩ (.slice (some ⟨g, 0, none⟩) (t.names.length + 1) cap)) (w.heap.size + 1) 30 (tabCells { t with names := t.names ++ [s] } { p with ns := some ⟨g, 0, none⟩, cs := cap }).toArray := by
    rw [show (260 : Nat) = 256 + 4 from rfl, tail_set t p h.tab.of 4] at hb2'
    rw [tab_spell]
    have e : ((t.names ++ [s]).length) = t.names.length + 1 := by simp
    simp only [e]
    exact hb2'
  have ho1 : ∀ x, p.an = some x → some x.block ≠ (Value.slice p.ns t.names.length p.cs).ownBlock ∧ x.block ≠ w.heap.size + 1 := fun x hx => ⟨hrow2 _ (h1 x hx), by have := h.pn x hx; omega⟩
  have ho2 : ∀ x, p.at_ = some x → some x.block ≠ (Value.slice p.ns t.names.length p.cs).ownBlock ∧ x.block ≠ w.heap.size + 1 := fun x hx => ⟨hrow2 _ (h2 x hx), by have := h.pt x hx; omega⟩
  have hgg : ∀ x, some (⟨g, 0, none⟩ : Addr) = some x → w.heap.size + 2 ≤ x.block := fun x hx => by
    injection hx with hx
    rw [← hx]
    exact Nat.le_trans hb1 hg
  refine ⟨g, cap, w1, hr, hg, ⟨⟨?_, hk.blk h.res (hrow2 _ (by omega)) (by omega), hcs, ⟨h.tab.of, hk.row h.tab.next (fun _ => ho1), hk.row h.tab.tags (fun _ => ho2), hrw, (fun x hx => (List.mem_append.1 hx).elim (h.tab.each x) (fun hx => by rw [List.mem_singleton.1 hx]; exact hs))⟩, hk.row h.b (fun h0 x hx => ⟨hrow2 _ (by have := h.ba x hx (by simpa using h0); omega), by have := h.ba x hx (by simpa using h0); omega⟩), h.pn, h.pt, hgg, h.ba⟩, hc, hb1'.frozen _⟩, ?_⟩
  · exact h.low.trans (hk.below h.low.size (fun g hg => by have := hrow g hg; omega) (by omega))
  · rw [show (t.names ++ [s]).map textV = t.names.map textV ++ [.string (bs s)] from by rw [List.map_append]; rfl]
    exact hown
theorem RfW.addTag {w W : World} {ab : Option Addr} {l : List UInt8} {t : Tab} {p : Lie} (h : RfW w W ab l t p) (base : Nat) (hb1 : w.heap.size + 2 ≤ base) (hb2 : base ≤ W.heap.size) (own : W.ownsRow base 3 1 (.slice p.at_ t.tags.length p.ct) t.tags.length (t.tags.map intV)) (h1 : ∀ x, p.an = some x → x.block < base) (h2 : ∀ x, p.ns = some x → x.block < base) (s : Int) (hle : t.tags.length ≤ 100000000) :
    ∃ g cap w1, (AppOp 25 #[.slice p.at_ t.tags.length p.ct, .slice (some ⟨W.heap.size, 0, none⟩) 1 1]).run Try.prog ((W.alloc (.cells #[.int .i64 s] 3)).drew) = .ok (.slice (some ⟨g, 0, none⟩) (t.tags.length + 1) cap) w1 ∧ base ≤ g ∧
      PutW w w1 (w1.setCell ⟨w.heap.size + 1, 259, none⟩ (.slice (some ⟨g, 0, none⟩) (t.tags.length + 1) cap)) ab l { t with tags := t.tags ++ [s] } { p with at_ := some ⟨g, 0, none⟩, ct := cap } 259 (.slice p.at_ t.tags.length p.ct) ∧
      (w1.setCell ⟨w.heap.size + 1, 259, none⟩ (.slice (some ⟨g, 0, none⟩) (t.tags.length + 1) cap)).ownsRow base 3 1 (.slice (some ⟨g, 0, none⟩) (t.tags.length + 1) cap) (t.tags.length + 1) ((t.tags ++ [s]).map intV) := by
  obtain ⟨g, cap, w1, hr, hb1', hg, hown, hb2', hk⟩ := app_put (T := 25) (E := 3) Try.underlying25 info3 rfl (by decide) W (w.heap.size + 1) _ h.var base (by omega) hb2 _ _ t.tags.length own (.int .i64 s) rfl hle 259
  have hrow : ∀ k, (Value.slice p.at_ t.tags.length p.ct).ownBlock = some k → base ≤ k := fun k e => (own.lt k e).1
  have hrow2 : ∀ k, k < base → some k ≠ (Value.slice p.at_ t.tags.length p.ct).ownBlock := fun k hk e => by have := hrow k e.symm; omega
  have hc : (w1.cell? ⟨w.heap.size + 1, 259, none⟩) = some (.slice p.at_ t.tags.length p.ct) := by
    rw [hb1'.cell]
    have := (TabIn.mk h.var h.tab).cell 259
    rw [h.var.cell] at this
    rw [this]
    exact tab_tail t p h.tab.of 3 (by decide)
  have hrw : RowAt (w1.setCell ⟨w.heap.size + 1, 259, none⟩ (.slice (some ⟨g, 0, none⟩) (t.tags.length + 1) cap)) (some ⟨g, 0, none⟩) ((t.tags ++ [s]).map intV) := by
    refine ⟨by rw [List.length_map, List.length_append]; unfold maxLen; simp; omega, fun _ => ⟨g, 0, rfl, (hown.lt g rfl).2, fun j hj => ?_⟩⟩
    have := hown.cellAt j (by simpa using hj)
    rw [Nat.zero_add, this]
    rw [show t.tags.map intV ++ [.int .i64 s] = (t.tags ++ [s]).map intV from by rw [List.map_append]; rfl]
    exact List.getElem?_eq_getElem hj
  have hcs : Blk (w1.setCell ⟨w.heap.size + 1, 259, none⟩ (.slice (some ⟨g, 0, none⟩) (t.tags.length + 1) cap)) (w.heap.size + 1) 30 (tabCells { t with tags := t.tags ++ [s] } { p with at_ := some ⟨g, 0, none⟩, ct := cap }).toArray := by
    rw [show (259 : Nat) = 256 + 3 from rfl, tail_set t p h.tab.of 3] at hb2'
    rw [tab_spell]
    have e : ((t.tags ++ [s]).length) = t.tags.length + 1 := by simp
    simp only [e]
    exact hb2'
  have ho1 : ∀ x, p.an = some x → some x.block ≠ (Value.slice p.at_ t.tags.length p.ct).ownBlock ∧ x.block ≠ w.heap.size + 1 := fun x hx => ⟨hrow2 _ (h1 x hx), by have := h.pn x hx; omega⟩
  have ho2 : ∀ x, p.ns = some x → some x.block ≠ (Value.slice p.at_ t.tags.length p.ct).ownBlock ∧ x.block ≠ w.heap.size + 1 := fun x hx => ⟨hrow2 _ (h2 x hx), by have := h.ps x hx; omega⟩
  have hgg : ∀ x, some (⟨g, 0, none⟩ : Addr) = some x → w.heap.size + 2 ≤ x.block := fun x hx => by
    injection hx with hx
    rw [← hx]
    exact Nat.le_trans hb1 hg
  refine ⟨g, cap, w1, hr, hg, ⟨⟨?_, hk.blk h.res (hrow2 _ (by omega)) (by omega), hcs, ⟨h.tab.of, hk.row h.tab.next (fun _ => ho1), hrw, hk.row h.tab.names (fun _ => ho2), h.tab.each⟩, hk.row h.b (fun h0 x hx => ⟨hrow2 _ (by have := h.ba x hx (by simpa using h0); omega), by have := h.ba x hx (by simpa using h0); omega⟩), h.pn, hgg, h.ps, h.ba⟩, hc, hb1'.frozen _⟩, ?_⟩
  · exact h.low.trans (hk.below h.low.size (fun g hg => by have := hrow g hg; omega) (by omega))
  · rw [show (t.tags ++ [s]).map intV = t.tags.map intV ++ [.int .i64 s] from by rw [List.map_append]; rfl]
    exact hown
theorem RfW.addNext {w W : World} {ab : Option Addr} {l : List UInt8} {t : Tab} {p : Lie} (h : RfW w W ab l t p) (base : Nat) (hb1 : w.heap.size + 2 ≤ base) (hb2 : base ≤ W.heap.size) (own : W.ownsRow base 3 1 (.slice p.an t.next.length p.cn) t.next.length (t.next.map intV)) (h1 : ∀ x, p.at_ = some x → x.block < base) (h2 : ∀ x, p.ns = some x → x.block < base) (s : Int) (hle : t.next.length ≤ 100000000) :
    ∃ g cap w1, (AppOp 25 #[.slice p.an t.next.length p.cn, .slice (some ⟨W.heap.size, 0, none⟩) 1 1]).run Try.prog ((W.alloc (.cells #[.int .i64 s] 3)).drew) = .ok (.slice (some ⟨g, 0, none⟩) (t.next.length + 1) cap) w1 ∧ base ≤ g ∧
      PutW w w1 (w1.setCell ⟨w.heap.size + 1, 258, none⟩ (.slice (some ⟨g, 0, none⟩) (t.next.length + 1) cap)) ab l { t with next := t.next ++ [s] } { p with an := some ⟨g, 0, none⟩, cn := cap } 258 (.slice p.an t.next.length p.cn) ∧
      (w1.setCell ⟨w.heap.size + 1, 258, none⟩ (.slice (some ⟨g, 0, none⟩) (t.next.length + 1) cap)).ownsRow base 3 1 (.slice (some ⟨g, 0, none⟩) (t.next.length + 1) cap) (t.next.length + 1) ((t.next ++ [s]).map intV) := by
  obtain ⟨g, cap, w1, hr, hb1', hg, hown, hb2', hk⟩ := app_put (T := 25) (E := 3) Try.underlying25 info3 rfl (by decide) W (w.heap.size + 1) _ h.var base (by omega) hb2 _ _ t.next.length own (.int .i64 s) rfl hle 258
  have hrow : ∀ k, (Value.slice p.an t.next.length p.cn).ownBlock = some k → base ≤ k := fun k e => (own.lt k e).1
  have hrow2 : ∀ k, k < base → some k ≠ (Value.slice p.an t.next.length p.cn).ownBlock := fun k hk e => by have := hrow k e.symm; omega
  have hc : (w1.cell? ⟨w.heap.size + 1, 258, none⟩) = some (.slice p.an t.next.length p.cn) := by
    rw [hb1'.cell]
    have := (TabIn.mk h.var h.tab).cell 258
    rw [h.var.cell] at this
    rw [this]
    exact tab_tail t p h.tab.of 2 (by decide)
  have hrw : RowAt (w1.setCell ⟨w.heap.size + 1, 258, none⟩ (.slice (some ⟨g, 0, none⟩) (t.next.length + 1) cap)) (some ⟨g, 0, none⟩) ((t.next ++ [s]).map intV) := by
    refine ⟨by rw [List.length_map, List.length_append]; unfold maxLen; simp; omega, fun _ => ⟨g, 0, rfl, (hown.lt g rfl).2, fun j hj => ?_⟩⟩
    have := hown.cellAt j (by simpa using hj)
    rw [Nat.zero_add, this]
    rw [show t.next.map intV ++ [.int .i64 s] = (t.next ++ [s]).map intV from by rw [List.map_append]; rfl]
    exact List.getElem?_eq_getElem hj
  have hcs : Blk (w1.setCell ⟨w.heap.size + 1, 258, none⟩ (.slice (some ⟨g, 0, none⟩) (t.next.length + 1) cap)) (w.heap.size + 1) 30 (tabCells { t with next := t.next ++ [s] } { p with an := some ⟨g, 0, none⟩, cn := cap }).toArray := by
    rw [show (258 : Nat) = 256 + 2 from rfl, tail_set t p h.tab.of 2] at hb2'
    rw [tab_spell]
    have e : ((t.next ++ [s]).length) = t.next.length + 1 := by simp
    simp only [e]
    exact hb2'
  have ho1 : ∀ x, p.at_ = some x → some x.block ≠ (Value.slice p.an t.next.length p.cn).ownBlock ∧ x.block ≠ w.heap.size + 1 := fun x hx => ⟨hrow2 _ (h1 x hx), by have := h.pt x hx; omega⟩
  have ho2 : ∀ x, p.ns = some x → some x.block ≠ (Value.slice p.an t.next.length p.cn).ownBlock ∧ x.block ≠ w.heap.size + 1 := fun x hx => ⟨hrow2 _ (h2 x hx), by have := h.ps x hx; omega⟩
  have hgg : ∀ x, some (⟨g, 0, none⟩ : Addr) = some x → w.heap.size + 2 ≤ x.block := fun x hx => by
    injection hx with hx
    rw [← hx]
    exact Nat.le_trans hb1 hg
  refine ⟨g, cap, w1, hr, hg, ⟨⟨?_, hk.blk h.res (hrow2 _ (by omega)) (by omega), hcs, ⟨h.tab.of, hrw, hk.row h.tab.tags (fun _ => ho1), hk.row h.tab.names (fun _ => ho2), h.tab.each⟩, hk.row h.b (fun h0 x hx => ⟨hrow2 _ (by have := h.ba x hx (by simpa using h0); omega), by have := h.ba x hx (by simpa using h0); omega⟩), hgg, h.pt, h.ps, h.ba⟩, hc, hb1'.frozen _⟩, ?_⟩
  · exact h.low.trans (hk.below h.low.size (fun g hg => by have := hrow g hg; omega) (by omega))
  · rw [show (t.next ++ [s]).map intV = t.next.map intV ++ [.int .i64 s] from by rw [List.map_append]; rfl]
    exact hown
end Go.Proofs.Ytkgfjapflpjdbaa
