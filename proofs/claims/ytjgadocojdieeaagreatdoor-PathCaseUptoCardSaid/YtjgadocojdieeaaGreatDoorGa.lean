/-
  Memory in general: values in a row, blocks that are known whole, worlds in which but one block has changed. It names no function of the program. No conditions.
-/
import Derived.Test.YtjgadocojdieeaaGreatDoorProg
import Derived.WalkKit
import Derived.WalkSpells
import Derived.Lib.Hide
import Derived.Lib.Slices
import Derived.Shelf.Abstract
import Derived.BigQuiet
import Derived.Deep.QuietTactic
import Derived.Below
import Derived.Maps.AppendAt
import Derived.BigRegion
import Derived.Deep.MidRow
import Derived.Laws.Rows
import Derived.Laws.IdiomStrings
import Derived.Lib.ConvBytes
import Derived.RangeFuncBox
namespace Go.Proofs.YtjgadocojdieeaaGreatDoor
open Go.RowKit

theorem ret_bool {a b : Bool} (h : a = b) : Ending.returned (.bool a) = .returned (.bool b) := by rw [h]
theorem ret_int {k : IntKind} {a b : Int} (h : a = b) : Ending.returned (.int k a) = .returned (.int k b) := by rw [h]
def bs (l : List UInt8) : ByteArray := ⟨l.toArray⟩
theorem bs_size (l : List UInt8) : (bs l).size = l.length := rfl
theorem bs_list (l : List UInt8) : (bs l).data.toList = l := rfl

/-- values in a row of memory -/
structure RowAt (w : World) (a : Option Addr) (l : List Value) : Prop where
  len : l.length ≤ maxLen
  row : 0 < l.length → ∃ b off, a = some ⟨b, off, none⟩ ∧ b < w.heap.size ∧ ∀ j, (h : j < l.length) → w.cell? ⟨b, off + j, none⟩ = some l[j]
theorem RowAt.at_ {w : World} {a : Option Addr} {l : List Value} (h : RowAt w a l) {k : Nat} (hk : k < l.length) : ∃ b off, a = some ⟨b, off, none⟩ ∧ w.cell? ⟨b, off + k, none⟩ = some l[k] := by
  obtain ⟨b, off, h1, _, h3⟩ := h.row (by omega)
  exact ⟨b, off, h1, h3 k hk⟩
theorem RowAt.below {w w' : World} {a : Option Addr} {l : List Value} (h : RowAt w a l) (hb : Below w.heap.size w w') : RowAt w' a l := by
  refine ⟨h.len, fun h0 => ?_⟩
  obtain ⟨b, off, h1, h2, h3⟩ := h.row h0
  exact ⟨b, off, h1, by have := hb.size; omega, fun j hj => (hb.cell (p := ⟨b, off + j, none⟩) h2).trans (h3 j hj)⟩
theorem RowAt.under {w w' : World} {B : Nat} {a : Option Addr} {l : List Value} (h : RowAt w a l) (hb : Below B w w') (hB : w.heap.size ≤ B) : RowAt w' a l := h.below (hb.mono hB)
def intV (z : Int) : Value := .int .i64 z
def byteV (c : UInt8) : Value := .int .u8 (c.toNat : Int)
def textV (l : List UInt8) : Value := .string (bs l)
def IntsAt (w : World) (a : Option Addr) (l : List Int) : Prop := RowAt w a (l.map intV)
def TextsAt (w : World) (a : Option Addr) (l : List (List UInt8)) : Prop := RowAt w a (l.map textV)
def BytesAt (w : World) (a : Option Addr) (l : List UInt8) : Prop := RowAt w a (l.map byteV)
theorem IntsAt.at_ {w : World} {a : Option Addr} {l : List Int} (h : IntsAt w a l) {k : Nat} (hk : k < l.length) : ∃ b off, a = some ⟨b, off, none⟩ ∧ w.cell? ⟨b, off + k, none⟩ = some (.int .i64 l[k]) := by
  obtain ⟨b, off, h1, h2⟩ := RowAt.at_ h (k := k) (by simpa using hk)
  exact ⟨b, off, h1, by rw [h2, List.getElem_map]; rfl⟩
theorem TextsAt.at_ {w : World} {a : Option Addr} {l : List (List UInt8)} (h : TextsAt w a l) {k : Nat} (hk : k < l.length) : ∃ b off, a = some ⟨b, off, none⟩ ∧ w.cell? ⟨b, off + k, none⟩ = some (.string (bs l[k])) := by
  obtain ⟨b, off, h1, h2⟩ := RowAt.at_ h (k := k) (by simpa using hk)
  exact ⟨b, off, h1, by rw [h2, List.getElem_map]; rfl⟩
theorem BytesAt.at_ {w : World} {a : Option Addr} {l : List UInt8} (h : BytesAt w a l) {k : Nat} (hk : k < l.length) : ∃ b off, a = some ⟨b, off, none⟩ ∧ w.cell? ⟨b, off + k, none⟩ = some (.int .u8 (l[k].toNat : Int)) := by
  obtain ⟨b, off, h1, h2⟩ := RowAt.at_ h (k := k) (by simpa using hk)
  exact ⟨b, off, h1, by rw [h2, List.getElem_map]; rfl⟩
theorem IntsAt.len {w : World} {a : Option Addr} {l : List Int} (h : IntsAt w a l) : l.length ≤ maxLen := by have := RowAt.len h; simpa using this
theorem TextsAt.len {w : World} {a : Option Addr} {l : List (List UInt8)} (h : TextsAt w a l) : l.length ≤ maxLen := by have := RowAt.len h; simpa using this
theorem BytesAt.len {w : World} {a : Option Addr} {l : List UInt8} (h : BytesAt w a l) : l.length ≤ maxLen := by have := RowAt.len h; simpa using this

/-- a block that is known whole -/
def Blk (w : World) (g : Nat) (t : TypeId) (cs : Array Value) : Prop := w.heap[g]? = some (.cells cs t (0, 0))
theorem Blk.lt {w : World} {g : Nat} {t : TypeId} {cs : Array Value} (h : Blk w g t cs) : g < w.heap.size := (Array.getElem?_eq_some_iff.1 h).1
theorem Blk.cell {w : World} {g : Nat} {t : TypeId} {cs : Array Value} (h : Blk w g t cs) (i : Nat) : w.cell? ⟨g, i, none⟩ = cs[i]? := cell_of_row w g i cs t (0, 0) h
theorem Blk.frozen {w : World} {g : Nat} {t : TypeId} {cs : Array Value} (h : Blk w g t cs) (i : Nat) : w.frozen? ⟨g, i, none⟩ = false := by
  unfold Blk at h
  simp [World.frozen?, h]
theorem Blk.new (w : World) (t : TypeId) (cs : Array Value) : Blk (w.alloc (.cells cs t)) w.heap.size t cs := by show (w.heap.push _)[w.heap.size]? = _; simp
theorem Blk.below {B : Nat} {w w' : World} {g : Nat} {t : TypeId} {cs : Array Value} (h : Blk w g t cs) (hb : Below B w w') (hg : g < B) : Blk w' g t cs := (hb.block g hg).trans h
theorem Blk.drew {w : World} {g : Nat} {t : TypeId} {cs : Array Value} (h : Blk w g t cs) : Blk w.drew g t cs := h
theorem Blk.set_ {w : World} {g : Nat} {t : TypeId} {cs : Array Value} (h : Blk w g t cs) (i : Nat) (v : Value) : Blk (w.setCell ⟨g, i, none⟩ v) g t (cs.setIfInBounds i v) := heap_setCell_same w g i cs t v h

/-- nothing that was there has changed, but one block -/
def Only (R : Nat) (w w' : World) : Prop := w.grownBy w' (some R)
theorem Only.refl (R : Nat) (w : World) : Only R w w := ⟨rfl, rfl, rfl, Nat.le_refl _, fun _ _ _ => rfl⟩
theorem Only.trans {R : Nat} {a b c : World} (h : Only R a b) (k : Only R b c) : Only R a c := World.grownBy.trans h k
theorem Only.set_ {R : Nat} {a w : World} (h : Only R a w) (j : Nat) (v : Value) : Only R a (w.setCell ⟨R, j, none⟩ v) :=
  h.trans ⟨rfl, rfl, rfl, by simp [World.setCell], fun k _ hne => heap_setCell_other w ⟨R, j, none⟩ k v (fun e => hne (by rw [e]))⟩
theorem Only.drew {R : Nat} {a w : World} (h : Only R a w) : Only R a w.drew := ⟨h.os, h.tape, h.output, h.size, h.block⟩
theorem Only.alloc {R : Nat} {a w : World} (h : Only R a w) (o : Obj) : Only R a (w.alloc o) := h.trans (World.grownBy_alloc w o (some R))
theorem Only.of_below {R : Nat} {a w : World} (h : Below a.heap.size a w) : Only R a w := ⟨h.os, h.tape, h.output, h.size, fun k hk _ => h.block k hk⟩
theorem Only.below {R B : Nat} {a w : World} (h : Only R a w) (hB : B ≤ R) (hs : B ≤ a.heap.size) : Below B a w := ⟨h.os, h.tape, h.output, h.size, fun k hk => h.block k (by omega) (fun e => by injection e with e; omega)⟩
theorem Only.blk {R : Nat} {w w' : World} {g : Nat} {t : TypeId} {cs : Array Value} (ho : Only R w w') (h : Blk w g t cs) (hne : g ≠ R) : Blk w' g t cs := (ho.block g h.lt (fun e => hne (by injection e))).trans h
theorem RowAt.only {R : Nat} {w w' : World} {a : Option Addr} {l : List Value} (h : RowAt w a l) (ho : Only R w w') (hne : 0 < l.length → ∀ x, a = some x → x.block ≠ R) : RowAt w' a l := by
  refine ⟨h.len, fun h0 => ?_⟩
  obtain ⟨b, off, h1, h2, h3⟩ := h.row h0
  refine ⟨b, off, h1, by have := ho.size; omega, fun j hj => ?_⟩
  rw [← h3 j hj]
  exact World.cell?_of_block (a := ⟨b, off + j, none⟩) (ho.block b h2 (fun e => hne h0 ⟨b, off, none⟩ h1 (by injection e)))

theorem low_trans {w a b : World} (h : Below w.heap.size w a) (k : Below a.heap.size a b) : Below w.heap.size w b := h.trans (k.mono h.size)
theorem Blk.kept {w w' : World} {g : Nat} {t : TypeId} {cs : Array Value} {row : Option Nat} (h : Blk w g t cs) (hb : w.grownBy w' row) (hg : some g ≠ row) : Blk w' g t cs := (hb.block g h.lt hg).trans h
theorem Blk.alloc {w : World} {g : Nat} {t : TypeId} {cs : Array Value} (h : Blk w g t cs) (o : Obj) : Blk (w.alloc o) g t cs := (Below.heap_alloc w o g h.lt).trans h
theorem Blk.other {w : World} {g : Nat} {t : TypeId} {cs : Array Value} (h : Blk w g t cs) {p : Addr} (hp : g ≠ p.block) (u : Value) : Blk (w.setCell p u) g t cs := (Below.heap_setCell _ _ _ _ hp).trans h
theorem Blk.new_at (w : World) (t : TypeId) (cs : Array Value) (g : Nat) (hg : g = w.heap.size) : Blk (w.alloc (.cells cs t)) g t cs := by subst hg; exact Blk.new _ _ _
theorem ownsRow_kept {B : Nat} {e : TypeId} {k : Nat} {v : Value} {n : Nat} {xs : List Value} {w w' : World} (h : w.ownsRow B e k v n xs) (hb : Below w.heap.size w w') : w'.ownsRow B e k v n xs :=
  h.kept (row := none) ⟨hb.os, hb.tape, hb.output, hb.size, fun i hi _ => hb.block i hi⟩ (by cases v.ownBlock <;> simp)
theorem ownsRow_from {w : World} {B B' sz n : Nat} {e : TypeId} {v : Value} {xs : List Value} (h : w.ownsRow B e sz v n xs) (hb : B' ≤ B) : w.ownsRow B' e sz v n xs :=
  ⟨h.1, h.2.elim Or.inl (fun ⟨g, cap, cur, hv, hg, r⟩ => Or.inr ⟨g, cap, cur, hv, Nat.le_trans hb hg, r⟩)⟩
/-- cells of a row of one's own, as a row that is read -/
theorem row_of_own {B n c sz : Nat} {e : TypeId} {W : World} {a : Option Addr} {l : List Value} (h : W.ownsRow B e sz (.slice a n c) n l) (hm : l.length ≤ maxLen) : RowAt W a l := by
  obtain ⟨h1, h2⟩ := h
  rcases h2 with ⟨e1, h0⟩ | ⟨g, cap, cur, e1, hg, hb, h3, h4, h5, h6⟩
  · exact ⟨hm, fun hh => by rw [h1, h0] at hh; simp at hh⟩
  · injection e1 with e1 e2 e3
    subst e1
    have hlt : g < W.heap.size := (Array.getElem?_eq_some_iff.1 hb).1
    refine ⟨hm, fun _ => ⟨g, 0, rfl, hlt, fun j hj => ?_⟩⟩
    rw [cell_of_row W g (0 + j) cur e (0, 0) hb, Nat.zero_add, ← List.getElem?_eq_getElem hj, ← h6, List.getElem?_take, if_pos (by rw [← h1]; exact hj)]
    simp
theorem results_cell1 {P : Program} {fn : Func} {p : Tmp} {ty : TypeId} (h : fn.results = #[.cell p ty]) (tmps : Array Value) (w : World) (g : Nat) (t : TypeId) (cs : Array Value) (fr : Nat × Nat) (d : TypeDesc)
    (hp : tmps.getD p undef = .pointer (some ⟨g, 0, none⟩)) (hg : w.heap[g]? = some (.cells cs t fr))
    (hu : P.underlying ty = some d) (hd : (match d with | .struct _ | .array _ _ => true | _ => false) = true) (hi : (P.info? ty).map (·.size) = some cs.size) :
    (results fn tmps).run P w = .ok (.agg cs) w := by
  have hp' : tmps[p]?.getD undef = .pointer (some ⟨g, 0, none⟩) := by simpa using hp
  simp [results, h, hp', asAddr, run_loadVar_row w g t ty cs fr d hg hu hd hi]
theorem results_cell_tmp {P : Program} {fn : Func} {p u : Tmp} {ty : TypeId} (h : fn.results = #[.cell p ty, .tmp u]) (tmps : Array Value) (w : World) (g : Nat) (t : TypeId) (cs : Array Value) (fr : Nat × Nat) (d : TypeDesc)
    (hp : tmps.getD p undef = .pointer (some ⟨g, 0, none⟩)) (hg : w.heap[g]? = some (.cells cs t fr))
    (hu : P.underlying ty = some d) (hd : (match d with | .struct _ | .array _ _ => true | _ => false) = true) (hi : (P.info? ty).map (·.size) = some cs.size) :
    (results fn tmps).run P w = .ok (.tuple #[.agg cs, tmps.getD u undef]) w := by
  have hp' : tmps[p]?.getD undef = .pointer (some ⟨g, 0, none⟩) := by simpa using hp
  simp [results, h, hp', asAddr, run_loadVar_row w g t ty cs fr d hg hu hd hi]
theorem results_cell_tmp2 {P : Program} {fn : Func} {p u v : Tmp} {ty : TypeId} (h : fn.results = #[.cell p ty, .tmp u, .tmp v]) (tmps : Array Value) (w : World) (g : Nat) (t : TypeId) (cs : Array Value) (fr : Nat × Nat) (d : TypeDesc)
    (hp : tmps.getD p undef = .pointer (some ⟨g, 0, none⟩)) (hg : w.heap[g]? = some (.cells cs t fr))
    (hu : P.underlying ty = some d) (hd : (match d with | .struct _ | .array _ _ => true | _ => false) = true) (hi : (P.info? ty).map (·.size) = some cs.size) :
    (results fn tmps).run P w = .ok (.tuple #[.agg cs, tmps.getD u undef, tmps.getD v undef]) w := by
  have hp' : tmps[p]?.getD undef = .pointer (some ⟨g, 0, none⟩) := by simpa using hp
  simp [results, h, hp', asAddr, run_loadVar_row w g t ty cs fr d hg hu hd hi]
end Go.Proofs.YtjgadocojdieeaaGreatDoor
