/-
  Tables, as plain data, and how they lie in memory; the contract of table.Right. Conditions: the table lies in memory; names within Go's own bounds.
-/
import Derived.Test.YtkgfjapflpjdbaaTbD
import Derived.Test.YtkgfjapflpjdbaaTbE
import Derived.Deep.RegionHeld3
import Derived.Deep.MidRow
namespace Go.Proofs.Ytkgfjapflpjdbaa
open Go.RowKit

/-- a table -/
structure Tab where
  of : List UInt8
  many : Int
  dmany : Int
  next : List Int
  tags : List Int
  names : List (List UInt8)
/-- where a table's lists lie -/
structure Lie where
  an : Option Addr
  cn : Nat
  at_ : Option Addr
  ct : Nat
  ns : Option Addr
  cs : Nat
def midCells (t : Tab) (p : Lie) : List Value := [intV t.dmany, .slice p.an t.next.length p.cn, .slice p.at_ t.tags.length p.ct]
def tabCells (t : Tab) (p : Lie) : List Value := clCells t.of t.many ++ (midCells t p ++ [.slice p.ns t.names.length p.cs])
def tabV (t : Tab) (p : Lie) : Value := .agg (tabCells t p).toArray
/-- a table's lists lie in memory -/
structure TabAt (w : World) (t : Tab) (p : Lie) : Prop where
  of : t.of.length = 256
  next : IntsAt w p.an t.next
  tags : IntsAt w p.at_ t.tags
  names : TextsAt w p.ns t.names
  each : ∀ s ∈ t.names, s.length ≤ maxLen
theorem TabAt.below {w w' : World} {t : Tab} {p : Lie} (h : TabAt w t p) (hb : Below w.heap.size w w') : TabAt w' t p :=
  ⟨h.of, RowAt.below h.next hb, RowAt.below h.tags hb, RowAt.below h.names hb, h.each⟩
/-- a table lies in a block of its own -/
structure TabIn (w : World) (B : Nat) (t : Tab) (p : Lie) : Prop where
  blk : w.heap[B]? = some (.cells (tabCells t p).toArray 30)
  at_ : TabAt w t p
theorem TabIn.below {w w' : World} {B : Nat} {t : Tab} {p : Lie} (h : TabIn w B t p) (hb : Below w.heap.size w w') : TabIn w' B t p := by
  refine ⟨?_, h.at_.below hb⟩
  have hlt : B < w.heap.size := (Array.getElem?_eq_some_iff.1 h.blk).1
  rw [hb.block B hlt]
  exact h.blk
theorem TabIn.drew {w : World} {B : Nat} {t : Tab} {p : Lie} (h : TabIn w B t p) : TabIn w.drew B t p := h.below (Below.refl _ _).drew
theorem TabIn.new {w : World} {t : Tab} {p : Lie} (h : TabAt w t p) : TabIn (w.alloc (.cells (tabCells t p).toArray 30)) w.heap.size t p :=
  ⟨by show (w.heap.push _)[w.heap.size]? = _; simp, h.below ((Below.refl _ _).alloc (Nat.le_refl _) _)⟩
theorem tab_len (t : Tab) (p : Lie) (h : t.of.length = 256) : (tabCells t p).length = 261 := by simp [tabCells, midCells, clCells, h]
theorem TabIn.cell {w : World} {B : Nat} {t : Tab} {p : Lie} (h : TabIn w B t p) (j : Nat) : w.cell? ⟨B, j, none⟩ = (tabCells t p)[j]? := by
  rw [cell_of_row w B j _ _ _ h.blk]
  simp
theorem tab_of (t : Tab) (p : Lie) (k : Nat) (h : k < t.of.length) : (tabCells t p)[k]? = some (byteV t.of[k]) := by
  unfold tabCells
  rw [List.getElem?_append_left (by simp [clCells]; omega)]
  exact clCells_at t.of t.many k h
theorem tab_tail (t : Tab) (p : Lie) (h : t.of.length = 256) (j : Nat) (hj : j < 5) : (tabCells t p)[256 + j]? = [intV t.many, intV t.dmany, .slice p.an t.next.length p.cn, .slice p.at_ t.tags.length p.ct, .slice p.ns t.names.length p.cs][j]? := by
  unfold tabCells clCells midCells
  rw [List.append_assoc, List.getElem?_append_right (by simp [h])]
  simp only [List.length_map, h, Nat.add_sub_cancel_left]
  rfl
theorem TabIn.many {w : World} {B : Nat} {t : Tab} {p : Lie} (h : TabIn w B t p) : w.cell? ⟨B, 256, none⟩ = some (.int .i64 t.many) := (h.cell 256).trans (tab_tail t p h.at_.of 0 (by decide))
theorem TabIn.dmany {w : World} {B : Nat} {t : Tab} {p : Lie} (h : TabIn w B t p) : w.cell? ⟨B, 257, none⟩ = some (.int .i64 t.dmany) := (h.cell 257).trans (tab_tail t p h.at_.of 1 (by decide))
theorem TabIn.next {w : World} {B : Nat} {t : Tab} {p : Lie} (h : TabIn w B t p) : w.cell? ⟨B, 258, none⟩ = some (.slice p.an t.next.length p.cn) := (h.cell 258).trans (tab_tail t p h.at_.of 2 (by decide))
theorem TabIn.tags {w : World} {B : Nat} {t : Tab} {p : Lie} (h : TabIn w B t p) : w.cell? ⟨B, 259, none⟩ = some (.slice p.at_ t.tags.length p.ct) := (h.cell 259).trans (tab_tail t p h.at_.of 3 (by decide))
theorem TabIn.names {w : World} {B : Nat} {t : Tab} {p : Lie} (h : TabIn w B t p) : w.cell? ⟨B, 260, none⟩ = some (.slice p.ns t.names.length p.cs) := (h.cell 260).trans (tab_tail t p h.at_.of 4 (by decide))
theorem TabIn.byte {w : World} {B : Nat} {t : Tab} {p : Lie} (h : TabIn w B t p) (k : Nat) (hk : k < t.of.length) : w.cell? ⟨B, k, none⟩ = some (.int .u8 (t.of[k].toNat : Int)) := (h.cell k).trans (tab_of t p k hk)
/-- the whole table is read -/
theorem TabIn.load {w : World} {B : Nat} {t : Tab} {p : Lie} (h : TabIn w B t p) : (Instr.loadAt 30 (.pointer (some ⟨B, 0, none⟩))).run Try.prog w = .ok (tabV t p) w :=
  run_loadAt_mid w B 0 30 (tabCells t p) _ (fun j v hv => by rw [Nat.zero_add, h.cell]; exact hv) Try.underlying30 rfl (by rw [tab_len t p h.at_.of]; kernel_rfl)
/-- its classes -/
theorem TabIn.loadC {w : World} {B : Nat} {t : Tab} {p : Lie} (h : TabIn w B t p) : (Instr.loadAt 24 (.pointer (some ⟨B, 0, none⟩))).run Try.prog w = .ok (.agg (clCells t.of t.many).toArray) w :=
  run_loadAt_mid w B 0 24 (clCells t.of t.many) _ (fun j v hv => by
    rw [Nat.zero_add, h.cell]
    unfold tabCells
    rw [List.getElem?_append_left (List.getElem?_eq_some_iff.1 hv).1]
    exact hv) Try.underlying24 rfl (by rw [clCells_len _ _ h.at_.of]; kernel_rfl)
/-- its machine -/
theorem TabIn.loadD {w : World} {B : Nat} {t : Tab} {p : Lie} (h : TabIn w B t p) : (Instr.loadAt 27 (.pointer (some ⟨B, 257, none⟩))).run Try.prog w = .ok (.agg #[.int .i64 t.dmany, .slice p.an t.next.length p.cn, .slice p.at_ t.tags.length p.ct]) w :=
  run_loadAt_mid w B 257 27 (midCells t p) _ (fun j v hv => by
    have hj : j < 3 := (List.getElem?_eq_some_iff.1 hv).1
    rw [h.cell, show 257 + j = 256 + (j + 1) from by omega, tab_tail t p h.at_.of (j + 1) (by omega)]
    rw [show ([intV t.many, intV t.dmany, .slice p.an t.next.length p.cn, .slice p.at_ t.tags.length p.ct, .slice p.ns t.names.length p.cs] : List Value) = intV t.many :: (midCells t p ++ [.slice p.ns t.names.length p.cs]) from rfl, List.getElem?_cons_succ, List.getElem?_append_left (by exact hj)]
    exact hv) Try.underlying27 rfl (by kernel_rfl)

/-- a load of a whole table, or of its classes: kept whole, where the walk would part it cell by cell -/
noncomputable def LoadOp (t : TypeId) (v : Value) : Sem Value := Instr.loadAt t v
theorem loadOp_C (v : Value) : Instr.loadAt 24 v = LoadOp 24 v := rfl
theorem loadOp_T (v : Value) : Instr.loadAt 30 v = LoadOp 30 v := rfl
/-- what the walk reads of a table in a block of its own -/
structure TabRead (w : World) (B : Nat) (t : Tab) (p : Lie) (X C : Array Value) : Prop where
  all : (LoadOp 30 (.pointer (some ⟨B, 0, none⟩))).run Try.prog w = .ok (.agg X) w
  cls : (LoadOp 24 (.pointer (some ⟨B, 0, none⟩))).run Try.prog w = .ok (.agg C) w
  many : w.cell? ⟨B, 256, none⟩ = some (.int .i64 t.many)
  dmany : w.cell? ⟨B, 257, none⟩ = some (.int .i64 t.dmany)
  next : w.cell? ⟨B, 258, none⟩ = some (.slice p.an t.next.length p.cn)
  tags : w.cell? ⟨B, 259, none⟩ = some (.slice p.at_ t.tags.length p.ct)
  names : w.cell? ⟨B, 260, none⟩ = some (.slice p.ns t.names.length p.cs)
theorem TabIn.read {w : World} {B : Nat} {t : Tab} {p : Lie} (h : TabIn w B t p) : TabRead w B t p (tabCells t p).toArray (clCells t.of t.many).toArray :=
  ⟨h.load, h.loadC, h.many, h.dmany, h.next, h.tags, h.names⟩

/-! ### which tables are right -/
def tabRightB (t : Tab) : Bool := clRightB t.of t.many && (dfRightB t.dmany t.next t.tags && ((t.many == t.dmany) && (namesB t.names && decide (maxP t.tags < t.names.length))))
end Go.Proofs.Ytkgfjapflpjdbaa
