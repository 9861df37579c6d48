/-
  The reader of bytes: in plain terms, and how it lies in memory; the contracts of table.count.goOn, table.reader.some. Conditions: the bytes lie in memory.
-/
import Derived.Test.YtkgfjapflpjdbaaTbA
import Derived.Below
import Derived.Maps.AppendAt
import Derived.BigRegion
import Derived.Deep.MidRow
import Derived.Laws.Rows
namespace Go.Proofs.Ytkgfjapflpjdbaa
open Go.RowKit

/-- a block that is known whole -/
def Blk (w : World) (g : Nat) (t : TypeId) (cs : Array Value) : Prop := w.heap[g]? = some (.cells cs t (0, 0))
theorem Blk.lt {w : World} {g : Nat} {t : TypeId} {cs : Array Value} (h : Blk w g t cs) : g < w.heap.size := (Array.getElem?_eq_some_iff.1 h).1
theorem Blk.cell {w : World} {g : Nat} {t : TypeId} {cs : Array Value} (h : Blk w g t cs) (i : Nat) : w.cell? ⟨g, i, none⟩ = cs[i]? := cell_of_row w g i cs t (0, 0) h
theorem Blk.frozen {w : World} {g : Nat} {t : TypeId} {cs : Array Value} (h : Blk w g t cs) (i : Nat) : w.frozen? ⟨g, i, none⟩ = false := by
  unfold Blk at h
  simp [World.frozen?, h]
theorem Blk.new (w : World) (t : TypeId) (cs : Array Value) : Blk (w.alloc (.cells cs t)) w.heap.size t cs := by show (w.heap.push _)[w.heap.size]? = _; simp
theorem Blk.below {B : Nat} {w w' : World} {g : Nat} {t : TypeId} {cs : Array Value} (h : Blk w g t cs) (hb : Below B w w') (hg : g < B) : Blk w' g t cs := (hb.block g hg).trans h
theorem Blk.drew {w : World} {g : Nat} {t : TypeId} {cs : Array Value} (h : Blk w g t cs) : Blk w.drew g t cs := h
theorem Blk.set_ {w : World} {g : Nat} {t : TypeId} {cs : Array Value} (h : Blk w g t cs) (i : Nat) (v : Value) : Blk (w.setCell ⟨g, i, none⟩ v) g t (cs.setIfInBounds i v) := heap_setCell_same w g i cs t v h

/-- nothing that was there has changed, but one block -/
def Only (R : Nat) (w w' : World) : Prop := w.grownBy w' (some R)
theorem Only.refl (R : Nat) (w : World) : Only R w w := ⟨rfl, rfl, rfl, Nat.le_refl _, fun _ _ _ => rfl⟩
theorem Only.trans {R : Nat} {a b c : World} (h : Only R a b) (k : Only R b c) : Only R a c := World.grownBy.trans h k
theorem Only.set_ {R : Nat} {a w : World} (h : Only R a w) (j : Nat) (v : Value) : Only R a (w.setCell ⟨R, j, none⟩ v) :=
  h.trans ⟨rfl, rfl, rfl, by simp [World.setCell], fun k _ hne => heap_setCell_other w ⟨R, j, none⟩ k v (fun e => hne (by rw [e]))⟩
theorem Only.drew {R : Nat} {a w : World} (h : Only R a w) : Only R a w.drew := ⟨h.os, h.tape, h.output, h.size, h.block⟩
theorem Only.alloc {R : Nat} {a w : World} (h : Only R a w) (o : Obj) : Only R a (w.alloc o) := h.trans (World.grownBy_alloc w o (some R))
theorem Only.of_below {R : Nat} {a w : World} (h : Below a.heap.size a w) : Only R a w := ⟨h.os, h.tape, h.output, h.size, fun k hk _ => h.block k hk⟩
theorem Only.below {R B : Nat} {a w : World} (h : Only R a w) (hB : B ≤ R) (hs : B ≤ a.heap.size) : Below B a w := ⟨h.os, h.tape, h.output, h.size, fun k hk => h.block k (by omega) (fun e => by injection e with e; omega)⟩
theorem Only.blk {R : Nat} {w w' : World} {g : Nat} {t : TypeId} {cs : Array Value} (ho : Only R w w') (h : Blk w g t cs) (hne : g ≠ R) : Blk w' g t cs := (ho.block g h.lt (fun e => hne (by injection e))).trans h
theorem RowAt.only {R : Nat} {w w' : World} {a : Option Addr} {l : List Value} (h : RowAt w a l) (ho : Only R w w') (hne : 0 < l.length → ∀ x, a = some x → x.block ≠ R) : RowAt w' a l := by
  refine ⟨h.len, fun h0 => ?_⟩
  obtain ⟨b, off, h1, h2, h3⟩ := h.row h0
  refine ⟨b, off, h1, by have := ho.size; omega, fun j hj => ?_⟩
  rw [← h3 j hj]
  exact World.cell?_of_block (a := ⟨b, off + j, none⟩) (ho.block b h2 (fun e => hne h0 ⟨b, off, none⟩ h1 (by injection e)))

/-- how far it is read -/
structure Rs where
  at_ : Nat
  short : Bool
def someP (l : List UInt8) (s : Rs) (m : Nat) : List UInt8 × Rs := if l.length - s.at_ < m then ([], { s with short := true }) else ((l.drop s.at_).take m, { s with at_ := s.at_ + m })
theorem someP_le {l : List UInt8} {s : Rs} {m : Nat} (h : s.at_ ≤ l.length) : (someP l s m).2.at_ ≤ l.length := by
  unfold someP
  split
  · exact h
  · show s.at_ + m ≤ l.length; omega
theorem someP_len (l : List UInt8) (s : Rs) (m : Nat) : (someP l s m).1 = [] ∨ (someP l s m).1.length = m := by
  unfold someP
  split
  · exact .inl rfl
  · right; show ((l.drop s.at_).take m).length = m; rw [List.length_take, List.length_drop]; omega
def rdCells (l : List UInt8) (a : Option Addr) (c : Nat) (s : Rs) : Array Value := #[.int .i64 s.at_, .int .i64 l.length, .bool s.short, .slice a l.length c]
/-- a reader in a block of its own -/
structure RdIn (w : World) (R : Nat) (l : List UInt8) (a : Option Addr) (c : Nat) (s : Rs) : Prop where
  blk : Blk w R 58 (rdCells l a c s)
  bytes : BytesAt w a l
  cap : l.length ≤ c
  capm : c ≤ maxLen
  le : s.at_ ≤ l.length
  apart : 0 < l.length → ∀ x, a = some x → x.block ≠ R
theorem RdIn.moved {w w' : World} {R : Nat} {l : List UInt8} {a : Option Addr} {c : Nat} {s s' : Rs} (h : RdIn w R l a c s) (ho : Only R w w') (hb : Blk w' R 58 (rdCells l a c s')) (hl : s'.at_ ≤ l.length) : RdIn w' R l a c s' :=
  ⟨hb, RowAt.only h.bytes ho (fun h0 => h.apart (by simpa using h0)), h.cap, h.capm, hl, h.apart⟩
theorem RdIn.later {w w' : World} {R : Nat} {l : List UInt8} {a : Option Addr} {c : Nat} {s : Rs} (h : RdIn w R l a c s) (hb : Below w.heap.size w w') : RdIn w' R l a c s :=
  ⟨h.blk.below hb h.blk.lt, RowAt.below h.bytes hb, h.cap, h.capm, h.le, h.apart⟩

set_option maxHeartbeats 1000000 in
theorem goOn_yes (w : World) (R : Nat) (l : List UInt8) (a : Option Addr) (c : Nat) (s : Rs) (m : Nat) (h : RdIn w R l a c s) (hm : m ≤ l.length - s.at_) :
    Calls Try.prog 45 #[.pointer (some ⟨R, 0, none⟩), .int .i64 (m : Int)] w fun e w' => e = .returned (.tuple #[.int .i64 (s.at_ : Int), .bool true]) ∧ w' = w.setCell ⟨R, 0, none⟩ (.int .i64 ((s.at_ + m : Nat) : Int)) := by
  have c0 : w.cell? ⟨R, 0, none⟩ = some (.int .i64 (s.at_ : Int)) := h.blk.cell 0
  have c1 : w.cell? ⟨R, 1, none⟩ = some (.int .i64 (l.length : Int)) := h.blk.cell 1
  have f0 := h.blk.frozen 0
  have hl := h.bytes.len
  have hle := h.le
  unfold maxLen at hl
  have g1 : ¬ (l.length : Int) - s.at_ < m := by omega
  clear h
  go_enter Try.func45, Try.ntmps45
  go_wp2
  go_ret2
  exact ⟨rfl, rfl⟩
set_option maxHeartbeats 1000000 in
theorem goOn_no (w : World) (R : Nat) (l : List UInt8) (a : Option Addr) (c : Nat) (s : Rs) (m : Nat) (h : RdIn w R l a c s) (hm : l.length - s.at_ < m) :
    Calls Try.prog 45 #[.pointer (some ⟨R, 0, none⟩), .int .i64 (m : Int)] w fun e w' => e = .returned (.tuple #[.int .i64 (s.at_ : Int), .bool false]) ∧ w' = w.setCell ⟨R, 2, none⟩ (.bool true) := by
  have c0 : w.cell? ⟨R, 0, none⟩ = some (.int .i64 (s.at_ : Int)) := h.blk.cell 0
  have c1 : w.cell? ⟨R, 1, none⟩ = some (.int .i64 (l.length : Int)) := h.blk.cell 1
  have c2 : w.cell? ⟨R, 2, none⟩ = some (.bool s.short) := h.blk.cell 2
  have f0 := h.blk.frozen 2
  have hl := h.bytes.len
  have hle := h.le
  unfold maxLen at hl
  have g1 : (l.length : Int) - s.at_ < m := by omega
  clear h
  go_enter Try.func45, Try.ntmps45
  go_wp2
  go_ret2
  exact ⟨rfl, rfl⟩
/-- a part of a slice -/
theorem part_slice (a : Option Addr) (l : List UInt8) (c i m : Nat) (hc : l.length ≤ c) (hm : c ≤ maxLen) (hi : i + m ≤ l.length) (w : World) (h : BytesAt w a l) :
    ∃ a' c', BytesAt w a' ((l.drop i).take m) ∧ (∀ x, a' = some x → ∃ y, a = some y ∧ y.block = x.block) ∧ m ≤ c' ∧ c' ≤ maxLen ∧ ∀ W, (Instr.slice 31 (.slice a l.length c) (some (.int .i64 (i : Int))) (some (.int .i64 ((i + m : Nat) : Int))) none).run Try.prog W = .ok (.slice a' m c') W := by
  have hlen : ((l.drop i).take m).length = m := by rw [List.length_take, List.length_drop]; omega
  unfold maxLen at hm
  have hrun : ∀ W, (Instr.slice 31 (.slice a l.length c) (some (.int .i64 (i : Int))) (some (.int .i64 ((i + m : Nat) : Int))) none).run Try.prog W = ((sizeOf (Try.prog.elem 31)).run Try.prog W).andThen fun s w => .ok (sliced a i (i + m) c s) w := fun W => by
    rw [run_slice_lh W 31 _ _ _ (by kernel_rfl) .i64 .i64 (i : Int) ((i + m : Nat) : Int) (by omega) (by omega) (by omega)]
    rfl
  have hsz : ∀ W, (sizeOf (Try.prog.elem 31)).run Try.prog W = .ok 1 W := fun W => by kernel_rfl
  refine ⟨(if c = i then a else a.map (·.add i)), c - i, ?_, ?_, by omega, by unfold maxLen; omega, fun W => ?_⟩
  · refine ⟨by rw [List.length_map, hlen]; unfold maxLen; omega, fun h0 => ?_⟩
    rw [List.length_map, hlen] at h0
    obtain ⟨g, off, rfl, hg, hc2⟩ := RowAt.row h (by rw [List.length_map]; omega)
    rw [if_neg (by omega)]
    refine ⟨g, off + i, by simp [Addr.add_mid], hg, fun j hj => ?_⟩
    rw [List.length_map, hlen] at hj
    have := hc2 (i + j) (by rw [List.length_map]; omega)
    rw [Nat.add_assoc, this, List.getElem_map, List.getElem_map, List.getElem_take, List.getElem_drop]
  · intro x he
    split at he
    · exact ⟨x, he, rfl⟩
    · cases a with
      | none => cases he
      | some y =>
        simp only [Option.map_some, Option.some.injEq] at he
        refine ⟨y, rfl, ?_⟩
        rw [← he]
        unfold Addr.add
        split <;> rfl
  · rw [hrun, hsz]
    unfold sliced
    simp [Result.andThen]
end Go.Proofs.Ytkgfjapflpjdbaa
