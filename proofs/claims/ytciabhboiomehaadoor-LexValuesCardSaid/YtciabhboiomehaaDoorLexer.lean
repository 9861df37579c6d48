/-
  The contracts of the lexer's methods: endRule and takeTokens. Conditions: the lexer's state in memory; at most 200000 tokens; a line of at most 65536 bytes.
-/
import Derived.Test.YtciabhboiomehaaDoorTable
import Derived.Deep.AppendLies
import Derived.Deep.RegionLaw
namespace Go.Proofs.YtciabhboiomehaaDoor
open Go.RowKit

theorem Tryd.infoTok : (Tryd.prog.info? 35).map (fun i => (i.zero, i.size, i.bytes)) = some (some (.agg #[.int .u8 0, .int .i64 0, .string ⟨#[]⟩, .int .i64 0, .int .i64 0, .int .u8 0, .int .u8 0]), 7, 56) := by kernel_rfl

def toksCells (toks : List Tk) : List Value := toks.flatMap tokCells
theorem toksCells_snoc (toks : List Tk) (t : Tk) : toksCells (toks ++ [t]) = toksCells toks ++ tokCells t := by simp [toksCells]

/-- the lexer in block g: its table, its tokens, and whether a rule is open -/
structure LexAt (w : World) (g base N : Nat) (v : Value) (toks : List Tk) (o : Bool) : Prop where
  blk : Blk w g 54 #[.slice (some ⟨N + 31, 0, none⟩) 15 15, v, .bool o]
  own : w.ownsRow base 35 7 v toks.length (toksCells toks)
  starts : StartsAt w N
  hN : N + 32 ≤ g
  hg : g < base
  hbase : base ≤ w.heap.size

theorem Blk.grown {w w' : World} {g : Nat} {t : TypeId} {cs : Array Value} {row : Option Nat} (h : Blk w g t cs) (hb : w.grownBy w' row) (hg : some g ≠ row) : Blk w' g t cs := (hb.block g h.lt hg).trans h
theorem Blk.set_ {w : World} {g : Nat} {t : TypeId} {cs : Array Value} (h : Blk w g t cs) (i : Nat) (u : Value) : Blk (w.setCell ⟨g, i, none⟩ u) g t (cs.setIfInBounds i u) := by
  unfold Blk at h ⊢
  simp [World.setCell, Array.getElem?_modify, h]

theorem LexAt.later {w w' : World} {g base N : Nat} {v : Value} {toks : List Tk} {o : Bool} (h : LexAt w g base N v toks o) (hb : Below w.heap.size w w') : LexAt w' g base N v toks o :=
  ⟨h.blk.below hb h.blk.lt, ownsRow_kept h.own hb, h.starts.below hb (by have := h.hN; have := h.hg; have := h.hbase; omega), h.hN, h.hg, Nat.le_trans h.hbase hb.size⟩

def endTok (at_ : Nat) : Tk := { kind := 13, place := at_ }

/-- what the lexer is behind a token more -/
theorem LexAt.put {w w1 : World} {g base N gg cap : Nat} {v : Value} {toks : List Tk} {o : Bool} {t : Tk} (h : LexAt w g base N v toks o)
    (hown : w1.ownsRow base 35 7 (.slice (some ⟨gg, 0, none⟩) (toks.length + 1) cap) (toks.length + 1) (toksCells toks ++ tokCells t)) (hgrow : w.grownBy w1 v.ownBlock) :
    LexAt (w1.setCell ⟨g, 1, none⟩ (.slice (some ⟨gg, 0, none⟩) (toks.length + 1) cap)) g base N (.slice (some ⟨gg, 0, none⟩) (toks.length + 1) cap) (toks ++ [t]) o ∧ Below g w (w1.setCell ⟨g, 1, none⟩ (.slice (some ⟨gg, 0, none⟩) (toks.length + 1) cap)) := by
  have hlt := h.own.lt
  have hb1 : Below g w w1 := ⟨hgrow.os, hgrow.tape, hgrow.output, hgrow.size, fun k hk => hgrow.block k (by have := h.hg; have := h.hbase; omega) (fun e => by have := (hlt k e.symm).1; have := h.hg; omega)⟩
  have hblk1 : Blk w1 g 54 _ := h.blk.grown hgrow (fun e => by have := (hlt g e.symm).1; have := h.hg; omega)
  refine ⟨⟨hblk1.set_ 1 _, ?_, ?_, h.hN, h.hg, ?_⟩, hb1.setCell (Nat.le_refl _) _⟩
  · rw [toksCells_snoc, List.length_append]
    exact ownsRow_setCell_below hown h.hg _
  · exact h.starts.below (hb1.setCell (p := ⟨g, 1, none⟩) (Nat.le_refl _) _) h.hN
  · have := hgrow.size; have := h.hbase; simp [World.setCell]; omega

theorem LexAt.flag {w : World} {g base N : Nat} {v : Value} {toks : List Tk} {o : Bool} (h : LexAt w g base N v toks o) (o' : Bool) :
    LexAt (w.setCell ⟨g, 2, none⟩ (.bool o')) g base N v toks o' ∧ Below g w (w.setCell ⟨g, 2, none⟩ (.bool o')) := by
  have hb : Below g w (w.setCell ⟨g, 2, none⟩ (.bool o')) := (Below.refl g w).setCell (p := ⟨g, 2, none⟩) (Nat.le_refl g) _
  refine ⟨⟨h.blk.set_ 2 _, ownsRow_setCell_below h.own h.hg _, h.starts.below hb h.hN, h.hN, h.hg, ?_⟩, hb⟩
  have := h.hbase; simp [World.setCell]; omega

set_option maxHeartbeats 1000000 in
theorem endRule_shut (g base N : Nat) (v : Value) (toks : List Tk) (at_ : Int) (w : World) (h : LexAt w g base N v toks false) :
    Calls Tryd.prog 22 #[.pointer (some ⟨g, 0, none⟩), .int .i64 at_] w fun e w' => e = .returned (.tuple #[]) ∧ LexAt w' g base N v toks false ∧ Below g w w' := by
  have hc := h.blk.cell
  have hf := h.blk.frozen
  go_enter Tryd.func22, Tryd.ntmps22
  go_wp2
  go_end0
  exact ⟨rfl, h.flag false⟩

set_option maxHeartbeats 1000000 in
theorem endRule_open (g base N : Nat) (v : Value) (toks : List Tk) (at_ : Nat) (w : World) (h : LexAt w g base N v toks true) (hn : toks.length ≤ 200000) :
    Calls Tryd.prog 22 #[.pointer (some ⟨g, 0, none⟩), .int .i64 at_] w fun e w' => e = .returned (.tuple #[]) ∧ (∃ v', LexAt w' g base N v' (toks ++ [endTok at_]) false) ∧ Below g w w' := by
  obtain ⟨i0, hi0, hz0, hz1, hz2⟩ := info_parts Tryd.infoTok
  have hc := h.blk.cell
  have hf := h.blk.frozen
  go_enter Tryd.func22, Tryd.ntmps22
  go_wp2_with (at_builtin; refine wpList_append_lies _ rfl _ _ 30 rfl base 35 i0 _ 7 56 Tryd.underlying30 hi0 hz0 hz1 hz2 rfl (by decide) v toks.length (toksCells toks) (by rfl) (h.own.alloc _) ⟨w.heap.size, 0, none⟩ 1 1 (tokCells (endTok at_)) (by rfl) (by rfl) (World.news_of_block (cs := (tokCells (endTok at_)).toArray) (t := 35) (fr := (0, 0)) (heap_alloc_new w _)) ?c1 (by omega) ?c2 ?c3 ?c4 (w.heap.size + 1) (by simp) ?_)
  case c1 => simp [tokCells, endTok, Value.oneCell']
  case c2 => unfold maxLen; omega
  case c3 => omega
  case c4 => have := h.hbase; simp; omega
  intro gg cap w1 hown hgrow _ _
  have hput := (h.later ((Below.refl _ _).alloc (Nat.le_refl _) _)).put hown hgrow
  have hfl := hput.1.flag false
  have hbel : Below g w (w.alloc (.cells (tokCells (endTok at_)).toArray 35)) := (Below.refl _ _).alloc (by have := h.hg; have := h.hbase; omega) _
  have hb1 : Blk w1 g 54 _ := (h.blk.alloc _).grown hgrow (fun e => by have := (h.own.lt g e.symm).1; have := h.hg; omega)
  have hc1 := hb1.cell
  have hf1 := hb1.frozen
  have HF := Lib.hid hfl
  have HP := Lib.hid hput
  have HB := Lib.hid (hbel.trans (hput.2.trans hfl.2))
  clear hput hfl hbel hb1 hgrow hown hc hf
  go_wp2
  go_end0
  exact ⟨rfl, ⟨_, HF.out.1⟩, HB.out⟩
end Go.Proofs.YtciabhboiomehaaDoor
