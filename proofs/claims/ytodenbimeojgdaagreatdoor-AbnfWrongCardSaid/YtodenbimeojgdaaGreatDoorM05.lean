/-
  Merged texts (RdH, RdI, RdJ, RdK, RdL, RdM, RdN, RdO, RdP, RdQ, RdR, RdS), each under a head of its own that says what it proves and under which conditions.
-/
import Derived.Test.YtodenbimeojgdaaGreatDoorM04
import Derived.Deep.AppendLies
import Derived.Deep.RegionLaw
/-
  The contracts of the parser's inner and add. Conditions: the parser, its tokens and its groups lie in memory.
-/
namespace Go.Proofs.YtodenbimeojgdaaGreatDoor
open Go.RowKit

set_option maxHeartbeats 800000 in
theorem inner_any (w : World) (r base : Nat) (ex : List Nat) (A : Option Addr) (n c : Nat) (toks : List Tk) (at_ ob oc : Nat) (gs : List GG) (g : GG) (h : SAt w r base ex A n c toks at_ ob oc (gs ++ [g])) :
    Calls Tryz.prog 113 #[.pointer (some ⟨r, 0, none⟩)] w fun e w' => e = .returned (.pointer (some ⟨ob, gs.length * 10, none⟩)) ∧ ∃ m, w' = w.drewN m := by
  have c2 : w.cell? ⟨r, 2, none⟩ = some (.slice (some ⟨ob, 0, none⟩) (gs ++ [g]).length oc) := h.rd.blk.cell 2
  have hl : (gs ++ [g]).length = gs.length + 1 := by simp
  have hf := h.fewer
  have hle := h.rd.le
  have hmost := h.rd.most
  clear h
  rw [hl] at hf
  have hN : gs.length < (gs ++ [g]).length := by rw [hl]; omega
  have hcast : (((gs ++ [g]).length : Int) - 1) = (gs.length : Int) := by rw [hl]; omega
  generalize (gs ++ [g]).length = N at *
  generalize gs.length = k at *
  have e3 : IntKind.i64.wrap (k : Int) = k := IntWalk.i64_in _ (by omega)
  have hlt' : (k : Int) < N := by omega
  have h0' : (0 : Int) ≤ k := by omega
  clear hl
  go_enter Tryz.func113, Tryz.ntmps113
  go_wp2_with fail
  go_quiet (fail)
  go_wp2
  go_ret
  exact ⟨rfl, _, rfl⟩

theorem Tryz.infoTree : (Tryz.prog.info? 25).map (fun i => (i.zero, i.size, i.bytes)) = some (some (.agg #[.int .u8 0, .string ⟨#[]⟩, .int .u8 0, .int .u8 0, .int .i64 0, .int .i64 0, .slice none 0 0]), 7, 72) := by kernel_rfl

/-- the cells of the innermost group -/
theorem SAt.top {w : World} {r base : Nat} {ex : List Nat} {A : Option Addr} {n c : Nat} {toks : List Tk} {at_ ob oc : Nat} {gs : List GG} {g : GG} (h : SAt w r base ex A n c toks at_ ob oc (gs ++ [g])) (j : Nat) (u : Value) (hu : (gCells g)[j]? = some u) : w.cell? ⟨ob, gs.length * 10 + j, none⟩ = some u := by
  have hj := (List.getElem?_eq_some_iff.1 hu).1
  rw [gCells_len] at hj
  rw [h.own.cellAt (gs.length * 10 + j) (by simp; omega), gsCells_snoc, List.getElem?_append_right (by rw [gsCells_len]; omega), gsCells_len, Nat.add_sub_cancel_left]
  exact hu

/-- a tree stored, cell by cell -/
def put7 (w : World) (gg L : Nat) (t : Tr) (sl : Value) : World :=
  ((((((w.setCell ⟨gg, L, none⟩ (.int .u8 t.kind)).setCell ⟨gg, L + 1, none⟩ (.string (bs t.text))).setCell ⟨gg, L + 2, none⟩ (.int .u8 t.lo)).setCell ⟨gg, L + 3, none⟩ (.int .u8 t.hi)).setCell ⟨gg, L + 4, none⟩ (.int .i64 t.mn)).setCell ⟨gg, L + 5, none⟩ (.int .i64 t.mx)).setCell ⟨gg, L + 6, none⟩ sl
theorem put7_block (w : World) (gg L : Nat) (t : Tr) (sl : Value) (b : Nat) (hb : b ≠ gg) : (put7 w gg L t sl).heap[b]? = w.heap[b]? := by
  unfold put7
  iterate 7 rw [Below.heap_setCell _ _ _ _ hb]
theorem put7_size (w : World) (gg L : Nat) (t : Tr) (sl : Value) : (put7 w gg L t sl).heap.size = w.heap.size := by
  unfold put7
  simp [World.setCell]
theorem put7_below {B : Nat} {a w : World} (h : Below B a w) (gg L : Nat) (t : Tr) (sl : Value) (hB : B ≤ gg) : Below B a (put7 w gg L t sl) := by
  unfold put7
  iterate 7 refine Below.setCell ?_ hB _
  exact h
def zeroL : List Value := [.int .u8 0, .string ⟨#[]⟩, .int .u8 0, .int .u8 0, .int .i64 0, .int .i64 0, .slice none 0 0]
theorem set7 (xs : List Value) (k : Nat) (hk : xs.length = k) (z0 z1 z2 z3 z4 z5 z6 a0 a1 a2 a3 a4 a5 a6 : Value) :
    ((((((((xs ++ [z0, z1, z2, z3, z4, z5, z6]).set k a0).set (k + 1) a1).set (k + 2) a2).set (k + 3) a3).set (k + 4) a4).set (k + 5) a5).set (k + 6) a6) = xs ++ [a0, a1, a2, a3, a4, a5, a6] := by
  subst hk
  simp
theorem put7_own {w : World} {base gg cap : Nat} {ps : Trow} (h : w.ownsRow base 25 7 (.slice (some ⟨gg, 0, none⟩) (ps.length + 1) cap) (ps.length + 1) (flatT ps ++ zeroL)) (t : Tr) (sl : Value) :
    (put7 w gg (ps.length * 7) t sl).ownsRow base 25 7 (.slice (some ⟨gg, 0, none⟩) (ps.length + 1) cap) (ps.length + 1) (flatT (ps ++ [(t, sl)])) := by
  have h7 := (((((((h.stored (ps.length * 7) (.int .u8 t.kind)).1.stored (ps.length * 7 + 1) (.string (bs t.text))).1.stored (ps.length * 7 + 2) (.int .u8 t.lo)).1.stored (ps.length * 7 + 3) (.int .u8 t.hi)).1.stored (ps.length * 7 + 4) (.int .i64 t.mn)).1.stored (ps.length * 7 + 5) (.int .i64 t.mx)).1.stored (ps.length * 7 + 6) sl).1
  rw [zeroL, set7 _ _ (flatT_len ps)] at h7
  rw [flatT_snoc]
  exact h7
theorem gsCells_set9 (gs : List GG) (g : GG) (u : Value) : (gsCells (gs ++ [g])).set (gs.length * 10 + 9) u = gsCells (gs ++ [{ g with vp := u }]) := by
  rw [gsCells_snoc, gsCells_snoc, List.set_append_right _ _ (by rw [gsCells_len]; omega), gsCells_len, Nat.add_sub_cancel_left]
  rfl
theorem gsCells_set8 (gs : List GG) (g : GG) (u : Value) : (gsCells (gs ++ [g])).set (gs.length * 10 + 8) u = gsCells (gs ++ [{ g with vr := u }]) := by
  rw [gsCells_snoc, gsCells_snoc, List.set_append_right _ _ (by rw [gsCells_len]; omega), gsCells_len, Nat.add_sub_cancel_left]
  rfl

/-- how the innermost group's blocks stand to the others -/
theorem SAt.apart {w : World} {r base : Nat} {ex : List Nat} {A : Option Addr} {n c : Nat} {toks : List Tk} {at_ ob oc : Nat} {gs : List GG} {g : GG} (h : SAt w r base ex A n c toks at_ ob oc (gs ++ [g])) : ob ∉ gBlocks g ∧ r ∉ gBlocks g ∧ r ≠ ob ∧ (gBlocks g).Nodup := by
  have hnd0 := h.nodup
  rw [owned_snoc, ← List.cons_append, List.nodup_append] at hnd0
  refine ⟨fun hb => hnd0.2.2 ob (by simp) ob hb rfl, fun hb => hnd0.2.2 r (by simp) r hb rfl, fun e => ?_, hnd0.2.1⟩
  have := (List.nodup_cons.1 hnd0.1).1
  exact this (by rw [e]; simp)
theorem vr_ne_vp {g : GG} (h : (gBlocks g).Nodup) : ∀ a b, g.vr.ownBlock = some a → g.vp.ownBlock = some b → a ≠ b := by
  intro a b ha hb e
  unfold gBlocks at h
  rw [ha, hb, e] at h
  simp at h
theorem mem_vr {g : GG} {b : Nat} (h : g.vr.ownBlock = some b) : b ∈ gBlocks g := List.mem_append.2 (.inl (by simpa using h))
theorem mem_vp {g : GG} {b : Nat} (h : g.vp.ownBlock = some b) : b ∈ gBlocks g := List.mem_append.2 (.inr (by simpa using h))

/-- behind add -/
theorem SAt.added {w w1 w2 : World} {r base : Nat} {ex : List Nat} {A : Option Addr} {n c : Nat} {toks : List Tk} {at_ ob oc gg cap : Nat} {gs : List GG} {g : GG} (h : SAt w r base ex A n c toks at_ ob oc (gs ++ [g])) (hb1 : Below w.heap.size w w1) (hgrow : w1.grownBy w2 g.vp.ownBlock)
    (hown2 : w2.ownsRow base 25 7 (.slice (some ⟨gg, 0, none⟩) (g.parts.length + 1) cap) (g.parts.length + 1) (flatT g.parts ++ zeroL)) (hat : g.vp.ownBlock = some gg ∨ w.heap.size ≤ gg)
    (t : Tr) (sl : Value) (hk : KidsAt w (Done ex r ob (gs ++ [g])) t.kids sl) (ht : t.text.length ≤ maxLen) (hfew : g.rows.length + (g.parts.length + 1) ≤ at_) :
    SAt ((put7 w2 gg (g.parts.length * 7) t sl).setCell ⟨ob, gs.length * 10 + 9, none⟩ (.slice (some ⟨gg, 0, none⟩) (g.parts.length + 1) cap)) r base ex A n c toks at_ ob oc (gs ++ [{ g with parts := g.parts ++ [(t, sl)], vp := .slice (some ⟨gg, 0, none⟩) (g.parts.length + 1) cap }]) ∧
    Below base w ((put7 w2 gg (g.parts.length * 7) t sl).setCell ⟨ob, gs.length * 10 + 9, none⟩ (.slice (some ⟨gg, 0, none⟩) (g.parts.length + 1) cap)) ∧
    (∀ b, b < w.heap.size → b ∉ r :: owned ob (gs ++ [g]) → ((put7 w2 gg (g.parts.length * 7) t sl).setCell ⟨ob, gs.length * 10 + 9, none⟩ (.slice (some ⟨gg, 0, none⟩) (g.parts.length + 1) cap)).heap[b]? = w.heap[b]?) := by
  have hg := h.each g (by simp)
  obtain ⟨hobn, hrn, hro, hndg⟩ := h.apart
  have hgb := (hown2.lt gg rfl).1
  have hgl := (hown2.lt gg rfl).2
  have hob := h.ob_lt
  have hobg : ob ≠ gg := by
    rcases hat with hat | hat
    · exact fun e => hobn (e ▸ mem_vp hat)
    · omega
  have hbase2 := h.hbase
  have hblk : ∀ b, b < w.heap.size → b ≠ ob → b ≠ gg → some b ≠ g.vp.ownBlock → ((put7 w2 gg (g.parts.length * 7) t sl).setCell ⟨ob, gs.length * 10 + 9, none⟩ (.slice (some ⟨gg, 0, none⟩) (g.parts.length + 1) cap)).heap[b]? = w.heap[b]? := by
    intro b hl h1 h2 h3
    rw [Below.heap_setCell _ _ _ _ h1, put7_block _ _ _ _ _ _ h2, hgrow.block b (Nat.lt_of_lt_of_le hl hb1.size) h3, hb1.block b hl]
  have hbel : Below base w ((put7 w2 gg (g.parts.length * 7) t sl).setCell ⟨ob, gs.length * 10 + 9, none⟩ (.slice (some ⟨gg, 0, none⟩) (g.parts.length + 1) cap)) := by
    refine Below.setCell (put7_below ?_ _ _ _ _ hgb) hob.1 _
    exact (hb1.mono hbase2).grown hgrow (Nat.le_trans hbase2 hb1.size) (fun k hk => (hg.parts.lt k hk).1)
  have hsame : ∀ b, b < w.heap.size → b ≠ ob → b ∉ gBlocks g → ((put7 w2 gg (g.parts.length * 7) t sl).setCell ⟨ob, gs.length * 10 + 9, none⟩ (.slice (some ⟨gg, 0, none⟩) (g.parts.length + 1) cap)).heap[b]? = w.heap[b]? := by
    intro b hl h1 h2
    refine hblk b hl h1 ?_ (fun e => h2 (mem_vp e.symm))
    rcases hat with hat | hat
    · exact fun e => h2 (e ▸ mem_vp hat)
    · omega
  have hbl : ∀ b ∈ gBlocks { g with parts := g.parts ++ [(t, sl)], vp := .slice (some ⟨gg, 0, none⟩) (g.parts.length + 1) cap }, b ∈ gBlocks g ∨ w.heap.size ≤ b := by
    intro b hb
    rcases List.mem_append.1 hb with hb | hb
    · exact .inl (List.mem_append.2 (.inl hb))
    · have : b = gg := by simpa [Value.ownBlock] using hb
      subst this
      rcases hat with hat | hat
      · exact .inl (mem_vp hat)
      · exact .inr hat
  have hvrgg : ∀ a, g.vr.ownBlock = some a → a ≠ gg := by
    intro a ha
    rcases hat with hat | hat
    · exact vr_ne_vp hndg a gg ha hat
    · have := (hg.rows.lt a ha).2; omega
  have hfree := h.free hsame hbl
  have hsz := hbel.size
  refine ⟨h.turn hbel hsame ?_ ?_ hbl ?_ (by simpa using hfew), hbel, fun b hl hF => hsame b hl (out_snoc hF).2.1 (out_snoc hF).2.2.2⟩
  · have h1 : (put7 w2 gg (g.parts.length * 7) t sl).ownsRow base 154 10 (.slice (some ⟨ob, 0, none⟩) (gs ++ [g]).length oc) (gs ++ [g]).length (gsCells (gs ++ [g])) := by
      refine ownsRow_same h.own (fun b hb => ?_)
      have : ob = b := by simpa [Value.ownBlock] using hb
      subst this
      rw [put7_block _ _ _ _ _ _ hobg, hgrow.block ob (Nat.lt_of_lt_of_le hob.2 hb1.size) (fun e => hobn (mem_vp e.symm)), hb1.block ob hob.2]
    have h2 := (h1.stored (gs.length * 10 + 9) (.slice (some ⟨gg, 0, none⟩) (g.parts.length + 1) cap)).1
    rw [gsCells_set9] at h2
    have e : gsCells (gs ++ [{ g with parts := g.parts ++ [(t, sl)], vp := .slice (some ⟨gg, 0, none⟩) (g.parts.length + 1) cap }]) = gsCells (gs ++ [{ g with vp := .slice (some ⟨gg, 0, none⟩) (g.parts.length + 1) cap }]) := by
      rw [gsCells_snoc, gsCells_snoc]
      rfl
    rw [e]
    exact h2
  · refine ⟨ownsRow_same hg.rows (fun b hb => hblk b (hg.rows.lt b hb).2 (fun e => hobn (e ▸ mem_vr hb)) (hvrgg b hb) (fun e => vr_ne_vp hndg b b hb e.symm rfl)), ?_, hg.krows.later hsz hfree, ?_, hg.tkids, hg.ttext⟩
    · have hp := put7_own hown2 t sl
      have : (g.parts ++ [(t, sl)]).length = g.parts.length + 1 := by simp
      rw [this]
      refine ownsRow_same hp (fun b hb => ?_)
      have : gg = b := by simpa [Value.ownBlock] using hb
      subst this
      exact Below.heap_setCell _ _ _ _ (fun e => hobg e.symm)
    · intro p hp
      rcases List.mem_append.1 hp with hp | hp
      · exact hg.kparts.later hsz hfree p hp
      · have : p = (t, sl) := by simpa using hp
        subst this
        exact ⟨hk.later hsz hfree, ht⟩
  · show (g.vr.ownBlock.toList ++ [gg]).Nodup
    cases hv : g.vr.ownBlock with
    | none => simp
    | some a => simp; exact hvrgg a hv
end Go.Proofs.YtodenbimeojgdaaGreatDoor

/-
  The contract of the parser's add. Conditions: the parser, its tokens and its groups lie in memory; the part's kids, too.
-/
namespace Go.Proofs.YtodenbimeojgdaaGreatDoor
open Go.RowKit

/-- behind a turn of the innermost group -/
def Turned (w : World) (r base : Nat) (ex : List Nat) (A : Option Addr) (n c : Nat) (toks : List Tk) (at_ ob oc : Nat) (gs : List GG) (g : GG) (x : Grp) (w' : World) : Prop :=
  (∃ g', SAt w' r base ex A n c toks at_ ob oc (gs ++ [g']) ∧ g'.grp = x) ∧ Below base w w' ∧ (∀ b, b < w.heap.size → b ∉ r :: owned ob (gs ++ [g]) → w'.heap[b]? = w.heap[b]?)

theorem zero_cells {w : World} {base gg cap : Nat} {ps : Trow} (h : w.ownsRow base 25 7 (.slice (some ⟨gg, 0, none⟩) (ps.length + 1) cap) (ps.length + 1) (flatT ps ++ zeroL)) :
    w.cell? ⟨gg, ps.length * 7, none⟩ = some (.int .u8 0) ∧ w.cell? ⟨gg, ps.length * 7 + 1, none⟩ = some (.string ⟨#[]⟩) ∧ w.cell? ⟨gg, ps.length * 7 + 2, none⟩ = some (.int .u8 0) ∧ w.cell? ⟨gg, ps.length * 7 + 3, none⟩ = some (.int .u8 0) ∧ w.cell? ⟨gg, ps.length * 7 + 4, none⟩ = some (.int .i64 0) ∧ w.cell? ⟨gg, ps.length * 7 + 5, none⟩ = some (.int .i64 0) ∧ w.cell? ⟨gg, ps.length * 7 + 6, none⟩ = some (.slice none 0 0) := by
  have key : ∀ j u, j < 7 → zeroL[j]? = some u → w.cell? ⟨gg, ps.length * 7 + j, none⟩ = some u := fun j u hj hu => by
    rw [h.cellAt (ps.length * 7 + j) (by omega), List.getElem?_append_right (by rw [flatT_len]; omega), flatT_len, Nat.add_sub_cancel_left]
    exact hu
  exact ⟨key 0 _ (by omega) rfl, key 1 _ (by omega) rfl, key 2 _ (by omega) rfl, key 3 _ (by omega) rfl, key 4 _ (by omega) rfl, key 5 _ (by omega) rfl, key 6 _ (by omega) rfl⟩
theorem row_form {w : World} {base : Nat} {v : Value} {ps : Trow} (h : w.ownsRow base 25 7 v ps.length (flatT ps)) : ∃ A c, v = .slice A ps.length c := by
  rcases h.2 with ⟨rfl, h0⟩ | ⟨g, cap, cur, rfl, _⟩
  · exact ⟨none, 0, by rw [h0]⟩
  · exact ⟨_, cap, rfl⟩

theorem modify_comm {α : Type} (x : Array α) (i j : Nat) (f g : α → α) (h : i ≠ j) : (x.modify i f).modify j g = (x.modify j g).modify i f := by
  apply Array.ext
  · simp
  · intro k h1 h2
    simp only [Array.getElem_modify]
    by_cases hj : j = k
    · subst hj
      simp [h]
    · simp [hj]
theorem setCell_comm (w : World) (a b : Addr) (u v : Value) (h : a.block ≠ b.block) : (w.setCell a u).setCell b v = (w.setCell b v).setCell a u := by
  unfold World.setCell
  simp only
  rw [modify_comm _ _ _ _ _ h]
theorem put7_comm (w : World) (gg L ob i : Nat) (t : Tr) (sl u : Value) (h : ¬ ob = gg) : put7 (w.setCell ⟨ob, i, none⟩ u) gg L t sl = (put7 w gg L t sl).setCell ⟨ob, i, none⟩ u := by
  unfold put7
  iterate 7 rw [setCell_comm _ ⟨ob, i, none⟩ _ u _ h]

/-- what stays while a list of the innermost group grows -/
theorem grow_facts {W1 w2 : World} {r base : Nat} {ex : List Nat} {A : Option Addr} {n c : Nat} {toks : List Tk} {at_ ob oc gg B : Nat} {gs : List GG} {g : GG} {o : Obj} {v : Value} {ty : TypeId} {cs : Array Value} (h1 : SAt W1 r base ex A n c toks at_ ob oc (gs ++ [g])) (hB : Blk W1 B ty cs) (hBn : B ∉ gBlocks g)
    (hv : ∀ b, v.ownBlock = some b → b ∈ gBlocks g) (hgrow : (W1.alloc o).drew.grownBy w2 v.ownBlock) (hat : v.ownBlock = some gg ∨ gg = W1.heap.size + 1) :
    (¬ ob = gg) ∧ (¬ gg = ob) ∧ (∀ i, w2.cell? ⟨B, i, none⟩ = cs[i]?) ∧ (∀ j, w2.frozen? ⟨ob, j, none⟩ = false) ∧ w2.cell? ⟨ob, gs.length * 10 + 8, none⟩ = some g.vr ∧ w2.cell? ⟨ob, gs.length * 10 + 9, none⟩ = some g.vp := by
  obtain ⟨hobn, hrn, hro, hndg⟩ := h1.apart
  have hob := h1.ob_lt
  have hog : ¬ ob = gg := by
    rcases hat with hat | hat
    · exact fun e => hobn (e ▸ hv gg hat)
    · omega
  have hbo : w2.heap[ob]? = W1.heap[ob]? := (hgrow.block ob (by show ob < (W1.alloc o).heap.size; simp; omega) (fun e => hobn (hv ob e.symm))).trans (Below.heap_alloc W1 o ob hob.2)
  have hbB : Blk w2 B ty cs := ((hgrow.block B (by have := hB.lt; show B < (W1.alloc o).heap.size; simp; omega) (fun e => hBn (hv B e.symm))).trans (Below.heap_alloc W1 o B hB.lt)).trans hB
  refine ⟨hog, fun e => hog e.symm, hbB.cell, fun j => ?_, ?_, ?_⟩
  · rw [World.frozen?_of_block (w := W1) (a := ⟨ob, j, none⟩) hbo]
    exact h1.own.frozenAt j
  · rw [World.cell?_of_block (w := W1) (a := ⟨ob, gs.length * 10 + 8, none⟩) hbo]
    exact h1.top 8 _ rfl
  · rw [World.cell?_of_block (w := W1) (a := ⟨ob, gs.length * 10 + 9, none⟩) hbo]
    exact h1.top 9 _ rfl

set_option maxHeartbeats 1600000 in
theorem add_any (w : World) (r base : Nat) (ex : List Nat) (A : Option Addr) (n c : Nat) (toks : List Tk) (at_ ob oc : Nat) (gs : List GG) (g : GG) (h : SAt w r base ex A n c toks at_ ob oc (gs ++ [g])) (t : Tr) (sl : Value)
    (hk : KidsAt w (Done ex r ob (gs ++ [g])) t.kids sl) (ht : t.text.length ≤ maxLen) (hfew : g.rows.length + (g.parts.length + 1) ≤ at_) :
    Calls Tryz.prog 115 #[.pointer (some ⟨r, 0, none⟩), treeV t sl] w fun e w' => e = .returned (.tuple #[]) ∧ Turned w r base ex A n c toks at_ ob oc gs g (addG t g.grp) w' := by
  obtain ⟨i0, hi0, hz0, hz1, hz2⟩ := info_parts Tryz.infoTree
  obtain ⟨kp, kc, rfl, _⟩ := hk.form
  generalize hkn : t.kids.length = kn at *
  have HKN := Lib.hid hkn
  clear hkn
  have hbox : Below w.heap.size w (w.alloc (.cells #[.int .u8 t.kind, .string (bs t.text), .int .u8 t.lo, .int .u8 t.hi, .int .i64 t.mn, .int .i64 t.mx, .slice kp kn kc] 25)) := (Below.refl _ _).alloc (Nat.le_refl _) _
  have HIN := Lib.hid (inner_any _ r base ex A n c toks at_ ob oc gs g (h.later hbox))
  have hmost := h.rd.most
  have hle := h.rd.le
  have hbase := h.hbase
  have H0 := Lib.hid h
  have HK0 := Lib.hid hk
  unfold treeV
  clear h hk
  go_enter Tryz.func115, Tryz.ntmps115
  go_wp2_with fail
  refine HIN.out.mono ?_
  rintro e w1 ⟨rfl, m1, rfl⟩
  clear HIN
  have hb1 := below_drewN hbox m1
  have hB1 : Blk ((w.alloc (.cells #[.int .u8 t.kind, .string (bs t.text), .int .u8 t.lo, .int .u8 t.hi, .int .i64 t.mn, .int .i64 t.mx, .slice kp kn kc] 25)).drewN m1) w.heap.size 25 #[.int .u8 t.kind, .string (bs t.text), .int .u8 t.lo, .int .u8 t.hi, .int .i64 t.mn, .int .i64 t.mx, .slice kp kn kc] := Blk.new w _ _
  generalize (w.alloc (.cells #[.int .u8 t.kind, .string (bs t.text), .int .u8 t.lo, .int .u8 t.hi, .int .i64 t.mn, .int .i64 t.mx, .slice kp kn kc] 25)).drewN m1 = W1 at *
  clear hbox
  have h1 := H0.out.later hb1
  have hgp := (h1.each g (by simp)).parts
  obtain ⟨vA, vc, hvp⟩ := row_form hgp
  have c9 := h1.top 9 g.vp rfl
  have HVP := Lib.hid hvp
  rw [hvp] at c9 hgp
  have hfob := h1.own.frozenAt
  have hsz := hb1.size
  have hBlt := hB1.lt
  have hap := h1.apart
  have hobl := h1.ob_lt
  have hgl := (h1.each g (by simp)).lt
  have hcB := hB1.cell
  have hno1 : w.heap.size ∉ gBlocks g := fun hb => by have := ((H0.out.each g (by simp)).lt _ hb).2; omega
  have HOB := Lib.hid hobl
  have HG := Lib.hid hgl
  have HAP := Lib.hid hap
  have HNO := Lib.hid hno1
  have hobl2 : ob < W1.heap.size := HOB.out.2
  have hfewp : g.parts.length + 1 ≤ 200000 := by omega
  have H1 := Lib.hid h1
  have HB1 := Lib.hid hB1
  have HGP := Lib.hid hgp
  have Hb1 := Lib.hid hb1
  have hl1 : (g.parts.length : Int) < (g.parts.length : Int) + 1 := by omega
  have hl0 : (0 : Int) ≤ (g.parts.length : Int) := by omega
  have HV : Hid (∀ b, (Value.slice vA g.parts.length vc).ownBlock = some b → b ∈ gBlocks g) := by
    intro b hb
    rw [← HVP.out] at hb
    exact mem_vp hb
  clear hap hobl hgl hno1 h1 hB1 hvp hb1
  go_wp2_with fail
  go_region_law (refine step_append_lies _ (by rfl) _ _ _ (by rfl) base 25 i0 _ 7 72 Tryz.underlying23 hi0 hz0 hz1 hz2 rfl (by omega) (.slice vA g.parts.length vc) g.parts.length (flatT g.parts) (by rfl) ((HGP.out.alloc _).drew) ⟨W1.heap.size, 0, none⟩ 1 1 zeroL (by rfl) (by rfl) (by exact news_at _ zeroL 25 W1.heap.size rfl) (by simp [zeroL, Value.oneCell']) (by omega) (by unfold maxLen; omega) (by omega) (by simp; omega) (W1.heap.size + 1) (by simp) ?_; intro gg cap w2 hown2 hgrow2 hat2 hlt2; obtain ⟨z0, z1, z2, z3, z4, z5, z6⟩ := zero_cells hown2; have hfg := hown2.frozenAt; obtain ⟨og, go, hcB2, hfo, c82, c92⟩ := grow_facts H1.out HB1.out HNO.out HV.out hgrow2 hat2; have HOWN := Lib.hid hown2; have HGROW := Lib.hid hgrow2; have HAT := Lib.hid hat2; rw [HVP.out] at c92; clear hown2 hgrow2 hat2)
  all_goals
    have hadd := H0.out.added (Hb1.out.trans ((Below.refl w.heap.size W1).alloc hsz (.cells zeroL.toArray 25)).drew) (gg := gg) (cap := cap) (w2 := w2) (by rw [HVP.out]; exact HGROW.out) HOWN.out (by rw [HVP.out]; exact HAT.out.imp id (fun e => by omega)) t (.slice kp kn kc) HK0.out ht hfew
    have hT : Turned w r base ex A n c toks at_ ob oc gs g (addG t g.grp) ((put7 w2 gg (g.parts.length * 7) t (.slice kp kn kc)).setCell ⟨ob, gs.length * 10 + 9, none⟩ (.slice (some ⟨gg, 0, none⟩) (g.parts.length + 1) cap)) := ⟨⟨_, hadd.1, by simp [GG.grp, addG, trees]⟩, hadd.2⟩
    have HT1 := Lib.hid hT
    rw [← put7_comm _ _ _ _ _ _ _ _ og] at hT
    have HT2 := Lib.hid hT
    unfold put7 at HT1 HT2
    clear hadd hT
    go_end0
    first
      | (with_reducible exact ⟨rfl, HT1.out⟩)
      | (with_reducible exact ⟨rfl, HT2.out⟩)
end Go.Proofs.YtodenbimeojgdaaGreatDoor

/-
  The contract of the parser's endRow. Conditions: the parser, its tokens and its groups lie in memory.
-/
namespace Go.Proofs.YtodenbimeojgdaaGreatDoor
open Go.RowKit

/-- a group's part-row put among its rows -/
def endGG (g : GG) (gg cap : Nat) : GG := { g with rows := g.rows ++ [(togetherP 5 (trees g.parts), togSl g.parts g.vp)], parts := [], vr := .slice (some ⟨gg, 0, none⟩) (g.rows.length + 1) cap, vp := .slice none 0 0 }
def endW (w2 : World) (ob k gg cap : Nat) (g : GG) : World :=
  ((put7 w2 gg (g.rows.length * 7) (togetherP 5 (trees g.parts)) (togSl g.parts g.vp)).setCell ⟨ob, k * 10 + 8, none⟩ (.slice (some ⟨gg, 0, none⟩) (g.rows.length + 1) cap)).setCell ⟨ob, k * 10 + 9, none⟩ (.slice none 0 0)

theorem SAt.ended {w w1 w2 : World} {r base : Nat} {ex : List Nat} {A : Option Addr} {n c : Nat} {toks : List Tk} {at_ ob oc gg cap : Nat} {gs : List GG} {g : GG} (h : SAt w r base ex A n c toks at_ ob oc (gs ++ [g])) (hb1 : Below w.heap.size w w1) (hgrow : w1.grownBy w2 g.vr.ownBlock)
    (hown2 : w2.ownsRow base 25 7 (.slice (some ⟨gg, 0, none⟩) (g.rows.length + 1) cap) (g.rows.length + 1) (flatT g.rows ++ zeroL)) (hat : g.vr.ownBlock = some gg ∨ w.heap.size ≤ gg) (hfew : g.rows.length + 1 ≤ at_) :
    SAt (endW w2 ob gs.length gg cap g) r base ex A n c toks at_ ob oc (gs ++ [endGG g gg cap]) ∧ Below base w (endW w2 ob gs.length gg cap g) ∧ (∀ b, b < w.heap.size → b ∉ r :: owned ob (gs ++ [g]) → (endW w2 ob gs.length gg cap g).heap[b]? = w.heap[b]?) := by
  have hg := h.each g (by simp)
  obtain ⟨hobn, hrn, hro, hndg⟩ := h.apart
  have hgb := (hown2.lt gg rfl).1
  have hob := h.ob_lt
  have hobg : ob ≠ gg := by
    rcases hat with hat | hat
    · exact fun e => hobn (e ▸ mem_vr hat)
    · omega
  have hbase2 := h.hbase
  have hblk : ∀ b, b < w.heap.size → b ≠ ob → b ≠ gg → some b ≠ g.vr.ownBlock → (endW w2 ob gs.length gg cap g).heap[b]? = w.heap[b]? := by
    intro b hl h1 h2 h3
    unfold endW
    rw [Below.heap_setCell _ _ _ _ h1, Below.heap_setCell _ _ _ _ h1, put7_block _ _ _ _ _ _ h2, hgrow.block b (Nat.lt_of_lt_of_le hl hb1.size) h3, hb1.block b hl]
  have hbel : Below base w (endW w2 ob gs.length gg cap g) := by
    unfold endW
    refine Below.setCell (Below.setCell (put7_below ?_ _ _ _ _ hgb) hob.1 _) hob.1 _
    exact (hb1.mono hbase2).grown hgrow (Nat.le_trans hbase2 hb1.size) (fun k hk => (hg.rows.lt k hk).1)
  have hsame : ∀ b, b < w.heap.size → b ≠ ob → b ∉ gBlocks g → (endW w2 ob gs.length gg cap g).heap[b]? = w.heap[b]? := by
    intro b hl h1 h2
    refine hblk b hl h1 ?_ (fun e => h2 (mem_vr e.symm))
    rcases hat with hat | hat
    · exact fun e => h2 (e ▸ mem_vr hat)
    · omega
  have hbl : ∀ b ∈ gBlocks (endGG g gg cap), b ∈ gBlocks g ∨ w.heap.size ≤ b := by
    intro b hb
    have : b = gg := by simpa [gBlocks, endGG, Value.ownBlock] using hb
    subst this
    rcases hat with hat | hat
    · exact .inl (mem_vr hat)
    · exact .inr hat
  have hvpgg : ∀ a, g.vp.ownBlock = some a → a ≠ gg := by
    intro a ha
    rcases hat with hat | hat
    · exact fun e => vr_ne_vp hndg gg a hat ha e.symm
    · have := (hg.parts.lt a ha).2; omega
  have hfree := h.free hsame hbl
  have hsz := hbel.size
  have hnd0 := h.nodup
  rw [owned_snoc, ← List.cons_append, List.nodup_append] at hnd0
  have hparts3 : (endW w2 ob gs.length gg cap g).ownsRow base 25 7 g.vp g.parts.length (flatT g.parts) :=
    ownsRow_same hg.parts (fun b hb => hblk b (hg.parts.lt b hb).2 (fun e => hobn (e ▸ mem_vp hb)) (hvpgg b hb) (fun e => vr_ne_vp hndg b b e.symm hb rfl))
  have hF : ∀ b, g.vp.ownBlock = some b → Done ex r ob (gs ++ [endGG g gg cap]) b := by
    intro b hb
    refine ⟨fun hin => h.exo b hin (by rw [owned_snoc]; exact List.mem_append.2 (.inr (mem_vp hb))), fun hin => ?_⟩
    rw [owned_snoc, ← List.cons_append] at hin
    rcases List.mem_append.1 hin with hin | hin
    · exact hnd0.2.2 b hin b (mem_vp hb) rfl
    · have : b = gg := by simpa [gBlocks, endGG, Value.ownBlock] using hin
      exact hvpgg b hb this
  have htog := together_kids 5 hparts3 (hg.kparts.later hsz hfree) hF
  refine ⟨h.turn hbel hsame ?_ ?_ hbl ?_ (by simpa [endGG] using hfew), hbel, fun b hl hF => hsame b hl (out_snoc hF).2.1 (out_snoc hF).2.2.2⟩
  · have h1 : (put7 w2 gg (g.rows.length * 7) (togetherP 5 (trees g.parts)) (togSl g.parts g.vp)).ownsRow base 154 10 (.slice (some ⟨ob, 0, none⟩) (gs ++ [g]).length oc) (gs ++ [g]).length (gsCells (gs ++ [g])) := by
      refine ownsRow_same h.own (fun b hb => ?_)
      have : ob = b := by simpa [Value.ownBlock] using hb
      subst this
      rw [put7_block _ _ _ _ _ _ hobg, hgrow.block ob (Nat.lt_of_lt_of_le hob.2 hb1.size) (fun e => hobn (mem_vr e.symm)), hb1.block ob hob.2]
    have h2 := (h1.stored (gs.length * 10 + 8) (.slice (some ⟨gg, 0, none⟩) (g.rows.length + 1) cap)).1
    rw [gsCells_set8] at h2
    have h3 := (h2.stored (gs.length * 10 + 9) (.slice none 0 0)).1
    rw [gsCells_set9] at h3
    have e : gsCells (gs ++ [endGG g gg cap]) = gsCells (gs ++ [{ ({ g with vr := .slice (some ⟨gg, 0, none⟩) (g.rows.length + 1) cap } : GG) with vp := .slice none 0 0 }]) := by
      rw [gsCells_snoc, gsCells_snoc]
      rfl
    rw [e]
    exact h3
  · refine ⟨?_, World.ownsRow_nil _ _ _ _, ?_, ?_, hg.tkids, hg.ttext⟩
    · have hp := put7_own hown2 (togetherP 5 (trees g.parts)) (togSl g.parts g.vp)
      have : (endGG g gg cap).rows.length = g.rows.length + 1 := by simp [endGG]
      rw [this]
      refine ownsRow_same hp (fun b hb => ?_)
      have : gg = b := by simpa [endGG, Value.ownBlock] using hb
      subst this
      unfold endW
      rw [Below.heap_setCell _ _ _ _ (fun e => hobg e.symm), Below.heap_setCell _ _ _ _ (fun e => hobg e.symm)]
    · intro p hp
      rcases List.mem_append.1 hp with hp | hp
      · exact hg.krows.later hsz hfree p hp
      · have : p = (togetherP 5 (trees g.parts), togSl g.parts g.vp) := by simpa using hp
        subst this
        exact htog
    · intro p hp
      cases hp
  · simp [gBlocks, endGG, Value.ownBlock]
theorem endGG_grp (g : GG) (gg cap : Nat) : (endGG g gg cap).grp = endRowP g.grp := by simp [GG.grp, endGG, endRowP, trees]

/-- what stays while a list of the innermost group grows, in whatever world -/
theorem grow_facts2 {W1 X w2 : World} {r base : Nat} {ex : List Nat} {A : Option Addr} {n c : Nat} {toks : List Tk} {at_ ob oc gg : Nat} {gs : List GG} {g : GG} {v : Value} (h1 : SAt W1 r base ex A n c toks at_ ob oc (gs ++ [g]))
    (hX : Below W1.heap.size W1 X) (hv : ∀ b, v.ownBlock = some b → b ∈ gBlocks g) (hgrow : X.grownBy w2 v.ownBlock) (hat : v.ownBlock = some gg ∨ W1.heap.size ≤ gg) :
    (¬ ob = gg) ∧ (¬ gg = ob) ∧ (∀ j, w2.frozen? ⟨ob, j, none⟩ = false) ∧ w2.cell? ⟨ob, gs.length * 10 + 8, none⟩ = some g.vr ∧ w2.cell? ⟨ob, gs.length * 10 + 9, none⟩ = some g.vp := by
  obtain ⟨hobn, hrn, hro, hndg⟩ := h1.apart
  have hob := h1.ob_lt
  have hog : ¬ ob = gg := by
    rcases hat with hat | hat
    · exact fun e => hobn (e ▸ hv gg hat)
    · omega
  have hbo : w2.heap[ob]? = W1.heap[ob]? := (hgrow.block ob (Nat.lt_of_lt_of_le hob.2 hX.size) (fun e => hobn (hv ob e.symm))).trans (hX.block ob hob.2)
  refine ⟨hog, fun e => hog e.symm, fun j => ?_, ?_, ?_⟩
  · rw [World.frozen?_of_block (w := W1) (a := ⟨ob, j, none⟩) hbo]
    exact h1.own.frozenAt j
  · rw [World.cell?_of_block (w := W1) (a := ⟨ob, gs.length * 10 + 8, none⟩) hbo]
    exact h1.top 8 _ rfl
  · rw [World.cell?_of_block (w := W1) (a := ⟨ob, gs.length * 10 + 9, none⟩) hbo]
    exact h1.top 9 _ rfl
end Go.Proofs.YtodenbimeojgdaaGreatDoor

/-
  The contract of the parser's endRow. Conditions: the parser, its tokens and its groups lie in memory.
-/
namespace Go.Proofs.YtodenbimeojgdaaGreatDoor
open Go.RowKit

set_option maxRecDepth 100000 in
set_option maxHeartbeats 1600000 in
theorem endRow_any (w : World) (r base : Nat) (ex : List Nat) (A : Option Addr) (n c : Nat) (toks : List Tk) (at_ ob oc : Nat) (gs : List GG) (g : GG) (h : SAt w r base ex A n c toks at_ ob oc (gs ++ [g])) (hfew : g.rows.length + 1 ≤ at_) :
    Calls Tryz.prog 116 #[.pointer (some ⟨ob, gs.length * 10, none⟩)] w fun e w' => e = .returned (.tuple #[]) ∧ Turned w r base ex A n c toks at_ ob oc gs g (endRowP g.grp) w' := by
  obtain ⟨i0, hi0, hz0, hz1, hz2⟩ := info_parts Tryz.infoTree
  have hg := h.each g (by simp)
  obtain ⟨rA, rc, hvr⟩ := row_form hg.rows
  obtain ⟨pA, pc, hvp⟩ := row_form hg.parts
  have hfewp := h.few g (by simp)
  have hmost := h.rd.most
  have hle := h.rd.le
  have hbase := h.hbase
  have hobl : ob < w.heap.size := h.ob_lt.2
  have c8 := h.top 8 g.vr rfl
  have c9 := h.top 9 g.vp rfl
  have hfob := h.own.frozenAt
  rw [hvr] at c8
  rw [hvp] at c9
  -- the two worlds in which together may be called
  have hbA : Below w.heap.size w w.drew := (Below.refl _ _).drew
  have hbB : Below w.heap.size w (w.alloc (.cells #[.int .u8 0, .string ⟨#[]⟩, .int .u8 0, .int .u8 0, .int .i64 0, .int .i64 0, .slice none 0 0] 25)).drew := ((Below.refl _ _).alloc (Nat.le_refl _) _).drew
  have hgA := (h.later hbA).each g (by simp)
  have hgB := (h.later hbB).each g (by simp)
  have htogA := together_any _ _ base g.vp g.parts 5 hgA.parts hgA.kparts (by omega)
  have htogB := together_any _ _ base g.vp g.parts 5 hgB.parts hgB.kparts (by omega)
  have hform : ∃ tp tn tc, togSl g.parts g.vp = .slice tp tn tc := by
    unfold togSl
    split
    · rename_i h1
      match hps : g.parts, h1 with
      | [p], _ =>
        have := hg.kparts p (by rw [hps]; simp)
        obtain ⟨tp, tc, ht, _⟩ := this.1.form
        exact ⟨tp, _, tc, ht⟩
    · exact ⟨pA, _, pc, hvp⟩
  obtain ⟨tp, tn, tc, htsl⟩ := hform
  have HEND := Lib.hid (fun (X w2 : World) (gg cap : Nat) hb1 hgrow hown2 hat => SAt.ended (w1 := X) (w2 := w2) (gg := gg) (cap := cap) h hb1 hgrow hown2 hat hfew)
  have HGF := Lib.hid (fun (X w2 : World) (gg : Nat) hX hgrow hat => grow_facts2 (X := X) (w2 := w2) (gg := gg) (v := g.vr) h hX (fun b hb => mem_vr hb) hgrow hat)
  have HGA := Lib.hid hgA.rows
  have HGB := Lib.hid hgB.rows
  have HBA := Lib.hid hbA
  have HBB := Lib.hid hbB
  have HNB : Hid (Blk (w.alloc (.cells #[.int .u8 0, .string ⟨#[]⟩, .int .u8 0, .int .u8 0, .int .i64 0, .int .i64 0, .slice none 0 0] 25)).drew w.heap.size 25 zeroL.toArray) := Blk.new w _ _
  unfold endW at HEND
  rw [htsl] at HEND htogA htogB
  rw [hvp] at htogA htogB HGF
  rw [hvr] at HGA HGB HGF HEND
  have HE := Lib.hid (fun gg cap => endGG_grp g gg cap)
  unfold treeV at htogA htogB
  have HTA := Lib.hid htogA
  have HTB := Lib.hid htogB
  clear hg hgA hgB htogA htogB hbA hbB h hvr hvp htsl
  generalize togetherP 5 (trees g.parts) = TG at *
  generalize endRowP g.grp = EG at *
  have hl1 : (g.rows.length : Int) < (g.rows.length : Int) + 1 := by omega
  have hl0 : (0 : Int) ≤ (g.rows.length : Int) := by omega
  have hrl : g.rows.length ≤ 200000 := by omega
  go_enter Tryz.func116, Tryz.ntmps116
  go_wp2_with fail
  go_region_law (first
    | (go_simp; go_at_call 138; (first | (with_reducible refine HTA.out.mono ?_) | (with_reducible refine HTB.out.mono ?_)); rintro e w1 ⟨rfl, hb1⟩; (first | (have HB1 := Lib.hid (HBA.out.trans hb1); have HOWN1 := Lib.hid (ownsRow_kept HGA.out hb1)) | (have HB1 := Lib.hid (HBB.out.trans (hb1.mono HBB.out.size)); have HOWN1 := Lib.hid (ownsRow_kept HGB.out hb1); have HNW := Lib.hid (HNB.out.below hb1 HNB.out.lt))); have hzw : w.heap.size ≤ w1.heap.size := HB1.out.size; have c81 := (HB1.out.cell (p := ⟨ob, gs.length * 10 + 8, none⟩) hobl).trans c8; have hob1 : ob < w1.heap.size := Nat.lt_of_lt_of_le hobl hzw; clear hb1)
    | (refine step_append_lies _ (by rfl) _ _ _ (by rfl) base 25 i0 _ 7 72 Tryz.underlying23 hi0 hz0 hz1 hz2 rfl (by omega) (.slice rA g.rows.length rc) g.rows.length (flatT g.rows) (by rfl) (HOWN1.out.alloc _) ⟨w1.heap.size, 0, none⟩ 1 1 zeroL (by rfl) (by rfl) (by exact World.news_of_block (heap_alloc_new w1 _)) (by simp [zeroL, Value.oneCell']) (by omega) (by unfold maxLen; omega) (by omega) (by simp; omega) (w1.heap.size + 1) (by simp) ?_; intro gg cap w2 hown2 hgrow2 hat2 hlt2; obtain ⟨z0, z1, z2, z3, z4, z5, z6⟩ := zero_cells hown2; have hfg := hown2.frozenAt; obtain ⟨og, go, hfo, c82, c92⟩ := HGF.out _ w2 gg (HB1.out.alloc HB1.out.size _) hgrow2 (hat2.imp id (fun e => by omega)); have HFIN := Lib.hid (HEND.out _ w2 gg cap (HB1.out.alloc HB1.out.size _) hgrow2 hown2 (hat2.imp id (fun e => by omega))); clear hown2 hgrow2 hat2)
    | (refine step_append_lies _ (by rfl) _ _ _ (by rfl) base 25 i0 _ 7 72 Tryz.underlying23 hi0 hz0 hz1 hz2 rfl (by omega) (.slice rA g.rows.length rc) g.rows.length (flatT g.rows) (by rfl) HOWN1.out ⟨w.heap.size, 0, none⟩ 1 1 zeroL (by rfl) (by rfl) (by exact World.news_of_block HNW.out) (by simp [zeroL, Value.oneCell']) (by omega) (by unfold maxLen; omega) (by omega) (by omega) w1.heap.size rfl ?_; intro gg cap w2 hown2 hgrow2 hat2 hlt2; obtain ⟨z0, z1, z2, z3, z4, z5, z6⟩ := zero_cells hown2; have hfg := hown2.frozenAt; obtain ⟨og, go, hfo, c82, c92⟩ := HGF.out _ w2 gg HB1.out hgrow2 (hat2.imp id (fun e => by omega)); have HFIN := Lib.hid (HEND.out _ w2 gg cap HB1.out hgrow2 hown2 (hat2.imp id (fun e => by omega))); clear hown2 hgrow2 hat2))
  all_goals
    have hT : Turned w r base ex A n c toks at_ ob oc gs g EG _ := ⟨⟨endGG g gg cap, HFIN.out.1, HE.out gg cap⟩, HFIN.out.2⟩
    have HT1 := Lib.hid hT
    rw [← put7_comm _ _ _ _ _ _ _ _ og] at hT
    have HT2 := Lib.hid hT
    unfold put7 at HT1 HT2
    clear hT HFIN HEND HGF
    go_wp2
    go_end0
    first
      | (with_reducible exact ⟨rfl, HT1.out⟩)
      | (with_reducible exact ⟨rfl, HT2.out⟩)
end Go.Proofs.YtodenbimeojgdaaGreatDoor

/-
  The contract of the parser's enter. Conditions: the parser, its tokens and its groups lie in memory.
-/
namespace Go.Proofs.YtodenbimeojgdaaGreatDoor
open Go.RowKit

/-- below a number, nothing has turned but one block -/
structure Kept (base r : Nat) (w w' : World) : Prop where
  os : w'.os = w.os
  tape : w'.tape = w.tape
  output : w'.output = w.output
  size : w.heap.size ≤ w'.heap.size
  block : ∀ k, k < base → k ≠ r → w'.heap[k]? = w.heap[k]?
theorem Kept.refl (base r : Nat) (w : World) : Kept base r w w := ⟨rfl, rfl, rfl, Nat.le_refl _, fun _ _ _ => rfl⟩
theorem Kept.trans {base r : Nat} {a b c : World} (h : Kept base r a b) (k : Kept base r b c) : Kept base r a c :=
  ⟨k.os.trans h.os, k.tape.trans h.tape, k.output.trans h.output, Nat.le_trans h.size k.size, fun i hi hr => (k.block i hi hr).trans (h.block i hi hr)⟩
theorem Kept.of_below {base r : Nat} {w w' : World} (h : Below base w w') : Kept base r w w' := ⟨h.os, h.tape, h.output, h.size, fun k hk _ => h.block k hk⟩
theorem Kept.of_only {base r : Nat} {w w' : World} (h : Only r w w') (hb : base ≤ w.heap.size) : Kept base r w w' := ⟨h.os, h.tape, h.output, h.size, fun k hk hr => h.block k (by omega) (fun e => hr (Option.some.inj e))⟩
theorem Kept.set {base r : Nat} {a w : World} (h : Kept base r a w) (i : Nat) (u : Value) : Kept base r a (w.setCell ⟨r, i, none⟩ u) :=
  ⟨h.os, h.tape, h.output, by simp [World.setCell]; exact h.size, fun k hk hr => (Below.heap_setCell _ _ _ _ hr).trans (h.block k hk hr)⟩

theorem Tryz.infoGroup : (Tryz.prog.info? 154).map (fun i => (i.zero, i.size, i.bytes)) = some (some (.agg #[.int .u8 0, .int .u8 0, .string ⟨#[]⟩, .int .u8 0, .int .u8 0, .int .i64 0, .int .i64 0, .slice none 0 0, .slice none 0 0, .slice none 0 0]), 10, 128) := by kernel_rfl

def newGG (shut : Int) (tm : Tr) : GG := { shut := shut, times := tm, rows := [], parts := [], vr := .slice none 0 0, vp := .slice none 0 0 }

theorem SAt.pushed {w w1 w2 : World} {r base : Nat} {ex : List Nat} {A : Option Addr} {n c : Nat} {toks : List Tk} {at_ ob oc gg cap : Nat} {gs : List GG} (h : SAt w r base ex A n c toks at_ ob oc gs) (hb1 : Below w.heap.size w w1) (hgrow : w1.grownBy w2 (some ob)) (shut : Int) (tm : Tr)
    (hown2 : w2.ownsRow base 154 10 (.slice (some ⟨gg, 0, none⟩) (gs.length + 1) cap) (gs.length + 1) (gsCells gs ++ gCells (newGG shut tm))) (hat : ob = gg ∨ w.heap.size ≤ gg) (htk : tm.kids = []) (htt : tm.text.length ≤ maxLen) (hfew : gs.length ≤ at_) :
    SAt (w2.setCell ⟨r, 2, none⟩ (.slice (some ⟨gg, 0, none⟩) (gs.length + 1) cap)) r base ex A n c toks at_ gg cap (gs ++ [newGG shut tm]) ∧ Kept base r w (w2.setCell ⟨r, 2, none⟩ (.slice (some ⟨gg, 0, none⟩) (gs.length + 1) cap)) ∧ (∀ b, b < w.heap.size → b ∉ r :: owned ob gs → (w2.setCell ⟨r, 2, none⟩ (.slice (some ⟨gg, 0, none⟩) (gs.length + 1) cap)).heap[b]? = w.heap[b]?) := by
  have hob := h.ob_lt
  have hgb := (hown2.lt gg rfl).1
  have hr := h.hr
  have hbase := h.hbase
  have hnd := List.nodup_cons.1 h.nodup
  have hnd2 := List.nodup_cons.1 hnd.2
  have hrl : r < w.heap.size := h.rd.blk.lt
  have hlen : (gs ++ [newGG shut tm]).length = gs.length + 1 := by simp
  have hgsame : ∀ b, b < w.heap.size → b ≠ ob → w2.heap[b]? = w.heap[b]? := fun b hl hne => (hgrow.block b (Nat.lt_of_lt_of_le hl hb1.size) (fun e => hne (Option.some.inj e))).trans (hb1.block b hl)
  have hsame : ∀ b, b < w.heap.size → b ≠ ob → b ≠ r → (w2.setCell ⟨r, 2, none⟩ (.slice (some ⟨gg, 0, none⟩) (gs.length + 1) cap)).heap[b]? = w.heap[b]? := fun b hl h1 h2 => by
    rw [Below.heap_setCell _ _ _ _ h2]
    exact hgsame b hl h1
  have hsz : w.heap.size ≤ (w2.setCell ⟨r, 2, none⟩ (.slice (some ⟨gg, 0, none⟩) (gs.length + 1) cap)).heap.size := by
    have := hb1.size; have := hgrow.size; simp [World.setCell]; omega
  have hown3 : owned gg (gs ++ [newGG shut tm]) = gg :: gs.flatMap gBlocks := by simp [owned, newGG, gBlocks, Value.ownBlock]
  have hgn : gg ∉ gs.flatMap gBlocks := by
    intro hin
    rcases hat with rfl | hat
    · exact hnd2.1 hin
    · have := (h.owned_lt gg (List.mem_cons.2 (.inr hin))).2
      omega
  have hfree : ∀ b, b < w.heap.size → Done ex r ob gs b → Done ex r gg (gs ++ [newGG shut tm]) b ∧ (w2.setCell ⟨r, 2, none⟩ (.slice (some ⟨gg, 0, none⟩) (gs.length + 1) cap)).heap[b]? = w.heap[b]? := by
    intro b hl hF
    unfold Done at hF ⊢
    rw [hown3]
    simp only [owned, List.mem_cons, not_or] at hF ⊢
    refine ⟨⟨hF.1, hF.2.1, ?_, hF.2.2.2⟩, hsame b hl hF.2.2.1 hF.2.1⟩
    rcases hat with rfl | hat
    · exact hF.2.2.1
    · omega
  have hrg : r ≠ gg := by omega
  have hkept : Kept base r w (w2.setCell ⟨r, 2, none⟩ (.slice (some ⟨gg, 0, none⟩) (gs.length + 1) cap)) := by
    refine Kept.set ⟨hgrow.os.trans hb1.os, hgrow.tape.trans hb1.tape, hgrow.output.trans hb1.output, Nat.le_trans hb1.size hgrow.size, fun k hk _ => hgsame k (by omega) (by omega)⟩ 2 _
  refine ⟨⟨?_, ?_, ?_, ?_, hr, Nat.le_trans hbase hsz, ?_, h.glv, ?_, by rw [hlen]; omega, fun b hb2 => Nat.lt_of_lt_of_le (h.exlt b hb2) hsz, ?_⟩, hkept, fun b hl hF => hsame b hl (fun e => hF (by rw [e]; simp [owned])) (fun e => hF (by rw [e]; simp))⟩
  · have hblk2 : Blk w2 r 70 #[.slice A n c, .int .i64 at_, .slice (some ⟨ob, 0, none⟩) gs.length oc] := (hgsame r hrl (by omega)).trans h.rd.blk
    refine ⟨by rw [hlen]; exact hblk2.set_ 2 _, ?_, h.rd.len, h.rd.far, h.rd.le, h.rd.most⟩
    obtain ⟨A', c', hv, hA⟩ := h.rd.row
    injection hv with h1 h2 h3
    subst h1
    refine ⟨A, c, by rw [h2], fun hp => ?_⟩
    obtain ⟨g, off, rfl, hg, hc⟩ := hA hp
    have hgr := h.rd.far _ rfl
    simp only at hgr
    exact ⟨g, off, rfl, by omega, fun j u hu => (World.cell?_of_block (a := ⟨g, off + j, none⟩) (hsame g hg (by omega) (by omega))).trans (hc j u hu)⟩
  · rw [hlen, gsCells_snoc]
    refine ownsRow_same hown2 (fun b hb => ?_)
    have : gg = b := by simpa [Value.ownBlock] using hb
    subst this
    exact Below.heap_setCell _ _ _ _ (fun e => hrg e.symm)
  · intro g hg
    rcases List.mem_append.1 hg with hg | hg
    · refine (h.each g hg).same hsz (fun b hb => ?_) hfree
      have hbo : b ∈ owned ob gs := List.mem_cons.2 (.inr (List.mem_flatMap.2 ⟨g, hg, hb⟩))
      exact hsame b (h.owned_lt b hbo).2 (fun e => hnd2.1 (e ▸ List.mem_flatMap.2 ⟨g, hg, hb⟩)) (fun e => hnd.1 (e ▸ hbo))
    · have : g = newGG shut tm := by simpa using hg
      subst this
      exact ⟨World.ownsRow_nil _ _ _ _, World.ownsRow_nil _ _ _ _, fun p hp => (by cases hp), fun p hp => (by cases hp), htk, htt⟩
  · rw [hown3]
    refine List.nodup_cons.2 ⟨?_, List.nodup_cons.2 ⟨hgn, hnd2.2⟩⟩
    intro hin
    rcases List.mem_cons.1 hin with hin | hin
    · exact hrg hin
    · exact hnd.1 (List.mem_cons.2 (.inr hin))
  · intro i k hk
    exact (World.cell?_of_block (a := ⟨3, i, none⟩) (hsame _ h.lv.lt (by have := h.glv; simp only; omega) (by have := h.glv; simp only; omega))).trans (h.lv i k hk)
  · intro g hg
    rcases List.mem_append.1 hg with hg | hg
    · exact h.few g hg
    · have : g = newGG shut tm := by simpa using hg
      subst this
      exact Nat.zero_le _
  · intro b hb2 hin
    rw [hown3] at hin
    have h3 := h.exo b hb2
    rcases List.mem_cons.1 hin with e | hin
    · subst e
      rcases hat with rfl | hat
      · exact h3 (List.mem_cons.2 (.inl rfl))
      · have := h.exlt b hb2
        omega
    · exact h3 (List.mem_cons.2 (.inr hin))
end Go.Proofs.YtodenbimeojgdaaGreatDoor

/-
  The contract of the parser's enter. Conditions: the parser, its tokens and its groups lie in memory; a token stands next.
-/
namespace Go.Proofs.YtodenbimeojgdaaGreatDoor
open Go.RowKit

/-- behind enter -/
def Entered (w : World) (r base : Nat) (ex : List Nat) (A : Option Addr) (n c : Nat) (toks : List Tk) (at_ ob0 : Nat) (gs : List GG) (x : Grp) (w' : World) : Prop :=
  (∃ ob oc g', SAt w' r base ex A n c toks (at_ + 1) ob oc (gs ++ [g']) ∧ g'.grp = x) ∧ Kept base r w w' ∧ (∀ b, b < w.heap.size → b ∉ r :: owned ob0 gs → w'.heap[b]? = w.heap[b]?)

set_option maxRecDepth 100000 in
set_option maxHeartbeats 1600000 in
theorem enter_walk (q : Bool) (w : World) (r base : Nat) (ex : List Nat) (A : Option Addr) (n c : Nat) (toks : List Tk) (at_ ob oc : Nat) (gs : List GG) (h : SAt w r base ex A n c toks at_ ob oc gs) (tm : Tr) (htk : tm.kids = []) (htt : tm.text.length ≤ maxLen) (hlt : at_ < n) (hq : standsP toks at_ [7] = q) (hgl : gs.length ≤ at_ + 1) :
    Calls Tryz.prog 135 #[.pointer (some ⟨r, 0, none⟩), treeV tm noKids] w fun e w' => e = .returned (.tuple #[]) ∧ Entered w r base ex A n c toks at_ ob gs (newGG (if q = true then 8 else 6) tm).grp w' := by
  obtain ⟨i0, hi0, hz0, hz1, hz2⟩ := info_parts Tryz.infoGroup
  have hb0 : Below w.heap.size w ((w.alloc (.cells #[.int .u8 tm.kind, .string (bs tm.text), .int .u8 tm.lo, .int .u8 tm.hi, .int .i64 tm.mn, .int .i64 tm.mx, .slice none 0 0] 25)).alloc (.cells #[.int .u8 7] 5)) := ((Below.refl _ _).alloc (Nat.le_refl _) _).alloc (by simp) _
  have hbox0 : Blk ((w.alloc (.cells #[.int .u8 tm.kind, .string (bs tm.text), .int .u8 tm.lo, .int .u8 tm.hi, .int .i64 tm.mn, .int .i64 tm.mx, .slice none 0 0] 25)).alloc (.cells #[.int .u8 7] 5)) w.heap.size 25 #[.int .u8 tm.kind, .string (bs tm.text), .int .u8 tm.lo, .int .u8 tm.hi, .int .i64 tm.mn, .int .i64 tm.mx, .slice none 0 0] := (Blk.new w _ _).alloc _
  have hkd := kinds_new (w.alloc (.cells #[.int .u8 tm.kind, .string (bs tm.text), .int .u8 tm.lo, .int .u8 tm.hi, .int .i64 tm.mn, .int .i64 tm.mx, .slice none 0 0] 25)) [7] #[.int .u8 7] rfl 5
  rw [show (w.alloc (.cells #[.int .u8 tm.kind, .string (bs tm.text), .int .u8 tm.lo, .int .u8 tm.hi, .int .i64 tm.mn, .int .i64 tm.mx, .slice none 0 0] 25)).heap.size = w.heap.size + 1 from by simp] at hkd
  have HST := Lib.hid (stands_at _ r A n c toks at_ _ (h.rd.later hb0) (w.heap.size + 1) 1 1 [7] hkd rfl (by omega) q hq)
  have H0 := Lib.hid h
  have hmost := h.rd.most
  clear hkd h hq
  unfold treeV noKids
  cases q
  all_goals
    go_enter Tryz.func135, Tryz.ntmps135
    go_wp2_with fail
    refine HST.out.mono ?_
    rintro e w1 ⟨rfl, m1, rfl⟩
    have hb1 := below_drewN hb0 m1
    have hB1 : Blk (((w.alloc (.cells #[.int .u8 tm.kind, .string (bs tm.text), .int .u8 tm.lo, .int .u8 tm.hi, .int .i64 tm.mn, .int .i64 tm.mx, .slice none 0 0] 25)).alloc (.cells #[.int .u8 7] 5)).drewN m1) w.heap.size 25 #[.int .u8 tm.kind, .string (bs tm.text), .int .u8 tm.lo, .int .u8 tm.hi, .int .i64 tm.mn, .int .i64 tm.mx, .slice none 0 0] := hbox0
    generalize ((w.alloc (.cells #[.int .u8 tm.kind, .string (bs tm.text), .int .u8 tm.lo, .int .u8 tm.hi, .int .i64 tm.mn, .int .i64 tm.mx, .slice none 0 0] 25)).alloc (.cells #[.int .u8 7] 5)).drewN m1 = W1 at *
    clear HST hb0 hbox0
    have h1 := H0.out.later hb1
    have hcr := h1.rd.blk.cell
    have hfr := h1.rd.blk.frozen
    have hrl := H0.out.rd.blk.lt
    -- the place has moved on
    have h2 : SAt (W1.setCell ⟨r, 1, none⟩ (.int .i64 ((at_ : Int) + 1))) r base ex A n c toks (at_ + 1) ob oc gs := by
      have ho : Only r W1 (W1.setCell ⟨r, 1, none⟩ (.int .i64 ((at_ : Int) + 1))) := (Only.refl r W1).set 1 _
      refine h1.only ho (h1.rd.to ho ?_ (by omega)) (by omega)
      exact h1.rd.blk.set_ 1 (.int .i64 ((at_ : Int) + 1))
    have hk2 : Kept base r w (W1.setCell ⟨r, 1, none⟩ (.int .i64 ((at_ : Int) + 1))) := (Kept.of_below (hb1.mono H0.out.hbase)).set 1 _
    have hB2 : Blk (W1.setCell ⟨r, 1, none⟩ (.int .i64 ((at_ : Int) + 1))) w.heap.size 25 #[.int .u8 tm.kind, .string (bs tm.text), .int .u8 tm.lo, .int .u8 tm.hi, .int .i64 tm.mn, .int .i64 tm.mx, .slice none 0 0] := hB1.other (by simp only; omega) _
    have HS2 : Hid (∀ b, b < w.heap.size → b ∉ r :: owned ob gs → b < (W1.setCell ⟨r, 1, none⟩ (.int .i64 ((at_ : Int) + 1))).heap.size ∧ (W1.setCell ⟨r, 1, none⟩ (.int .i64 ((at_ : Int) + 1))).heap[b]? = w.heap[b]?) := by
      intro b hl hF
      refine ⟨by have := hb1.size; simp [World.setCell]; omega, ?_⟩
      rw [Below.heap_setCell _ _ _ _ (fun e => hF (by rw [e]; simp))]
      exact hb1.block b hl
    go_upto_region 5 with fail
    clear hcr hfr h1 hB1 hb1
    generalize W1.setCell ⟨r, 1, none⟩ (.int .i64 ((at_ : Int) + 1)) = W2 at *
    have c2 : W2.cell? ⟨r, 2, none⟩ = some (.slice (some ⟨ob, 0, none⟩) gs.length oc) := h2.rd.blk.cell 2
    have hfr2 := h2.rd.blk.frozen
    have hcB := hB2.cell
    have hBlt := hB2.lt
    have hrl2 := h2.rd.blk.lt
    have hgl2 : gs.length + 1 ≤ 200002 := by omega
    have hbase2 := h2.hbase
    have H2 := Lib.hid h2
    have HK2 := Lib.hid hk2
    have HB2 := Lib.hid hB2
    have HOWN := Lib.hid h2.own
    clear h2 hk2 hB2
    have hrob : r ≠ ob := by have := H2.out.hr; have := H2.out.ob_lt; omega
    go_region_law (first
      | (refine step_append_lies _ (by rfl) _ _ _ (by rfl) base 154 i0 _ 10 128 Tryz.underlying68 hi0 hz0 hz1 hz2 rfl (by omega) (.slice (some ⟨ob, 0, none⟩) gs.length oc) gs.length (gsCells gs) (by rfl) ((HOWN.out.alloc _).drew) ⟨W2.heap.size, 0, none⟩ 1 1 (gCells (newGG 6 tm)) (by rfl) (by rfl) (by exact news_at _ (gCells (newGG 6 tm)) 154 W2.heap.size rfl) (by simp [gCells, newGG, Value.oneCell']) (by omega) (by unfold maxLen; omega) (by omega) (by simp; omega) (W2.heap.size + 1) (by simp) ?_; intro gg cap w3 hown3 hgrow3 hat3 hlt3; have c23 := (hgrow3.cell_far ⟨r, 2, none⟩ (by simp; omega) (fun e => hrob (Option.some.inj e))); have f23 := (hgrow3.frozen_far ⟨r, 2, none⟩ (by simp; omega) (fun e => hrob (Option.some.inj e))); have HP := Lib.hid (H2.out.pushed ((Below.refl _ _).alloc (Nat.le_refl _) _).drew hgrow3 6 tm hown3 (hat3.imp (fun e => Option.some.inj e) (fun e => by omega)) htk htt (by omega)); clear hown3 hgrow3 hat3)
      | (refine step_append_lies _ (by rfl) _ _ _ (by rfl) base 154 i0 _ 10 128 Tryz.underlying68 hi0 hz0 hz1 hz2 rfl (by omega) (.slice (some ⟨ob, 0, none⟩) gs.length oc) gs.length (gsCells gs) (by rfl) ((HOWN.out.alloc _).drew) ⟨W2.heap.size, 0, none⟩ 1 1 (gCells (newGG 8 tm)) (by rfl) (by rfl) (by exact news_at _ (gCells (newGG 8 tm)) 154 W2.heap.size rfl) (by simp [gCells, newGG, Value.oneCell']) (by omega) (by unfold maxLen; omega) (by omega) (by simp; omega) (W2.heap.size + 1) (by simp) ?_; intro gg cap w3 hown3 hgrow3 hat3 hlt3; have c23 := (hgrow3.cell_far ⟨r, 2, none⟩ (by simp; omega) (fun e => hrob (Option.some.inj e))); have f23 := (hgrow3.frozen_far ⟨r, 2, none⟩ (by simp; omega) (fun e => hrob (Option.some.inj e))); have HP := Lib.hid (H2.out.pushed ((Below.refl _ _).alloc (Nat.le_refl _) _).drew hgrow3 8 tm hown3 (hat3.imp (fun e => Option.some.inj e) (fun e => by omega)) htk htt (by omega)); clear hown3 hgrow3 hat3))
    all_goals
      have HE : Hid (Entered w r base ex A n c toks at_ ob gs _ _) := ⟨⟨_, _, _, HP.out.1, rfl⟩, HK2.out.trans HP.out.2.1, fun b hl hF => (HP.out.2.2 b (HS2.out b hl hF).1 hF).trans (HS2.out b hl hF).2⟩
      clear HP
      go_end0
      exact ⟨rfl, HE.out⟩
end Go.Proofs.YtodenbimeojgdaaGreatDoor

/-
  The contracts of the parser's whole and leave. Conditions: the parser, its tokens and its groups lie in memory.
-/
namespace Go.Proofs.YtodenbimeojgdaaGreatDoor
open Go.RowKit

/-- behind whole -/
def WholeOut (w : World) (r base : Nat) (ex : List Nat) (A : Option Addr) (n c : Nat) (toks : List Tk) (at_ ob oc : Nat) (gs : List GG) (g : GG) (x : Tr) (e : Ending) (w' : World) : Prop :=
  ∃ sl g', e = .returned (treeV x sl) ∧ SAt w' r base ex A n c toks at_ ob oc (gs ++ [g']) ∧ KidsAt w' (Done ex r ob gs) x.kids sl ∧ x.text.length ≤ maxLen ∧ Below base w w' ∧ (∀ b, b < w.heap.size → b ∉ r :: owned ob (gs ++ [g]) → w'.heap[b]? = w.heap[b]?)

theorem done_less {ex : List Nat} {r ob : Nat} {gs : List GG} {g : GG} {b : Nat} (h : Done ex r ob (gs ++ [g]) b) : Done ex r ob gs b := by
  refine ⟨h.1, fun hin => h.2 ?_⟩
  rw [owned_snoc, ← List.cons_append]
  exact List.mem_append.2 (.inl hin)
theorem SAt.done_top {w : World} {r base : Nat} {ex : List Nat} {A : Option Addr} {n c : Nat} {toks : List Tk} {at_ ob oc : Nat} {gs : List GG} {g : GG} (h : SAt w r base ex A n c toks at_ ob oc (gs ++ [g])) {b : Nat} (hb : b ∈ gBlocks g) : Done ex r ob gs b := by
  have hnd0 := h.nodup
  rw [owned_snoc, ← List.cons_append, List.nodup_append] at hnd0
  refine ⟨fun hin => h.exo b hin (by rw [owned_snoc]; exact List.mem_append.2 (.inr hb)), fun hin => hnd0.2.2 b hin b hb rfl⟩
theorem SAt.done_new {w : World} {r base : Nat} {ex : List Nat} {A : Option Addr} {n c : Nat} {toks : List Tk} {at_ ob oc : Nat} {gs : List GG} (h : SAt w r base ex A n c toks at_ ob oc gs) {b : Nat} (hb : w.heap.size ≤ b) : Done ex r ob gs b := by
  refine ⟨fun hin => by have := h.exlt b hin; omega, fun hin => ?_⟩
  rcases List.mem_cons.1 hin with e | hin
  · have := h.hr; have := h.hbase; omega
  · have := (h.owned_lt b hin).2; omega
theorem SAt.less_new {w : World} {r base : Nat} {ex : List Nat} {A : Option Addr} {n c : Nat} {toks : List Tk} {at_ ob oc : Nat} {gs : List GG} {g : GG} (h : SAt w r base ex A n c toks at_ ob oc (gs ++ [g])) {b : Nat} (hb : w.heap.size ≤ b) : Done ex r ob gs b := done_less (h.done_new hb)

theorem KidsAt.drew_ {w : World} {F : Nat → Prop} {ks : List Tr} {sl : Value} (h : KidsAt w F ks sl) : KidsAt w.drew F ks sl := h.same (Below.refl _ _).drew

set_option maxRecDepth 100000 in
set_option maxHeartbeats 1600000 in
theorem whole_any (w : World) (r base : Nat) (ex : List Nat) (A : Option Addr) (n c : Nat) (toks : List Tk) (at_ ob oc : Nat) (gs : List GG) (g : GG) (h : SAt w r base ex A n c toks at_ ob oc (gs ++ [g])) (hfew : g.rows.length + 1 ≤ at_) :
    Calls Tryz.prog 137 #[.pointer (some ⟨ob, gs.length * 10, none⟩)] w fun e w' => WholeOut w r base ex A n c toks at_ ob oc gs g (wholeP g.grp) e w' := by
  have h0 := h.exclude (.cells #[.int .u8 0, .string ⟨#[]⟩, .int .u8 0, .int .u8 0, .int .i64 0, .int .i64 0, .slice none 0 0] 25)
  have hB0 : Blk (w.alloc (.cells #[.int .u8 0, .string ⟨#[]⟩, .int .u8 0, .int .u8 0, .int .i64 0, .int .i64 0, .slice none 0 0] 25)) w.heap.size 25 #[.int .u8 0, .string ⟨#[]⟩, .int .u8 0, .int .u8 0, .int .i64 0, .int .i64 0, .slice none 0 0] := Blk.new w _ _
  have hbW : Below w.heap.size w (w.alloc (.cells #[.int .u8 0, .string ⟨#[]⟩, .int .u8 0, .int .u8 0, .int .i64 0, .int .i64 0, .slice none 0 0] 25)) := (Below.refl _ _).alloc (Nat.le_refl _) _
  have HER := Lib.hid (endRow_any _ r base (w.heap.size :: ex) A n c toks at_ ob oc gs g h0 hfew)
  have hR0 : w.heap.size ∉ r :: owned ob (gs ++ [g]) := (h0.exo w.heap.size (by simp)) |> fun hx hin => by
    rcases List.mem_cons.1 hin with e | hin
    · have := h.hr; have := h.hbase; omega
    · exact hx hin
  have hbase := h.hbase
  have hmost := h.rd.most
  have hle := h.rd.le
  have H := Lib.hid h
  clear h h0
  have HWP : Hid (wholeP g.grp = repeatP g.grp.times (mayP g.grp (togetherP 6 (endRowP g.grp).rows))) := show _ = _ from rfl
  generalize wholeP g.grp = WP at *
  go_enter Tryz.func137, Tryz.ntmps137
  go_wp2_with fail
  refine HER.out.mono ?_
  rintro e w1 ⟨rfl, ⟨g1, h1, hg1⟩, hb1, hs1⟩
  clear HER
  have hB1 : Blk w1 w.heap.size 25 #[.int .u8 0, .string ⟨#[]⟩, .int .u8 0, .int .u8 0, .int .i64 0, .int .i64 0, .slice none 0 0] := (hs1 w.heap.size hB0.lt hR0).trans hB0
  have hbw1 : Below base w w1 := (hbW.mono hbase).trans hb1
  have hs1w : ∀ b, b < w.heap.size → b ∉ r :: owned ob (gs ++ [g]) → w1.heap[b]? = w.heap[b]? := fun b hl hF => (hs1 b (Nat.lt_of_lt_of_le hl hbW.size) hF).trans (hbW.block b hl)
  have hgt := h1.each g1 (by simp)
  have hfew1 := h1.few g1 (by simp)
  have htog := together_any w1 (Done (w.heap.size :: ex) r ob gs) base g1.vr g1.rows 6 hgt.rows (hgt.krows.later (Nat.le_refl _) (fun b _ hF => ⟨done_less hF, rfl⟩)) (by omega)
  have htk := together_kids (F := Done (w.heap.size :: ex) r ob gs) 6 hgt.rows (hgt.krows.later (Nat.le_refl _) (fun b _ hF => ⟨done_less hF, rfl⟩)) (fun b hb => h1.done_top (mem_vr hb))
  obtain ⟨rA, rc, hvr⟩ := row_form hgt.rows
  have c8 := h1.top 8 g1.vr rfl
  rw [hvr] at c8
  rw [hvr] at htog htk
  have hrows : trees g1.rows = (endRowP g.grp).rows := by rw [← hg1]; rfl
  have hshut : g1.shut = g.grp.shut := by rw [show g1.shut = g1.grp.shut from rfl, hg1]; rfl
  have htimes : g1.times = g.grp.times := by rw [show g1.times = g1.grp.times from rfl, hg1]; rfl
  rw [hrows] at htog htk
  have HMP : Hid (mayP g.grp (togetherP 6 (endRowP g.grp).rows) = if g.grp.shut = 8 then repeatP (timesT 0 1) (togetherP 6 (endRowP g.grp).rows) else togetherP 6 (endRowP g.grp).rows) := show _ = _ from rfl
  have c0 := h1.top 0 (.int .u8 g1.shut) rfl
  rw [hshut, Nat.add_zero] at c0
  have htt := hgt.ttext
  have htkk := hgt.tkids
  have ct1 := h1.top 1 (.int .u8 g1.times.kind) rfl
  have ct2 := h1.top 2 (.string (bs g1.times.text)) rfl
  have ct3 := h1.top 3 (.int .u8 g1.times.lo) rfl
  have ct4 := h1.top 4 (.int .u8 g1.times.hi) rfl
  have ct5 := h1.top 5 (.int .i64 g1.times.mn) rfl
  have ct6 := h1.top 6 (.int .i64 g1.times.mx) rfl
  have ct7 := h1.top 7 (.slice none 0 0) rfl
  rw [htimes] at htt ct1 ct2 ct3 ct4 ct5 ct6
  generalize togSl g1.rows (.slice rA g1.rows.length rc) = TS at *
  generalize togetherP 6 (endRowP g.grp).rows = TG at *
  obtain ⟨tp, tc, hTS, _⟩ := htk.1.form
  generalize htn : TG.kids.length = tn at *
  rw [hTS] at htog htk
  have HTOG := Lib.hid htog
  have HTK := Lib.hid htk
  have H1 := Lib.hid h1
  have HB1 := Lib.hid hB1
  have HBW1 := Lib.hid hbw1
  have HS1W := Lib.hid hs1w
  have hobl := h1.ob_lt.2
  have hBlt := hB1.lt
  have hne0 : ¬ ob = w.heap.size := by have := H.out.ob_lt.2; omega
  have hne1 : ¬ w.heap.size = ob := by omega
  clear htog htk h1 hB1 hbw1 hs1w hgt hg1 hb1 hs1 hvr hrows hshut htimes hTS htn hB0 hbW htkk hR0
  generalize g.grp.shut = sh at *
  generalize g.grp.times = tm at *
  generalize mayP g.grp TG = MP at *
  unfold treeV at HTOG
  go_wp2_with fail
  refine HTOG.out.mono ?_
  rintro e w2 ⟨rfl, hb2⟩
  clear HTOG
  -- the tree in a block of its own
  have hb3 : Below w1.heap.size w1 (w2.alloc (.cells #[.int .u8 TG.kind, .string (bs TG.text), .int .u8 TG.lo, .int .u8 TG.hi, .int .i64 TG.mn, .int .i64 TG.mx, .slice tp tn tc] 25)) := hb2.alloc hb2.size _
  have hB3 : Blk (w2.alloc (.cells #[.int .u8 TG.kind, .string (bs TG.text), .int .u8 TG.lo, .int .u8 TG.hi, .int .i64 TG.mn, .int .i64 TG.mx, .slice tp tn tc] 25)) w2.heap.size 25 #[.int .u8 TG.kind, .string (bs TG.text), .int .u8 TG.lo, .int .u8 TG.hi, .int .i64 TG.mn, .int .i64 TG.mx, .slice tp tn tc] := Blk.new _ _ _
  have hz2 := hb2.size
  obtain ⟨hc2, hf2⟩ := bcell hb2
  have hob2 : ob < w2.heap.size := by omega
  have hR2 : w.heap.size < w2.heap.size := by omega
  have hne3 : ¬ w.heap.size = w2.heap.size := by omega
  have hne4 : ¬ w2.heap.size = w.heap.size := by omega
  have hne5 : ¬ ob = w2.heap.size := by omega
  have hne6 : ¬ w2.heap.size = ob := by omega
  by_cases hsh : sh = 8
  · have hshb : (sh == 8) = true := by rw [beq_iff_eq]; exact hsh
    have HMP2 := HMP.out
    rw [if_pos hsh] at HMP2
    have HM := Lib.hid HMP2
    clear HMP HMP2 hsh
    have hk3 : KidsAt (w2.alloc (.cells #[.int .u8 TG.kind, .string (bs TG.text), .int .u8 TG.lo, .int .u8 TG.hi, .int .i64 TG.mn, .int .i64 TG.mx, .slice tp tn tc] 25)) (fun b => Done (w.heap.size :: ex) r ob gs b ∧ b ≠ w2.heap.size) TG.kids (.slice tp tn tc) := HTK.out.1.later hb3.size (fun b hl hF => ⟨⟨hF, by omega⟩, hb3.block b hl⟩)
    have HREP := Lib.hid (repeat_any (w2.alloc (.cells #[.int .u8 TG.kind, .string (bs TG.text), .int .u8 TG.lo, .int .u8 TG.hi, .int .i64 TG.mn, .int .i64 TG.mx, .slice tp tn tc] 25)) (fun b => Done (w.heap.size :: ex) r ob gs b ∧ b ≠ w2.heap.size) (timesT 0 1) TG (.slice tp tn tc) (by simp [timesT, Tr.text]) hk3 HTK.out.2 (fun b hb => ⟨H1.out.less_new (Nat.le_trans hb3.size hb), fun e => by simp at hb; omega⟩))
    rw [show treeV (timesT 0 1) noKids = .agg #[.int .u8 7, .string ⟨#[]⟩, .int .u8 0, .int .u8 0, .int .i64 0, .int .i64 1, .slice none 0 0] from rfl] at HREP
    have HHB3 := Lib.hid hB3
    have Hb3 := Lib.hid hb3
    clear hk3 hB3 hb3
    unfold Repeated at HREP
    rw [← HM.out] at HREP
    unfold treeV at HREP
    go_wp2_with fail
    refine HREP.out.mono ?_
    rintro e w4 ⟨msl, rfl, hk4, hMt, hb4⟩
    obtain ⟨mp, mc, rfl, _⟩ := hk4.form
    generalize MP.kids.length = mn at *
    have hB4 := HHB3.out.below hb4 HHB3.out.lt
    have hcB4 := hB4.cell
    have hfB4 := hB4.frozen
    have hb14 : Below w1.heap.size w1 w4 := Hb3.out.trans (hb4.mono Hb3.out.size)
    have hc4 : ∀ b o, b < w1.heap.size → w4.cell? ⟨b, o, none⟩ = w1.cell? ⟨b, o, none⟩ := fun b o hb => hb14.cell (p := ⟨b, o, none⟩) hb
    have hz4 := hb14.size
    clear HREP hb4
    have hBM : Blk (put7 w4 w2.heap.size 0 MP (.slice mp mn mc)) w2.heap.size 25 #[.int .u8 MP.kind, .string (bs MP.text), .int .u8 MP.lo, .int .u8 MP.hi, .int .i64 MP.mn, .int .i64 MP.mx, .slice mp mn mc] := (((((((hB4.set_ 0 (.int .u8 MP.kind)).set_ 1 (.string (bs MP.text))).set_ 2 (.int .u8 MP.lo)).set_ 3 (.int .u8 MP.hi)).set_ 4 (.int .i64 MP.mn)).set_ 5 (.int .i64 MP.mx)).set_ 6 (.slice mp mn mc))
    have hb5 : Below w1.heap.size w1 (put7 w4 w2.heap.size 0 MP (.slice mp mn mc)) := put7_below hb14 _ _ _ _ hz2
    have hkM : KidsAt (put7 w4 w2.heap.size 0 MP (.slice mp mn mc)) (fun b => Done (w.heap.size :: ex) r ob gs b ∧ b ≠ w2.heap.size) MP.kids (.slice mp mn mc) := hk4.later (by rw [put7_size]; exact Nat.le_refl _) (fun b _ hF => ⟨hF, put7_block _ _ _ _ _ _ hF.2⟩)
    clear hB4 hk4 hb14 HHB3 Hb3
    go_upto_region 5 with fail
    rw [show ((((((((w4.setCell ⟨w2.heap.size, 0, none⟩ (.int .u8 MP.kind)).setCell ⟨w2.heap.size, 1, none⟩ (.string (bs MP.text))).setCell ⟨w2.heap.size, 2, none⟩ (.int .u8 MP.lo)).setCell ⟨w2.heap.size, 3, none⟩ (.int .u8 MP.hi)).setCell ⟨w2.heap.size, 4, none⟩ (.int .i64 MP.mn)).setCell ⟨w2.heap.size, 5, none⟩ (.int .i64 MP.mx)).setCell ⟨w2.heap.size, 6, none⟩ (.slice mp mn mc))) = put7 w4 w2.heap.size 0 MP (.slice mp mn mc) from rfl]
    generalize put7 w4 w2.heap.size 0 MP (.slice mp mn mc) = W5 at *
    clear hcB4 hfB4 hc4
    -- behind the question
    have hcM := hBM.cell
    have hMlt := hBM.lt
    have hres5 : Blk W5 w.heap.size 25 #[.int .u8 0, .string ⟨#[]⟩, .int .u8 0, .int .u8 0, .int .i64 0, .int .i64 0, .slice none 0 0] := HB1.out.below hb5 HB1.out.lt
    have hc5 : ∀ b o, b < w1.heap.size → W5.cell? ⟨b, o, none⟩ = w1.cell? ⟨b, o, none⟩ := fun b o hb => hb5.cell (p := ⟨b, o, none⟩) hb
    have HREP2 := Lib.hid (repeat_any W5.drew (fun b => Done (w.heap.size :: ex) r ob gs b ∧ b ≠ w2.heap.size) tm MP (.slice mp mn mc) htt hkM.drew_ hMt (fun b hb => ⟨H1.out.less_new (Nat.le_trans hb5.size hb), fun e => by have hb' : W5.heap.size ≤ b := hb; omega⟩))
    unfold Repeated at HREP2
    rw [← HWP.out] at HREP2
    unfold treeV noKids at HREP2
    have HB5 := Lib.hid hb5
    have HRS5 := Lib.hid hres5
    clear hb5 hres5 hkM hBM hc2 hf2
    go_wp2_with fail
    go_still_tail 5, (by kernel_rfl)
    go_wp2_with fail
    refine HREP2.out.mono ?_
    rintro e w6 ⟨sl, rfl, hk6, ht6, hb6⟩
    obtain ⟨sp, sc, rfl, _⟩ := hk6.form
    generalize WP.kids.length = sn at *
    have hb16 : Below w1.heap.size w1 w6 := HB5.out.trans (Below.mono (Below.trans (Below.refl _ _).drew hb6) HB5.out.size)
    have hres6 : Blk w6 w.heap.size 25 #[.int .u8 0, .string ⟨#[]⟩, .int .u8 0, .int .u8 0, .int .i64 0, .int .i64 0, .slice none 0 0] := HB1.out.below hb16 HB1.out.lt
    have hcr6 := hres6.cell
    have hfr6 := hres6.frozen
    have HB16 := Lib.hid hb16
    have HK6 := Lib.hid hk6
    clear hb16 hb6 hk6 hc5
    go_wp2
    have hput : Only w.heap.size w6 (put7 w6 w.heap.size 0 WP (.slice sp sn sc)) := by
      unfold put7
      iterate 7 refine Only.set ?_ _ _
      exact Only.refl _ _
    have hsame6 : ∀ b, b ≠ w.heap.size → (put7 w6 w.heap.size 0 WP (.slice sp sn sc)).heap[b]? = w6.heap[b]? := fun b hb => put7_block _ _ _ _ _ _ hb
    have hO : WholeOut w r base ex A n c toks at_ ob oc gs g WP (.returned (treeV WP (.slice sp sn sc))) (put7 w6 w.heap.size 0 WP (.slice sp sn sc)) := by
      refine ⟨_, g1, rfl, ((H1.out.later HB16.out).aside hput (by simp) hbase).forget, ?_, ht6, ?_, ?_⟩
      · refine HK6.out.later (by rw [put7_size]; exact Nat.le_refl _) (fun b _ hF => ⟨⟨fun hin => hF.1.1 (List.mem_cons.2 (.inr hin)), hF.1.2⟩, hsame6 b (fun e => hF.1.1 (by rw [e]; simp))⟩)
      · exact put7_below (HBW1.out.trans (HB16.out.mono H1.out.hbase)) _ _ _ _ hbase
      · intro b hl hF
        rw [hsame6 b (by omega), HB16.out.block b (by have := HB1.out.lt; omega)]
        exact HS1W.out b hl hF
    unfold put7 at hO
    refine bodyPost_ret (v := treeV WP (.slice sp sn sc)) ?_ rfl ?_
    · simp [results, Tryz.results137, go_sem, hcr6]
      rfl
    · exact hO
  · have hshb : (sh == 8) = false := by rw [beq_eq_false_iff_ne]; exact hsh
    have HMP2 := HMP.out
    rw [if_neg hsh] at HMP2
    obtain rfl : MP = TG := HMP2
    clear HMP hsh
    have hb5 := hb3
    have hBM := hB3
    have hkM : KidsAt (w2.alloc (.cells #[.int .u8 MP.kind, .string (bs MP.text), .int .u8 MP.lo, .int .u8 MP.hi, .int .i64 MP.mn, .int .i64 MP.mx, .slice tp tn tc] 25)) (fun b => Done (w.heap.size :: ex) r ob gs b ∧ b ≠ w2.heap.size) MP.kids (.slice tp tn tc) := HTK.out.1.later hb3.size (fun b hl hF => ⟨⟨hF, by omega⟩, hb3.block b hl⟩)
    have hMt := HTK.out.2
    clear hb3 hB3
    go_upto_region 5 with fail
    generalize w2.alloc (.cells #[.int .u8 MP.kind, .string (bs MP.text), .int .u8 MP.lo, .int .u8 MP.hi, .int .i64 MP.mn, .int .i64 MP.mx, .slice tp tn tc] 25) = W5 at *
    -- behind the question
    have hcM := hBM.cell
    have hMlt := hBM.lt
    have hres5 : Blk W5 w.heap.size 25 #[.int .u8 0, .string ⟨#[]⟩, .int .u8 0, .int .u8 0, .int .i64 0, .int .i64 0, .slice none 0 0] := HB1.out.below hb5 HB1.out.lt
    have hc5 : ∀ b o, b < w1.heap.size → W5.cell? ⟨b, o, none⟩ = w1.cell? ⟨b, o, none⟩ := fun b o hb => hb5.cell (p := ⟨b, o, none⟩) hb
    have HREP2 := Lib.hid (repeat_any W5.drew (fun b => Done (w.heap.size :: ex) r ob gs b ∧ b ≠ w2.heap.size) tm MP (.slice tp tn tc) htt hkM.drew_ hMt (fun b hb => ⟨H1.out.less_new (Nat.le_trans hb5.size hb), fun e => by have hb' : W5.heap.size ≤ b := hb; omega⟩))
    unfold Repeated at HREP2
    rw [← HWP.out] at HREP2
    unfold treeV noKids at HREP2
    have HB5 := Lib.hid hb5
    have HRS5 := Lib.hid hres5
    clear hb5 hres5 hkM hBM hc2 hf2
    go_wp2_with fail
    go_still_tail 5, (by kernel_rfl)
    go_wp2_with fail
    refine HREP2.out.mono ?_
    rintro e w6 ⟨sl, rfl, hk6, ht6, hb6⟩
    obtain ⟨sp, sc, rfl, _⟩ := hk6.form
    generalize WP.kids.length = sn at *
    have hb16 : Below w1.heap.size w1 w6 := HB5.out.trans (Below.mono (Below.trans (Below.refl _ _).drew hb6) HB5.out.size)
    have hres6 : Blk w6 w.heap.size 25 #[.int .u8 0, .string ⟨#[]⟩, .int .u8 0, .int .u8 0, .int .i64 0, .int .i64 0, .slice none 0 0] := HB1.out.below hb16 HB1.out.lt
    have hcr6 := hres6.cell
    have hfr6 := hres6.frozen
    have HB16 := Lib.hid hb16
    have HK6 := Lib.hid hk6
    clear hb16 hb6 hk6 hc5
    go_wp2
    have hput : Only w.heap.size w6 (put7 w6 w.heap.size 0 WP (.slice sp sn sc)) := by
      unfold put7
      iterate 7 refine Only.set ?_ _ _
      exact Only.refl _ _
    have hsame6 : ∀ b, b ≠ w.heap.size → (put7 w6 w.heap.size 0 WP (.slice sp sn sc)).heap[b]? = w6.heap[b]? := fun b hb => put7_block _ _ _ _ _ _ hb
    have hO : WholeOut w r base ex A n c toks at_ ob oc gs g WP (.returned (treeV WP (.slice sp sn sc))) (put7 w6 w.heap.size 0 WP (.slice sp sn sc)) := by
      refine ⟨_, g1, rfl, ((H1.out.later HB16.out).aside hput (by simp) hbase).forget, ?_, ht6, ?_, ?_⟩
      · refine HK6.out.later (by rw [put7_size]; exact Nat.le_refl _) (fun b _ hF => ⟨⟨fun hin => hF.1.1 (List.mem_cons.2 (.inr hin)), hF.1.2⟩, hsame6 b (fun e => hF.1.1 (by rw [e]; simp))⟩)
      · exact put7_below (HBW1.out.trans (HB16.out.mono H1.out.hbase)) _ _ _ _ hbase
      · intro b hl hF
        rw [hsame6 b (by omega), HB16.out.block b (by have := HB1.out.lt; omega)]
        exact HS1W.out b hl hF
    unfold put7 at hO
    refine bodyPost_ret (v := treeV WP (.slice sp sn sc)) ?_ rfl ?_
    · simp [results, Tryz.results137, go_sem, hcr6]
      rfl
    · exact hO
end Go.Proofs.YtodenbimeojgdaaGreatDoor

/-
  The contract of the parser's leave. Conditions: the parser, its tokens and its groups lie in memory.
-/
namespace Go.Proofs.YtodenbimeojgdaaGreatDoor
open Go.RowKit

theorem ownsRow_shorter {w : World} {base : Nat} {e : TypeId} {size ob n m cap : Nat} {xs ys : List Value} (h : w.ownsRow base e size (.slice (some ⟨ob, 0, none⟩) n cap) n (xs ++ ys)) (hx : xs.length = m * size) (hm : m ≤ n) : w.ownsRow base e size (.slice (some ⟨ob, 0, none⟩) m cap) m xs := by
  refine ⟨hx, ?_⟩
  rcases h.2 with ⟨h', _⟩ | ⟨g, cap', cur, h', hb, hg, hnc, hcm, hcs, htake⟩
  · cases h'
  · simp only [Value.slice.injEq, Option.some.injEq, Addr.mk.injEq, and_true, true_and] at h'
    obtain ⟨rfl, rfl⟩ := h'
    refine .inr ⟨_, _, cur, rfl, hb, hg, by omega, hcm, hcs, ?_⟩
    have h2 : (cur.toList.take (n * size)).take (m * size) = (xs ++ ys).take (m * size) := by rw [htake]
    rw [List.take_take, Nat.min_eq_left (Nat.mul_le_mul_right size hm)] at h2
    rw [h2, ← hx, List.take_left]

theorem SAt.popped {w : World} {r base : Nat} {ex : List Nat} {A : Option Addr} {n c : Nat} {toks : List Tk} {at_ ob oc : Nat} {gs : List GG} {g : GG} (h : SAt w r base ex A n c toks at_ ob oc (gs ++ [g])) :
    SAt (w.setCell ⟨r, 2, none⟩ (.slice (some ⟨ob, 0, none⟩) gs.length oc)) r base ex A n c toks at_ ob oc gs := by
  have ho : Only r w (w.setCell ⟨r, 2, none⟩ (.slice (some ⟨ob, 0, none⟩) gs.length oc)) := (Only.refl r w).set 2 _
  have hne : ∀ b ∈ owned ob (gs ++ [g]), b ≠ r := fun b hbl e => (List.nodup_cons.1 h.nodup).1 (e ▸ hbl)
  have hsub : ∀ b, b ∈ owned ob gs → b ∈ owned ob (gs ++ [g]) := fun b hb => by rw [owned_snoc]; exact List.mem_append.2 (.inl hb)
  have hsame : ∀ b ∈ owned ob gs, (w.setCell ⟨r, 2, none⟩ (.slice (some ⟨ob, 0, none⟩) gs.length oc)).heap[b]? = w.heap[b]? := fun b hbl => ho.block b (h.owned_lt b (hsub b hbl)).2 (fun e => hne b (hsub b hbl) (Option.some.inj e))
  have hnd0 := h.nodup
  rw [owned_snoc, ← List.cons_append, List.nodup_append] at hnd0
  have hown := h.own
  rw [gsCells_snoc] at hown
  have hown2 := ownsRow_shorter hown (gsCells_len gs) (by simp)
  refine ⟨⟨h.rd.blk.set_ 2 _, h.rd.row.only ho h.rd.far, h.rd.len, h.rd.far, h.rd.le, h.rd.most⟩, ownsRow_same hown2 (fun b hbl => ?_), fun x hx => (h.each x (List.mem_append.2 (.inl hx))).same ho.size (fun b hbl => hsame b (List.mem_cons.2 (.inr (List.mem_flatMap.2 ⟨x, hx, hbl⟩)))) (fun b hl hF => ⟨done_less hF, ho.block b hl (fun e => hF.2 (by rw [Option.some.inj e]; simp))⟩), hnd0.1, h.hr, Nat.le_trans h.hbase ho.size, h.lv.only ho h.glv, h.glv, fun x hx => h.few x (List.mem_append.2 (.inl hx)), ?_, fun b hb => Nat.lt_of_lt_of_le (h.exlt b hb) ho.size, fun b hb hin => h.exo b hb (hsub b hin)⟩
  · have : ob = b := by simpa [Value.ownBlock] using hbl
    subst this
    exact hsame ob (List.mem_cons.2 (.inl rfl))
  · have := h.fewer
    simp at this
    omega

/-- behind leave -/
def LeftOut (w : World) (r base : Nat) (ex : List Nat) (A : Option Addr) (n c : Nat) (toks : List Tk) (at_ ob oc : Nat) (gs : List GG) (g : GG) (x : Tr) (e : Ending) (w' : World) : Prop :=
  ∃ sl, e = .returned (treeV x sl) ∧ SAt w' r base ex A n c toks at_ ob oc gs ∧ KidsAt w' (Done ex r ob gs) x.kids sl ∧ x.text.length ≤ maxLen ∧ Kept base r w w' ∧ (∀ b, b < w.heap.size → b ∉ r :: owned ob (gs ++ [g]) → w'.heap[b]? = w.heap[b]?)

set_option maxRecDepth 100000 in
set_option maxHeartbeats 1600000 in
theorem leave_any (w : World) (r base : Nat) (ex : List Nat) (A : Option Addr) (n c : Nat) (toks : List Tk) (at_ ob oc : Nat) (gs : List GG) (g : GG) (h : SAt w r base ex A n c toks at_ ob oc (gs ++ [g])) (hfew : g.rows.length + 1 ≤ at_) :
    Calls Tryz.prog 114 #[.pointer (some ⟨r, 0, none⟩)] w fun e w' => LeftOut w r base ex A n c toks at_ ob oc gs g (wholeP g.grp) e w' := by
  have h0 := h.exclude (.cells #[.int .u8 0, .string ⟨#[]⟩, .int .u8 0, .int .u8 0, .int .i64 0, .int .i64 0, .slice none 0 0] 25)
  have hB0 : Blk (w.alloc (.cells #[.int .u8 0, .string ⟨#[]⟩, .int .u8 0, .int .u8 0, .int .i64 0, .int .i64 0, .slice none 0 0] 25)) w.heap.size 25 #[.int .u8 0, .string ⟨#[]⟩, .int .u8 0, .int .u8 0, .int .i64 0, .int .i64 0, .slice none 0 0] := Blk.new w _ _
  have hbW : Below w.heap.size w (w.alloc (.cells #[.int .u8 0, .string ⟨#[]⟩, .int .u8 0, .int .u8 0, .int .i64 0, .int .i64 0, .slice none 0 0] 25)) := (Below.refl _ _).alloc (Nat.le_refl _) _
  have HWH := Lib.hid (whole_any _ r base (w.heap.size :: ex) A n c toks at_ ob oc gs g h0 hfew)
  have hR0 : w.heap.size ∉ r :: owned ob (gs ++ [g]) := fun hin => by
    rcases List.mem_cons.1 hin with e | hin
    · have := h.hr; have := h.hbase; omega
    · exact h0.exo w.heap.size (by simp) hin
  have hbase := h.hbase
  have hmost := h.rd.most
  have hle := h.rd.le
  have hfr := h.fewer
  have hl : (gs ++ [g]).length = gs.length + 1 := by simp
  have c2 : (w.alloc (.cells #[.int .u8 0, .string ⟨#[]⟩, .int .u8 0, .int .u8 0, .int .i64 0, .int .i64 0, .slice none 0 0] 25)).cell? ⟨r, 2, none⟩ = some (.slice (some ⟨ob, 0, none⟩) (gs ++ [g]).length oc) := h0.rd.blk.cell 2
  have hrl := h.rd.blk.lt
  have c2' : w.cell? ⟨r, 2, none⟩ = some (.slice (some ⟨ob, 0, none⟩) (gs ++ [g]).length oc) := h.rd.blk.cell 2
  have H := Lib.hid h
  have hcap : (gs ++ [g]).length ≤ oc := by
    rcases h.own.2 with ⟨h', _⟩ | ⟨g', cap', cur, h', hb, hg, hnc, _⟩
    · cases h'
    · simp only [Value.slice.injEq] at h'
      omega
  clear h h0 c2
  rw [hl] at hfr hcap
  generalize wholeP g.grp = WP at *
  have hN : gs.length < (gs ++ [g]).length := by rw [hl]; omega
  have hcast : (((gs ++ [g]).length : Int) - 1) = (gs.length : Int) := by rw [hl]; omega
  have hNo : (gs ++ [g]).length ≤ oc := by rw [hl]; exact hcap
  generalize hNN : (gs ++ [g]).length = N at *
  have HN := Lib.hid hNN
  have HL := Lib.hid hl
  clear hNN hl
  have e3 : IntKind.i64.wrap (gs.length : Int) = gs.length := IntWalk.i64_in _ (by omega)
  have hlt' : (gs.length : Int) < N := by omega
  have h0' : (0 : Int) ≤ (gs.length : Int) := by omega
  have hoc : (gs.length : Int) ≤ oc := by omega
  have hoc' : gs.length ≤ oc := by omega
  go_enter Tryz.func114, Tryz.ntmps114
  go_wp2_with fail
  refine HWH.out.mono ?_
  rintro e w1 ⟨sl, g1, rfl, h1, hk1, ht1, hb1, hs1⟩
  obtain ⟨sp, sc, rfl, _⟩ := hk1.form
  generalize WP.kids.length = sn at *
  have hB1 : Blk w1 w.heap.size 25 #[.int .u8 0, .string ⟨#[]⟩, .int .u8 0, .int .u8 0, .int .i64 0, .int .i64 0, .slice none 0 0] := (hs1 w.heap.size hB0.lt hR0).trans hB0
  have HS1W : Hid (∀ b, b < w.heap.size → b ∉ r :: owned ob (gs ++ [g]) → w1.heap[b]? = w.heap[b]?) := fun b hl hF => (hs1 b (Nat.lt_of_lt_of_le hl hbW.size) hF).trans (hbW.block b hl)
  have HBW1 : Hid (Below base w w1) := (hbW.mono hbase).trans hb1
  have hl1 : (gs ++ [g1]).length = N := by rw [← HN.out]; simp
  have c21 : w1.cell? ⟨r, 2, none⟩ = some (.slice (some ⟨ob, 0, none⟩) (gs ++ [g1]).length oc) := h1.rd.blk.cell 2
  rw [hl1] at c21
  have hfr1 := h1.rd.blk.frozen
  have hrl1 := h1.rd.blk.lt
  have hcB1 := hB1.cell
  have hfB1 := hB1.frozen
  have hBlt := hB1.lt
  have hne0 : ¬ r = w.heap.size := by omega
  have hne1 : ¬ w.heap.size = r := by omega
  have H1 := Lib.hid h1
  have HK1 := Lib.hid hk1
  unfold treeV
  clear HWH hs1 hb1 hk1 h1 hB0 hbW hB1 hl1 hR0 c2'
  go_wp2
  have hO : LeftOut w r base ex A n c toks at_ ob oc gs g WP (.returned (treeV WP (.slice sp sn sc))) ((put7 (w1.setCell ⟨r, 2, none⟩ (.slice (some ⟨ob, 0, none⟩) gs.length oc)) w.heap.size 0 WP (.slice sp sn sc)).alloc (.cells #[.int .u8 WP.kind, .string (bs WP.text), .int .u8 WP.lo, .int .u8 WP.hi, .int .i64 WP.mn, .int .i64 WP.mx, .slice sp sn sc] 25)) := by
    have h2 := H1.out.popped
    have ho2 : Only r w1 (w1.setCell ⟨r, 2, none⟩ (.slice (some ⟨ob, 0, none⟩) gs.length oc)) := (Only.refl _ _).set 2 _
    generalize w1.setCell ⟨r, 2, none⟩ (.slice (some ⟨ob, 0, none⟩) gs.length oc) = W3 at *
    have hput : Only w.heap.size W3 (put7 W3 w.heap.size 0 WP (.slice sp sn sc)) := by
      unfold put7
      iterate 7 refine Only.set ?_ _ _
      exact Only.refl _ _
    have hsame6 : ∀ b, b ≠ w.heap.size → (put7 W3 w.heap.size 0 WP (.slice sp sn sc)).heap[b]? = W3.heap[b]? := fun b hb => put7_block _ _ _ _ _ _ hb
    have hsz : w1.heap.size ≤ (put7 W3 w.heap.size 0 WP (.slice sp sn sc)).heap.size := by rw [put7_size]; exact ho2.size
    have hal : Below (put7 W3 w.heap.size 0 WP (.slice sp sn sc)).heap.size (put7 W3 w.heap.size 0 WP (.slice sp sn sc)) ((put7 W3 w.heap.size 0 WP (.slice sp sn sc)).alloc (.cells #[.int .u8 WP.kind, .string (bs WP.text), .int .u8 WP.lo, .int .u8 WP.hi, .int .i64 WP.mn, .int .i64 WP.mx, .slice sp sn sc] 25)) := (Below.refl _ _).alloc (Nat.le_refl _) _
    have hbz := H1.out.hbase
    refine ⟨_, rfl, ((h2.aside hput (by simp) hbase).forget).later hal, ?_, ht1, ?_, ?_⟩
    · refine KidsAt.same ?_ hal
      refine HK1.out.later hsz (fun b hl hF => ⟨⟨fun hin => hF.1 (List.mem_cons.2 (.inr hin)), hF.2⟩, ?_⟩)
      rw [hsame6 b (fun e => hF.1 (by rw [e]; simp))]
      exact ho2.block b hl (fun e => hF.2 (by rw [Option.some.inj e]; simp))
    · refine (Kept.of_below HBW1.out).trans ((Kept.of_only ho2 hbz).trans ((Kept.of_below ?_).trans (Kept.of_below (hal.mono (Nat.le_trans hbz hsz)))))
      exact put7_below (Below.refl _ _) _ _ _ _ hbase
    · intro b hl hF
      rw [hal.block b (by omega), hsame6 b (by omega), ho2.block b (by omega) (fun e => hF (by rw [Option.some.inj e]; simp))]
      exact HS1W.out b hl hF
  unfold put7 at hO
  refine bodyPost_ret (v := treeV WP (.slice sp sn sc)) ?_ rfl ?_
  · simp [results, Tryz.results114, go_sem, hcB1, hBlt]
    rfl
  · exact hO
end Go.Proofs.YtodenbimeojgdaaGreatDoor

/-
  The contract of the parser's part. Conditions: the parser, its tokens and its groups lie in memory, and a group is open.
-/
namespace Go.Proofs.YtodenbimeojgdaaGreatDoor
open Go.RowKit

theorem onTop_snoc (f : Grp → Grp) (st : List Grp) (g : Grp) : onTop f (st ++ [g]) = st ++ [f g] := by
  induction st with
  | nil => rfl
  | cons a r ih =>
    cases r with
    | nil => rfl
    | cons b s =>
      rw [List.cons_append, List.cons_append, onTop]
      rw [List.cons_append] at ih
      rw [ih]
      rfl
theorem standsP_lt {l : List Tk} {at_ : Nat} {ks : List Int} (h : standsP l at_ ks = true) : at_ < l.length := by
  unfold standsP at h
  cases ht : l[at_]? with
  | none => rw [ht] at h; cases h
  | some t => exact (List.getElem?_eq_some_iff.1 ht).1
theorem leafP_lt {l : List Tk} {at_ : Nat} {ks : List Int} {t : Tr} (h : leafP l at_ ks = some t) : at_ < l.length := by
  unfold leafP at h
  cases ht : l[at_]? with
  | none => rw [ht] at h; cases h
  | some t => exact (List.getElem?_eq_some_iff.1 ht).1
theorem leafP_tree {l : List Tk} {at_ : Nat} {ks : List Int} {t : Tr} (h : leafP l at_ ks = some t) (hs : Short l) : t.kids = [] ∧ t.text.length ≤ maxLen := by
  unfold leafP at h
  cases ht : l[at_]? with
  | none => rw [ht] at h; cases h
  | some k =>
    rw [ht] at h
    simp only at h
    split at h
    · injection h with h
      subst h
      refine ⟨meaningP_kids k, ?_⟩
      have := meaningP_text k
      have := hs _ _ ht
      unfold maxLen
      omega
    · cases h
theorem howP_tree (l : List Tk) (at_ : Nat) : (howP l at_).1.kids = [] ∧ (howP l at_).1.text = [] ∧ at_ ≤ (howP l at_).2 := by
  unfold howP
  cases l[at_]? with
  | none => exact ⟨rfl, rfl, Nat.le_refl _⟩
  | some t =>
    simp only
    split
    · exact ⟨rfl, rfl, Nat.le_succ _⟩
    · exact ⟨rfl, rfl, Nat.le_refl _⟩
theorem openG_new (l : List Tk) (at_ : Nat) (tm : Tr) (q : Bool) (hq : standsP l at_ [7] = q) : (newGG (if q = true then 8 else 6) tm).grp = openG l at_ tm := by
  subst hq
  rfl

/-- the parser somewhere behind, with the blocks of one's own as they were -/
structure Behind (w : World) (r base : Nat) (ex : List Nat) (A : Option Addr) (n c : Nat) (toks : List Tk) (at_ : Nat) (st : List Grp) (w' : World) : Prop where
  st : ∃ ob oc gs, SAt w' r base ex A n c toks at_ ob oc gs ∧ gs.map GG.grp = st
  kept : Kept base r w w'
  own : ∀ b ∈ ex, w'.heap[b]? = w.heap[b]?

theorem Behind.later {w w1 w' : World} {r base : Nat} {ex : List Nat} {A : Option Addr} {n c : Nat} {toks : List Tk} {at_ : Nat} {st : List Grp} (h : Behind w r base ex A n c toks at_ st w1) (hb : Below w1.heap.size w1 w') : Behind w r base ex A n c toks at_ st w' := by
  obtain ⟨⟨ob, oc, gs, hs, hg⟩, hk, ho⟩ := h
  exact ⟨⟨ob, oc, gs, hs.later hb, hg⟩, hk.trans (Kept.of_below (hb.mono hs.hbase)), fun b hb2 => (hb.block b (hs.exlt b hb2)).trans (ho b hb2)⟩
end Go.Proofs.YtodenbimeojgdaaGreatDoor

/-
  The contract of the parser's part. Conditions: the parser, its tokens and its groups lie in memory, and a group is open.
-/
namespace Go.Proofs.YtodenbimeojgdaaGreatDoor
open Go.RowKit

theorem SAt.r_ne {w : World} {r base : Nat} {ex : List Nat} {A : Option Addr} {n c : Nat} {toks : List Tk} {at_ ob oc : Nat} {gs : List GG} (h : SAt w r base ex A n c toks at_ ob oc gs) (hx : r ∉ ex) {b : Nat} (hb : b ∈ ex) : b ∉ r :: owned ob gs := fun hin => by
  rcases List.mem_cons.1 hin with e | hin
  · exact hx (e ▸ hb)
  · exact h.exo b hb hin
/-- times, in the parser -/
theorem times_st (w : World) (r base : Nat) (ex : List Nat) (A : Option Addr) (n c : Nat) (toks : List Tk) (at_ ob oc : Nat) (gs : List GG) (h : SAt w r base ex A n c toks at_ ob oc gs) :
    Calls Tryz.prog 134 #[.pointer (some ⟨r, 0, none⟩)] w fun e w' => e = .returned (treeV (howP toks at_).1 noKids) ∧ SAt w' r base ex A n c toks (howP toks at_).2 ob oc gs ∧ Only r w w' :=
  (times_any w r A n c toks at_ _ h.rd).mono fun _ _ ⟨he, hrd, ho⟩ => ⟨he, h.only ho hrd (howP_tree toks at_).2.2, ho⟩

/-- within part: the parser, and the block of how often -/
structure PartIn (w : World) (r base T : Nat) (ex : List Nat) (A : Option Addr) (n c : Nat) (toks : List Tk) (at_ ob oc : Nat) (gs : List GG) (tm : Tr) (wr : World) : Prop where
  s : SAt wr r base (T :: ex) A n c toks at_ ob oc gs
  blk : Blk wr T 25 #[.int .u8 tm.kind, .string (bs tm.text), .int .u8 tm.lo, .int .u8 tm.hi, .int .i64 tm.mn, .int .i64 tm.mx, .slice none 0 0]
  kept : Kept base r w wr
  own : ∀ b ∈ ex, wr.heap[b]? = w.heap[b]?
  hT : base ≤ T
theorem PartIn.later {w wr w' : World} {r base T : Nat} {ex : List Nat} {A : Option Addr} {n c : Nat} {toks : List Tk} {at_ ob oc : Nat} {gs : List GG} {tm : Tr} (h : PartIn w r base T ex A n c toks at_ ob oc gs tm wr) (hb : Below wr.heap.size wr w') : PartIn w r base T ex A n c toks at_ ob oc gs tm w' :=
  ⟨h.s.later hb, h.blk.below hb h.blk.lt, h.kept.trans (Kept.of_below (hb.mono h.s.hbase)), fun b hb2 => (hb.block b (h.s.exlt b (List.mem_cons.2 (.inr hb2)))).trans (h.own b hb2), h.hT⟩
/-- a step that changes just what is the parser's -/
theorem PartIn.step {w wr w' : World} {r base T : Nat} {ex : List Nat} {A : Option Addr} {n c : Nat} {toks : List Tk} {at_ ob oc at2 ob2 oc2 : Nat} {gs gs2 : List GG} {tm : Tr} (h : PartIn w r base T ex A n c toks at_ ob oc gs tm wr) (hx : r ∉ T :: ex) (hs : SAt w' r base (T :: ex) A n c toks at2 ob2 oc2 gs2) (hk : Kept base r wr w') (hf : ∀ b, b < wr.heap.size → b ∉ r :: owned ob gs → w'.heap[b]? = wr.heap[b]?) : PartIn w r base T ex A n c toks at2 ob2 oc2 gs2 tm w' :=
  ⟨hs, (hf T h.blk.lt (h.s.r_ne hx (List.mem_cons.2 (.inl rfl)))).trans h.blk, h.kept.trans hk, fun b hb2 => (hf b (h.s.exlt b (List.mem_cons.2 (.inr hb2))) (h.s.r_ne hx (List.mem_cons.2 (.inr hb2)))).trans (h.own b hb2), h.hT⟩
set_option maxHeartbeats 1600000 in
theorem PartIn.put {w wr : World} {r base T : Nat} {ex : List Nat} {A : Option Addr} {n c : Nat} {toks : List Tk} {at_ ob oc : Nat} {gs : List GG} {tm : Tr} (h : PartIn w r base T ex A n c toks at_ ob oc gs tm wr) (hx : T ∉ ex) (tm2 : Tr) : PartIn w r base T ex A n c toks at_ ob oc gs tm2 (put7 wr T 0 tm2 (.slice none 0 0)) := by
  have hput : Only T wr (put7 wr T 0 tm2 (.slice none 0 0)) := by
    unfold put7
    iterate 7 refine Only.set ?_ _ _
    exact Only.refl _ _
  refine ⟨h.s.aside hput (by simp) h.hT, ?_, h.kept.trans (Kept.of_below (put7_below (Below.refl _ _) _ _ _ _ h.hT)), fun b hb => ?_, h.hT⟩
  · unfold put7
    exact (((((((h.blk.set_ 0 (.int .u8 tm2.kind)).set_ 1 (.string (bs tm2.text))).set_ 2 (.int .u8 tm2.lo)).set_ 3 (.int .u8 tm2.hi)).set_ 4 (.int .i64 tm2.mn)).set_ 5 (.int .i64 tm2.mx)).set_ 6 (.slice none 0 0))
  · rw [put7_block _ _ _ _ _ _ (fun e : b = T => hx (by rw [← e]; exact hb))]
    exact h.own b hb

theorem partF_go {l : List Tk} {f at_ : Nat} {tm : Tr} {st : List Grp} (h : standsP l at_ [5, 7] = true) : partF l (f + 1) at_ tm st = partF l f (howP l (at_ + 1)).2 (howP l (at_ + 1)).1 (st ++ [openG l at_ tm]) := by
  rw [partF, if_pos h]
theorem partF_end {l : List Tk} {f at_ : Nat} {tm : Tr} {st : List Grp} (h : standsP l at_ [5, 7] = false) : partF l (f + 1) at_ tm st = match leafP l at_ [1, 10, 11, 12] with | none => (false, at_, st) | some t => (true, at_ + 1, onTop (addG (repeatP tm t)) st) := by
  rw [partF, if_neg (by simp [h])]
  cases leafP l at_ [1, 10, 11, 12] <;> rfl

def atOf (r : Nat) (w : World) : Nat := (intOf ((w.cell? ⟨r, 1, none⟩).getD (.int .i64 0))).toNat
theorem SAt.atOf_ {w : World} {r base : Nat} {ex : List Nat} {A : Option Addr} {n c : Nat} {toks : List Tk} {at_ ob oc : Nat} {gs : List GG} (h : SAt w r base ex A n c toks at_ ob oc gs) : atOf r w = at_ := by
  have : w.cell? ⟨r, 1, none⟩ = some (.int .i64 at_) := h.rd.blk.cell 1
  unfold atOf
  rw [this]
  simp [intOf]

set_option maxRecDepth 100000 in
set_option maxHeartbeats 1600000 in
theorem part_any (w : World) (r base : Nat) (ex : List Nat) (A : Option Addr) (n c : Nat) (toks : List Tk) (at_ ob oc : Nat) (gs : List GG) (h : SAt w r base ex A n c toks at_ ob oc gs) (hne : gs ≠ []) (hx : r ∉ ex) (hsh : Short toks) :
    Calls Tryz.prog 112 #[.pointer (some ⟨r, 0, none⟩)] w fun e w' => e = .returned (.bool (partP toks at_ (gs.map GG.grp)).1) ∧ Behind w r base ex A n c toks (partP toks at_ (gs.map GG.grp)).2.1 (partP toks at_ (gs.map GG.grp)).2.2 w' := by
  have HR0 : Hid (partP toks at_ (gs.map GG.grp) = partF toks (toks.length + 1) (howP toks at_).2 (howP toks at_).1 (gs.map GG.grp)) := show _ = _ from rfl
  generalize partP toks at_ (gs.map GG.grp) = R at *
  have HT := Lib.hid (times_st w r base ex A n c toks at_ ob oc gs h)
  have hht := howP_tree toks at_
  have hlen := h.rd.len
  have hmost := h.rd.most
  have H := Lib.hid h
  have HNE := Lib.hid hne
  have HX := Lib.hid hx
  have HSH := Lib.hid hsh
  have HLEN := Lib.hid hlen
  clear h hne hx hsh hlen
  generalize (howP toks at_).1 = tm0 at *
  generalize (howP toks at_).2 = at0 at *
  have HH := Lib.hid hht
  clear hht
  unfold treeV noKids at HT
  go_enter Tryz.func112, Tryz.ntmps112
  go_wp2_with fail
  refine HT.out.mono ?_
  rintro e w1 ⟨rfl, h1, ho1⟩
  have HP0 : Hid (PartIn w r base w1.heap.size ex A n c toks at0 ob oc gs tm0 (w1.alloc (.cells #[.int .u8 tm0.kind, .string (bs tm0.text), .int .u8 tm0.lo, .int .u8 tm0.hi, .int .i64 tm0.mn, .int .i64 tm0.mx, .slice none 0 0] 25))) := by
    have hb : Below w1.heap.size w1 (w1.alloc (.cells #[.int .u8 tm0.kind, .string (bs tm0.text), .int .u8 tm0.lo, .int .u8 tm0.hi, .int .i64 tm0.mn, .int .i64 tm0.mx, .slice none 0 0] 25)) := (Below.refl _ _).alloc (Nat.le_refl _) _
    refine ⟨h1.exclude _, Blk.new _ _ _, (Kept.of_only ho1 H.out.hbase).trans (Kept.of_below (hb.mono h1.hbase)), fun b hb2 => ?_, h1.hbase⟩
    rw [hb.block b (h1.exlt b hb2)]
    exact ho1.block b (H.out.exlt b hb2) (fun e => HX.out (by rw [← Option.some.inj e]; exact hb2))
  have HXT : Hid (r ∉ w1.heap.size :: ex) := fun hin => by
    rcases List.mem_cons.1 hin with e | hin
    · have := h1.hr; have := h1.hbase; omega
    · exact HX.out hin
  have HTX : Hid (w1.heap.size ∉ ex) := fun hin => by have := h1.exlt _ hin; omega
  clear HT h1 ho1
  go_wp2_with fail
  generalize w1.alloc (.cells #[.int .u8 tm0.kind, .string (bs tm0.text), .int .u8 tm0.lo, .int .u8 tm0.hi, .int .i64 tm0.mn, .int .i64 tm0.mx, .slice none 0 0] 25) = W2 at *
  generalize w1.heap.size = T at *
  go_loopw [10] (fun _ wr => ∃ (at2 f ob2 oc2 : Nat) (gs2 : List GG) (tm : Tr), Hid (PartIn w r base T ex A n c toks at2 ob2 oc2 gs2 tm wr) ∧ n < f + at2 ∧ at2 ≤ n ∧ Hid (gs2 ≠ []) ∧ Hid (tm.kids = [] ∧ tm.text = []) ∧ Hid (R = partF toks f at2 tm (gs2.map GG.grp))) (fun _ wr => n - atOf r wr)
  case atStart => exact ⟨at0, toks.length + 1, ob, oc, gs, tm0, HP0, by rw [HLEN.out]; omega, HP0.out.s.rd.le, HNE, (show _ ∧ _ from ⟨HH.out.1, HH.out.2.1⟩), HR0⟩
  case round =>
    clear HP0 HR0 HH HNE
    obtain ⟨at2, f, ob2, oc2, gs2, tm, HP, hf, hle, HNE, HTM, HR⟩ := hrel
    have hbK : Below wr.heap.size wr (wr.alloc (.cells #[.int .u8 5, .int .u8 7] 5)) := (Below.refl _ _).alloc (Nat.le_refl _) _
    have HPK := Lib.hid (HP.out.later hbK)
    have HST := Lib.hid (fun q hq => stands_at _ r A n c toks at2 _ HPK.out.s.rd wr.heap.size 2 2 [5, 7] (kinds_new wr [5, 7] #[.int .u8 5, .int .u8 7] rfl 5) rfl (by omega) q hq)
    have HTT : Hid (tm.text.length ≤ maxLen) := by
      show _ ≤ _
      rw [HTM.out.2]
      exact Nat.zero_le _
    clear hbK
    cases hst : standsP toks at2 [5, 7] with
    | true =>
      have hlt : at2 < n := by have := standsP_lt hst; rw [HLEN.out] at this; exact this
      obtain ⟨f, rfl⟩ : ∃ f', f = f' + 1 := ⟨f - 1, by omega⟩
      have hR := HR.out
      rw [partF_go hst] at hR
      have HR2 := Lib.hid hR
      have HST2 := Lib.hid (HST.out true hst)
      have hhow := howP_tree toks (at2 + 1)
      have HHOW := Lib.hid hhow
      have HEN := Lib.hid (fun (W' : World) (hs : SAt W' r base (T :: ex) A n c toks at2 ob2 oc2 gs2) => enter_walk (standsP toks at2 [7]) W' r base (T :: ex) A n c toks at2 ob2 oc2 gs2 hs tm HTM.out.1 HTT.out hlt rfl hs.fewer)
      have HTI := Lib.hid (fun (W' : World) ob' oc' gs' (hs : SAt W' r base (T :: ex) A n c toks (at2 + 1) ob' oc' gs') => times_st W' r base (T :: ex) A n c toks (at2 + 1) ob' oc' gs' hs)
      have HOG := Lib.hid (openG_new toks at2 tm _ rfl)
      unfold treeV noKids at HEN HTI
      clear HST hR hhow HR hst
      generalize (howP toks (at2 + 1)).1 = tm4 at *
      generalize (howP toks (at2 + 1)).2 = at4 at *
      go_wp2_with fail
      refine HST2.out.mono ?_
      rintro e w3 ⟨rfl, m3, rfl⟩
      have hP1 := HPK.out.later (below_drewN (Below.refl _ _) m3)
      generalize (wr.alloc (.cells #[.int .u8 5, .int .u8 7] 5)).drewN m3 = W1 at *
      have hcT := hP1.blk.cell
      have HP1 := Lib.hid hP1
      clear hP1 HST2 HPK
      go_wp2_with fail
      refine (HEN.out W1 HP1.out.s).mono ?_
      rintro e w5 ⟨rfl, ⟨ob3, oc3, g3, h3, hg3⟩, hk3, hf3⟩
      have HP3 := Lib.hid (HP1.out.step HXT.out h3 hk3 hf3)
      have HG3 := Lib.hid hg3
      clear HEN HP1 hk3 hf3 hcT hg3
      go_wp2_with fail
      refine (HTI.out w5 ob3 oc3 _ h3).mono ?_
      rintro e w6 ⟨rfl, h4, ho4⟩
      have hP4 := HP3.out.step HXT.out h4 (Kept.of_only ho4 h3.hbase) (fun b hl hF => ho4.block b hl (fun e => hF (by rw [Option.some.inj e]; simp)))
      have hcT4 := hP4.blk.cell
      have hfT4 := hP4.blk.frozen
      have hle4 := h4.rd.le
      have hP5 := hP4.put HTX.out tm4
      have HM : Hid (n - atOf r (put7 w6 T 0 tm4 (.slice none 0 0)) < n - atOf r wr) := by
        show _ < _
        rw [hP5.s.atOf_, HP.out.s.atOf_]
        have := HHOW.out.2.2
        omega
      have HP5 := Lib.hid hP5
      unfold put7 at HP5 HM
      have HNE3 : Hid (gs2 ++ [g3] ≠ []) := show _ ≠ _ from by simp
      have HR3 : Hid (R = partF toks f at4 tm4 ((gs2 ++ [g3]).map GG.grp)) := by
        show R = _
        rw [HR2.out, List.map_append, List.map_cons, List.map_nil, HG3.out, HOG.out]
      have HTM4 : Hid (tm4.kids = [] ∧ tm4.text = []) := ⟨HHOW.out.1, HHOW.out.2.1⟩
      have hf4 : n < f + at4 := by have := HHOW.out.2.2; omega
      clear HTI h3 h4 ho4 hP4 hP5 HP3 HR2 HHOW HG3 HOG HTM HTT HNE HP
      go_wp2
      go_roundw
      case rel => exact ⟨at4, f, ob3, oc3, gs2 ++ [g3], tm4, HP5, hf4, hle4, HNE3, HTM4, HR3⟩
      case measure => exact HM.out
    | false =>
      obtain ⟨f, rfl⟩ : ∃ f', f = f' + 1 := ⟨f - 1, by omega⟩
      have hR := HR.out
      rw [partF_end hst] at hR
      have HST2 := Lib.hid (HST.out false hst)
      have HLF := Lib.hid (fun (W' : World) (hs : SAt W' r base (T :: ex) A n c toks at2 ob2 oc2 gs2) => leaf_any (W'.alloc (.cells #[.int .u8 1, .int .u8 10, .int .u8 11, .int .u8 12] 5)) r A n c toks at2 _ (hs.later ((Below.refl _ _).alloc (Nat.le_refl _) _)).rd (hs.later ((Below.refl _ _).alloc (Nat.le_refl _) _)).lv hs.glv HSH.out W'.heap.size 4 [1, 10, 11, 12] (kinds_new W' [1, 10, 11, 12] #[.int .u8 1, .int .u8 10, .int .u8 11, .int .u8 12] rfl 5) (by simp) (fun k hk => by simpa using hk))
      have HLT := Lib.hid (fun t (ht : leafP toks at2 [1, 10, 11, 12] = some t) => leafP_tree ht HSH.out)
      have HLTN := Lib.hid (fun t (ht : leafP toks at2 [1, 10, 11, 12] = some t) => leafP_lt ht)
      clear HST HR hst
      generalize leafP toks at2 [1, 10, 11, 12] = LP at *
      cases LP with
      | none =>
        have HR2 : Hid (R = (false, at2, gs2.map GG.grp)) := hR
        clear hR
        rw [show leafV none = .tuple #[.agg #[.int .u8 0, .string ⟨#[]⟩, .int .u8 0, .int .u8 0, .int .i64 0, .int .i64 0, .slice none 0 0], .bool false] from rfl] at HLF
        go_wp2_with fail
        refine HST2.out.mono ?_
        rintro e w3 ⟨rfl, m3, rfl⟩
        have hP1 := HPK.out.later (below_drewN (Below.refl _ _) m3)
        generalize (wr.alloc (.cells #[.int .u8 5, .int .u8 7] 5)).drewN m3 = W1 at *
        have HP1 := Lib.hid hP1
        clear hP1 HST2 HPK
        go_wp2_with fail
        refine (HLF.out W1 HP1.out.s).mono ?_
        rintro e w5 ⟨rfl, hrd5, ho5⟩
        have hP2 := HP1.out.later ((Below.refl _ _).alloc (Nat.le_refl _) (.cells #[.int .u8 1, .int .u8 10, .int .u8 11, .int .u8 12] 5))
        have hs5 := hP2.s.only ho5 hrd5 (Nat.le_refl _)
        have hP5 := hP2.step HXT.out hs5 (Kept.of_only ho5 hP2.s.hbase) (fun b hl hF => ho5.block b hl (fun e => hF (by rw [Option.some.inj e]; simp)))
        have HP5 := Lib.hid hP5
        clear hP5 hs5 hP2 ho5 hrd5 HLF
        go_wp2
        go_ret
        refine ⟨by simp [HR2.out], ?_⟩
        rw [HR2.out]
        have hP6 := HP5.out.later ((Below.refl _ _).alloc (Nat.le_refl _) (.cells #[.int .u8 0, .string ⟨#[]⟩, .int .u8 0, .int .u8 0, .int .i64 0, .int .i64 0, .slice none 0 0] 25))
        exact ⟨⟨ob2, oc2, gs2, hP6.s.forget, rfl⟩, hP6.kept, hP6.own⟩
      | some t =>
        have HR2 : Hid (R = (true, at2 + 1, onTop (addG (repeatP tm t)) (gs2.map GG.grp))) := hR
        have htk := HLT.out t rfl
        have hlt := HLTN.out t rfl
        rw [HLEN.out] at hlt
        clear hR
        unfold leafV treeV noKids at HLF
        go_wp2_with fail
        refine HST2.out.mono ?_
        rintro e w3 ⟨rfl, m3, rfl⟩
        have hP1 := HPK.out.later (below_drewN (Below.refl _ _) m3)
        generalize (wr.alloc (.cells #[.int .u8 5, .int .u8 7] 5)).drewN m3 = W1 at *
        have HP1 := Lib.hid hP1
        clear hP1 HST2 HPK
        go_wp2_with fail
        refine (HLF.out W1 HP1.out.s).mono ?_
        rintro e w5 ⟨rfl, hrd5, ho5⟩
        have hP2 := HP1.out.later ((Below.refl _ _).alloc (Nat.le_refl _) (.cells #[.int .u8 1, .int .u8 10, .int .u8 11, .int .u8 12] 5))
        have hs5 := hP2.s.only ho5 hrd5 (Nat.le_succ _)
        have hP5 := hP2.step HXT.out hs5 (Kept.of_only ho5 hP2.s.hbase) (fun b hl hF => ho5.block b hl (fun e => hF (by rw [Option.some.inj e]; simp)))
        have hB6 : Blk (w5.alloc (.cells #[.int .u8 t.kind, .string (bs t.text), .int .u8 t.lo, .int .u8 t.hi, .int .i64 t.mn, .int .i64 t.mx, .slice none 0 0] 25)) w5.heap.size 25 #[.int .u8 t.kind, .string (bs t.text), .int .u8 t.lo, .int .u8 t.hi, .int .i64 t.mn, .int .i64 t.mx, .slice none 0 0] := Blk.new _ _ _
        have hP6 := hP5.later ((Below.refl _ _).alloc (Nat.le_refl _) (.cells #[.int .u8 t.kind, .string (bs t.text), .int .u8 t.lo, .int .u8 t.hi, .int .i64 t.mn, .int .i64 t.mx, .slice none 0 0] 25))
        have hlt5 := hP5.blk.lt
        have HP6 := Lib.hid hP6
        have HB6 := Lib.hid hB6
        have hcT := hP5.blk.cell
        clear hP5 hs5 hP2 ho5 hrd5 HLF hP6 hB6
        obtain ⟨gi, g, hgs⟩ : ∃ gi g, gs2 = gi ++ [g] := by
          rcases List.eq_nil_or_concat gs2 with e | ⟨gi, g, e⟩
          · exact absurd e HNE.out
          · exact ⟨gi, g, by rw [e, List.concat_eq_append]⟩
        subst hgs
        have hfewg := HP6.out.s.few g (by simp)
        have HREP := Lib.hid (repeat_any (w5.alloc (.cells #[.int .u8 t.kind, .string (bs t.text), .int .u8 t.lo, .int .u8 t.hi, .int .i64 t.mn, .int .i64 t.mx, .slice none 0 0] 25)) (Done (T :: ex) r ob2 (gi ++ [g])) tm t noKids HTT.out (by rw [htk.1]; exact .nil _ _) htk.2 (fun b hb => HP6.out.s.done_new hb))
        have hfewg0 := HP.out.s.few g (by simp)
        have HADD := Lib.hid (fun (W' : World) (hs : SAt W' r base (T :: ex) A n c toks (at2 + 1) ob2 oc2 (gi ++ [g])) (x : Tr) (sl : Value) hk ht => add_any W' r base (T :: ex) A n c toks (at2 + 1) ob2 oc2 gi g hs x sl hk ht (by omega))
        unfold Repeated at HREP
        unfold treeV noKids at HREP
        unfold treeV at HADD
        generalize repeatP tm t = RT at *
        go_wp2_with fail
        refine HREP.out.mono ?_
        rintro e w7 ⟨sl, rfl, hk7, ht7, hb7⟩
        have hP7 := HP6.out.later hb7
        have HP7 := Lib.hid hP7
        clear hP7
        go_wp2_with fail
        refine (HADD.out w7 HP7.out.s RT sl hk7 ht7).mono ?_
        rintro e w8 ⟨rfl, ⟨g8, h8, hg8⟩, hb8, hs8⟩
        have hP8 := HP7.out.step HXT.out h8 (Kept.of_below hb8) hs8
        have HP8 := Lib.hid hP8
        have HG8 := Lib.hid hg8
        clear hP8 hg8 hb8 hs8 h8 HREP HADD hcT
        go_wp2
        go_ret
        refine ⟨by simp [HR2.out], ?_⟩
        rw [HR2.out]
        refine ⟨⟨ob2, oc2, gi ++ [g8], HP8.out.s.forget, ?_⟩, HP8.out.kept, HP8.out.own⟩
        rw [List.map_append, List.map_append, List.map_cons, List.map_nil, List.map_cons, List.map_nil, onTop_snoc, HG8.out]
end Go.Proofs.YtodenbimeojgdaaGreatDoor

/-
  Plain facts on the parser's way through choices, and how its groups begin. No conditions.
-/
namespace Go.Proofs.YtodenbimeojgdaaGreatDoor
open Go.RowKit

theorem onTop_ne (f : Grp → Grp) (st : List Grp) (h : st ≠ []) : onTop f st ≠ [] := by
  rcases List.eq_nil_or_concat st with e | ⟨a, b, e⟩
  · exact absurd e h
  · rw [e, List.concat_eq_append, onTop_snoc]
    simp
theorem partF_step (l : List Tk) : ∀ (f at_ : Nat) (tm : Tr) (st : List Grp), st ≠ [] → at_ ≤ (partF l f at_ tm st).2.1 ∧ ((partF l f at_ tm st).1 = true → at_ < (partF l f at_ tm st).2.1) ∧ (partF l f at_ tm st).2.2 ≠ [] := by
  intro f
  induction f with
  | zero => intro at_ tm st h; exact ⟨Nat.le_refl _, (fun h => by cases h), h⟩
  | succ f ih =>
    intro at_ tm st h
    rw [partF]
    split
    · have h1 := ih (howP l (at_ + 1)).2 (howP l (at_ + 1)).1 (st ++ [openG l at_ tm]) (by simp)
      have h2 := (howP_tree l (at_ + 1)).2.2
      exact ⟨by omega, fun _ => by omega, h1.2.2⟩
    · split
      · exact ⟨Nat.le_refl _, (fun h => by cases h), h⟩
      · exact ⟨Nat.le_succ _, fun _ => Nat.lt_succ_self _, onTop_ne _ _ h⟩
theorem partP_step (l : List Tk) (at_ : Nat) (st : List Grp) (h : st ≠ []) : ((partP l at_ st).1 = true → at_ < (partP l at_ st).2.1) ∧ (partP l at_ st).2.2 ≠ [] := by
  have h1 := partF_step l (l.length + 1) (howP l at_).2 (howP l at_).1 st h
  have h2 := (howP_tree l at_).2.2
  exact ⟨fun hh => by have := h1.2.1 hh; unfold partP; omega, h1.2.2⟩
theorem topG_snoc (st : List Grp) (g : Grp) : topG (st ++ [g]) = g := by simp [topG]
theorem shutF_no {l : List Tk} {f at_ : Nat} {st : List Grp} (h : standsP l at_ [(topG st).shut] = false) : shutF l (f + 1) at_ st = (none, at_, st) := by
  rw [shutF, if_neg (by simp [h])]
theorem shutF_last {l : List Tk} {f at_ : Nat} {g : Grp} (h : standsP l at_ [g.shut] = true) : shutF l (f + 1) at_ [g] = (some (wholeP g), at_ + 1, []) := by
  rw [shutF, if_pos (by simpa [topG] using h)]
  rfl
theorem shutF_go {l : List Tk} {f at_ : Nat} {st : List Grp} {g : Grp} (h : standsP l at_ [g.shut] = true) (hst : st ≠ []) : shutF l (f + 1) at_ (st ++ [g]) = shutF l f (at_ + 1) (onTop (addG (wholeP g)) st) := by
  rw [shutF, topG_snoc, if_pos h, List.dropLast_concat, if_neg (by intro e; exact hst (List.eq_nil_of_length_eq_zero e))]
theorem choicesF_no {l : List Tk} {f at_ : Nat} {st : List Grp} (h : (partP l at_ st).1 = false) : choicesF l (f + 1) at_ st = (none, (partP l at_ st).2.1) := by
  rw [choicesF, if_neg (by simp [h])]
/-- what comes behind the groups that end -/
def behindShut (l : List Tk) (f : Nat) : Option Tr × Nat × List Grp → Option Tr × Nat
  | (some t, at2, _) => (some t, at2)
  | (none, at2, st2) => if standsP l at2 [4] = true then choicesF l f (at2 + 1) (onTop endRowP st2) else choicesF l f at2 st2
theorem choicesF_go {l : List Tk} {f at_ : Nat} {st : List Grp} (h : (partP l at_ st).1 = true) : choicesF l (f + 1) at_ st = behindShut l f (shutP l (partP l at_ st).2.1 (partP l at_ st).2.2) := by
  rw [choicesF, if_pos h]
  rcases hs : shutP l (partP l at_ st).2.1 (partP l at_ st).2.2 with ⟨o, a, s⟩
  cases o <;> rfl

/-- the first group -/
theorem SAt.start (w : World) (r : Nat) (ex : List Nat) (A : Option Addr) (n c : Nat) (toks : List Tk) (at_ : Nat) (vo : Value) (h : Rd w r A n c toks at_ vo) (hlv : LeavesAt w) (hgr : 3 < r) (hex : ∀ b ∈ ex, b < w.heap.size) (hT : Obj) :
    SAt (((w.alloc hT).alloc (.cells (gCells (newGG 13 noTree)).toArray 154)).setCell ⟨r, 2, none⟩ (.slice (some ⟨w.heap.size + 1, 0, none⟩) 1 1)) r w.heap.size (w.heap.size :: ex) A n c toks at_ (w.heap.size + 1) 1 [newGG 13 noTree] ∧
    Only r w (((w.alloc hT).alloc (.cells (gCells (newGG 13 noTree)).toArray 154)).setCell ⟨r, 2, none⟩ (.slice (some ⟨w.heap.size + 1, 0, none⟩) 1 1)) := by
  have hrl := h.blk.lt
  have hb : Below w.heap.size w ((w.alloc hT).alloc (.cells (gCells (newGG 13 noTree)).toArray 154)) := ((Below.refl _ _).alloc (Nat.le_refl _) _).alloc (by simp) _
  have ho : Only r w (((w.alloc hT).alloc (.cells (gCells (newGG 13 noTree)).toArray 154)).setCell ⟨r, 2, none⟩ (.slice (some ⟨w.heap.size + 1, 0, none⟩) 1 1)) := (Only.of_below hb).set 2 _
  have hown0 := World.ownsRow_lit (base := w.heap.size) (e := 154) (size := 10) (w.alloc hT) (gCells (newGG 13 noTree)).toArray 1 (by simp) (by unfold maxLen; omega) rfl
  rw [show (w.alloc hT).heap.size = w.heap.size + 1 from by simp] at hown0
  have how : owned (w.heap.size + 1) [newGG 13 noTree] = [w.heap.size + 1] := rfl
  refine ⟨⟨⟨(h.blk.below hb hrl).set_ 2 _, h.row.only ho h.far, h.len, h.far, h.le, h.most⟩, ?_, ?_, ?_, hrl, by simp [World.setCell]; omega, hlv.only ho hgr, hgr, ?_, by simp, ?_, ?_⟩, ho⟩
  · refine ownsRow_same hown0 (fun b hbl => ?_)
    have : w.heap.size + 1 = b := by simpa [Value.ownBlock] using hbl
    subst this
    exact Below.heap_setCell _ _ _ _ (by simp only; omega)
  · intro g hg
    have : g = newGG 13 noTree := by simpa using hg
    subst this
    exact ⟨World.ownsRow_nil _ _ _ _, World.ownsRow_nil _ _ _ _, fun p hp => (by cases hp), fun p hp => (by cases hp), rfl, Nat.zero_le _⟩
  · rw [how]
    simp
    omega
  · intro g hg
    have : g = newGG 13 noTree := by simpa using hg
    subst this
    exact Nat.zero_le _
  · intro b hin
    have hsz : w.heap.size + 2 = (((w.alloc hT).alloc (.cells (gCells (newGG 13 noTree)).toArray 154)).setCell ⟨r, 2, none⟩ (.slice (some ⟨w.heap.size + 1, 0, none⟩) 1 1)).heap.size := by simp [World.setCell]
    rw [← hsz]
    rcases List.mem_cons.1 hin with e | hin
    · omega
    · have := hex b hin; omega
  · intro b hin hin2
    rw [how] at hin2
    have : b = w.heap.size + 1 := by simpa using hin2
    rcases List.mem_cons.1 hin with e | hin
    · omega
    · have := hex b hin; omega
end Go.Proofs.YtodenbimeojgdaaGreatDoor

/-
  The contract of the parser's choices. Conditions: the reader, the tokens and the table of leaves lie in memory; texts of at most 65536 bytes.
-/
namespace Go.Proofs.YtodenbimeojgdaaGreatDoor
open Go.RowKit

theorem PartIn.behind {w wr w' : World} {r base T : Nat} {ex : List Nat} {A : Option Addr} {n c : Nat} {toks : List Tk} {at_ ob oc at2 : Nat} {gs : List GG} {st2 : List Grp} {tm : Tr} (h : PartIn w r base T ex A n c toks at_ ob oc gs tm wr) (hB : Behind wr r base (T :: ex) A n c toks at2 st2 w') :
    ∃ ob2 oc2 gs2, PartIn w r base T ex A n c toks at2 ob2 oc2 gs2 tm w' ∧ gs2.map GG.grp = st2 := by
  obtain ⟨⟨ob2, oc2, gs2, hs, hg⟩, hk, ho⟩ := hB
  exact ⟨ob2, oc2, gs2, ⟨hs, (ho T (by simp)).trans h.blk, h.kept.trans hk, fun b hb => (ho b (List.mem_cons.2 (.inr hb))).trans (h.own b hb), h.hT⟩, hg⟩

theorem Kept.only {r : Nat} {w w' : World} (h : Kept w.heap.size r w w') : Only r w w' := ⟨h.os, h.tape, h.output, h.size, fun k hk hr => h.block k hk (fun e => hr (by rw [e]))⟩
/-- what choices hands back -/
def ChoVal (ex : List Nat) (r : Nat) : Option Tr → Ending → World → Prop
  | none, e, _ => e = .returned (.tuple #[treeV noTree noKids, .bool false])
  | some t, e, w' => ∃ sl, e = .returned (.tuple #[treeV t sl, .bool true]) ∧ KidsAt w' (fun b => b ∉ ex ∧ b ≠ r) t.kids sl ∧ t.text.length ≤ maxLen
def ChoOut (w : World) (r : Nat) (ex : List Nat) (A : Option Addr) (n c : Nat) (toks : List Tk) (R : Option Tr × Nat) (e : Ending) (w' : World) : Prop :=
  (∃ vo, Rd w' r A n c toks R.2 vo) ∧ Only r w w' ∧ ChoVal ex r R.1 e w'

set_option maxRecDepth 100000 in
set_option maxHeartbeats 1600000 in
theorem choices_any (w : World) (r : Nat) (ex : List Nat) (A : Option Addr) (n c : Nat) (toks : List Tk) (at_ : Nat) (vo : Value) (h : Rd w r A n c toks at_ vo) (hlv : LeavesAt w) (hgr : 3 < r) (hx : r ∉ ex) (hex : ∀ b ∈ ex, b < w.heap.size) (hsh : Short toks) :
    Calls Tryz.prog 69 #[.pointer (some ⟨r, 0, none⟩)] w fun e w' => ChoOut w r ex A n c toks (choicesP toks at_) e w' := by
  have HR0 : Hid (choicesP toks at_ = choicesF toks (toks.length + 1) at_ [firstG]) := show _ = _ from rfl
  generalize choicesP toks at_ = R at *
  have hst := SAt.start w r ex A n c toks at_ vo h hlv hgr hex (.cells #[.int .u8 0, .string ⟨#[]⟩, .int .u8 0, .int .u8 0, .int .i64 0, .int .i64 0, .slice none 0 0] 25)
  have hrl := h.blk.lt
  have hcr := h.blk.cell
  have hfr := h.blk.frozen
  have hlen := h.len
  have hmost := h.most
  have hB0 : Blk (((w.alloc (.cells #[.int .u8 0, .string ⟨#[]⟩, .int .u8 0, .int .u8 0, .int .i64 0, .int .i64 0, .slice none 0 0] 25)).alloc (.cells (gCells (newGG 13 noTree)).toArray 154)).setCell ⟨r, 2, none⟩ (.slice (some ⟨w.heap.size + 1, 0, none⟩) 1 1)) w.heap.size 25 #[.int .u8 0, .string ⟨#[]⟩, .int .u8 0, .int .u8 0, .int .i64 0, .int .i64 0, .slice none 0 0] :=
    ((Blk.new w 25 _).alloc _).other (by simp only; omega) _
  have hP0 : PartIn w r w.heap.size w.heap.size ex A n c toks at_ (w.heap.size + 1) 1 [newGG 13 noTree] noTree (((w.alloc (.cells #[.int .u8 0, .string ⟨#[]⟩, .int .u8 0, .int .u8 0, .int .i64 0, .int .i64 0, .slice none 0 0] 25)).alloc (.cells (gCells (newGG 13 noTree)).toArray 154)).setCell ⟨r, 2, none⟩ (.slice (some ⟨w.heap.size + 1, 0, none⟩) 1 1)) :=
    ⟨hst.1, hB0, Kept.of_only hst.2 (Nat.le_refl _), fun b hb => hst.2.block b (hex b hb) (fun e => hx (by rw [← Option.some.inj e]; exact hb)), Nat.le_refl _⟩
  rw [World.setCell_alloc_past _ _ _ _ (by simp; omega), World.setCell_alloc_past _ _ _ _ hrl] at hP0
  have HP0 := Lib.hid hP0
  have HX := Lib.hid hx
  have HSH := Lib.hid hsh
  have HLEN := Lib.hid hlen
  have HXT : Hid (r ∉ w.heap.size :: ex) := fun hin => by
    rcases List.mem_cons.1 hin with e | hin
    · omega
    · exact hx hin
  have HTX : Hid (w.heap.size ∉ ex) := fun hin => by have := hex _ hin; omega
  clear hst hB0 hP0 h hlv hx hsh hlen hex
  go_enter Tryz.func69, Tryz.ntmps69
  go_wp2_with fail
  have HPW : Hid (PartIn w r w.heap.size w.heap.size ex A n c toks at_ (w.heap.size + 1) 1 [newGG 13 noTree] noTree (((w.setCell ⟨r, 2, none⟩ (.slice (some ⟨w.heap.size + 1, 0, none⟩) 1 1)).alloc (.cells #[.int .u8 0, .string ⟨#[]⟩, .int .u8 0, .int .u8 0, .int .i64 0, .int .i64 0, .slice none 0 0] 25)).alloc (.cells #[.int .u8 13, .int .u8 0, .string ⟨#[]⟩, .int .u8 0, .int .u8 0, .int .i64 0, .int .i64 0, .slice none 0 0, .slice none 0 0, .slice none 0 0] 154))) := HP0.out
  clear HP0
  generalize ((w.setCell ⟨r, 2, none⟩ (.slice (some ⟨w.heap.size + 1, 0, none⟩) 1 1)).alloc (.cells #[.int .u8 0, .string ⟨#[]⟩, .int .u8 0, .int .u8 0, .int .i64 0, .int .i64 0, .slice none 0 0] 25)).alloc (.cells #[.int .u8 13, .int .u8 0, .string ⟨#[]⟩, .int .u8 0, .int .u8 0, .int .i64 0, .int .i64 0, .slice none 0 0, .slice none 0 0, .slice none 0 0] 154) = W0 at *
  clear hcr hfr
  go_loopw [11] (fun _ wr => ∃ (at2 f ob2 oc2 : Nat) (gs2 : List GG), Hid (PartIn w r w.heap.size w.heap.size ex A n c toks at2 ob2 oc2 gs2 noTree wr) ∧ n < f + at2 ∧ at2 ≤ n ∧ Hid (gs2 ≠ []) ∧ Hid (R = choicesF toks f at2 (gs2.map GG.grp))) (fun _ wr => n - atOf r wr)
  case atStart => exact ⟨at_, toks.length + 1, w.heap.size + 1, 1, [newGG 13 noTree], HPW, by rw [HLEN.out]; omega, HPW.out.s.rd.le, (show _ ≠ _ from by simp), HR0⟩
  case round =>
    clear HPW HR0
    obtain ⟨at2, f, ob2, oc2, gs2, HP, hf, hle, HNE, HR⟩ := hrel
    have HPA := Lib.hid (part_any wr r w.heap.size (w.heap.size :: ex) A n c toks at2 ob2 oc2 gs2 HP.out.s HNE.out HXT.out HSH.out)
    have HPS := Lib.hid (partP_step toks at2 (gs2.map GG.grp) (by simpa using HNE.out))
    obtain ⟨f, rfl⟩ : ∃ f', f = f' + 1 := ⟨f - 1, by omega⟩
    cases hpp : (partP toks at2 (gs2.map GG.grp)).1 with
    | false =>
      have hR := HR.out
      rw [choicesF_no hpp] at hR
      have HR2 := Lib.hid hR
      rw [hpp] at HPA
      clear hR hpp HR HPS
      generalize partP toks at2 (gs2.map GG.grp) = PP at *
      go_wp2_with fail
      refine HPA.out.mono ?_
      rintro e w1 ⟨rfl, hB⟩
      obtain ⟨ob3, oc3, gs3, hP1, _⟩ := HP.out.behind hB
      have hcs := hP1.blk.cell
      have hfs := hP1.blk.frozen
      have HP1 := Lib.hid hP1
      clear hP1 hB HPA
      go_wp2
      refine bodyPost_ret (v := .tuple #[treeV noTree noKids, .bool false]) ?_ rfl ?_
      · simp [results, Tryz.results69, go_sem, hcs]
        rfl
      · have hP2 := HP1.out.put HTX.out noTree
        unfold put7 at hP2
        refine ⟨⟨_, by rw [HR2.out]; exact hP2.s.rd⟩, hP2.kept.only, ?_⟩
        rw [HR2.out]
        rfl
    | true =>
      have hR := HR.out
      rw [choicesF_go hpp] at hR
      have HR2 := Lib.hid hR
      have hadv := HPS.out.1 hpp
      rw [hpp] at HPA
      have HNE2 := Lib.hid HPS.out.2
      clear hR hpp HR HPS
      generalize partP toks at2 (gs2.map GG.grp) = PP at *
      obtain ⟨pb, at3, st3⟩ := PP
      simp only at hadv HPA HR2 HNE2
      have HSP : Hid (shutP toks at3 st3 = shutF toks (toks.length + 1) at3 st3) := show _ = _ from rfl
      generalize shutP toks at3 st3 = SP at *
      go_wp2_with fail
      refine HPA.out.mono ?_
      rintro e w1 ⟨rfl, hB⟩
      obtain ⟨ob3, oc3, gs3, hP1, hg3⟩ := HP.out.behind hB
      have HP1 := Lib.hid hP1
      have hle3 := hP1.s.rd.le
      have HNE3 : Hid (gs3 ≠ []) := show _ ≠ _ from by intro e; subst e; exact HNE2.out hg3.symm
      have HSP3 : Hid (SP = shutF toks (toks.length + 1) at3 (gs3.map GG.grp)) := by show SP = _; rw [hg3]; exact HSP.out
      have HA : Hid (atOf r wr = at2) := HP.out.s.atOf_
      clear hP1 hB HPA hg3 HSP HNE2 HP HNE
      go_wp2_with fail
      go_loopw [19] (fun _ wx => ∃ (at4 f4 ob4 oc4 : Nat) (gs4 : List GG), Hid (PartIn w r w.heap.size w.heap.size ex A n c toks at4 ob4 oc4 gs4 noTree wx) ∧ n < f4 + at4 ∧ at3 ≤ at4 ∧ at4 ≤ n ∧ Hid (gs4 ≠ []) ∧ Hid (SP = shutF toks f4 at4 (gs4.map GG.grp))) (fun _ wx => n - atOf r wx)
      case atStart => exact ⟨at3, toks.length + 1, ob3, oc3, gs3, HP1, by rw [HLEN.out]; omega, Nat.le_refl _, hle3, HNE3, HSP3⟩
      case round =>
        clear HP1 HNE3 HSP3
        obtain ⟨at4, f4, ob4, oc4, gs4, HP4, hf4, h34, hle4, HNE4, HS4⟩ := hrel
        obtain ⟨gi, g, hgs⟩ : ∃ gi g, gs4 = gi ++ [g] := by
          rcases List.eq_nil_or_concat gs4 with e | ⟨gi, g, e⟩
          · exact absurd e HNE4.out
          · exact ⟨gi, g, by rw [e, List.concat_eq_append]⟩
        subst hgs
        obtain ⟨f4, rfl⟩ : ∃ f', f4 = f' + 1 := ⟨f4 - 1, by omega⟩
        have HIN := Lib.hid (inner_any wr r w.heap.size (w.heap.size :: ex) A n c toks at4 ob4 oc4 gi g HP4.out.s)
        have hmap : (gi ++ [g]).map GG.grp = gi.map GG.grp ++ [g.grp] := by simp
        have HMAP := Lib.hid hmap
        have HA4 : Hid (atOf r wr = at4) := HP4.out.s.atOf_
        clear hmap
        go_wp2_with fail
        refine HIN.out.mono ?_
        rintro e w5 ⟨rfl, m5, rfl⟩
        have hP5 := HP4.out.later (below_drewN (Below.refl _ _) m5)
        generalize wr.drewN m5 = W5 at *
        have c0 := hP5.s.top 0 (.int .u8 g.shut) rfl
        rw [Nat.add_zero] at c0
        have hP5k := hP5.later ((Below.refl _ _).alloc (Nat.le_refl _) (.cells #[.int .u8 g.shut] 5))
        have HST := Lib.hid (fun q hq => stands_at _ r A n c toks at4 _ hP5k.s.rd W5.heap.size 1 1 [g.shut] (kinds_new W5 [g.shut] #[.int .u8 g.shut] rfl 5) rfl (by omega) q hq)
        have HP5k := Lib.hid hP5k
        clear hP5 hP5k HIN
        cases hq : standsP toks at4 [g.shut] with
        | false =>
          have hs := HS4.out
          rw [HMAP.out, shutF_no (by rw [topG_snoc]; exact hq)] at hs
          have HS5 := Lib.hid hs
          have HST2 := Lib.hid (HST.out false hq)
          clear hs hq HST HS4
          go_wp2_with fail
          refine HST2.out.mono ?_
          rintro e w6 ⟨rfl, m6, rfl⟩
          have hP6 := HP5k.out.later (below_drewN (Below.refl _ _) m6)
          generalize (W5.alloc (.cells #[.int .u8 g.shut] 5)).drewN m6 = W6 at *
          have hP6k := hP6.later ((Below.refl _ _).alloc (Nat.le_refl _) (.cells #[.int .u8 4] 5))
          have HSO := Lib.hid (fun q hq => stands_at _ r A n c toks at4 _ hP6k.s.rd W6.heap.size 1 1 [4] (kinds_new W6 [4] #[.int .u8 4] rfl 5) rfl (by omega) q hq)
          have HP6k := Lib.hid hP6k
          clear hP6 hP6k HST2 HP5k c0
          cases hq2 : standsP toks at4 [4] with
          | false =>
            have HR3 : Hid (R = choicesF toks f at4 ((gi ++ [g]).map GG.grp)) := by
              show R = _
              rw [HR2.out, HS5.out, HMAP.out]
              show (if standsP toks at4 [4] = true then _ else _) = _
              rw [if_neg (by simp [hq2])]
            have HST3 := Lib.hid (HSO.out false hq2)
            clear HSO hq2
            go_wp2_with fail
            refine HST3.out.mono ?_
            rintro e w7 ⟨rfl, m7, rfl⟩
            have hP7 := HP6k.out.later (below_drewN (Below.refl _ _) m7)
            generalize (W6.alloc (.cells #[.int .u8 4] 5)).drewN m7 = W7 at *
            have HP7 := Lib.hid hP7
            have HM : Hid (∀ x, atOf r x = at2 → n - atOf r W7 < n - atOf r x) := by
              intro x hx
              rw [hP7.s.atOf_, hx]
              omega
            clear hP7 HST3 HP6k HP4
            go_wp2
            go_roundw
            case rel => exact ⟨at4, f, ob4, oc4, gi ++ [g], HP7, by omega, hle4, HNE4, HR3⟩
            case measure => exact HM.out _ HA.out
          | true =>
            have hlt4 : at4 < n := by have := standsP_lt hq2; rw [HLEN.out] at this; exact this
            have HR3 : Hid (R = choicesF toks f (at4 + 1) (gi.map GG.grp ++ [endRowP g.grp])) := by
              show R = _
              rw [HR2.out, HS5.out]
              show (if standsP toks at4 [4] = true then _ else _) = _
              rw [if_pos hq2, onTop_snoc]
            have HST3 := Lib.hid (HSO.out true hq2)
            clear HSO hq2
            go_wp2_with fail
            refine HST3.out.mono ?_
            rintro e w7 ⟨rfl, m7, rfl⟩
            have hP7 := HP6k.out.later (below_drewN (Below.refl _ _) m7)
            generalize (W6.alloc (.cells #[.int .u8 4] 5)).drewN m7 = W7 at *
            have hcr7 := hP7.s.rd.blk.cell
            have hfr7 := hP7.s.rd.blk.frozen
            have ho8 : Only r W7 (W7.setCell ⟨r, 1, none⟩ (.int .i64 ((at4 : Int) + 1))) := (Only.refl r W7).set 1 _
            have hs8 := hP7.s.only ho8 (hP7.s.rd.to (at2 := at4 + 1) ho8 (hP7.s.rd.blk.set_ 1 (.int .i64 ((at4 : Int) + 1))) (by omega)) (Nat.le_succ _)
            have hP8 := hP7.step HXT.out hs8 (Kept.of_only ho8 hP7.s.hbase) (fun b hl hF => ho8.block b hl (fun e => hF (by rw [Option.some.inj e]; simp)))
            have hfew := hP7.s.few g (by simp)
            have HP8 := Lib.hid hP8
            have HIN8 := Lib.hid (inner_any _ r w.heap.size (w.heap.size :: ex) A n c toks (at4 + 1) ob4 oc4 gi g hs8)
            clear hP7 HST3 HP6k HP4 hs8 hP8 ho8
            go_wp2_with fail
            refine HIN8.out.mono ?_
            rintro e w9 ⟨rfl, m9, rfl⟩
            have hP9 := HP8.out.later (below_drewN (Below.refl _ _) m9)
            generalize (W7.setCell ⟨r, 1, none⟩ (.int .i64 ((at4 : Int) + 1))).drewN m9 = W9 at *
            have HP9 := Lib.hid hP9
            have HER := Lib.hid (endRow_any W9 r w.heap.size (w.heap.size :: ex) A n c toks (at4 + 1) ob4 oc4 gi g hP9.s (by omega))
            clear hP9 HIN8 HP8 hcr7 hfr7
            go_wp2_with fail
            refine HER.out.mono ?_
            rintro e w10 ⟨rfl, ⟨g10, h10, hg10⟩, hb10, hs10⟩
            have hP10 := HP9.out.step HXT.out h10 (Kept.of_below hb10) hs10
            have HP10 := Lib.hid hP10
            have HM : Hid (∀ x, atOf r x = at2 → n - atOf r w10 < n - atOf r x) := by
              intro x hx
              rw [hP10.s.atOf_, hx]
              omega
            have HR4 : Hid (R = choicesF toks f (at4 + 1) ((gi ++ [g10]).map GG.grp)) := by
              show R = _
              rw [HR3.out, List.map_append, List.map_cons, List.map_nil, hg10]
            have HNE10 : Hid (gi ++ [g10] ≠ []) := show _ ≠ _ from by simp
            clear hP10 h10 hb10 hs10 HER HP9 hg10
            go_wp2
            go_roundw
            case rel => exact ⟨at4 + 1, f, ob4, oc4, gi ++ [g10], HP10, by omega, by omega, HNE10, HR4⟩
            case measure => exact HM.out _ HA.out
        | true =>
          have hlt4 : at4 < n := by have := standsP_lt hq; rw [HLEN.out] at this; exact this
          have HST2 := Lib.hid (HST.out true hq)
          have HSL : Hid (gi = [] → SP = (some (wholeP g.grp), at4 + 1, [])) := by
            intro e
            rw [HS4.out, HMAP.out, e]
            exact shutF_last hq
          have HSG : Hid (gi ≠ [] → SP = shutF toks f4 (at4 + 1) (onTop (addG (wholeP g.grp)) (gi.map GG.grp))) := by
            intro e
            rw [HS4.out, HMAP.out]
            exact shutF_go hq (by simpa using e)
          clear hq HST HS4
          have HFEW : Hid (∀ x ∈ gi ++ [g], x.rows.length + x.parts.length ≤ at4) := HP4.out.s.few
          generalize hwp : wholeP g.grp = WP at *
          go_wp2_with fail
          refine HST2.out.mono ?_
          rintro e w6 ⟨rfl, m6, rfl⟩
          have hP6 := HP5k.out.later (below_drewN (Below.refl _ _) m6)
          generalize (W5.alloc (.cells #[.int .u8 g.shut] 5)).drewN m6 = W6 at *
          have hcr6 := hP6.s.rd.blk.cell
          have hfr6 := hP6.s.rd.blk.frozen
          have ho7 : Only r W6 (W6.setCell ⟨r, 1, none⟩ (.int .i64 ((at4 : Int) + 1))) := (Only.refl r W6).set 1 _
          have hs7 := hP6.s.only ho7 (hP6.s.rd.to (at2 := at4 + 1) ho7 (hP6.s.rd.blk.set_ 1 (.int .i64 ((at4 : Int) + 1))) (by omega)) (Nat.le_succ _)
          have hP7 := hP6.step HXT.out hs7 (Kept.of_only ho7 hP6.s.hbase) (fun b hl hF => ho7.block b hl (fun e => hF (by rw [Option.some.inj e]; simp)))
          have HP7 := Lib.hid hP7
          have hfg := HFEW.out g (by simp)
          have HLV := Lib.hid (leave_any _ r w.heap.size (w.heap.size :: ex) A n c toks (at4 + 1) ob4 oc4 gi g hs7 (by omega))
          rw [hwp] at HLV
          have HWP := Lib.hid hwp
          clear hP6 hP7 hs7 ho7 HST2 HP5k c0 hwp HP4
          go_wp2_with fail
          refine HLV.out.mono ?_
          rintro e w8 ⟨sl, rfl, hs8, hk8, ht8, hkp8, hf8⟩
          obtain ⟨sp, sc, rfl, _⟩ := hk8.form
          generalize WP.kids.length = sn at *
          have hP8 := HP7.out.step HXT.out hs8 hkp8 hf8
          have c28 : w8.cell? ⟨r, 2, none⟩ = some (.slice (some ⟨ob4, 0, none⟩) gi.length oc4) := hs8.rd.blk.cell 2
          have hrl8 := hs8.rd.blk.lt
          have hcB8 := hP8.blk.cell
          have hfB8 := hP8.blk.frozen
          have hBlt8 := hP8.blk.lt
          have HP8 := Lib.hid hP8
          have HK8 := Lib.hid hk8
          unfold treeV
          clear hP8 hs8 hk8 hkp8 hf8 HLV HP7 hcr6 hfr6
          by_cases hgi : gi = []
          · subst hgi
            have hSP := HSL.out rfl
            have HR3 : Hid (R = (some WP, at4 + 1)) := by
              show R = _
              rw [HR2.out, hSP]
              rfl
            clear hSP HSL HSG
            simp only [List.length_nil] at c28
            go_wp2
            have hO : ChoOut w r ex A n c toks R (.returned (.tuple #[treeV WP (.slice sp sn sc), .bool true])) ((put7 w8 w.heap.size 0 WP (.slice sp sn sc)).alloc (.cells #[.int .u8 WP.kind, .string (bs WP.text), .int .u8 WP.lo, .int .u8 WP.hi, .int .i64 WP.mn, .int .i64 WP.mx, .slice sp sn sc] 25)) := by
              have hput : Only w.heap.size w8 (put7 w8 w.heap.size 0 WP (.slice sp sn sc)) := by
                unfold put7
                iterate 7 refine Only.set ?_ _ _
                exact Only.refl _ _
              have hal : Below (put7 w8 w.heap.size 0 WP (.slice sp sn sc)).heap.size (put7 w8 w.heap.size 0 WP (.slice sp sn sc)) ((put7 w8 w.heap.size 0 WP (.slice sp sn sc)).alloc (.cells #[.int .u8 WP.kind, .string (bs WP.text), .int .u8 WP.lo, .int .u8 WP.hi, .int .i64 WP.mn, .int .i64 WP.mx, .slice sp sn sc] 25)) := (Below.refl _ _).alloc (Nat.le_refl _) _
              have hs9 := (HP8.out.s.aside hput (by simp) (Nat.le_refl _)).later hal
              have hk9 : Kept w.heap.size r w ((put7 w8 w.heap.size 0 WP (.slice sp sn sc)).alloc (.cells #[.int .u8 WP.kind, .string (bs WP.text), .int .u8 WP.lo, .int .u8 WP.hi, .int .i64 WP.mn, .int .i64 WP.mx, .slice sp sn sc] 25)) := HP8.out.kept.trans ((Kept.of_below (put7_below (Below.refl _ _) _ _ _ _ (Nat.le_refl _))).trans (Kept.of_below (hal.mono (by rw [put7_size]; exact HP8.out.s.hbase))))
              refine ⟨⟨_, by rw [HR3.out]; exact hs9.rd⟩, hk9.only, ?_⟩
              rw [HR3.out]
              refine ⟨_, rfl, ?_, ht8⟩
              refine KidsAt.same ?_ hal
              refine HK8.out.later (by rw [put7_size]; exact Nat.le_refl _) (fun b _ hF => ⟨⟨fun hin => hF.1 (List.mem_cons.2 (.inr hin)), fun e => hF.2 (by rw [e]; simp)⟩, put7_block _ _ _ _ _ _ (fun e => hF.1 (by rw [e]; simp))⟩)
            unfold put7 at hO
            refine bodyPost_ret (v := .tuple #[treeV WP (.slice sp sn sc), .bool true]) ?_ rfl ?_
            · simp [results, Tryz.results69, go_sem, hcB8, hBlt8]
              rfl
            · exact hO
          · have HSP := Lib.hid (HSG.out hgi)
            have hb0 : ((gi.length : Int) == 0) = false := by
              rw [beq_eq_false_iff_ne]
              intro e
              exact hgi (List.eq_nil_of_length_eq_zero (by omega))
            clear HSL HSG
            obtain ⟨gj, g2, hgj⟩ : ∃ gj g2, gi = gj ++ [g2] := by
              rcases List.eq_nil_or_concat gi with e | ⟨gj, g2, e⟩
              · exact absurd e hgi
              · exact ⟨gj, g2, by rw [e, List.concat_eq_append]⟩
            subst hgj
            have hfg2 := HFEW.out g2 (by simp)
            have hP9 := HP8.out.later ((Below.refl _ _).alloc (Nat.le_refl _) (.cells #[.int .u8 WP.kind, .string (bs WP.text), .int .u8 WP.lo, .int .u8 WP.hi, .int .i64 WP.mn, .int .i64 WP.mx, .slice sp sn sc] 25))
            have hk9 := HK8.out.same ((Below.refl _ _).alloc (Nat.le_refl _) (.cells #[.int .u8 WP.kind, .string (bs WP.text), .int .u8 WP.lo, .int .u8 WP.hi, .int .i64 WP.mn, .int .i64 WP.mx, .slice sp sn sc] 25))
            have HADD := Lib.hid (add_any _ r w.heap.size (w.heap.size :: ex) A n c toks (at4 + 1) ob4 oc4 gj g2 hP9.s WP (.slice sp sn sc) hk9 ht8 (by omega))
            have HP9 := Lib.hid hP9
            unfold treeV at HADD
            clear hP9 hk9 hgi
            generalize (gj ++ [g2]).length = gl at *
            go_wp2_with fail
            refine HADD.out.mono ?_
            rintro e w10 ⟨rfl, ⟨g10, h10, hg10⟩, hb10, hs10⟩
            have hP10 := HP9.out.step HXT.out h10 (Kept.of_below hb10) hs10
            have HP10 := Lib.hid hP10
            have HM : Hid (∀ x, atOf r x = at4 → n - atOf r w10 < n - atOf r x) := by
              intro x hx
              rw [hP10.s.atOf_, hx]
              omega
            have HS10 : Hid (SP = shutF toks f4 (at4 + 1) ((gj ++ [g10]).map GG.grp)) := by
              show SP = _
              rw [HSP.out, List.map_append, List.map_append, List.map_cons, List.map_nil, List.map_cons, List.map_nil, onTop_snoc, hg10]
            have HNE10 : Hid (gj ++ [g10] ≠ []) := show _ ≠ _ from by simp
            clear hP10 h10 hb10 hs10 HADD HP9 hg10 HP8 HK8 hcB8 hfB8 c28
            go_wp2
            go_roundw
            case rel => exact ⟨at4 + 1, f4, ob4, oc4, gj ++ [g10], HP10, by omega, by omega, by omega, HNE10, HS10⟩
            case measure => exact HM.out _ HA4.out
end Go.Proofs.YtodenbimeojgdaaGreatDoor
