/-
  The contracts of table.readerOf, table.count.whole; a table that is being filled in memory. Conditions: the bytes lie in memory.
-/
import Derived.Test.YtkgfjapflpjdbaaTbS
import Derived.Test.YtkgfjapflpjdbaaTbN
import Derived.Laws.CopyRow
import Derived.Laws.IdiomCopy
import Derived.Laws.Tables
namespace Go.Proofs.Ytkgfjapflpjdbaa
open Go.RowKit Go.Shelf

set_option maxHeartbeats 1000000 in
theorem readerOf_any (a : Option Addr) (l : List UInt8) (c : Nat) (w : World) (hl : l.length ≤ maxLen) :
    Calls Try.prog 27 #[.slice a l.length c] w fun e w' => e = .returned (.pointer (some ⟨w.heap.size, 0, none⟩)) ∧ w' = w.alloc (.cells (rdCells l a c ⟨0, false⟩) 58) := by
  unfold maxLen at hl
  go_enter Try.func27, Try.ntmps27
  go_wp2
  go_ret
  exact ⟨rfl, rfl⟩
theorem RdIn.start {a : Option Addr} {l : List UInt8} {c : Nat} {w : World} (h : BytesAt w a l) (hc : l.length ≤ c) (hm : c ≤ maxLen) : RdIn (w.alloc (.cells (rdCells l a c ⟨0, false⟩) 58)) w.heap.size l a c ⟨0, false⟩ :=
  ⟨Blk.new _ _ _, RowAt.below h ((Below.refl _ _).alloc (Nat.le_refl _) _), hc, hm, Nat.zero_le _, fun h0 x hx => by
    obtain ⟨g, off, h1, h2, _⟩ := RowAt.row h (by simpa using h0)
    rw [hx] at h1
    injection h1 with h1
    rw [h1]
    show g ≠ w.heap.size
    omega⟩
set_option maxHeartbeats 1000000 in
theorem whole_any (w : World) (R : Nat) (l : List UInt8) (a : Option Addr) (c : Nat) (s : Rs) (h : RdIn w R l a c s) :
    Calls Try.prog 29 #[.pointer (some ⟨R, 0, none⟩)] w fun e w' => e = .returned (.bool (decide (s.at_ = l.length) && !s.short)) ∧ Below w.heap.size w w' := by
  have c0 : w.cell? ⟨R, 0, none⟩ = some (.int .i64 (s.at_ : Int)) := h.blk.cell 0
  have c1 : w.cell? ⟨R, 1, none⟩ = some (.int .i64 (l.length : Int)) := h.blk.cell 1
  have c2 : w.cell? ⟨R, 2, none⟩ = some (.bool s.short) := h.blk.cell 2
  clear h
  generalize hP : (decide (s.at_ = l.length) && !s.short) = P
  have HP := Lib.hid hP
  clear hP
  have HB : Hid (Below w.heap.size w w) := Below.refl _ _
  by_cases h : s.at_ = l.length
  · have hd : ((s.at_ : Int) == (l.length : Int)) = true := by simp; omega
    have HE : Hid (P = !s.short) := by show _ = _; rw [← HP.out, decide_eq_true h]; rfl
    clear h HP
    go_enter Try.func29, Try.ntmps29
    go_wp2
    go_quiet (fail)
    go_wp2
    go_ret
    exact ⟨ret_bool HE.out.symm, below_drewN HB.out nq⟩
  · have hd : ((s.at_ : Int) == (l.length : Int)) = false := by simp; omega
    have HE : Hid (P = false) := by show _ = _; rw [← HP.out, decide_eq_false h]; rfl
    clear h HP
    go_enter Try.func29, Try.ntmps29
    go_wp2
    go_quiet (fail)
    go_wp2
    go_ret
    exact ⟨ret_bool HE.out.symm, below_drewN HB.out nq⟩

/-! ### a table that is made, and stored, as a whole -/
def zeroTab : Tab := ⟨List.replicate 256 0, 0, 0, [], [], []⟩
def zeroLie : Lie := ⟨none, 0, none, 0, none, 0⟩
noncomputable def AllocOp (t : TypeId) (h : Bool) (v : Value) : Sem Value := Instr.alloc t h v
theorem allocOp_T (h : Bool) (v : Value) : Instr.alloc 30 h v = AllocOp 30 h v := rfl
noncomputable def StoreOp (t : TypeId) (p v : Value) : Sem Unit := Instr.storeAt t p v
theorem storeOp_T (p v : Value) : Instr.storeAt 30 p v = StoreOp 30 p v := rfl
noncomputable def BuildOp (t : TypeId) (ps : Array (Nat × Value)) : Sem Value := Instr.build t ps
theorem buildOp_T (ps : Array (Nat × Value)) : Instr.build 30 ps = BuildOp 30 ps := rfl
theorem zero_info : (Try.prog.info? 30).bind (·.zero) = some (.agg (tabCells zeroTab zeroLie).toArray) := by kernel_rfl
theorem table_size : (Try.prog.info? 30).map (·.size) = some 261 := by kernel_rfl
theorem alloc_run (W : World) (v : Value) : (AllocOp 30 true v).run Try.prog W = .ok (.pointer (some ⟨W.heap.size, 0, none⟩)) (W.alloc (.cells (tabCells zeroTab zeroLie).toArray 30)) := by
  unfold AllocOp Instr.alloc
  cases hi : Try.prog.info? 30 with
  | none => have := zero_info; rw [hi] at this; cases this
  | some i =>
    have hz : i.zero = some (.agg (tabCells zeroTab zeroLie).toArray) := by have := zero_info; rw [hi] at this; exact this
    simp [zeroValue, typeInfo, hi, hz, newVar, newRow, Value.cells]
theorem build_run (W : World) : (BuildOp 30 #[]).run Try.prog W = .ok (.agg (tabCells zeroTab zeroLie).toArray) W :=
  run_build W _ _ _ (by kernel_rfl)
theorem tab_one (t : Tab) (p : Lie) : ((tabCells t p).toArray).all (·.oneCell') = true := by
  rw [List.all_toArray, List.all_eq_true]
  intro v hv
  unfold tabCells clCells midCells at hv
  simp only [List.mem_append, List.mem_map, List.mem_cons, List.not_mem_nil, or_false] at hv
  rcases hv with (⟨b, _, rfl⟩ | rfl) | (rfl | rfl | rfl) | rfl <;> rfl
theorem store_run (W : World) (B : Nat) (old : Array Value) (t : Tab) (p : Lie) (hb : Blk W B 30 old) (ho : old.size = 261) (h : t.of.length = 256) :
    (StoreOp 30 (.pointer (some ⟨B, 0, none⟩)) (.agg (tabCells t p).toArray)).run Try.prog W = .ok () (W.setRow B (tabCells t p).toArray) := by
  unfold StoreOp
  simp only [Instr.storeAt, Instr.sureAddr, Sem.run_bind, Sem.run_pure, Result.andThen_ok]
  exact run_storeVar_row W B _ _ old _ hb (by rw [table_size, List.size_toArray, tab_len t p h]) (by rw [ho, List.size_toArray, tab_len t p h]) (tab_one t p)
theorem Only.setRow {R : Nat} {a w : World} (h : Only R a w) (g : Nat) (cs : Array Value) (hg : a.heap.size ≤ g) : Only R a (w.setRow g cs) :=
  ⟨h.os, h.tape, h.output, by have := h.size; simpa [World.setRow] using this, fun k hk hne => (setRow_other w g k cs (by omega)).trans (h.block k hk hne)⟩
theorem only_setRow (g : Nat) (w : World) (cs : Array Value) : Only g w (w.setRow g cs) :=
  ⟨rfl, rfl, rfl, by simp [World.setRow], fun k hk hne => setRow_other w g k cs (fun e => hne (by rw [e]))⟩
theorem only_set (g : Nat) (w : World) (j : Nat) (v : Value) : Only g w (w.setCell ⟨g, j, none⟩ v) := (Only.refl g w).set_ j v

/-- a table's lists lie from B on -/
structure LieFrom (B : Nat) (p : Lie) : Prop where
  an : ∀ x, p.an = some x → B ≤ x.block
  at_ : ∀ x, p.at_ = some x → B ≤ x.block
  ns : ∀ x, p.ns = some x → B ≤ x.block
/-- a table is being filled in block B + 1; block B waits for it -/
structure TbW (w W : World) (R B : Nat) (l : List UInt8) (a : Option Addr) (c : Nat) (s : Rs) (t : Tab) (p : Lie) : Prop where
  rd : RdIn W R l a c s
  only : Only R w W
  res : Blk W B 30 (tabCells zeroTab zeroLie).toArray
  var : Blk W (B + 1) 30 (tabCells t p).toArray
  tab : TabAt W t p
  pn : ∀ x, p.an = some x → B + 1 < x.block
  pt : ∀ x, p.at_ = some x → B + 1 < x.block ∧ FreeB W x.block
  ps : ∀ x, p.ns = some x → B + 1 < x.block
  lt : R < B
  le : B = w.heap.size
  apart : 0 < l.length → ∀ x, a = some x → x.block < B
theorem TbW.size {w W : World} {R B : Nat} {l : List UInt8} {a : Option Addr} {c : Nat} {s : Rs} {t : Tab} {p : Lie} (h : TbW w W R B l a c s t p) : B + 1 < W.heap.size := h.var.lt
theorem TabAt.only {w w' : World} {t : Tab} {p : Lie} {G : Nat} (h : TabAt w t p) (ho : Only G w w') (h1 : ∀ x, p.an = some x → x.block ≠ G) (h2 : ∀ x, p.at_ = some x → x.block ≠ G) (h3 : ∀ x, p.ns = some x → x.block ≠ G) : TabAt w' t p :=
  ⟨h.of, RowAt.only h.next ho (fun _ => h1), RowAt.only h.tags ho (fun _ => h2), RowAt.only h.names ho (fun _ => h3), h.each⟩
theorem TbW.call {w W W2 : World} {R B : Nat} {l : List UInt8} {a : Option Addr} {c : Nat} {s s2 : Rs} {t : Tab} {p : Lie} (h : TbW w W R B l a c s t p) (ho : Only R W W2) (hr : RdIn W2 R l a c s2) : TbW w W2 R B l a c s2 t p := by
  have hl := h.lt
  refine ⟨hr, h.only.trans ho, ho.blk h.res (by omega), ho.blk h.var (by omega), h.tab.only ho ?_ ?_ ?_, h.pn, fun x hx => ⟨(h.pt x hx).1, (h.pt x hx).2.only ho (by have := (h.pt x hx).1; omega)⟩, h.ps, h.lt, h.le, h.apart⟩
  · intro x hx; have := h.pn x hx; omega
  · intro x hx; have := (h.pt x hx).1; omega
  · intro x hx; have := h.ps x hx; omega
/-- block B + 1 is written -/
theorem TbW.wrote {w W W2 : World} {R B : Nat} {l : List UInt8} {a : Option Addr} {c : Nat} {s : Rs} {t t2 : Tab} {p p2 : Lie} (h : TbW w W R B l a c s t p) (ho : Only (B + 1) W W2) (ho2 : Only R w W2) (hv : Blk W2 (B + 1) 30 (tabCells t2 p2).toArray)
    (ht : TabAt W t2 p2) (pn : ∀ x, p2.an = some x → B + 1 < x.block) (pt : ∀ x, p2.at_ = some x → B + 1 < x.block ∧ FreeB W x.block) (ps : ∀ x, p2.ns = some x → B + 1 < x.block) : TbW w W2 R B l a c s t2 p2 := by
  have hl := h.lt
  refine ⟨h.rd.other ho (by omega) (fun h0 x hx => by have := h.apart h0 x hx; omega), ho2, ho.blk h.res (by omega), hv, ht.only ho ?_ ?_ ?_, pn, fun x hx => ⟨(pt x hx).1, (pt x hx).2.only ho (by have := (pt x hx).1; omega)⟩, ps, h.lt, h.le, h.apart⟩
  · intro x hx; have := pn x hx; omega
  · intro x hx; have := (pt x hx).1; omega
  · intro x hx; have := ps x hx; omega
theorem tail_set (t : Tab) (p : Lie) (h : t.of.length = 256) (j : Nat) (v : Value) : (tabCells t p).toArray.setIfInBounds (256 + j) v = (t.of.map byteV ++ ([intV t.many, intV t.dmany, .slice p.an t.next.length p.cn, .slice p.at_ t.tags.length p.ct, .slice p.ns t.names.length p.cs] : List Value).set j v).toArray := by
  unfold tabCells clCells midCells
  rw [List.setIfInBounds_toArray, List.append_assoc, List.set_append_right _ _ (by simp [h])]
  simp only [List.length_map, h, Nat.add_sub_cancel_left]
  rfl
theorem tab_spell (t : Tab) (p : Lie) : (tabCells t p).toArray = (t.of.map byteV ++ ([intV t.many, intV t.dmany, .slice p.an t.next.length p.cn, .slice p.at_ t.tags.length p.ct, .slice p.ns t.names.length p.cs] : List Value)).toArray := by
  unfold tabCells clCells midCells
  rw [List.append_assoc]
  rfl
theorem TbW.setNames {w W : World} {R B : Nat} {l : List UInt8} {a : Option Addr} {c : Nat} {s : Rs} {t : Tab} {p : Lie} (h : TbW w W R B l a c s t p) (a' : Option Addr) (ns : List (List UInt8)) (m : Nat) (hm : ns.length = m) (hn : TextsAt W a' ns) (hf : ∀ x, a' = some x → B + 1 < x.block) (he : ∀ s ∈ ns, s.length ≤ maxLen) :
    TbW w (W.setCell ⟨B + 1, 260, none⟩ (.slice a' m m)) R B l a c s { t with names := ns } { p with ns := a', cs := m } := by
  subst hm
  refine h.wrote (only_set _ _ _ _) (h.only.set_new _ _ _ (by have := h.le; omega)) ?_ ⟨h.tab.of, h.tab.next, h.tab.tags, hn, he⟩ h.pn h.pt hf
  have := h.var.set_ 260 (.slice a' ns.length ns.length)
  rw [show (260 : Nat) = 256 + 4 from rfl, tail_set t p h.tab.of 4] at this
  rw [tab_spell]
  exact this
theorem TbW.setTags {w W : World} {R B : Nat} {l : List UInt8} {a : Option Addr} {c : Nat} {s : Rs} {t : Tab} {p : Lie} (h : TbW w W R B l a c s t p) (a' : Option Addr) (c' : Nat) (ts : List Int) (hn : IntsAt W a' ts) (hf : ∀ x, a' = some x → B + 1 < x.block ∧ FreeB W x.block) :
    TbW w (W.setCell ⟨B + 1, 259, none⟩ (.slice a' ts.length c')) R B l a c s { t with tags := ts } { p with at_ := a', ct := c' } := by
  refine h.wrote (only_set _ _ _ _) (h.only.set_new _ _ _ (by have := h.le; omega)) ?_ ⟨h.tab.of, h.tab.next, hn, h.tab.names, h.tab.each⟩ h.pn hf h.ps
  have := h.var.set_ 259 (.slice a' ts.length c')
  rw [show (259 : Nat) = 256 + 3 from rfl, tail_set t p h.tab.of 3] at this
  rw [tab_spell]
  exact this
theorem TbW.setNext {w W : World} {R B : Nat} {l : List UInt8} {a : Option Addr} {c : Nat} {s : Rs} {t : Tab} {p : Lie} (h : TbW w W R B l a c s t p) (a' : Option Addr) (c' : Nat) (ts : List Int) (hn : IntsAt W a' ts) (hf : ∀ x, a' = some x → B + 1 < x.block) :
    TbW w (W.setCell ⟨B + 1, 258, none⟩ (.slice a' ts.length c')) R B l a c s { t with next := ts } { p with an := a', cn := c' } := by
  refine h.wrote (only_set _ _ _ _) (h.only.set_new _ _ _ (by have := h.le; omega)) ?_ ⟨h.tab.of, hn, h.tab.tags, h.tab.names, h.tab.each⟩ hf h.pt h.ps
  have := h.var.set_ 258 (.slice a' ts.length c')
  rw [show (258 : Nat) = 256 + 2 from rfl, tail_set t p h.tab.of 2] at this
  rw [tab_spell]
  exact this
theorem TbW.setMany {w W : World} {R B : Nat} {l : List UInt8} {a : Option Addr} {c : Nat} {s : Rs} {t : Tab} {p : Lie} (h : TbW w W R B l a c s t p) (m : Int) :
    TbW w (W.setCell ⟨B + 1, 256, none⟩ (.int .i64 m)) R B l a c s { t with many := m } p := by
  refine h.wrote (only_set _ _ _ _) (h.only.set_new _ _ _ (by have := h.le; omega)) ?_ ⟨h.tab.of, h.tab.next, h.tab.tags, h.tab.names, h.tab.each⟩ h.pn h.pt h.ps
  have := h.var.set_ 256 (.int .i64 m)
  rw [show (256 : Nat) = 256 + 0 from rfl, tail_set t p h.tab.of 0] at this
  rw [tab_spell]
  exact this
theorem TbW.setDmany {w W : World} {R B : Nat} {l : List UInt8} {a : Option Addr} {c : Nat} {s : Rs} {t : Tab} {p : Lie} (h : TbW w W R B l a c s t p) (m : Int) :
    TbW w (W.setCell ⟨B + 1, 257, none⟩ (.int .i64 m)) R B l a c s { t with dmany := m } p := by
  refine h.wrote (only_set _ _ _ _) (h.only.set_new _ _ _ (by have := h.le; omega)) ?_ ⟨h.tab.of, h.tab.next, h.tab.tags, h.tab.names, h.tab.each⟩ h.pn h.pt h.ps
  have := h.var.set_ 257 (.int .i64 m)
  rw [show (257 : Nat) = 256 + 1 from rfl, tail_set t p h.tab.of 1] at this
  rw [tab_spell]
  exact this
/-- the classes are copied in -/
theorem TbW.setOf {w W : World} {R B : Nat} {l : List UInt8} {a : Option Addr} {c : Nat} {s : Rs} {t : Tab} {p : Lie} (h : TbW w W R B l a c s t p) (o : List UInt8) (ho : o.length = 256) :
    TbW w (W.setRow (B + 1) ((tabCells t p).toArray.toList.take 0 ++ o.map byteV ++ (tabCells t p).toArray.toList.drop (0 + (o.map byteV).length)).toArray) R B l a c s { t with of := o } p := by
  refine h.wrote (only_setRow _ _ _) (h.only.setRow _ _ (by have := h.le; omega)) ?_ ⟨ho, h.tab.next, h.tab.tags, h.tab.names, h.tab.each⟩ h.pn h.pt h.ps
  have := setRow_heap W (B + 1) _ ((tabCells t p).toArray.toList.take 0 ++ o.map byteV ++ (tabCells t p).toArray.toList.drop (0 + (o.map byteV).length)).toArray _ _ h.var
  have e : ((tabCells t p).toArray.toList.take 0 ++ o.map byteV ++ (tabCells t p).toArray.toList.drop (0 + (o.map byteV).length)).toArray = (tabCells { t with of := o } p).toArray := by
    congr 1
    rw [List.take_zero, List.nil_append, List.length_map, ho, Nat.zero_add]
    unfold tabCells clCells midCells
    rw [List.append_assoc, List.append_assoc]
    congr 1
    show (List.map byteV t.of ++ _).drop 256 = _
    rw [List.drop_left' (by simp [h.tab.of])]
  rw [e] at this ⊢
  exact this
theorem TbW.start {w : World} {R : Nat} {l : List UInt8} {a : Option Addr} {c : Nat} {s : Rs} (h : RdIn w R l a c s) :
    TbW w ((w.alloc (.cells (tabCells zeroTab zeroLie).toArray 30)).alloc (.cells (tabCells zeroTab zeroLie).toArray 30)) R w.heap.size l a c s zeroTab zeroLie := by
  have hb : Below w.heap.size w ((w.alloc (.cells (tabCells zeroTab zeroLie).toArray 30)).alloc (.cells (tabCells zeroTab zeroLie).toArray 30)) := ((Below.refl _ _).alloc (Nat.le_refl _) _).alloc (by simp) _
  have hn : ∀ W, RowAt W none [] := fun W => ⟨by decide, fun h => absurd h (by decide)⟩
  refine ⟨h.later hb, Only.of_below hb, ?_, ?_, ⟨List.length_replicate, hn _, hn _, hn _, fun s hs => (by cases hs)⟩, fun x hx => (by cases hx), fun x hx => (by cases hx), fun x hx => (by cases hx), h.blk.lt, rfl, fun h0 x hx => ?_⟩
  · have := Blk.new w 30 (tabCells zeroTab zeroLie).toArray
    exact this.below ((Below.refl _ _).alloc (Nat.le_refl _) _) this.lt
  · have := Blk.new (w.alloc (.cells (tabCells zeroTab zeroLie).toArray 30)) 30 (tabCells zeroTab zeroLie).toArray
    rw [World.size_alloc] at this
    exact this
  · obtain ⟨g, off, h1, h2, _⟩ := RowAt.row h.bytes (by simpa using h0)
    rw [hx] at h1
    injection h1 with h1
    rw [h1]
    exact h2
theorem TbW.load {w W : World} {R B : Nat} {l : List UInt8} {a : Option Addr} {c : Nat} {s : Rs} {t : Tab} {p : Lie} (h : TbW w W R B l a c s t p) : (LoadOp 30 (.pointer (some ⟨B + 1, 0, none⟩))).run Try.prog W = .ok (.agg (tabCells t p).toArray) W :=
  (TabIn.mk h.var h.tab).read.all
theorem TbW.cells {w W : World} {R B : Nat} {l : List UInt8} {a : Option Addr} {c : Nat} {s : Rs} {t : Tab} {p : Lie} (h : TbW w W R B l a c s t p) :
    W.cell? ⟨B + 1, 256, none⟩ = some (.int .i64 t.many) ∧ W.cell? ⟨B + 1, 257, none⟩ = some (.int .i64 t.dmany) ∧ W.cell? ⟨B + 1, 258, none⟩ = some (.slice p.an t.next.length p.cn) ∧ W.cell? ⟨B + 1, 259, none⟩ = some (.slice p.at_ t.tags.length p.ct) ∧ W.cell? ⟨B + 1, 260, none⟩ = some (.slice p.ns t.names.length p.cs) :=
  have h' : TabIn W (B + 1) t p := TabIn.mk h.var h.tab
  ⟨h'.many, h'.dmany, h'.next, h'.tags, h'.names⟩
theorem TbW.frozen {w W : World} {R B : Nat} {l : List UInt8} {a : Option Addr} {c : Nat} {s : Rs} {t : Tab} {p : Lie} (h : TbW w W R B l a c s t p) (j : Nat) : W.frozen? ⟨B + 1, j, none⟩ = false := h.var.frozen j
theorem TbW.from_ {w W : World} {R B : Nat} {l : List UInt8} {a : Option Addr} {c : Nat} {s : Rs} {t : Tab} {p : Lie} (h : TbW w W R B l a c s t p) : LieFrom B p := ⟨fun x hx => by have := h.pn x hx; omega, fun x hx => by have := (h.pt x hx).1; omega, fun x hx => by have := h.ps x hx; omega⟩
theorem TbW.free {w W : World} {R B : Nat} {l : List UInt8} {a : Option Addr} {c : Nat} {s : Rs} {t : Tab} {p : Lie} (h : TbW w W R B l a c s t p) (cs : Array Value) : ∀ x, p.at_ = some x → FreeB (W.setRow B cs) x.block := fun x hx => (h.pt x hx).2.only (only_setRow B W cs) (by have := (h.pt x hx).1; omega)
/-- the table goes out -/
theorem TbW.out {w W : World} {R B : Nat} {l : List UInt8} {a : Option Addr} {c : Nat} {s : Rs} {t : Tab} {p : Lie} (h : TbW w W R B l a c s t p) :
    Only R w (W.setRow B (tabCells t p).toArray) ∧ RdIn (W.setRow B (tabCells t p).toArray) R l a c s ∧ TabAt (W.setRow B (tabCells t p).toArray) t p ∧ Blk (W.setRow B (tabCells t p).toArray) B 30 (tabCells t p).toArray := by
  have hl := h.lt
  have ho := only_setRow B W (tabCells t p).toArray
  refine ⟨h.only.setRow _ _ (by have := h.le; omega), h.rd.other ho (by omega) ?_, h.tab.only ho ?_ ?_ ?_, setRow_heap W B _ _ _ _ h.res⟩
  · intro h0 x hx; have := h.apart h0 x hx; omega
  · intro x hx; have := h.pn x hx; omega
  · intro x hx; have := (h.pt x hx).1; omega
  · intro x hx; have := h.ps x hx; omega
end Go.Proofs.Ytkgfjapflpjdbaa
