/-
  Merged texts (PrA, PrB, PrC, PrP, PrD, PrE, PrF, PrG, PrH, PrI, Of, Prints, WakeP, WakeM, Wake), each under a head of its own that says what it proves and under which conditions.
-/
import Derived.Test.YtgbipbjpeecooaaGreatDoorM03
import Derived.Lib.Builder
import Derived.Lib.AppendStr
import Derived.Lib.UnsafeStr
import Derived.Shelf.Strings.Builder1
import Derived.Shelf.Strings.BuilderF
import Derived.Shelf.Strconv.Itoa4
import Derived.StillTailTactics
import Derived.Deep.RegionHeld3
import Derived.Lib.ConvBytes
import Derived.Test.YtgbipbjpeecooaaGreatDoorM05
/-
  The printer's builder: it lies in a block of its own, as an abnf.printer; the contracts of copyCheck, WriteString and String over such a block. No conditions but Go's own limit on lengths.
-/
namespace Go.Proofs.YtgbipbjpeecooaaGreatDoor
open Go.RowKit

/-- where the bytes are, behind an append of a string: in the row that was there, or in a new one -/
theorem append_where {P : Program} (w : World) (base : Nat) (t u ty e : TypeId) (i : TypeInfo) (ht : P.underlying t = some (.slice e)) (hu : P.underlying u = some .string) (hi : P.info? e = some i) (hz : i.zero = some (.int .u8 0)) (hsize : i.size = 1) (hby : i.bytes = 1)
    (v : Value) (n : Nat) (xs : List Value) (hown : w.ownsRow base e 1 v n xs) (s : ByteArray) (h63 : n + s.size ≤ maxLen) (hbytes : n + s.size ≤ 140737488355328) (hbase : base ≤ w.heap.size) :
    ∃ v' w', (Builtin.append_ #[t, u] ty #[v, .string s]).run P w = .ok v' w' ∧ w'.ownsRow base e 1 v' (n + s.size) (xs ++ Lib.strCells s) ∧ w.grownBy w' v.ownBlock ∧ (v'.ownBlock = v.ownBlock ∨ v'.ownBlock = some w.heap.size) := by
  obtain ⟨v', w', hr, h2, h3, h4⟩ := Lib.run_append_own_string (P := P) w base t u ty e i ht hu hi hz hsize hby v n xs hown s h63 hbytes hbase
  refine ⟨v', w', hr, h2, h3, ?_⟩
  have hxl : xs.length = n := by simpa using hown.1
  have hsmall : n + s.size ≤ 9223372036854775807 := by simp only [maxLen] at h63; omega
  rcases hown.2 with ⟨rfl, rfl⟩ | ⟨g, cap, cur, rfl, hbg, hg, hnc, hcm, hcs, htake⟩
  · by_cases hm : s.size = 0
    · left
      rw [h4.2 ⟨rfl, hm⟩]
    · right
      have hr2 := run_append_nil_string (P := P) w t u ty e i (.int .u8 0) ht hu hi hz s (by omega) (by omega) (by rw [hby]; omega)
      rw [hr] at hr2
      injection hr2 with e1 e2
      rw [e1]
      rfl
  · by_cases hroom : n + s.size ≤ cap
    · left
      have hcs' : cur.size = cap := by simpa using hcs
      have hr2 := Lib.run_append_room_string (P := P) w t u ty e i ht hu hi hsize g n cap cur hg s hroom (by omega)
      rw [hr] at hr2
      injection hr2 with e1 e2
      rw [e1]
      rfl
    · right
      have holds : ∀ j u, xs[j]? = some u → w.cell? ((⟨g, 0, none⟩ : Addr).add j) = some u := hown.cells (g := g) rfl
      have hr2 := Lib.run_append_grow_string (P := P) w t u ty e i (.int .u8 0) ht hu hi hz ⟨g, 0, none⟩ n cap xs (by rw [hsize]; simpa using hxl) holds s (by omega) (by omega) (by rw [hby]; exact growslice_fits (by omega) (by omega))
      rw [hr] at hr2
      injection hr2 with e1 e2
      rw [e1]
      rfl
theorem wpList_append_where {P : Program} {w : World} {ops : Array Oper} {rest : List Oper} {o : Oper} {a : Act} {Q : Exit → Act → World → Prop} (hgd : o.guard = none) (sl x : Operand) (t u : TypeId)
    (ho : o.op = .call { callee := .builtin .append, args := #[sl, x], argTypes := #[t, u] })
    (base : Nat) (e : TypeId) (i : TypeInfo) (ht : P.underlying t = some (.slice e)) (hu : P.underlying u = some .string) (hi : P.info? e = some i) (hz : i.zero = some (.int .u8 0))
    (hsize : i.size = 1) (hby : i.bytes = 1)
    (v : Value) (n : Nat) (xs : List Value) (hs : a.eval sl = v) (hown : w.ownsRow base e 1 v n xs) (s : ByteArray) (hx : a.eval x = .string s)
    (h63 : n + s.size ≤ maxLen) (hbytes : n + s.size ≤ 140737488355328) (hbase : base ≤ w.heap.size)
    (h : ∀ v' w', w'.ownsRow base e 1 v' (n + s.size) (xs ++ Lib.strCells s) → w.grownBy w' v.ownBlock → (v'.ownBlock = v.ownBlock ∨ v'.ownBlock = some w.heap.size) → wpList P ops Q rest (a.put o.dst v') w') : wpList P ops Q (o :: rest) a w := by
  refine wpList_plain hgd fun K hK => ?_
  obtain ⟨v', w', hr, h2, h3, h4⟩ := append_where (P := P) w base t u o.type e i ht hu hi hz hsize hby v n xs hown s h63 hbytes hbase
  unfold Oper.wp execOp
  simp only [ho, resolve, invoke, builtin, Sem.run_bind, Sem.run_pure, Result.andThen_ok, List.map_toArray, List.map_cons, List.map_nil, hs, hx, hr]
  exact hK _ _ (h v' w' h2 h3 h4)

theorem Tryz.sizeBd : (Tryz.prog.info? 89).map (·.size) = some 2 := by kernel_rfl
theorem Tryz.liesPr : liesAt Tryz.prog Tryz.prog.depth 91 (2 / Tryz.prog.cellsOf 91) 0 89 1 = true := by kernel_rfl

set_option maxHeartbeats 1000000 in
set_option maxRecDepth 100000 in
theorem bdCheck_used (b : Nat) (w : World) (h0 : w.cell? ⟨b, 0, none⟩ = some (.pointer (some ⟨b, 0, none⟩))) :
    Calls Tryz.prog 98 #[.pointer (some ⟨b, 0, none⟩)] w fun e w' => e = .returned (.tuple #[]) ∧ w' = w := by
  obtain ⟨j, hj, _⟩ := Option.map_eq_some_iff.1 Tryz.sizeBd
  go_enter Tryz.func98, Tryz.ntmps98
  go_wp2
  rw [Lib.run_neq_ptr_same w _ Tryz.underlying86 hj]
  go_wp2
  go_end0
  exact ⟨rfl, rfl⟩

set_option maxHeartbeats 1000000 in
set_option maxRecDepth 100000 in
theorem bdCheck_fresh (b : Nat) (w : World) (h0 : w.cell? ⟨b, 0, none⟩ = some (.pointer none)) (hsh : w.shape? b = some (91, 2)) (hfz : w.frozen? ⟨b, 0, none⟩ = false) :
    Calls Tryz.prog 98 #[.pointer (some ⟨b, 0, none⟩)] w fun e w' => e = .returned (.tuple #[]) ∧ w' = w.setCell ⟨b, 0, none⟩ (.pointer (some ⟨b, 0, none⟩)) := by
  obtain ⟨j, hj, hjs⟩ := Option.map_eq_some_iff.1 Tryz.sizeBd
  go_enter Tryz.func98, Tryz.ntmps98
  go_wp2
  rw [Lib.run_to_unsafe w ⟨b, 0, none⟩ Tryz.underlying86 Tryz.underlying169 hj (by rw [hjs]; decide) hsh (Nat.zero_lt_succ 1)]
  simp only [Result.andThen]
  rw [Oper.upon_value]
  go_wp2
  rw [run_callFunc_extern Tryz.func136 (by kernel_rfl) (by kernel_rfl) (by kernel_rfl) (e := Extern.AbiNoEscape.same) (by kernel_rfl)]
  rw [Lib.run_noEscape]
  simp only [Result.andThen]
  rw [Oper.upon_value]
  go_wp2
  rw [Lib.run_from_unsafe w ⟨b, 0, none⟩ Tryz.underlying169 Tryz.underlying86 hj hsh Tryz.liesPr]
  simp only [Result.andThen]
  rw [Oper.upon_value]
  go_wp2
  go_end0
  exact ⟨rfl, rfl⟩
end Go.Proofs.YtgbipbjpeecooaaGreatDoor

/-
  The printer's block, what a call leaves of it and of the others, and the contracts of WriteString, String and (*printer).put. No conditions but Go's own limit on lengths.
-/
namespace Go.Proofs.YtgbipbjpeecooaaGreatDoor
open Go.RowKit

/-- the printer's block: its builder holds these bytes, in a row of its own -/
def Pr (B b : Nat) (l : List UInt8) (buf : Option Nat) (w : World) : Prop :=
  B ≤ b ∧ ∃ p v, (p = .pointer none ∨ p = .pointer (some ⟨b, 0, none⟩)) ∧ w.heap[b]? = some (.cells #[p, v] 91 (0, 0)) ∧ w.ownsRow B 5 1 v l.length (Lib.byteCells l) ∧ v.ownBlock = buf ∧ buf ≠ some b

/-- what was put down: all blocks but the printer's own are as they were -/
structure Wr (B b : Nat) (buf : Option Nat) (w : World) (l' : List UInt8) (w' : World) : Prop where
  pr : ∃ buf', Pr B b l' buf' w' ∧ (buf' = buf ∨ ∀ g, buf' = some g → w.heap.size ≤ g)
  below : Below B w w'
  kept : ∀ k, k < w.heap.size → k ≠ b → some k ≠ buf → w'.heap[k]? = w.heap[k]?

theorem Pr.lt {B b : Nat} {l : List UInt8} {buf : Option Nat} {w : World} (h : Pr B b l buf w) : b < w.heap.size := by
  obtain ⟨_, p, v, _, hb, _⟩ := h
  exact (Array.getElem?_eq_some_iff.1 hb).1
theorem Pr.room {B b : Nat} {l : List UInt8} {buf : Option Nat} {w : World} (h : Pr B b l buf w) : B ≤ w.heap.size := by
  have h1 := h.lt
  have h2 := h.1
  omega
theorem Pr.buf_lt {B b : Nat} {l : List UInt8} {buf : Option Nat} {w : World} (h : Pr B b l buf w) {g : Nat} (hg : buf = some g) : B ≤ g ∧ g < w.heap.size := by
  obtain ⟨_, p, v, _, _, ho, hv, _⟩ := h
  exact ho.lt g (hv.trans hg)
theorem Pr.alloc {B b : Nat} {l : List UInt8} {buf : Option Nat} {w : World} (h : Pr B b l buf w) (o : Obj) : Pr B b l buf (w.alloc o) := by
  have hlt := h.lt
  obtain ⟨hB, p, v, hp, hb, ho, hv, hne⟩ := h
  exact ⟨hB, p, v, hp, (Below.heap_alloc w o b hlt).trans hb, ho.alloc o, hv, hne⟩
theorem Pr.drew {B b : Nat} {l : List UInt8} {buf : Option Nat} {w : World} (h : Pr B b l buf w) : Pr B b l buf w.drew := h
theorem Pr.later {B b : Nat} {l : List UInt8} {buf : Option Nat} {w w' : World} (h : Pr B b l buf w) (hb : Below w.heap.size w w') : Pr B b l buf w' := by
  have hlt := h.lt
  obtain ⟨hB, p, v, hp, hk, ho, hv, hne⟩ := h
  refine ⟨hB, p, v, hp, (hb.block b hlt).trans hk, ?_, hv, hne⟩
  exact ho.kept (row := none) ⟨hb.os, hb.tape, hb.output, hb.size, fun k hk _ => hb.block k hk⟩ (by cases v.ownBlock <;> simp)
/-- a new printer -/
theorem Pr.new (w : World) : Pr w.heap.size w.heap.size [] none (w.alloc (.cells #[.pointer none, .slice none 0 0] 91)) :=
  ⟨Nat.le_refl _, .pointer none, .slice none 0 0, .inl rfl, heap_alloc_new w _, World.ownsRow_nil _ _ _ _, rfl, by simp⟩

theorem Wr.refl {B b : Nat} {l : List UInt8} {buf : Option Nat} {w : World} (h : Pr B b l buf w) : Wr B b buf w l w := ⟨⟨buf, h, .inl rfl⟩, Below.refl _ _, fun _ _ _ _ => rfl⟩
theorem Wr.trans {B b : Nat} {buf buf1 : Option Nat} {w w1 w2 : World} {l2 : List UInt8} (hb1 : buf1 = buf ∨ ∀ g, buf1 = some g → w.heap.size ≤ g) (hbel : Below B w w1) (hk : ∀ k, k < w.heap.size → k ≠ b → some k ≠ buf → w1.heap[k]? = w.heap[k]?) (h2 : Wr B b buf1 w1 l2 w2) : Wr B b buf w l2 w2 := by
  obtain ⟨⟨buf2, hp2, hc2⟩, hbel2, hk2⟩ := h2
  refine ⟨⟨buf2, hp2, ?_⟩, hbel.trans hbel2, fun k h1 h2 h3 => (hk2 k (Nat.lt_of_lt_of_le h1 hbel.size) h2 ?_).trans (hk k h1 h2 h3)⟩
  · rcases hc2 with rfl | hc2
    · exact hb1
    · exact .inr fun g hg => Nat.le_trans hbel.size (hc2 g hg)
  · rcases hb1 with rfl | hb1
    · exact h3
    · intro he
      have := hb1 k he.symm
      omega
theorem Wr.then_ {B b : Nat} {buf : Option Nat} {w w1 : World} {l1 : List UInt8} (h1 : Wr B b buf w l1 w1) {w2 : World} {l2 : List UInt8} (h2 : ∀ buf1, Pr B b l1 buf1 w1 → Wr B b buf1 w1 l2 w2) : Wr B b buf w l2 w2 := by
  obtain ⟨⟨buf1, hp1, hc1⟩, hbel, hk⟩ := h1
  exact Wr.trans hc1 hbel hk (h2 buf1 hp1)
/-- from a world that has blocks more -/
theorem Wr.from_later {B b : Nat} {buf : Option Nat} {w w1 w2 : World} {l : List UInt8} (hB : B ≤ w.heap.size) (hb : Below w.heap.size w w1) (h : Wr B b buf w1 l w2) : Wr B b buf w l w2 :=
  Wr.trans (.inl rfl) (hb.mono hB) (fun k hk _ _ => hb.block k hk) h
theorem Wr.blk {B b : Nat} {buf : Option Nat} {w w' : World} {l : List UInt8} (h : Wr B b buf w l w') {g : Nat} {t : TypeId} {cs : Array Value} (hg : Blk w g t cs) (h1 : g ≠ b) (h2 : some g ≠ buf) : Blk w' g t cs := (h.kept g hg.lt h1 h2).trans hg

set_option maxHeartbeats 1000000 in
theorem bdCheck_any (B b : Nat) (p v : Value) (n : Nat) (xs : List Value) (w : World) (hB : B ≤ b) (hp : p = .pointer none ∨ p = .pointer (some ⟨b, 0, none⟩)) (hbk : w.heap[b]? = some (.cells #[p, v] 91 (0, 0))) (hown : w.ownsRow B 5 1 v n xs) (hne : v.ownBlock ≠ some b) :
    Calls Tryz.prog 98 #[.pointer (some ⟨b, 0, none⟩)] w fun e w1 => e = .returned (.tuple #[]) ∧ w1.heap[b]? = some (.cells #[.pointer (some ⟨b, 0, none⟩), v] 91 (0, 0)) ∧ w1.ownsRow B 5 1 v n xs ∧ Below B w w1 ∧ w1.heap.size = w.heap.size ∧ ∀ k, k ≠ b → w1.heap[k]? = w.heap[k]? := by
  have c0 : w.cell? ⟨b, 0, none⟩ = some p := by rw [Lib.cell_of_heap hbk]; rfl
  rcases hp with rfl | rfl
  · refine (bdCheck_fresh b w c0 (by simp [World.shape?, hbk]) (Lib.frozen_of_heap hbk 0)).mono ?_
    rintro e w1 ⟨rfl, rfl⟩
    refine ⟨rfl, by simp [World.setCell, Array.getElem?_modify, hbk], ?_, (Below.refl B w).setCell (p := ⟨b, 0, none⟩) hB _, by simp [World.setCell], fun k hk => Below.heap_setCell _ _ _ _ hk⟩
    exact hown.kept (row := some b) ⟨rfl, rfl, rfl, by simp [World.setCell], fun k _ hk => Below.heap_setCell _ _ _ _ (fun e => hk (by simp [e]))⟩ (Or.inr hne)
  · refine (bdCheck_used b w c0).mono ?_
    rintro e w1 ⟨rfl, rfl⟩
    exact ⟨rfl, hbk, hown, Below.refl _ _, rfl, fun _ _ => rfl⟩

/-- the end of a WriteString -/
theorem wr_store {B b : Nat} {buf : Option Nat} {l s : List UInt8} {v v' : Value} {w w1 w2 : World} (hB : B ≤ b) (hlt : b < w.heap.size) (hv : v.ownBlock = buf) (hne : buf ≠ some b) (hbel : Below B w w1) (hsz : w1.heap.size = w.heap.size) (hk1 : ∀ k, k ≠ b → w1.heap[k]? = w.heap[k]?)
    (hb2 : w2.heap[b]? = some (.cells #[.pointer (some ⟨b, 0, none⟩), v] 91 (0, 0))) (hlo : ∀ k, buf = some k → B ≤ k)
    (hown : w2.ownsRow B 5 1 v' (l.length + (bs s).size) (Lib.byteCells l ++ Lib.strCells (bs s))) (hg : w1.grownBy w2 v.ownBlock) (hw : v'.ownBlock = v.ownBlock ∨ v'.ownBlock = some w.heap.size) :
    Wr B b buf w (l ++ s) (w2.setCell ⟨b, 1, none⟩ v') := by
  have hne' : v'.ownBlock ≠ some b := by
    rcases hw with h | h
    · rw [h, hv]; exact hne
    · rw [h]; intro e; injection e with e; omega
  have hcells : Lib.byteCells l ++ Lib.strCells (bs s) = Lib.byteCells (l ++ s) := by simp [Lib.byteCells, Lib.strCells, bs_toList]
  have hlen : l.length + (bs s).size = (l ++ s).length := by rw [bs_len, List.length_append]
  rw [hcells, hlen] at hown
  refine ⟨⟨v'.ownBlock, ⟨hB, .pointer (some ⟨b, 0, none⟩), v', .inr rfl, by simp [World.setCell, Array.getElem?_modify, hb2], ?_, rfl, hne'⟩, ?_⟩, ?_, ?_⟩
  · exact hown.kept (row := some b) ⟨rfl, rfl, rfl, by simp [World.setCell], fun k _ hk => Below.heap_setCell _ _ _ _ (fun e => hk (by simp [e]))⟩ (Or.inr hne')
  · rcases hw with h | h
    · left; rw [h, hv]
    · right; intro g he; rw [h] at he; injection he with he; omega
  · exact (hbel.grown hg (by omega) (fun k hk => hlo k (hv.symm.trans hk))).setCell (p := ⟨b, 1, none⟩) hB _
  · intro k h1 h2 h3
    rw [Below.heap_setCell _ _ _ _ h2, hg.block k (by omega) (by rw [hv]; exact h3), hk1 k h2]

set_option maxHeartbeats 2000000 in
set_option maxRecDepth 100000 in
theorem bdWrite_any (B b : Nat) (l s : List UInt8) (buf : Option Nat) (w : World) (h : Pr B b l buf w) (hlen : l.length + s.length ≤ 140737488355328) :
    Calls Tryz.prog 52 #[.pointer (some ⟨b, 0, none⟩), .string (bs s)] w fun e w' => e = .returned (.tuple #[.int .i64 (bs s).size, .nilIface]) ∧ Wr B b buf w (l ++ s) w' := by
  have hlt := h.lt
  have hbl := fun g hg => h.buf_lt (g := g) hg
  obtain ⟨hB, p, v, hp, hbk, hown, rfl, hne⟩ := h
  obtain ⟨i0, hi0, hz0, hz1, hz2⟩ := info_parts Tryz.infoU8
  have hsz := bs_len s
  have HC := Lib.hid (bdCheck_any B b p v l.length (Lib.byteCells l) w hB hp hbk hown hne)
  clear hp hbk hown
  go_enter Tryz.func52, Tryz.ntmps52
  go_wp2_with (go_at_call 98; refine HC.out.mono ?_)
  rintro e w1 ⟨rfl, hbk, hown, hb1, hs1, hk1⟩
  have c0 : w1.cell? ⟨b, 0, none⟩ = some (.pointer (some ⟨b, 0, none⟩)) := by rw [Lib.cell_of_heap hbk]; rfl
  have c1 : w1.cell? ⟨b, 1, none⟩ = some v := by rw [Lib.cell_of_heap hbk]; rfl
  go_wp2_with (at_builtin; refine wpList_append_where rfl _ _ 87 9 rfl B 5 i0 Tryz.underlying87 Tryz.underlying9 hi0 hz0 hz1 hz2 _ _ _ rfl hown (bs s) rfl ?c3 ?c4 ?c5 ?_)
  case c3 => unfold maxLen; omega
  case c4 => omega
  case c5 => omega
  intro v' w2 hown' hgrow hwhere
  have hb2 : w2.heap[b]? = some (.cells #[.pointer (some ⟨b, 0, none⟩), v] 91 (0, 0)) := by
    rw [hgrow.block b (by omega) (fun e => hne e.symm)]
    exact hbk
  have d0 : w2.cell? ⟨b, 0, none⟩ = some (.pointer (some ⟨b, 0, none⟩)) := by rw [Lib.cell_of_heap hb2]; rfl
  have d1 : w2.cell? ⟨b, 1, none⟩ = some v := by rw [Lib.cell_of_heap hb2]; rfl
  have f1 : w2.frozen? ⟨b, 1, none⟩ = false := Lib.frozen_of_heap hb2 1
  have HEND := Lib.hid (wr_store hB hlt rfl hne hb1 hs1 hk1 hb2 (fun k hk => (hbl k hk).1) hown' hgrow hwhere)
  obtain ⟨ao, n', cap, rfl⟩ : ∃ ao n' cap, v' = .slice ao n' cap := by
    rcases hown'.2 with ⟨hv, _⟩ | ⟨g, cap, cur, hv, _⟩
    · exact ⟨_, _, _, hv⟩
    · exact ⟨_, _, _, hv⟩
  clear hown' hgrow hwhere hown hbk hk1 hb1
  go_wp2
  go_ret2
  exact ⟨rfl, HEND.out⟩
end Go.Proofs.YtgbipbjpeecooaaGreatDoor

/-
  The contracts of (*printer).put and of the builder's String over the printer's block. No conditions but Go's own limit on lengths.
-/
namespace Go.Proofs.YtgbipbjpeecooaaGreatDoor
open Go.RowKit

def strRow (ts : List (List UInt8)) : Array Value := (ts.map fun t => Value.string (bs t)).toArray

set_option maxHeartbeats 2000000 in
set_option maxRecDepth 100000 in
theorem put_any (B b g c : Nat) (l : List UInt8) (ts : List (List UInt8)) (buf : Option Nat) (w : World) (h : Pr B b l buf w) (hlen : l.length + ts.flatten.length ≤ 140737488355328) (hn : ts.length ≤ 100) (hrow : Blk w g 9 (strRow ts)) (hgb : g ≠ b) (hgf : some g ≠ buf) :
    Calls Tryz.prog 42 #[.pointer (some ⟨b, 0, none⟩), .slice (some ⟨g, 0, none⟩) ts.length c] w fun e w' => e = .returned (.tuple #[]) ∧ Wr B b buf w (l ++ ts.flatten) w' := by
  have HP := Lib.hid h
  have HR := Lib.hid hrow
  have HL := Lib.hid hlen
  clear h hrow hlen
  generalize hlen : ts.length = n at *
  have HN := Lib.hid hlen
  clear hlen
  go_enter Tryz.func42, Tryz.ntmps42
  go_wp2
  go_loopw [5, 8] (fun _ i wr => ∃ k : Nat, k ≤ n ∧ i = .int .i64 k ∧ Wr B b buf w (l ++ (ts.take k).flatten) wr) (fun _ i _ => n - (intOf i).toNat)
  case atStart => exact ⟨0, Nat.zero_le _, rfl, by simpa using Wr.refl HP.out⟩
  case round =>
    obtain ⟨k, hk, rfl, hwr⟩ := hrel
    by_cases hlt : k < n
    · obtain ⟨t, ht⟩ : ∃ t, ts[k]? = some t := ⟨_, List.getElem?_eq_getElem (by rw [HN.out]; exact hlt)⟩
      have hB2 := hwr.blk HR.out hgb hgf
      have hck : wr.cell? ⟨g, k, none⟩ = some (.string (bs t)) := by
        rw [hB2.cell k]
        simp [strRow, ht]
      have htake : (ts.take (k + 1)).flatten = (ts.take k).flatten ++ t := by
        rw [List.take_add_one, ht]; simp
      have hpart : l.length + ((ts.take k).flatten.length + t.length) ≤ 140737488355328 := by
        have h1 := HL.out
        have h2 : (ts.take (k + 1)).flatten.length ≤ ts.flatten.length := by
          have : ts.flatten = (ts.take (k + 1)).flatten ++ (ts.drop (k + 1)).flatten := by rw [← List.flatten_append, List.take_append_drop]
          rw [this, List.length_append]; omega
        rw [htake, List.length_append] at h2
        omega
      have HW := Lib.hid hwr
      obtain ⟨⟨buf1, hp1, hc1⟩, hbel, hkk⟩ := hwr
      have HB := Lib.hid (bdWrite_any B b (l ++ (ts.take k).flatten) t buf1 wr hp1 (by rw [List.length_append]; omega))
      have HE := Lib.hid (fun (w2 : World) (hx : Wr B b buf1 wr (l ++ (ts.take k).flatten ++ t) w2) => Wr.trans hc1 hbel hkk hx)
      have hlt' : (k : Int) < n := by omega
      have h0' : (0 : Int) ≤ k := by omega
      clear hp1 hc1 hbel hkk hB2
      go_wp2_with (go_at_call 52; refine HB.out.mono ?_)
      rintro e w2 ⟨rfl, hw2⟩
      have hE2 := HE.out w2 hw2
      rw [List.append_assoc, ← htake] at hE2
      clear hw2
      go_wp2
      go_roundw
      case rel => exact ⟨k + 1, by omega, by go_num, hE2⟩
      case measure => simp [intOf]; omega
    · have : k = n := by omega
      subst this
      rw [List.take_of_length_le (by rw [HN.out]; omega)] at hwr
      go_wp2
      go_end0
      exact ⟨rfl, hwr⟩

/-- of a new row of texts -/
theorem put_new (B b : Nat) (l : List UInt8) (buf : Option Nat) (w : World) (h : Pr B b l buf w) (ts : List (List UInt8)) (hlen : l.length + ts.flatten.length ≤ 140737488355328) (hn : ts.length ≤ 100) (c : Nat) (W : World) (hW : Below w.heap.size w W) (hB : Blk W w.heap.size 9 (strRow ts)) :
    Calls Tryz.prog 42 #[.pointer (some ⟨b, 0, none⟩), .slice (some ⟨w.heap.size, 0, none⟩) ts.length c] W fun e w' => e = .returned (.tuple #[]) ∧ Wr B b buf w (l ++ ts.flatten) w' := by
  have hlt := h.lt
  refine (put_any B b w.heap.size c l ts buf W (h.later hW) hlen hn hB (by omega) ?_).mono ?_
  · intro he
    have := (h.buf_lt he.symm).2
    omega
  · rintro e w' ⟨he, hw⟩
    exact ⟨he, hw.from_later h.room hW⟩
theorem put_at (B b : Nat) (l : List UInt8) (buf : Option Nat) (w : World) (h : Pr B b l buf w) (ts : List (List UInt8)) (hlen : l.length + ts.flatten.length ≤ 140737488355328) (hn : ts.length ≤ 100) (g m c : Nat) (W : World) (hg : g = w.heap.size) (hm : m = ts.length) (hW : Below w.heap.size w W) (hB : Blk W g 9 (strRow ts)) :
    Calls Tryz.prog 42 #[.pointer (some ⟨b, 0, none⟩), .slice (some ⟨g, 0, none⟩) m c] W fun e w' => e = .returned (.tuple #[]) ∧ Wr B b buf w (l ++ ts.flatten) w' := by
  subst hg hm
  exact put_new B b l buf w h ts hlen hn c W hW hB

set_option maxHeartbeats 2000000 in
set_option maxRecDepth 100000 in
theorem bdString_any (B b : Nat) (l : List UInt8) (buf : Option Nat) (w : World) (h : Pr B b l buf w) (h0 : l ≠ []) :
    Calls Tryz.prog 44 #[.pointer (some ⟨b, 0, none⟩)] w fun e w' => e = .returned (.string (bs l)) ∧ Below B w w' := by
  obtain ⟨hB, p, v, hp, hbk, hown, hv, hne⟩ := h
  have hl0 : l.length ≠ 0 := by simpa using h0
  obtain ⟨g, cap, cur, rfl, hbg, hg, hnc, hcm, hcs, htake⟩ : ∃ g cap cur, v = .slice (some ⟨g, 0, none⟩) l.length cap ∧ B ≤ g ∧ w.heap[g]? = some (.cells cur 5 (0, 0)) ∧ l.length ≤ cap ∧ cap ≤ maxLen ∧ cur.size = cap * 1 ∧ cur.toList.take (l.length * 1) = Lib.byteCells l := by
    rcases hown.2 with ⟨_, hz⟩ | ⟨g, cap, cur, hv, r⟩
    · exact absurd hz hl0
    · exact ⟨g, cap, cur, hv, r⟩
  have c1 : w.drew.cell? ⟨b, 1, none⟩ = some (.slice (some ⟨g, 0, none⟩) l.length cap) := by
    have : w.drew.heap[b]? = some (.cells #[p, .slice (some ⟨g, 0, none⟩) l.length cap] 91 (0, 0)) := hbk
    rw [Lib.cell_of_heap this]; rfl
  have hSD : (Builtin.unsafeSliceData_ #[87] 136 #[.slice (some ⟨g, 0, none⟩) l.length cap]).run Tryz.prog w.drew = .ok (.pointer (some ⟨g, 0, none⟩)) w.drew :=
    Lib.run_unsafeSliceData_row _ _ _ _ _ _ (by omega)
  have hUS : (Builtin.unsafeString_ #[136, 3] 9 #[.pointer (some ⟨g, 0, none⟩), .int .i64 l.length]).run Tryz.prog w.drew = .ok (.string (bs l)) (w.drew.freeze ⟨g, 0, none⟩ l.length) := by
    refine Lib.run_unsafeString_row w.drew 136 3 9 5 Tryz.underlying136 (by kernel_rfl) g cur.size (by have hg' : w.drew.heap[g]? = some (.cells cur 5 (0, 0)) := hg; simp [World.shape?, hg']) l h0 (by omega) (by unfold maxLen at hcm; omega) ?_
    intro j x hx
    have := hown.cells (g := g) rfl j (.int .u8 x.toNat) (by simp [Lib.byteCells, hx])
    exact this
  have mixed : Tryz.prog.follows .mixedOrders = true := by kernel_rfl
  go_enter Tryz.func44, Tryz.ntmps44
  go_wp2
  go_region_o
  all_goals (go_wp2; go_ret; exact ⟨rfl, Lib.below_freeze (Below.drew (Below.refl B w)) (p := ⟨g, 0, none⟩) hbg _⟩)
end Go.Proofs.YtgbipbjpeecooaaGreatDoor

/-
  A tree's text in plain terms: the code's own way. No conditions.
-/
namespace Go.Proofs.YtgbipbjpeecooaaGreatDoor
open Go.RowKit

def hexDigits : List UInt8 := [48, 49, 50, 51, 52, 53, 54, 55, 56, 57, 65, 66, 67, 68, 69, 70]
def hexC (n : Nat) : UInt8 := hexDigits.getD n 0
def pairP (x : UInt8) : List UInt8 := [hexC (x.toNat / 16), hexC (x.toNat % 16)]
def hexesP (ahead between : List UInt8) : List UInt8 → List UInt8
  | [] => []
  | x :: r => ahead ++ pairP x ++ hexesP between between r
def timesTextP (mn mx : Int) : List UInt8 := if mx = mn then Lib.itoa mn else (if 0 < mn then Lib.itoa mn else []) ++ [42] ++ (if 0 ≤ mx then Lib.itoa mx else [])
def kidP (f : Tr → List UInt8) (br : List Int) (k : Tr) : List UInt8 := if br.contains k.kind then [40] ++ f k ++ [41] else f k
def kidsF (f : Tr → List UInt8) (ahead between : List UInt8) (br : List Int) : List Tr → List UInt8
  | [] => []
  | k :: r => ahead ++ kidP f br k ++ kidsF f between between br r
def kidsP (f : Tr → List UInt8) (between : List UInt8) (br : List Int) (ks : List Tr) : List UInt8 := kidsF f [] between br ks
def byteOf (z : Int) : UInt8 := UInt8.ofNat z.toNat
def printD : Nat → Tr → List UInt8
  | 0, _ => []
  | d + 1, t =>
    if t.kind = 1 then t.text
    else if t.kind = 2 then [34] ++ t.text ++ [34]
    else if t.kind = 3 then hexesP [37, 120] [46] t.text
    else if t.kind = 4 then hexesP [37, 120] [45] [byteOf t.lo, byteOf t.hi]
    else if t.kind = 7 then timesTextP t.mn t.mx ++ kidsP (printD d) [] [7, 5, 6] t.kids
    else if t.kind = 5 then kidsP (printD d) [32] [5, 6] t.kids
    else if t.kind = 6 then kidsP (printD d) [32, 47, 32] [6] t.kids
    else []
/-- bytes that are bytes, in a tree so deep -/
def byteD : Nat → Tr → Prop
  | 0, _ => True
  | d + 1, t => (0 ≤ t.lo ∧ t.lo ≤ 255) ∧ (0 ≤ t.hi ∧ t.hi ≤ 255) ∧ (∀ k ∈ t.kids, byteD d k)

theorem hexesP_snoc (a b : List UInt8) (xs : List UInt8) (x : UInt8) : hexesP a b (xs ++ [x]) = hexesP a b xs ++ (if xs.length = 0 then a else b) ++ pairP x := by
  induction xs generalizing a with
  | nil => simp [hexesP]
  | cons y r ih =>
    show a ++ pairP y ++ hexesP b b (r ++ [x]) = _
    rw [ih b]
    simp [hexesP]
theorem kidsF_snoc (f : Tr → List UInt8) (a b : List UInt8) (br : List Int) (xs : List Tr) (x : Tr) : kidsF f a b br (xs ++ [x]) = kidsF f a b br xs ++ (if xs.length = 0 then a else b) ++ kidP f br x := by
  induction xs generalizing a with
  | nil => simp [kidsF]
  | cons y r ih =>
    show a ++ kidP f br y ++ kidsF f b b br (r ++ [x]) = _
    rw [ih b]
    simp [kidsF]
theorem hexesP_append (a b : List UInt8) (xs ys : List UInt8) : hexesP a b (xs ++ ys) = hexesP a b xs ++ hexesP (if xs.length = 0 then a else b) b ys := by
  induction xs generalizing a with
  | nil => simp [hexesP]
  | cons y r ih =>
    show a ++ pairP y ++ hexesP b b (r ++ ys) = _
    rw [ih b]
    simp [hexesP]
theorem hexesP_take (a b : List UInt8) (xs : List UInt8) (k : Nat) : (hexesP a b (xs.take k)).length ≤ (hexesP a b xs).length := by
  have h := hexesP_append a b (xs.take k) (xs.drop k)
  rw [List.take_append_drop] at h
  rw [h, List.length_append]
  omega
theorem kidsF_append (f : Tr → List UInt8) (a b : List UInt8) (br : List Int) (xs ys : List Tr) : kidsF f a b br (xs ++ ys) = kidsF f a b br xs ++ kidsF f (if xs.length = 0 then a else b) b br ys := by
  induction xs generalizing a with
  | nil => simp [kidsF]
  | cons y r ih =>
    show a ++ kidP f br y ++ kidsF f b b br (r ++ ys) = _
    rw [ih b]
    simp [kidsF]
theorem kidsF_take (f : Tr → List UInt8) (a b : List UInt8) (br : List Int) (xs : List Tr) (k : Nat) : (kidsF f a b br (xs.take k)).length ≤ (kidsF f a b br xs).length := by
  have h := kidsF_append f a b br (xs.take k) (xs.drop k)
  rw [List.take_append_drop] at h
  rw [h, List.length_append]
  omega
theorem hexC_at (n : Nat) (h : n < 16) : (⟨hexDigits.toArray⟩ : ByteArray).extract n (n + 1) = bs [hexC n] := by
  have : ∀ n : Fin 16, (⟨hexDigits.toArray⟩ : ByteArray).extract n.1 (n.1 + 1) = bs [hexC n.1] := by decide
  exact this ⟨n, h⟩
theorem byteOf_toNat (z : Int) (h0 : 0 ≤ z) (h1 : z ≤ 255) : ((byteOf z).toNat : Int) = z := by
  have h2 : z.toNat < 256 := by omega
  have h3 : (byteOf z).toNat = z.toNat % 256 := by unfold byteOf; simp
  omega
end Go.Proofs.YtgbipbjpeecooaaGreatDoor

/-
  The contract of (*printer).values. No conditions but Go's own limit on lengths.
-/
namespace Go.Proofs.YtgbipbjpeecooaaGreatDoor
open Go.RowKit

set_option maxHeartbeats 2000000 in
set_option maxRecDepth 100000 in
theorem values_any (B b g c : Nat) (l between vs : List UInt8) (buf : Option Nat) (w : World) (h : Pr B b l buf w) (hlen : l.length + (hexesP [37, 120] between vs).length ≤ 140737488355328) (hn : vs.length ≤ maxLen) (hg : g < w.heap.size) (hrow : ∀ j x, vs[j]? = some x → w.cell? ⟨g, j, none⟩ = some (.int .u8 x.toNat)) (hgb : g ≠ b) (hgf : some g ≠ buf) :
    Calls Tryz.prog 87 #[.pointer (some ⟨b, 0, none⟩), .string (bs between), .slice (some ⟨g, 0, none⟩) vs.length c] w fun e w' => e = .returned (.tuple #[]) ∧ Wr B b buf w (l ++ hexesP [37, 120] between vs) w' := by
  have HP := Lib.hid h
  have HR := Lib.hid hrow
  have HL := Lib.hid hlen
  clear h hrow hlen
  generalize hlen : vs.length = n at *
  unfold maxLen at hn
  have HN := Lib.hid hlen
  clear hlen
  go_enter Tryz.func87, Tryz.ntmps87
  go_wp2
  go_loopw [6, 8, 11] (fun a _ i wr => ∃ k : Nat, k ≤ n ∧ i = .int .i64 k ∧ a = .string (bs (if k = 0 then [37, 120] else between)) ∧ Wr B b buf w (l ++ hexesP [37, 120] between (vs.take k)) wr) (fun _ _ i _ => n - (intOf i).toNat)
  case atStart => exact ⟨0, Nat.zero_le _, rfl, rfl, by simpa [hexesP] using Wr.refl HP.out⟩
  case round =>
    obtain ⟨k, hk, rfl, rfl, hwr⟩ := hrel
    by_cases hlt : k < n
    · obtain ⟨x, hx⟩ : ∃ x, vs[k]? = some x := ⟨_, List.getElem?_eq_getElem (by rw [HN.out]; exact hlt)⟩
      have hck : wr.cell? ⟨g, k, none⟩ = some (.int .u8 x.toNat) := by
        rw [World.cell?_of_block (w := w) (a := ⟨g, k, none⟩) (hwr.kept g hg hgb hgf)]
        exact HR.out k x hx
      have htk : vs.take (k + 1) = vs.take k ++ [x] := by rw [List.take_add_one, hx]; rfl
      have hlk : (vs.take k).length = k := by rw [List.length_take, HN.out]; omega
      have hsn := hexesP_snoc [37, 120] between (vs.take k) x
      rw [← htk, hlk] at hsn
      generalize hah : (if k = 0 then [37, 120] else between) = ah at *
      have hpart : l.length + (hexesP [37, 120] between (vs.take k)).length + (ah.length + 2) ≤ 140737488355328 := by
        have h1 := HL.out
        have h2 : (hexesP [37, 120] between (vs.take (k + 1))).length ≤ (hexesP [37, 120] between vs).length := hexesP_take _ _ _ _
        rw [hsn] at h2
        simp [pairP] at h2
        omega
      have hx0 : (x.toNat : Int) < 256 := by have := x.toNat_lt; omega
      obtain ⟨hi, lo, hhi, hlo, e1, e2, ehi, elo⟩ : ∃ hi lo : Nat, hi < 16 ∧ lo < 16 ∧ (x.toNat : Int) / 16 = hi ∧ bits .and .u8 (x.toNat : Int) 15 = lo ∧ hi = x.toNat / 16 ∧ lo = x.toNat % 16 := by
        refine ⟨x.toNat / 16, x.toNat % 16, by have := x.toNat_lt; omega, by omega, by omega, ?_, rfl, rfl⟩
        have h15 := u8_and15 (x := (x.toNat : Int)) (by omega) hx0
        exact h15.trans (by omega)
      have HPX : Hid (pairP x = [hexC hi, hexC lo]) := by show _ = _; rw [ehi, elo]; rfl
      have w1 : IntKind.u8.wrap ((hi : Int) + 1) = (hi : Int) + 1 := IntWalk.u8_in _ (by omega)
      have w2 : IntKind.u8.wrap ((lo : Int) + 1) = (lo : Int) + 1 := IntWalk.u8_in _ (by omega)
      have s1 := hexC_at hi hhi
      have s2 := hexC_at lo hlo
      obtain ⟨⟨buf1, hp1, hc1⟩, hbel, hkk⟩ := hwr
      have HPUT := Lib.hid (fun (W : World) (hW : Below wr.heap.size wr W) (hB : Blk W wr.heap.size 9 (strRow [ah, [hexC hi], [hexC lo]])) => put_new B b _ buf1 wr hp1 [ah, [hexC hi], [hexC lo]] (by simp; omega) (by simp) 3 W hW hB)
      have HE := Lib.hid (fun (w2 : World) (hx : Wr B b buf1 wr (l ++ hexesP [37, 120] between (vs.take k) ++ [ah, [hexC hi], [hexC lo]].flatten) w2) => Wr.trans hc1 hbel hkk hx)
      have HSN := Lib.hid hsn
      have hlt' : (k : Int) < n := by omega
      have h0' : (0 : Int) ≤ k := by omega
      clear hp1 hc1 hbel hkk ehi elo hsn hpart
      generalize (x.toNat : Int) = X at *
      have hi0 : (0 : Int) ≤ (hi : Int) := by omega
      have hi1 : (hi : Int) ≤ (hi : Int) + 1 := by omega
      have hi2 : (hi : Int) + 1 ≤ 16 := by omega
      have lo0 : (0 : Int) ≤ (lo : Int) := by omega
      have lo1 : (lo : Int) ≤ (lo : Int) + 1 := by omega
      have lo2 : (lo : Int) + 1 ≤ 16 := by omega
      have hsz : (⟨#[48, 49, 50, 51, 52, 53, 54, 55, 56, 57, 65, 66, 67, 68, 69, 70]⟩ : ByteArray).size = 16 := rfl
      have t1 : ((hi : Int) + 1).toNat = hi + 1 := by omega
      have t2 : ((lo : Int) + 1).toNat = lo + 1 := by omega
      unfold hexDigits at s1 s2
      go_wp2
      go_region_held3 (fun _ => True) (trivial)
        (first | (go_at_call 42; refine (HPUT.out _ (by first | exact ((Below.refl _ _).alloc (Nat.le_refl _) _).drew | exact ((Below.refl _ _).drew).alloc (Nat.le_refl _) _) (by first | exact Blk.new _ _ _ | exact Blk.new wr _ _)).mono ?_; rintro e w2 ⟨rfl, hw2⟩))
      have hE2 := HE.out w2 hw2
      have heq : l ++ hexesP [37, 120] between (vs.take k) ++ [ah, [hexC hi], [hexC lo]].flatten = l ++ hexesP [37, 120] between (vs.take (k + 1)) := by
        rw [HSN.out, HPX.out]
        simp
      rw [heq] at hE2
      clear hw2 heq HPUT HE HSN HPX s1 s2 e1 e2 hck
      go_wp2
      go_roundw
      case rel => exact ⟨k + 1, by omega, by go_num, by simp, hE2⟩
      case measure => simp [intOf]; omega
    · have : k = n := by omega
      subst this
      rw [List.take_of_length_le (by rw [HN.out]; omega)] at hwr
      generalize (if k = 0 then [37, 120] else between) = ah
      go_wp2
      go_end0
      exact ⟨rfl, hwr⟩
end Go.Proofs.YtgbipbjpeecooaaGreatDoor

/-
  The contract of (*printer).times. Conditions: the numbers are such as a right tree has; the library's table of powers of ten lies where it does.
-/
namespace Go.Proofs.YtgbipbjpeecooaaGreatDoor
open Go.RowKit

def PowAt (w : World) : Prop := Lib.TabIs Tryz.prog w "internal/strconv.uint64pow10" .u64 Lib.pow10Tab
theorem PowAt.below {w w' : World} {B : Nat} (h : PowAt w) (hb : Below B w w') (hB : 5 < B) : PowAt w' := by
  unfold PowAt Lib.TabIs World.var? at *
  rw [show Tryz.prog.globalNamed "internal/strconv.uint64pow10" = some 5 from by kernel_rfl] at *
  simp only [Option.bind_some] at *
  rw [hb.block _ hB]
  exact h
theorem PowAt.lt {w : World} (h : PowAt w) : 5 < w.heap.size := by
  unfold PowAt Lib.TabIs World.var? at h
  rw [show Tryz.prog.globalNamed "internal/strconv.uint64pow10" = some 5 from by kernel_rfl] at h
  simp only [Option.bind_some] at h
  rcases Nat.lt_or_ge 5 w.heap.size with h' | h'
  · exact h'
  · rw [Array.getElem?_eq_none h'] at h
    cases h
theorem itoa_any (n : Int) (h0 : 0 ≤ n) (h1 : n ≤ 9999) (w : World) (hp : PowAt w) :
    Calls Tryz.prog 135 #[.int .i64 n] w fun e w' => e = .returned (.string (bs (Lib.itoa n))) ∧ Below w.heap.size w w' := by
  refine (Tryz.strconv_Itoa n (by omega) (by omega) w hp).mono ?_
  rintro e w' ⟨he, k, os, rfl⟩
  refine ⟨he, rfl, rfl, rfl, by show w.heap.size ≤ ((w.drewN k).heap ++ os).size; rw [Array.size_append]; exact Nat.le_add_right _ _, fun i hi => ?_⟩
  show ((w.drewN k).heap ++ os)[i]? = _
  rw [Array.getElem?_append_left (by show i < w.heap.size; omega)]
  rfl
/-- what goes on behind a put -/
theorem Wr.on {B b : Nat} {buf : Option Nat} {w w1 : World} {l1 : List UInt8} (h : Wr B b buf w l1 w1) : ∃ buf1, Pr B b l1 buf1 w1 ∧ Below B w w1 ∧ ∀ l2 w2, Wr B b buf1 w1 l2 w2 → Wr B b buf w l2 w2 := by
  obtain ⟨⟨buf1, hp1, hc1⟩, hbel, hk⟩ := h
  exact ⟨buf1, hp1, hbel, fun _ _ hx => Wr.trans hc1 hbel hk hx⟩

set_option maxHeartbeats 4000000 in
set_option maxRecDepth 100000 in
theorem prTimes_any (B b : Nat) (l : List UInt8) (mn mx : Int) (buf : Option Nat) (w : World) (h : Pr B b l buf w) (ht : timesB mn mx = true) (hp : PowAt w) (hB5 : 5 < B) (hlen : l.length + (timesTextP mn mx).length ≤ 140737488355328) :
    Calls Tryz.prog 88 #[.pointer (some ⟨b, 0, none⟩), .int .i64 mn, .int .i64 mx] w fun e w' => e = .returned (.tuple #[]) ∧ Wr B b buf w (l ++ timesTextP mn mx) w' := by
  have hB := h.room
  have HP := Lib.hid h
  have HPW := Lib.hid hp
  have HL := Lib.hid hlen
  have HI : Hid (∀ (n : Int) (W : World), 0 ≤ n → n ≤ 9999 → Below B w W → Calls Tryz.prog 135 #[.int .i64 n] W fun e w' => e = .returned (.string (bs (Lib.itoa n))) ∧ Below W.heap.size W w') := fun n W h0 h1 hW => itoa_any n h0 h1 W (hp.below hW hB5)
  have hmn : 0 ≤ mn ∧ mn ≤ 9999 := by unfold timesB at ht; simp at ht; omega
  have hmx : mx = -1 ∨ (mn ≤ mx ∧ mx ≤ 9999) := by unfold timesB at ht; simp at ht; omega
  obtain ⟨hm0, hm1⟩ := hmn
  have HT : Hid (timesTextP mn mx = if mx = mn then Lib.itoa mn else (if 0 < mn then Lib.itoa mn else []) ++ [42] ++ (if 0 ≤ mx then Lib.itoa mx else [])) := show _ = _ from rfl
  generalize timesTextP mn mx = R at *
  clear h hp hlen ht
  by_cases heq : mx = mn
  · subst heq
    have HR : Hid (R = Lib.itoa mx) := by show _ = _; rw [HT.out, if_pos rfl]
    clear HT hmx
    go_enter Tryz.func88, Tryz.ntmps88
    go_wp2_with (go_at_call 135; refine (HI.out _ _ hm0 hm1 (Below.refl _ _)).mono ?_)
    rintro e w1 ⟨rfl, hb1⟩
    have HB1 := Lib.hid hb1
    clear hb1
    go_wp2_with (go_at_call 42; refine (put_new B b l buf w1 (HP.out.later HB1.out) [Lib.itoa mx] (by have := HL.out; rw [HR.out] at this; simpa using this) (by simp) 1 _ ((Below.refl _ _).alloc (Nat.le_refl _) _) (Blk.new _ _ _)).mono ?_)
    rintro e w2 ⟨rfl, hw2⟩
    have HE := Lib.hid (hw2.from_later hB HB1.out)
    clear hw2
    go_wp2
    (try simp only [Exit.inBlock, Exit.then]); refine bodyPost_ret (results_none rfl _ _ _) rfl ?_
    refine ⟨rfl, ?_⟩
    rw [HR.out]
    simpa using HE.out
  · have HR : Hid (R = (if 0 < mn then Lib.itoa mn else []) ++ [42] ++ (if 0 ≤ mx then Lib.itoa mx else [])) := by show _ = _; rw [HT.out, if_neg heq]
    clear HT
    by_cases hmp : 0 < mn
    · by_cases hxp : 0 ≤ mx
      · have hx9 : mx ≤ 9999 := by omega
        clear hmx
        have HR2 : Hid (R = Lib.itoa mn ++ [42] ++ Lib.itoa mx) := by show _ = _; rw [HR.out]; first | rfl | simp [hmp, hxp]
        have hlen := HL.out
        rw [HR2.out] at hlen
        simp at hlen
        clear HR
        have hd1 : decide (mx = mn) = false := by simp; omega
        go_enter Tryz.func88, Tryz.ntmps88
        go_wp2_with (go_at_call 135; refine (HI.out _ _ hm0 hm1 (Below.refl _ _)).mono ?_)
        rintro e w1 ⟨rfl, hb1⟩
        have HB1 := Lib.hid hb1
        clear hb1
        go_wp2_with (go_at_call 42; refine (put_new B b l buf w1 (HP.out.later HB1.out) [Lib.itoa mn] (by simp; omega) (by simp) 1 _ ((Below.refl _ _).alloc (Nat.le_refl _) _) (Blk.new _ _ _)).mono ?_)
        rintro e w2 ⟨rfl, hw2⟩
        obtain ⟨buf2, hp2, hbel2, hE2⟩ := (hw2.from_later hB HB1.out).on
        have HP2 := Lib.hid hp2
        have HBE2 := Lib.hid hbel2
        have HE2 := Lib.hid hE2
        clear hw2 hp2 hbel2 hE2 HB1
        go_wp2_with (go_at_call 42; refine (put_new B b (l ++ [Lib.itoa mn].flatten) buf2 w2 HP2.out [[42]] (by simp; omega) (by simp) 1 _ ((Below.refl _ _).alloc (Nat.le_refl _) _) (Blk.new _ _ _)).mono ?_)
        rintro e w3 ⟨rfl, hw3⟩
        obtain ⟨buf3, hp3, hbel3, hE3⟩ := (HE2.out _ _ hw3).on
        have HP3 := Lib.hid hp3
        have HBE3 := Lib.hid hbel3
        have HE3 := Lib.hid hE3
        clear hw3 hp3 hbel3 hE3 HP2 HBE2 HE2
        go_wp2_with (go_at_call 135; refine (HI.out _ _ hxp hx9 HBE3.out).mono ?_)
        rintro e w4 ⟨rfl, hb4⟩
        have HB4 := Lib.hid hb4
        clear hb4
        go_wp2_with (go_at_call 42; refine (put_new B b ((l ++ [Lib.itoa mn].flatten) ++ [[42]].flatten) buf3 w4 (HP3.out.later HB4.out) [Lib.itoa mx] (by simp; omega) (by simp) 1 _ ((Below.refl _ _).alloc (Nat.le_refl _) _) (Blk.new _ _ _)).mono ?_)
        rintro e w5 ⟨rfl, hw5⟩
        have HEND := Lib.hid (HE3.out _ _ (hw5.from_later HP3.out.room HB4.out))
        clear hw5
        go_wp2
        go_end0
        refine ⟨rfl, ?_⟩
        rw [HR2.out]
        simpa using HEND.out
      · have hxe : mx = -1 := by omega
        clear hmx
        subst hxe
        have HR2 : Hid (R = Lib.itoa mn ++ [42]) := by show _ = _; rw [HR.out]; first | rfl | simp [hmp]
        have hlen := HL.out
        rw [HR2.out] at hlen
        simp at hlen
        clear HR hxp
        have hd1 : decide ((-1 : Int) = mn) = false := by simp; omega
        go_enter Tryz.func88, Tryz.ntmps88
        go_wp2_with (go_at_call 135; refine (HI.out _ _ hm0 hm1 (Below.refl _ _)).mono ?_)
        rintro e w1 ⟨rfl, hb1⟩
        have HB1 := Lib.hid hb1
        clear hb1
        go_wp2_with (go_at_call 42; refine (put_new B b l buf w1 (HP.out.later HB1.out) [Lib.itoa mn] (by simp; omega) (by simp) 1 _ ((Below.refl _ _).alloc (Nat.le_refl _) _) (Blk.new _ _ _)).mono ?_)
        rintro e w2 ⟨rfl, hw2⟩
        obtain ⟨buf2, hp2, hbel2, hE2⟩ := (hw2.from_later hB HB1.out).on
        have HP2 := Lib.hid hp2
        have HBE2 := Lib.hid hbel2
        have HE2 := Lib.hid hE2
        clear hw2 hp2 hbel2 hE2 HB1
        go_wp2_with (go_at_call 42; refine (put_new B b (l ++ [Lib.itoa mn].flatten) buf2 w2 HP2.out [[42]] (by simp; omega) (by simp) 1 _ ((Below.refl _ _).alloc (Nat.le_refl _) _) (Blk.new _ _ _)).mono ?_)
        rintro e w3 ⟨rfl, hw3⟩
        obtain ⟨buf3, hp3, hbel3, hE3⟩ := (HE2.out _ _ hw3).on
        have HEND := Lib.hid (HE2.out _ _ hw3)
        clear hw3 hp3 hbel3 hE3
        go_wp2
        go_end0
        refine ⟨rfl, ?_⟩
        rw [HR2.out]
        simpa using HEND.out
    · by_cases hxp : 0 ≤ mx
      · have hme : mn = 0 := by omega
        subst hme
        have hx9 : mx ≤ 9999 := by omega
        clear hmx
        have HR2 : Hid (R = [42] ++ Lib.itoa mx) := by show _ = _; rw [HR.out]; first | rfl | simp [hxp]
        have hlen := HL.out
        rw [HR2.out] at hlen
        simp at hlen
        clear HR hmp
        have hd1 : decide (mx = (0 : Int)) = false := by simp; omega
        go_enter Tryz.func88, Tryz.ntmps88
        have HP2 := Lib.hid HP.out
        have HBE2 : Hid (Below B w w) := Below.refl _ _
        have HE2 : Hid (∀ l2 w2, Wr B b buf w l2 w2 → Wr B b buf w l2 w2) := fun _ _ h => h
        go_wp2_with (go_at_call 42; refine (put_new B b l buf w HP2.out [[42]] (by simp; omega) (by simp) 1 _ ((Below.refl _ _).alloc (Nat.le_refl _) _) (Blk.new _ _ _)).mono ?_)
        rintro e w3 ⟨rfl, hw3⟩
        obtain ⟨buf3, hp3, hbel3, hE3⟩ := (HE2.out _ _ hw3).on
        have HP3 := Lib.hid hp3
        have HBE3 := Lib.hid hbel3
        have HE3 := Lib.hid hE3
        clear hw3 hp3 hbel3 hE3 HP2 HBE2 HE2
        go_wp2_with (go_at_call 135; refine (HI.out _ _ hxp hx9 HBE3.out).mono ?_)
        rintro e w4 ⟨rfl, hb4⟩
        have HB4 := Lib.hid hb4
        clear hb4
        go_wp2_with (go_at_call 42; refine (put_new B b (l ++ [[42]].flatten) buf3 w4 (HP3.out.later HB4.out) [Lib.itoa mx] (by simp; omega) (by simp) 1 _ ((Below.refl _ _).alloc (Nat.le_refl _) _) (Blk.new _ _ _)).mono ?_)
        rintro e w5 ⟨rfl, hw5⟩
        have HEND := Lib.hid (HE3.out _ _ (hw5.from_later HP3.out.room HB4.out))
        clear hw5
        go_wp2
        go_end0
        refine ⟨rfl, ?_⟩
        rw [HR2.out]
        simpa using HEND.out
      · have hme : mn = 0 := by omega
        subst hme
        have hxe : mx = -1 := by omega
        clear hmx
        subst hxe
        have HR2 : Hid (R = [42]) := by show _ = _; rw [HR.out]; first | rfl | simp [hxp]
        have hlen := HL.out
        rw [HR2.out] at hlen
        simp at hlen
        clear HR hxp hmp
        go_enter Tryz.func88, Tryz.ntmps88
        have HP2 := Lib.hid HP.out
        have HBE2 : Hid (Below B w w) := Below.refl _ _
        have HE2 : Hid (∀ l2 w2, Wr B b buf w l2 w2 → Wr B b buf w l2 w2) := fun _ _ h => h
        go_wp2_with (go_at_call 42; refine (put_new B b l buf w HP2.out [[42]] (by simp; omega) (by simp) 1 _ ((Below.refl _ _).alloc (Nat.le_refl _) _) (Blk.new _ _ _)).mono ?_)
        rintro e w3 ⟨rfl, hw3⟩
        obtain ⟨buf3, hp3, hbel3, hE3⟩ := (HE2.out _ _ hw3).on
        have HEND := Lib.hid (HE2.out _ _ hw3)
        clear hw3 hp3 hbel3 hE3
        go_wp2
        go_end0
        refine ⟨rfl, ?_⟩
        rw [HR2.out]
        simpa using HEND.out
end Go.Proofs.YtgbipbjpeecooaaGreatDoor

/-
  The contract of (*printer).kids, over a contract of (*printer).tree at the kids. Conditions: the kids lie in memory; Go's own limit on lengths.
-/
namespace Go.Proofs.YtgbipbjpeecooaaGreatDoor
open Go.RowKit

/-- a contract of (*printer).tree at one tree, whose text is this -/
def TreeAt (B b : Nat) (x : Tr) (s : List UInt8) : Prop := ∀ (sl : Value) (l : List UInt8) (buf : Option Nat) (W : World), Pr B b l buf W → KidsAt W (· < B) x.kids sl → PowAt W → l.length + s.length ≤ 140737488355328 →
    Calls Tryz.prog 43 #[.pointer (some ⟨b, 0, none⟩), treeV x sl] W fun e w' => e = .returned (.tuple #[]) ∧ Wr B b buf W (l ++ s) w'
theorem KindsAt.wr {B b : Nat} {buf : Option Nat} {w w' : World} {l : List UInt8} {g : Nat} {ks : List Int} (h : KindsAt w g ks) (hw : Wr B b buf w l w') (hg : g < w.heap.size) (h1 : g ≠ b) (h2 : some g ≠ buf) : KindsAt w' g ks := fun i k hk => (World.cell?_of_block (w := w) (a := ⟨g, i, none⟩) (hw.kept g hg h1 h2)).trans (h i k hk)
/-- blocks that were there stay other ones than the printer's -/
theorem Wr.apart {B b : Nat} {buf : Option Nat} {w w' : World} {l : List UInt8} (h : Wr B b buf w l w') : ∃ buf1, Pr B b l buf1 w' ∧ Below B w w' ∧ (∀ l2 w2, Wr B b buf1 w' l2 w2 → Wr B b buf w l2 w2) ∧ ∀ g, g < w.heap.size → some g ≠ buf → some g ≠ buf1 := by
  obtain ⟨⟨buf1, hp1, hc1⟩, hbel, hk⟩ := h
  refine ⟨buf1, hp1, hbel, fun _ _ hx => Wr.trans hc1 hbel hk hx, fun g hg hn => ?_⟩
  rcases hc1 with rfl | hc1
  · exact hn
  · intro he
    have := hc1 g he.symm
    omega

set_option maxHeartbeats 2000000 in
set_option maxRecDepth 100000 in
theorem prKids_any (f : Tr → List UInt8) (B b : Nat) (l between : List UInt8) (br : List Int) (ks : List Tr) (sl : Value) (gb c : Nat) (buf : Option Nat) (w : World) (h : Pr B b l buf w) (hk : KidsAt w (· < B) ks sl) (hbr : KindsAt w gb br) (hgl : gb < w.heap.size) (hgb : gb ≠ b) (hgf : some gb ≠ buf) (hbn : br.length ≤ 1000)
    (hp : PowAt w) (hB5 : 5 < B) (hlen : l.length + (kidsP f between br ks).length ≤ 140737488355328) (hT : ∀ x ∈ ks, TreeAt B b x (f x)) :
    Calls Tryz.prog 89 #[.pointer (some ⟨b, 0, none⟩), sl, .string (bs between), .slice (some ⟨gb, 0, none⟩) br.length c] w fun e w' => e = .returned (.tuple #[]) ∧ Wr B b buf w (l ++ kidsP f between br ks) w' := by
  obtain ⟨p, cap, rfl, hm⟩ := hk.form
  unfold maxLen at hm
  have HP := Lib.hid h
  have HK := Lib.hid hk
  have HBR := Lib.hid hbr
  have HPW := Lib.hid hp
  have HL := Lib.hid hlen
  have HT := Lib.hid hT
  clear h hk hbr hp hlen hT
  generalize hn : ks.length = n at *
  have HN := Lib.hid hn
  clear hn
  go_enter Tryz.func89, Tryz.ntmps89
  go_wp2
  go_loopw [8, 9, 12] (fun _ _ i wr => ∃ k : Nat, k ≤ n ∧ i = .int .i64 k ∧ Wr B b buf w (l ++ kidsP f between br (ks.take k)) wr) (fun _ _ i _ => n - (intOf i).toNat)
  case atStart => exact ⟨0, Nat.zero_le _, rfl, by simpa [kidsP, kidsF] using Wr.refl HP.out⟩
  case round =>
    obtain ⟨k, hk, rfl, hwr⟩ := hrel
    by_cases hlt : k < n
    · obtain ⟨x, hx⟩ : ∃ x, ks[k]? = some x := ⟨_, List.getElem?_eq_getElem (by rw [HN.out]; exact hlt)⟩
      have htk : ks.take (k + 1) = ks.take k ++ [x] := by rw [List.take_add_one, hx]; rfl
      have hlk : (ks.take k).length = k := by rw [List.length_take, HN.out]; omega
      have hsn : kidsP f between br (ks.take (k + 1)) = kidsP f between br (ks.take k) ++ (if k = 0 then [] else between) ++ kidP f br x := by
        unfold kidsP
        rw [htk, kidsF_snoc, hlk]
      have hpart : l.length + (kidsP f between br (ks.take k)).length + ((if k = 0 then [] else between : List UInt8).length + (kidP f br x).length) ≤ 140737488355328 := by
        have h1 := HL.out
        have h2 : (kidsP f between br (ks.take (k + 1))).length ≤ (kidsP f between br ks).length := kidsF_take _ _ _ _ _ _
        rw [hsn] at h2
        simp only [List.length_append] at h2
        omega
      have HSN := Lib.hid hsn
      have HPA := Lib.hid hpart
      clear hsn hpart htk hlk
      have HTX := Lib.hid (HT.out x (List.mem_of_getElem? hx))
      obtain ⟨buf1, hp1, hbel, hE, hap⟩ := hwr.apart
      have hg1 : some gb ≠ buf1 := hap gb hgl hgf
      have HK1 := Lib.hid (HBR.out.wr hwr hgl hgb hgf)
      have hgl1 : gb < wr.heap.size := Nat.lt_of_lt_of_le hgl hbel.size
      have hbl := hp1.lt
      have HPW1 := Lib.hid (HPW.out.below hbel hB5)
      have HE := Lib.hid hE
      have HP1 := Lib.hid hp1
      have HBF := Lib.hid (fun g (hg : buf1 = some g) => (hp1.buf_lt hg).2)
      obtain ⟨g, off, ksl, rfl, hg, _, a0, a1, a2, a3, a4, a5, a6, hkk, _⟩ := (HK.out.under hbel).at_ hx
      have HKK := Lib.hid hkk
      obtain ⟨kp, kc, rfl, _⟩ := hkk.form
      have hlt' : (k : Int) < n := by omega
      have h0' : (0 : Int) ≤ k := by omega
      clear hx hwr hbel hE hp1 hkk hap HK HBR HPW
      -- the kid's own block
      have HKB : Hid (Blk (wr.alloc (.cells #[.int .u8 x.kind, .string (bs x.text), .int .u8 x.lo, .int .u8 x.hi, .int .i64 x.mn, .int .i64 x.mx, .slice kp x.kids.length kc] 25)) wr.heap.size 25 #[.int .u8 x.kind, .string (bs x.text), .int .u8 x.lo, .int .u8 x.hi, .int .i64 x.mn, .int .i64 x.mx, .slice kp x.kids.length kc]) := Blk.new _ _ _
      have HB1 : Hid (Below wr.heap.size wr (wr.alloc (.cells #[.int .u8 x.kind, .string (bs x.text), .int .u8 x.lo, .int .u8 x.hi, .int .i64 x.mn, .int .i64 x.mx, .slice kp x.kids.length kc] 25))) := (Below.refl _ _).alloc (Nat.le_refl _) _
      have HTV : Hid (treeV x (.slice kp x.kids.length kc) = .agg #[.int .u8 x.kind, .string (bs x.text), .int .u8 x.lo, .int .u8 x.hi, .int .i64 x.mn, .int .i64 x.mx, .slice kp x.kids.length kc]) := show _ = _ from rfl
      have HTY : Hid (∀ (l : List UInt8) (buf : Option Nat) (W : World), Pr B b l buf W → KidsAt W (· < B) x.kids (.slice kp x.kids.length kc) → PowAt W → l.length + (f x).length ≤ 140737488355328 →
          Calls Tryz.prog 43 #[.pointer (some ⟨b, 0, none⟩), .agg #[.int .u8 x.kind, .string (bs x.text), .int .u8 x.lo, .int .u8 x.hi, .int .i64 x.mn, .int .i64 x.mx, .slice kp x.kids.length kc]] W fun e w' => e = .returned (.tuple #[]) ∧ Wr B b buf W (l ++ f x) w') := fun l buf W h1 h2 h3 h4 => by
        have := HTX.out _ l buf W h1 h2 h3 h4
        rw [HTV.out] at this
        exact this
      clear HTX HTV
      have HKP : Hid (kidP f br x = if br.contains x.kind then [40] ++ f x ++ [41] else f x) := show _ = _ from rfl
      have HC := Lib.hid (fun (W : World) (hW : KindsAt W gb br) => slContains_any gb c br x.kind hbn W hW)
      by_cases hk0 : k = 0
      · cases hc : br.contains x.kind with
        | false =>
          have HPAR : Hid ((l ++ kidsP f between br (ks.take k)).length + ((f x).length) ≤ 140737488355328) := by
            show _ ≤ _
            have h1 := HPA.out
            rw [HKP.out, hc] at h1
            simp [hk0] at h1 ⊢
            omega
          have HSN2 : Hid (kidsP f between br (ks.take (k + 1)) = kidsP f between br (ks.take k) ++ f x) := by show _ = _; rw [HSN.out, HKP.out, hc]; simp [hk0]
          rw [hc] at HC
          clear HSN HPA HKP hc
          have hk0' : ¬ (0 : Int) < k := by omega
          have hd0 : decide ((0 : Int) < k) = false := by simp; omega
          clear hk0
          have HP2 := Lib.hid (HP1.out.later HB1.out)
          have HK2 : Hid (KindsAt (wr.alloc (.cells #[.int .u8 x.kind, .string (bs x.text), .int .u8 x.lo, .int .u8 x.hi, .int .i64 x.mn, .int .i64 x.mx, .slice kp x.kids.length kc] 25)) gb br) := fun i z hz => (HB1.out.cell (p := ⟨gb, i, none⟩) hgl1).trans (HK1.out i z hz)
          have HE2 : Hid (∀ l2 w2, Wr B b buf1 (wr.alloc (.cells #[.int .u8 x.kind, .string (bs x.text), .int .u8 x.lo, .int .u8 x.hi, .int .i64 x.mn, .int .i64 x.mx, .slice kp x.kids.length kc] 25)) l2 w2 → Wr B b buf w l2 w2) := fun _ _ hx => HE.out _ _ (hx.from_later HP1.out.room HB1.out)
          have HKK2 : Hid (KidsAt (wr.alloc (.cells #[.int .u8 x.kind, .string (bs x.text), .int .u8 x.lo, .int .u8 x.hi, .int .i64 x.mn, .int .i64 x.mx, .slice kp x.kids.length kc] 25)) (· < B) x.kids (.slice kp x.kids.length kc)) := HKK.out.under (HB1.out.mono HP1.out.room)
          have HPW2 : Hid (PowAt (wr.alloc (.cells #[.int .u8 x.kind, .string (bs x.text), .int .u8 x.lo, .int .u8 x.hi, .int .i64 x.mn, .int .i64 x.mx, .slice kp x.kids.length kc] 25))) := HPW1.out.below HB1.out (Nat.lt_of_lt_of_le hB5 HP1.out.room)
          have HKB2 := Lib.hid HKB.out
          have hne2 : wr.heap.size ≠ b := by omega
          have hnf2 : some wr.heap.size ≠ buf1 := fun e => by have := HBF.out _ e.symm; omega
          clear HP1 HK1 HE HKK HPW1 HKB
          go_wp2_with (go_at_call 125; refine (HC.out _ HK2.out).mono ?_; rintro e w3 ⟨rfl, rfl⟩)
          refine (HTY.out (l ++ kidsP f between br (ks.take k)) buf1 _ HP2.out HKK2.out HPW2.out (by have := HPAR.out; simp at this ⊢; omega)).mono ?_
          rintro e w4 ⟨rfl, hw4⟩
          have hEND := HE2.out _ _ hw4
          clear hw4
          have heq : (l ++ kidsP f between br (ks.take k)) ++ f x = l ++ kidsP f between br (ks.take (k + 1)) := by rw [HSN2.out]; simp
          rw [heq] at hEND
          clear heq HSN2 HPAR HC
          go_wp2
          go_roundw
          case rel => exact ⟨k + 1, by omega, by go_num, hEND⟩
          case measure => simp [intOf]; omega
        | true =>
          have HPAR : Hid ((l ++ kidsP f between br (ks.take k)).length + (([40] ++ f x ++ [41]).length) ≤ 140737488355328) := by
            show _ ≤ _
            have h1 := HPA.out
            rw [HKP.out, hc] at h1
            simp [hk0] at h1 ⊢
            omega
          have HSN2 : Hid (kidsP f between br (ks.take (k + 1)) = kidsP f between br (ks.take k) ++ ([40] ++ f x ++ [41])) := by show _ = _; rw [HSN.out, HKP.out, hc]; simp [hk0]
          rw [hc] at HC
          clear HSN HPA HKP hc
          have hk0' : ¬ (0 : Int) < k := by omega
          have hd0 : decide ((0 : Int) < k) = false := by simp; omega
          clear hk0
          have HP2 := Lib.hid (HP1.out.later HB1.out)
          have HK2 : Hid (KindsAt (wr.alloc (.cells #[.int .u8 x.kind, .string (bs x.text), .int .u8 x.lo, .int .u8 x.hi, .int .i64 x.mn, .int .i64 x.mx, .slice kp x.kids.length kc] 25)) gb br) := fun i z hz => (HB1.out.cell (p := ⟨gb, i, none⟩) hgl1).trans (HK1.out i z hz)
          have HE2 : Hid (∀ l2 w2, Wr B b buf1 (wr.alloc (.cells #[.int .u8 x.kind, .string (bs x.text), .int .u8 x.lo, .int .u8 x.hi, .int .i64 x.mn, .int .i64 x.mx, .slice kp x.kids.length kc] 25)) l2 w2 → Wr B b buf w l2 w2) := fun _ _ hx => HE.out _ _ (hx.from_later HP1.out.room HB1.out)
          have HKK2 : Hid (KidsAt (wr.alloc (.cells #[.int .u8 x.kind, .string (bs x.text), .int .u8 x.lo, .int .u8 x.hi, .int .i64 x.mn, .int .i64 x.mx, .slice kp x.kids.length kc] 25)) (· < B) x.kids (.slice kp x.kids.length kc)) := HKK.out.under (HB1.out.mono HP1.out.room)
          have HPW2 : Hid (PowAt (wr.alloc (.cells #[.int .u8 x.kind, .string (bs x.text), .int .u8 x.lo, .int .u8 x.hi, .int .i64 x.mn, .int .i64 x.mx, .slice kp x.kids.length kc] 25))) := HPW1.out.below HB1.out (Nat.lt_of_lt_of_le hB5 HP1.out.room)
          have HKB2 := Lib.hid HKB.out
          have hne2 : wr.heap.size ≠ b := by omega
          have hnf2 : some wr.heap.size ≠ buf1 := fun e => by have := HBF.out _ e.symm; omega
          clear HP1 HK1 HE HKK HPW1 HKB
          go_wp2_with (go_at_call 125; refine (HC.out _ HK2.out).mono ?_; rintro e w3 ⟨rfl, rfl⟩)
          refine (put_at B b (l ++ kidsP f between br (ks.take k)) buf1 _ HP2.out [[40]] (by have := HPAR.out; simp at this ⊢; omega) (by simp) _ 1 1 _ (by simp) rfl ((Below.refl _ _).alloc (Nat.le_refl _) _) (Blk.new_at _ _ _ _ (by simp))).mono ?_
          rintro e w4 ⟨rfl, hw4⟩
          obtain ⟨buf4, hp4, hbel4, hE4, hap4⟩ := hw4.apart
          have HP4 := Lib.hid hp4
          have HE4 : Hid (∀ l2 w3, Wr B b buf4 w4 l2 w3 → Wr B b buf w l2 w3) := fun _ _ hx => HE2.out _ _ (hE4 _ _ hx)
          have HKK4 : Hid (KidsAt w4 (· < B) x.kids (.slice kp x.kids.length kc)) := HKK2.out.under hbel4
          have HPW4 : Hid (PowAt w4) := HPW2.out.below hbel4 hB5
          have hck4 := (hw4.blk HKB2.out hne2 hnf2).cell
          clear hw4 hp4 hbel4 hE4 hap4 HP2 HKK2 HPW2 HK2 HE2 HKB2
          clear a0 a1 a2 a3 a4 a5 a6
          go_wp2_with (go_at_call 43; refine (HTY.out ((l ++ kidsP f between br (ks.take k)) ++ [[40]].flatten) buf4 _ HP4.out HKK4.out HPW4.out (by have := HPAR.out; simp at this ⊢; omega)).mono ?_)
          rintro e w5 ⟨rfl, hw5⟩
          obtain ⟨buf5, hp5, hbel5, hE5, hap5⟩ := hw5.apart
          have HP5 := Lib.hid hp5
          have HE5 : Hid (∀ l2 w3, Wr B b buf5 w5 l2 w3 → Wr B b buf w l2 w3) := fun _ _ hx => HE4.out _ _ (hE5 _ _ hx)
          clear hw5 hp5 hbel5 hE5 hap5 HP4 HKK4 HPW4 HE4 hck4
          go_wp2_with (go_at_call 42; refine (put_new B b ((l ++ kidsP f between br (ks.take k)) ++ [[40]].flatten ++ f x) buf5 _ HP5.out [[41]] (by have := HPAR.out; simp at this ⊢; omega) (by simp) 1 _ ((Below.refl _ _).alloc (Nat.le_refl _) _) (Blk.new _ _ _)).mono ?_)
          rintro e w6 ⟨rfl, hw6⟩
          have hEND := HE5.out _ _ hw6
          clear hw6
          have heq : (l ++ kidsP f between br (ks.take k)) ++ [[40]].flatten ++ f x ++ [[41]].flatten = l ++ kidsP f between br (ks.take (k + 1)) := by rw [HSN2.out]; simp
          rw [heq] at hEND
          clear heq HSN2 HPAR HC
          go_wp2
          go_roundw
          case rel => exact ⟨k + 1, by omega, by go_num, hEND⟩
          case measure => simp [intOf]; omega
      · cases hc : br.contains x.kind with
        | false =>
          have HPAR : Hid ((l ++ kidsP f between br (ks.take k)).length + (between.length + (f x).length) ≤ 140737488355328) := by
            show _ ≤ _
            have h1 := HPA.out
            rw [HKP.out, hc] at h1
            simp [hk0] at h1 ⊢
            omega
          have HSN2 : Hid (kidsP f between br (ks.take (k + 1)) = kidsP f between br (ks.take k) ++ between ++ f x) := by show _ = _; rw [HSN.out, HKP.out, hc]; simp [hk0]
          rw [hc] at HC
          clear HSN HPA HKP hc
          have hk0' : (0 : Int) < k := by omega
          have hd0 : decide ((0 : Int) < k) = true := by simp; omega
          go_wp2_with (go_at_call 42; refine (put_at B b _ buf1 (wr.alloc (.cells #[.int .u8 x.kind, .string (bs x.text), .int .u8 x.lo, .int .u8 x.hi, .int .i64 x.mn, .int .i64 x.mx, .slice kp x.kids.length kc] 25)) (HP1.out.later HB1.out) [between] (by have := HPAR.out; simp at this ⊢; omega) (by simp) _ 1 1 _ (by simp) rfl ((Below.refl _ _).alloc (Nat.le_refl _) _) (Blk.new_at _ _ _ _ (by simp))).mono ?_)
          rintro e w2 ⟨rfl, hw2⟩
          obtain ⟨buf2, hp2, hbel2, hE2, hap2⟩ := hw2.apart
          have hne2 : wr.heap.size ≠ b := by omega
          have hnf1 : some wr.heap.size ≠ buf1 := fun e => by have := HBF.out _ e.symm; omega
          have hnf2 : some wr.heap.size ≠ buf2 := hap2 _ HKB.out.lt hnf1
          have HP2 := Lib.hid hp2
          have HK2 : Hid (KindsAt w2 gb br) := KindsAt.wr (fun i z hz => (HB1.out.cell (p := ⟨gb, i, none⟩) hgl1).trans (HK1.out i z hz)) hw2 (Nat.lt_of_lt_of_le hgl1 HB1.out.size) hgb hg1
          have HE2 : Hid (∀ l2 w3, Wr B b buf2 w2 l2 w3 → Wr B b buf w l2 w3) := fun _ _ hx => HE.out _ _ ((hE2 _ _ hx).from_later HP1.out.room HB1.out)
          have HKK2 : Hid (KidsAt w2 (· < B) x.kids (.slice kp x.kids.length kc)) := (HKK.out.under (HB1.out.mono HP1.out.room)).under hbel2
          have HPW2 : Hid (PowAt w2) := (HPW1.out.below HB1.out (Nat.lt_of_lt_of_le hB5 HP1.out.room)).below hbel2 hB5
          have HKB2 := Lib.hid (hw2.blk HKB.out hne2 hnf1)
          have hck := HKB2.out.cell
          clear HP1 HK1 HE HKK HPW1 HKB hw2 hp2 hbel2 hE2 hap2 hnf1 HB1 hd0
          clear a0 a1 a2 a3 a4 a5 a6
          go_wp2_with (go_at_call 125; refine (HC.out _ HK2.out).mono ?_; rintro e w3 ⟨rfl, rfl⟩)
          refine (HTY.out ((l ++ kidsP f between br (ks.take k)) ++ [between].flatten) buf2 _ HP2.out HKK2.out HPW2.out (by have := HPAR.out; simp at this ⊢; omega)).mono ?_
          rintro e w4 ⟨rfl, hw4⟩
          have hEND := HE2.out _ _ hw4
          clear hw4
          have heq : ((l ++ kidsP f between br (ks.take k)) ++ [between].flatten) ++ f x = l ++ kidsP f between br (ks.take (k + 1)) := by rw [HSN2.out]; simp
          rw [heq] at hEND
          clear heq HSN2 HPAR HC
          go_wp2
          go_roundw
          case rel => exact ⟨k + 1, by omega, by go_num, hEND⟩
          case measure => simp [intOf]; omega
        | true =>
          have HPAR : Hid ((l ++ kidsP f between br (ks.take k)).length + (between.length + ([40] ++ f x ++ [41]).length) ≤ 140737488355328) := by
            show _ ≤ _
            have h1 := HPA.out
            rw [HKP.out, hc] at h1
            simp [hk0] at h1 ⊢
            omega
          have HSN2 : Hid (kidsP f between br (ks.take (k + 1)) = kidsP f between br (ks.take k) ++ between ++ ([40] ++ f x ++ [41])) := by show _ = _; rw [HSN.out, HKP.out, hc]; simp [hk0]
          rw [hc] at HC
          clear HSN HPA HKP hc
          have hk0' : (0 : Int) < k := by omega
          have hd0 : decide ((0 : Int) < k) = true := by simp; omega
          go_wp2_with (go_at_call 42; refine (put_at B b _ buf1 (wr.alloc (.cells #[.int .u8 x.kind, .string (bs x.text), .int .u8 x.lo, .int .u8 x.hi, .int .i64 x.mn, .int .i64 x.mx, .slice kp x.kids.length kc] 25)) (HP1.out.later HB1.out) [between] (by have := HPAR.out; simp at this ⊢; omega) (by simp) _ 1 1 _ (by simp) rfl ((Below.refl _ _).alloc (Nat.le_refl _) _) (Blk.new_at _ _ _ _ (by simp))).mono ?_)
          rintro e w2 ⟨rfl, hw2⟩
          obtain ⟨buf2, hp2, hbel2, hE2, hap2⟩ := hw2.apart
          have hne2 : wr.heap.size ≠ b := by omega
          have hnf1 : some wr.heap.size ≠ buf1 := fun e => by have := HBF.out _ e.symm; omega
          have hnf2 : some wr.heap.size ≠ buf2 := hap2 _ HKB.out.lt hnf1
          have HP2 := Lib.hid hp2
          have HK2 : Hid (KindsAt w2 gb br) := KindsAt.wr (fun i z hz => (HB1.out.cell (p := ⟨gb, i, none⟩) hgl1).trans (HK1.out i z hz)) hw2 (Nat.lt_of_lt_of_le hgl1 HB1.out.size) hgb hg1
          have HE2 : Hid (∀ l2 w3, Wr B b buf2 w2 l2 w3 → Wr B b buf w l2 w3) := fun _ _ hx => HE.out _ _ ((hE2 _ _ hx).from_later HP1.out.room HB1.out)
          have HKK2 : Hid (KidsAt w2 (· < B) x.kids (.slice kp x.kids.length kc)) := (HKK.out.under (HB1.out.mono HP1.out.room)).under hbel2
          have HPW2 : Hid (PowAt w2) := (HPW1.out.below HB1.out (Nat.lt_of_lt_of_le hB5 HP1.out.room)).below hbel2 hB5
          have HKB2 := Lib.hid (hw2.blk HKB.out hne2 hnf1)
          have hck := HKB2.out.cell
          clear HP1 HK1 HE HKK HPW1 HKB hw2 hp2 hbel2 hE2 hap2 hnf1 HB1 hd0
          clear a0 a1 a2 a3 a4 a5 a6
          go_wp2_with (go_at_call 125; refine (HC.out _ HK2.out).mono ?_; rintro e w3 ⟨rfl, rfl⟩)
          refine (put_at B b ((l ++ kidsP f between br (ks.take k)) ++ [between].flatten) buf2 _ HP2.out [[40]] (by have := HPAR.out; simp at this ⊢; omega) (by simp) _ 1 1 _ (by simp) rfl ((Below.refl _ _).alloc (Nat.le_refl _) _) (Blk.new_at _ _ _ _ (by simp))).mono ?_
          rintro e w4 ⟨rfl, hw4⟩
          obtain ⟨buf4, hp4, hbel4, hE4, hap4⟩ := hw4.apart
          have HP4 := Lib.hid hp4
          have HE4 : Hid (∀ l2 w3, Wr B b buf4 w4 l2 w3 → Wr B b buf w l2 w3) := fun _ _ hx => HE2.out _ _ (hE4 _ _ hx)
          have HKK4 : Hid (KidsAt w4 (· < B) x.kids (.slice kp x.kids.length kc)) := HKK2.out.under hbel4
          have HPW4 : Hid (PowAt w4) := HPW2.out.below hbel4 hB5
          have hck4 := (hw4.blk HKB2.out hne2 hnf2).cell
          clear hw4 hp4 hbel4 hE4 hap4 HP2 HKK2 HPW2 HK2 HE2 HKB2 hck
          go_wp2_with (go_at_call 43; refine (HTY.out (((l ++ kidsP f between br (ks.take k)) ++ [between].flatten) ++ [[40]].flatten) buf4 _ HP4.out HKK4.out HPW4.out (by have := HPAR.out; simp at this ⊢; omega)).mono ?_)
          rintro e w5 ⟨rfl, hw5⟩
          obtain ⟨buf5, hp5, hbel5, hE5, hap5⟩ := hw5.apart
          have HP5 := Lib.hid hp5
          have HE5 : Hid (∀ l2 w3, Wr B b buf5 w5 l2 w3 → Wr B b buf w l2 w3) := fun _ _ hx => HE4.out _ _ (hE5 _ _ hx)
          clear hw5 hp5 hbel5 hE5 hap5 HP4 HKK4 HPW4 HE4 hck4
          go_wp2_with (go_at_call 42; refine (put_new B b (((l ++ kidsP f between br (ks.take k)) ++ [between].flatten) ++ [[40]].flatten ++ f x) buf5 _ HP5.out [[41]] (by have := HPAR.out; simp at this ⊢; omega) (by simp) 1 _ ((Below.refl _ _).alloc (Nat.le_refl _) _) (Blk.new _ _ _)).mono ?_)
          rintro e w6 ⟨rfl, hw6⟩
          have hEND := HE5.out _ _ hw6
          clear hw6
          have heq : ((l ++ kidsP f between br (ks.take k)) ++ [between].flatten) ++ [[40]].flatten ++ f x ++ [[41]].flatten = l ++ kidsP f between br (ks.take (k + 1)) := by rw [HSN2.out]; simp
          rw [heq] at hEND
          clear heq HSN2 HPAR HC
          go_wp2
          go_roundw
          case rel => exact ⟨k + 1, by omega, by go_num, hEND⟩
          case measure => simp [intOf]; omega
    · have : k = n := by omega
      subst this
      rw [List.take_of_length_le (by rw [HN.out]; omega)] at hwr
      go_wp2
      go_end0
      exact ⟨rfl, hwr⟩
end Go.Proofs.YtgbipbjpeecooaaGreatDoor

/-
  The contract of (*printer).tree, by a tree's depth. Conditions: the tree is right and lies in memory; its bytes are bytes; Go's own limit on lengths.
-/
namespace Go.Proofs.YtgbipbjpeecooaaGreatDoor
open Go.RowKit

theorem kind_of_right {d : Nat} {t : Tr} (h : rightD (d + 1) t = true) : aloneB t = true ∧ ∀ k ∈ t.kids, rightD d k = true := by
  have : rightD (d + 1) t = (aloneB t && t.kids.all (rightD d)) := rfl
  rw [this, Bool.and_eq_true, List.all_eq_true] at h
  exact h
theorem KindsAt.new (w : World) (t : TypeId) (ks : List Int) : KindsAt (w.alloc (.cells (ks.map fun z => Value.int .u8 z).toArray t)) w.heap.size ks := fun i k hk => by
  rw [cell_of_row _ _ i _ t (0, 0) (heap_alloc_new w _)]
  simp [hk]
theorem KindsAt.new_at (w : World) (t : TypeId) (ks : List Int) (g : Nat) (hg : g = w.heap.size) : KindsAt (w.alloc (.cells (ks.map fun z => Value.int .u8 z).toArray t)) g ks := by subst hg; exact KindsAt.new _ _ _
/-- kids, of a new row of kinds -/
theorem kids_at (f : Tr → List UInt8) (B b : Nat) (l between : List UInt8) (br : List Int) (ks : List Tr) (sl : Value) (g m c : Nat) (buf : Option Nat) (w W : World) (h : Pr B b l buf w) (hk : KidsAt w (· < B) ks sl) (hbn : br.length ≤ 1000) (hp : PowAt w) (hB5 : 5 < B) (hlen : l.length + (kidsP f between br ks).length ≤ 140737488355328) (hT : ∀ x ∈ ks, TreeAt B b x (f x))
    (hg : g = w.heap.size) (hm : m = br.length) (hW : Below w.heap.size w W) (hbr : KindsAt W g br) (hgl : g < W.heap.size) :
    Calls Tryz.prog 89 #[.pointer (some ⟨b, 0, none⟩), sl, .string (bs between), .slice (some ⟨g, 0, none⟩) m c] W fun e w' => e = .returned (.tuple #[]) ∧ Wr B b buf w (l ++ kidsP f between br ks) w' := by
  subst hg hm
  have hlt := h.lt
  refine (prKids_any f B b l between br ks sl w.heap.size c buf W (h.later hW) (hk.under (hW.mono h.room)) hbr hgl (by omega) ?_ hbn (hp.below hW (Nat.lt_of_lt_of_le hB5 h.room)) hB5 hlen hT).mono ?_
  · intro he
    have := (h.buf_lt he.symm).2
    omega
  · rintro e w' ⟨he, hw⟩
    exact ⟨he, hw.from_later h.room hW⟩
/-- values, of a new row of bytes -/
theorem values_at (B b g m c : Nat) (l between vs : List UInt8) (buf : Option Nat) (w W : World) (h : Pr B b l buf w) (hlen : l.length + (hexesP [37, 120] between vs).length ≤ 140737488355328) (hn : vs.length ≤ maxLen) (hg : g = w.heap.size) (hm : m = vs.length) (hW : Below w.heap.size w W) (hgl : g < W.heap.size) (hrow : ∀ j x, vs[j]? = some x → W.cell? ⟨g, j, none⟩ = some (.int .u8 x.toNat)) :
    Calls Tryz.prog 87 #[.pointer (some ⟨b, 0, none⟩), .string (bs between), .slice (some ⟨g, 0, none⟩) m c] W fun e w' => e = .returned (.tuple #[]) ∧ Wr B b buf w (l ++ hexesP [37, 120] between vs) w' := by
  subst hg hm
  have hlt := h.lt
  refine (values_any B b w.heap.size c l between vs buf W (h.later hW) hlen hn hgl hrow (by omega) ?_).mono ?_
  · intro he
    have := (h.buf_lt he.symm).2
    omega
  · rintro e w' ⟨he, hw⟩
    exact ⟨he, hw.from_later h.room hW⟩

set_option maxHeartbeats 2000000 in
set_option maxRecDepth 100000 in
theorem prTree_name (d : Nat) (B b : Nat) (t : Tr) (hkd : t.kind = 1) (hr : rightD (d + 1) t = true) (hy : byteD (d + 1) t) (hB5 : 5 < B) (htx : t.text.length ≤ maxLen) (hT : ∀ x ∈ t.kids, TreeAt B b x (printD d x)) : TreeAt B b t (printD (d + 1) t) := by
  intro sl l buf w h hk hp hlen
  obtain ⟨p, cap, rfl, hm⟩ := hk.form
  have HPR : Hid (printD (d + 1) t = t.text) := by
    show _ = _
    unfold printD
    simp [hkd]
  have HLE := hlen
  rw [HPR.out] at HLE
  have HL := Lib.hid HLE
  obtain ⟨hal, -⟩ := kind_of_right hr
  have hlt := h.lt
  have hB := h.room
  have HB1 : Hid (Below w.heap.size w (w.alloc (.cells #[.int .u8 t.kind, .string (bs t.text), .int .u8 t.lo, .int .u8 t.hi, .int .i64 t.mn, .int .i64 t.mx, .slice p t.kids.length cap] 25))) := (Below.refl _ _).alloc (Nat.le_refl _) _
  have HP0 := Lib.hid h
  have HP1 := Lib.hid (h.later HB1.out)
  have HK1 := Lib.hid (hk.under (HB1.out.mono hB))
  have HPW1 := Lib.hid (hp.below HB1.out (Nat.lt_of_lt_of_le hB5 hB))
  have HT := Lib.hid hT
  have HY := Lib.hid hy
  have HTX := Lib.hid htx
  have HTV : Hid (treeV t (.slice p t.kids.length cap) = .agg #[.int .u8 t.kind, .string (bs t.text), .int .u8 t.lo, .int .u8 t.hi, .int .i64 t.mn, .int .i64 t.mx, .slice p t.kids.length cap]) := show _ = _ from rfl
  rw [HTV.out, HPR.out]
  rw [hkd] at HB1 HP1 HK1 HPW1 ⊢
  clear hlen h hk hp hT hy hr hal HLE HTV HPR htx hm hkd
  go_enter Tryz.func43, Tryz.ntmps43
  go_wp2_with (go_at_call 42; refine (put_at B b l buf (w.alloc (.cells #[.int .u8 1, .string (bs t.text), .int .u8 t.lo, .int .u8 t.hi, .int .i64 t.mn, .int .i64 t.mx, .slice p t.kids.length cap] 25)) HP1.out [t.text] (by have := HL.out; simp at this ⊢; omega) (by simp) _ 1 1 _ (by simp) rfl ((Below.refl _ _).alloc (Nat.le_refl _) _) (Blk.new_at _ _ _ _ (by simp))).mono ?_)
  rintro e w2 ⟨rfl, hw2⟩
  have HEND := Lib.hid (hw2.from_later hB HB1.out)
  clear hw2
  go_wp2
  go_end0
  refine ⟨rfl, ?_⟩
  simpa using HEND.out

set_option maxHeartbeats 2000000 in
set_option maxRecDepth 100000 in
theorem prTree_chars (d : Nat) (B b : Nat) (t : Tr) (hkd : t.kind = 2) (hr : rightD (d + 1) t = true) (hy : byteD (d + 1) t) (hB5 : 5 < B) (htx : t.text.length ≤ maxLen) (hT : ∀ x ∈ t.kids, TreeAt B b x (printD d x)) : TreeAt B b t (printD (d + 1) t) := by
  intro sl l buf w h hk hp hlen
  obtain ⟨p, cap, rfl, hm⟩ := hk.form
  have HPR : Hid (printD (d + 1) t = [34] ++ t.text ++ [34]) := by
    show _ = _
    unfold printD
    simp [hkd]
  have HLE := hlen
  rw [HPR.out] at HLE
  have HL := Lib.hid HLE
  obtain ⟨hal, -⟩ := kind_of_right hr
  have hlt := h.lt
  have hB := h.room
  have HB1 : Hid (Below w.heap.size w (w.alloc (.cells #[.int .u8 t.kind, .string (bs t.text), .int .u8 t.lo, .int .u8 t.hi, .int .i64 t.mn, .int .i64 t.mx, .slice p t.kids.length cap] 25))) := (Below.refl _ _).alloc (Nat.le_refl _) _
  have HP0 := Lib.hid h
  have HP1 := Lib.hid (h.later HB1.out)
  have HK1 := Lib.hid (hk.under (HB1.out.mono hB))
  have HPW1 := Lib.hid (hp.below HB1.out (Nat.lt_of_lt_of_le hB5 hB))
  have HT := Lib.hid hT
  have HY := Lib.hid hy
  have HTX := Lib.hid htx
  have HTV : Hid (treeV t (.slice p t.kids.length cap) = .agg #[.int .u8 t.kind, .string (bs t.text), .int .u8 t.lo, .int .u8 t.hi, .int .i64 t.mn, .int .i64 t.mx, .slice p t.kids.length cap]) := show _ = _ from rfl
  rw [HTV.out, HPR.out]
  rw [hkd] at HB1 HP1 HK1 HPW1 ⊢
  clear hlen h hk hp hT hy hr hal HLE HTV HPR htx hm hkd
  go_enter Tryz.func43, Tryz.ntmps43
  go_wp2_with (go_at_call 42; refine (put_at B b l buf (w.alloc (.cells #[.int .u8 2, .string (bs t.text), .int .u8 t.lo, .int .u8 t.hi, .int .i64 t.mn, .int .i64 t.mx, .slice p t.kids.length cap] 25)) HP1.out [[34], t.text, [34]] (by have := HL.out; simp at this ⊢; omega) (by simp) _ 3 3 _ (by simp) rfl ((Below.refl _ _).alloc (Nat.le_refl _) _) (Blk.new_at _ _ _ _ (by simp))).mono ?_)
  rintro e w2 ⟨rfl, hw2⟩
  have HEND := Lib.hid (hw2.from_later hB HB1.out)
  clear hw2
  go_wp2
  go_end0
  refine ⟨rfl, ?_⟩
  simpa using HEND.out

set_option maxHeartbeats 2000000 in
set_option maxRecDepth 100000 in
theorem prTree_row (d : Nat) (B b : Nat) (t : Tr) (hkd : t.kind = 5) (hr : rightD (d + 1) t = true) (hy : byteD (d + 1) t) (hB5 : 5 < B) (htx : t.text.length ≤ maxLen) (hT : ∀ x ∈ t.kids, TreeAt B b x (printD d x)) : TreeAt B b t (printD (d + 1) t) := by
  intro sl l buf w h hk hp hlen
  obtain ⟨p, cap, rfl, hm⟩ := hk.form
  have HPR : Hid (printD (d + 1) t = kidsP (printD d) [32] [5, 6] t.kids) := by
    show _ = _
    unfold printD
    simp [hkd]
  have HLE := hlen
  rw [HPR.out] at HLE
  have HL := Lib.hid HLE
  obtain ⟨hal, -⟩ := kind_of_right hr
  have hlt := h.lt
  have hB := h.room
  have HB1 : Hid (Below w.heap.size w (w.alloc (.cells #[.int .u8 t.kind, .string (bs t.text), .int .u8 t.lo, .int .u8 t.hi, .int .i64 t.mn, .int .i64 t.mx, .slice p t.kids.length cap] 25))) := (Below.refl _ _).alloc (Nat.le_refl _) _
  have HP0 := Lib.hid h
  have HP1 := Lib.hid (h.later HB1.out)
  have HK1 := Lib.hid (hk.under (HB1.out.mono hB))
  have HPW1 := Lib.hid (hp.below HB1.out (Nat.lt_of_lt_of_le hB5 hB))
  have HT := Lib.hid hT
  have HY := Lib.hid hy
  have HTX := Lib.hid htx
  have HTV : Hid (treeV t (.slice p t.kids.length cap) = .agg #[.int .u8 t.kind, .string (bs t.text), .int .u8 t.lo, .int .u8 t.hi, .int .i64 t.mn, .int .i64 t.mx, .slice p t.kids.length cap]) := show _ = _ from rfl
  rw [HTV.out, HPR.out]
  rw [hkd] at HB1 HP1 HK1 HPW1 ⊢
  clear hlen h hk hp hT hy hr hal HLE HTV HPR htx hm hkd
  go_enter Tryz.func43, Tryz.ntmps43
  go_wp2_with (go_at_call 89; refine (kids_at (printD d) B b l [32] [5, 6] t.kids _ _ 2 2 buf (w.alloc (.cells #[.int .u8 5, .string (bs t.text), .int .u8 t.lo, .int .u8 t.hi, .int .i64 t.mn, .int .i64 t.mx, .slice p t.kids.length cap] 25)) _ HP1.out HK1.out (by simp) HPW1.out hB5 HL.out HT.out (by simp) rfl ((Below.refl _ _).alloc (Nat.le_refl _) _) (KindsAt.new_at _ _ _ _ (by simp)) (by simp)).mono ?_)
  rintro e w2 ⟨rfl, hw2⟩
  have HEND := Lib.hid (hw2.from_later hB HB1.out)
  clear hw2
  go_wp2
  go_end0
  refine ⟨rfl, ?_⟩
  exact HEND.out

set_option maxHeartbeats 2000000 in
set_option maxRecDepth 100000 in
theorem prTree_or (d : Nat) (B b : Nat) (t : Tr) (hkd : t.kind = 6) (hr : rightD (d + 1) t = true) (hy : byteD (d + 1) t) (hB5 : 5 < B) (htx : t.text.length ≤ maxLen) (hT : ∀ x ∈ t.kids, TreeAt B b x (printD d x)) : TreeAt B b t (printD (d + 1) t) := by
  intro sl l buf w h hk hp hlen
  obtain ⟨p, cap, rfl, hm⟩ := hk.form
  have HPR : Hid (printD (d + 1) t = kidsP (printD d) [32, 47, 32] [6] t.kids) := by
    show _ = _
    unfold printD
    simp [hkd]
  have HLE := hlen
  rw [HPR.out] at HLE
  have HL := Lib.hid HLE
  obtain ⟨hal, -⟩ := kind_of_right hr
  have hlt := h.lt
  have hB := h.room
  have HB1 : Hid (Below w.heap.size w (w.alloc (.cells #[.int .u8 t.kind, .string (bs t.text), .int .u8 t.lo, .int .u8 t.hi, .int .i64 t.mn, .int .i64 t.mx, .slice p t.kids.length cap] 25))) := (Below.refl _ _).alloc (Nat.le_refl _) _
  have HP0 := Lib.hid h
  have HP1 := Lib.hid (h.later HB1.out)
  have HK1 := Lib.hid (hk.under (HB1.out.mono hB))
  have HPW1 := Lib.hid (hp.below HB1.out (Nat.lt_of_lt_of_le hB5 hB))
  have HT := Lib.hid hT
  have HY := Lib.hid hy
  have HTX := Lib.hid htx
  have HTV : Hid (treeV t (.slice p t.kids.length cap) = .agg #[.int .u8 t.kind, .string (bs t.text), .int .u8 t.lo, .int .u8 t.hi, .int .i64 t.mn, .int .i64 t.mx, .slice p t.kids.length cap]) := show _ = _ from rfl
  rw [HTV.out, HPR.out]
  rw [hkd] at HB1 HP1 HK1 HPW1 ⊢
  clear hlen h hk hp hT hy hr hal HLE HTV HPR htx hm hkd
  go_enter Tryz.func43, Tryz.ntmps43
  go_wp2_with (go_at_call 89; refine (kids_at (printD d) B b l [32, 47, 32] [6] t.kids _ _ 1 1 buf (w.alloc (.cells #[.int .u8 6, .string (bs t.text), .int .u8 t.lo, .int .u8 t.hi, .int .i64 t.mn, .int .i64 t.mx, .slice p t.kids.length cap] 25)) _ HP1.out HK1.out (by simp) HPW1.out hB5 HL.out HT.out (by simp) rfl ((Below.refl _ _).alloc (Nat.le_refl _) _) (KindsAt.new_at _ _ _ _ (by simp)) (by simp)).mono ?_)
  rintro e w2 ⟨rfl, hw2⟩
  have HEND := Lib.hid (hw2.from_later hB HB1.out)
  clear hw2
  go_wp2
  go_end0
  refine ⟨rfl, ?_⟩
  exact HEND.out

set_option maxHeartbeats 2000000 in
set_option maxRecDepth 100000 in
theorem prTree_times (d : Nat) (B b : Nat) (t : Tr) (hkd : t.kind = 7) (hr : rightD (d + 1) t = true) (hy : byteD (d + 1) t) (hB5 : 5 < B) (htx : t.text.length ≤ maxLen) (hT : ∀ x ∈ t.kids, TreeAt B b x (printD d x)) : TreeAt B b t (printD (d + 1) t) := by
  intro sl l buf w h hk hp hlen
  obtain ⟨p, cap, rfl, hm⟩ := hk.form
  have HPR : Hid (printD (d + 1) t = timesTextP t.mn t.mx ++ kidsP (printD d) [] [7, 5, 6] t.kids) := by
    show _ = _
    unfold printD
    simp [hkd]
  have HLE := hlen
  rw [HPR.out] at HLE
  have HL := Lib.hid HLE
  obtain ⟨hal, -⟩ := kind_of_right hr
  have hlt := h.lt
  have hB := h.room
  have HB1 : Hid (Below w.heap.size w (w.alloc (.cells #[.int .u8 t.kind, .string (bs t.text), .int .u8 t.lo, .int .u8 t.hi, .int .i64 t.mn, .int .i64 t.mx, .slice p t.kids.length cap] 25))) := (Below.refl _ _).alloc (Nat.le_refl _) _
  have HP0 := Lib.hid h
  have HP1 := Lib.hid (h.later HB1.out)
  have HK1 := Lib.hid (hk.under (HB1.out.mono hB))
  have HPW1 := Lib.hid (hp.below HB1.out (Nat.lt_of_lt_of_le hB5 hB))
  have HT := Lib.hid hT
  have HY := Lib.hid hy
  have HTX := Lib.hid htx
  have HTV : Hid (treeV t (.slice p t.kids.length cap) = .agg #[.int .u8 t.kind, .string (bs t.text), .int .u8 t.lo, .int .u8 t.hi, .int .i64 t.mn, .int .i64 t.mx, .slice p t.kids.length cap]) := show _ = _ from rfl
  rw [HTV.out, HPR.out]
  have HTI : Hid (timesB t.mn t.mx = true) := by show _ = _; have := hal; unfold aloneB at this; simp [hkd] at this; simp [this]
  have hne : w.heap.size ≠ b := by omega
  have hnf : some w.heap.size ≠ buf := fun e => by have := (HP0.out.buf_lt e.symm).2; omega
  rw [hkd] at HB1 HP1 HK1 HPW1 ⊢
  clear hlen h hk hp hT hy hr hal HLE HTV HPR htx hm hkd
  go_enter Tryz.func43, Tryz.ntmps43
  go_wp2_with (go_at_call 88; refine (prTimes_any B b l t.mn t.mx buf (w.alloc (.cells #[.int .u8 7, .string (bs t.text), .int .u8 t.lo, .int .u8 t.hi, .int .i64 t.mn, .int .i64 t.mx, .slice p t.kids.length cap] 25)) HP1.out HTI.out HPW1.out hB5 (by have := HL.out; simp at this ⊢; omega)).mono ?_)
  rintro e w2 ⟨rfl, hw2⟩
  obtain ⟨buf2, hp2, hbel2, hE2, _⟩ := hw2.apart
  have hck := (hw2.blk (Blk.new w _ _) hne hnf).cell
  have HP2 := Lib.hid hp2
  have HK2 := Lib.hid (HK1.out.under hbel2)
  have HPW2 := Lib.hid (HPW1.out.below hbel2 hB5)
  have HE2 : Hid (∀ l2 w3, Wr B b buf2 w2 l2 w3 → Wr B b buf w l2 w3) := fun _ _ hx => (hE2 _ _ hx).from_later hB HB1.out
  clear hw2 hp2 hbel2 hE2
  go_wp2_with (go_at_call 89; refine (kids_at (printD d) B b _ [] [7, 5, 6] t.kids _ _ 3 3 buf2 w2 _ HP2.out HK2.out (by simp) HPW2.out hB5 (by have := HL.out; simp at this ⊢; omega) HT.out (by simp) rfl ((Below.refl _ _).alloc (Nat.le_refl _) _) (KindsAt.new_at _ _ _ _ (by simp)) (by simp)).mono ?_)
  rintro e w3 ⟨rfl, hw3⟩
  have HEND := Lib.hid (HE2.out _ _ hw3)
  clear hw3
  go_wp2
  go_end0
  refine ⟨rfl, ?_⟩
  simpa using HEND.out

set_option maxHeartbeats 2000000 in
set_option maxRecDepth 100000 in
theorem prTree_range (d : Nat) (B b : Nat) (t : Tr) (hkd : t.kind = 4) (hr : rightD (d + 1) t = true) (hy : byteD (d + 1) t) (hB5 : 5 < B) (htx : t.text.length ≤ maxLen) (hT : ∀ x ∈ t.kids, TreeAt B b x (printD d x)) : TreeAt B b t (printD (d + 1) t) := by
  intro sl l buf w h hk hp hlen
  obtain ⟨p, cap, rfl, hm⟩ := hk.form
  have HPR : Hid (printD (d + 1) t = hexesP [37, 120] [45] [byteOf t.lo, byteOf t.hi]) := by
    show _ = _
    unfold printD
    simp [hkd]
  have HLE := hlen
  rw [HPR.out] at HLE
  have HL := Lib.hid HLE
  obtain ⟨hal, -⟩ := kind_of_right hr
  have hlt := h.lt
  have hB := h.room
  have HB1 : Hid (Below w.heap.size w (w.alloc (.cells #[.int .u8 t.kind, .string (bs t.text), .int .u8 t.lo, .int .u8 t.hi, .int .i64 t.mn, .int .i64 t.mx, .slice p t.kids.length cap] 25))) := (Below.refl _ _).alloc (Nat.le_refl _) _
  have HP0 := Lib.hid h
  have HP1 := Lib.hid (h.later HB1.out)
  have HK1 := Lib.hid (hk.under (HB1.out.mono hB))
  have HPW1 := Lib.hid (hp.below HB1.out (Nat.lt_of_lt_of_le hB5 hB))
  have HT := Lib.hid hT
  have HY := Lib.hid hy
  have HTX := Lib.hid htx
  have HTV : Hid (treeV t (.slice p t.kids.length cap) = .agg #[.int .u8 t.kind, .string (bs t.text), .int .u8 t.lo, .int .u8 t.hi, .int .i64 t.mn, .int .i64 t.mx, .slice p t.kids.length cap]) := show _ = _ from rfl
  rw [HTV.out, HPR.out]
  have HRW : Hid (∀ (W : World) (g : Nat), g = W.heap.size → ∀ (j : Nat) (x : UInt8), [byteOf t.lo, byteOf t.hi][j]? = some x → (W.alloc (.cells #[.int .u8 t.lo, .int .u8 t.hi] 5)).cell? ⟨g, j, none⟩ = some (.int .u8 x.toNat)) := fun W g hg j x hx => by
    subst hg
    obtain ⟨⟨q0, q1⟩, ⟨q2, q3⟩, _⟩ := HY.out
    rw [cell_of_row _ _ j _ _ (0, 0) (heap_alloc_new W _)]
    match j, hx with
    | 0, hx => injection hx with hx; subst hx; rw [byteOf_toNat _ q0 q1]; rfl
    | 1, hx => injection hx with hx; subst hx; rw [byteOf_toNat _ q2 q3]; rfl
    | j + 2, hx => simp at hx
  rw [hkd] at HB1 HP1 HK1 HPW1 ⊢
  clear hlen h hk hp hT hy hr hal HLE HTV HPR htx hm hkd
  go_enter Tryz.func43, Tryz.ntmps43
  go_wp2_with (go_at_call 87; refine (values_at B b _ 2 2 l [45] [byteOf t.lo, byteOf t.hi] buf (w.alloc (.cells #[.int .u8 4, .string (bs t.text), .int .u8 t.lo, .int .u8 t.hi, .int .i64 t.mn, .int .i64 t.mx, .slice p t.kids.length cap] 25)) _ HP1.out HL.out (by unfold maxLen; simp) (by simp) rfl ((Below.refl _ _).alloc (Nat.le_refl _) _) (by simp) (HRW.out _ _ (by simp))).mono ?_)
  rintro e w2 ⟨rfl, hw2⟩
  have HEND := Lib.hid (hw2.from_later hB HB1.out)
  clear hw2
  go_wp2
  go_end0
  refine ⟨rfl, ?_⟩
  exact HEND.out

end Go.Proofs.YtgbipbjpeecooaaGreatDoor

/-
  The contract of (*printer).tree at bytes; then at every right tree. Conditions: the tree is right and lies in memory; its bytes are bytes; Go's own limit on lengths.
-/
namespace Go.Proofs.YtgbipbjpeecooaaGreatDoor
open Go.RowKit

set_option maxHeartbeats 2000000 in
set_option maxRecDepth 100000 in
theorem prTree_bytes (d : Nat) (B b : Nat) (t : Tr) (hkd : t.kind = 3) (hr : rightD (d + 1) t = true) (hy : byteD (d + 1) t) (hB5 : 5 < B) (htx : t.text.length ≤ maxLen) (hT : ∀ x ∈ t.kids, TreeAt B b x (printD d x)) : TreeAt B b t (printD (d + 1) t) := by
  intro sl l buf w h hk hp hlen
  obtain ⟨p, cap, rfl, hm⟩ := hk.form
  have HPR : Hid (printD (d + 1) t = hexesP [37, 120] [46] t.text) := by
    show _ = _
    unfold printD
    simp [hkd]
  have HLE := hlen
  rw [HPR.out] at HLE
  have HL := Lib.hid HLE
  obtain ⟨hal, -⟩ := kind_of_right hr
  have hlt := h.lt
  have hB := h.room
  have HB1 : Hid (Below w.heap.size w (w.alloc (.cells #[.int .u8 t.kind, .string (bs t.text), .int .u8 t.lo, .int .u8 t.hi, .int .i64 t.mn, .int .i64 t.mx, .slice p t.kids.length cap] 25))) := (Below.refl _ _).alloc (Nat.le_refl _) _
  have HP0 := Lib.hid h
  have HP1 := Lib.hid (h.later HB1.out)
  have HK1 := Lib.hid (hk.under (HB1.out.mono hB))
  have HPW1 := Lib.hid (hp.below HB1.out (Nat.lt_of_lt_of_le hB5 hB))
  have HT := Lib.hid hT
  have HY := Lib.hid hy
  have HTX := Lib.hid htx
  have HTV : Hid (treeV t (.slice p t.kids.length cap) = .agg #[.int .u8 t.kind, .string (bs t.text), .int .u8 t.lo, .int .u8 t.hi, .int .i64 t.mn, .int .i64 t.mx, .slice p t.kids.length cap]) := show _ = _ from rfl
  rw [HTV.out, HPR.out]
  rw [hkd] at HB1 HP1 HK1 HPW1 ⊢
  clear hlen h hk hp hT hy hr hal HLE HTV HPR htx hm hkd
  have hcv := Lib.run_convert_string_bytes (P := Tryz.prog) (w.alloc (.cells #[.int .u8 3, .string (bs t.text), .int .u8 t.lo, .int .u8 t.hi, .int .i64 t.mn, .int .i64 t.mx, .slice p t.kids.length cap] 25)) 9 87 5 (bs t.text) (u := .string) Tryz.underlying9 Tryz.underlying87 Tryz.underlying5
  have HB2 : Hid (Below (w.alloc (.cells #[.int .u8 3, .string (bs t.text), .int .u8 t.lo, .int .u8 t.hi, .int .i64 t.mn, .int .i64 t.mx, .slice p t.kids.length cap] 25)).heap.size (w.alloc (.cells #[.int .u8 3, .string (bs t.text), .int .u8 t.lo, .int .u8 t.hi, .int .i64 t.mn, .int .i64 t.mx, .slice p t.kids.length cap] 25)) (Lib.bytesWorld (w.alloc (.cells #[.int .u8 3, .string (bs t.text), .int .u8 t.lo, .int .u8 t.hi, .int .i64 t.mn, .int .i64 t.mx, .slice p t.kids.length cap] 25)) 5 (bs t.text))) := ⟨rfl, rfl, rfl, by rw [Lib.bytesWorld_size]; omega, fun k hk => Lib.bytesWorld_at_old _ _ _ k hk⟩
  have HC2 : Hid (∀ g, g = (w.alloc (.cells #[.int .u8 3, .string (bs t.text), .int .u8 t.lo, .int .u8 t.hi, .int .i64 t.mn, .int .i64 t.mx, .slice p t.kids.length cap] 25)).heap.size → ∀ (j : Nat) (x : UInt8), t.text[j]? = some x → (Lib.bytesWorld (w.alloc (.cells #[.int .u8 3, .string (bs t.text), .int .u8 t.lo, .int .u8 t.hi, .int .i64 t.mn, .int .i64 t.mx, .slice p t.kids.length cap] 25)) 5 (bs t.text)).cell? ⟨g, j, none⟩ = some (.int .u8 x.toNat)) := fun g hg j x hx => by
    subst hg
    rw [Lib.bytesWorld_cell _ _ _ j (by rw [bs_len]; exact (List.getElem?_eq_some_iff.1 hx).1), bs_toList, List.getD_eq_getElem?_getD, hx]
    rfl
  have HLT : Hid (∀ g, g = (w.alloc (.cells #[.int .u8 3, .string (bs t.text), .int .u8 t.lo, .int .u8 t.hi, .int .i64 t.mn, .int .i64 t.mx, .slice p t.kids.length cap] 25)).heap.size → g < (Lib.bytesWorld (w.alloc (.cells #[.int .u8 3, .string (bs t.text), .int .u8 t.lo, .int .u8 t.hi, .int .i64 t.mn, .int .i64 t.mx, .slice p t.kids.length cap] 25)) 5 (bs t.text)).heap.size) := fun g hg => by subst hg; rw [Lib.bytesWorld_size]; omega
  obtain ⟨W2, HW2⟩ : ∃ W2, Hid (W2 = Lib.bytesWorld (w.alloc (.cells #[.int .u8 3, .string (bs t.text), .int .u8 t.lo, .int .u8 t.hi, .int .i64 t.mn, .int .i64 t.mx, .slice p t.kids.length cap] 25)) 5 (bs t.text)) := ⟨_, rfl⟩
  rw [← HW2.out] at hcv HB2 HC2 HLT
  clear HW2
  generalize grownCap (w.alloc (.cells #[.int .u8 3, .string (bs t.text), .int .u8 t.lo, .int .u8 t.hi, .int .i64 t.mn, .int .i64 t.mx, .slice p t.kids.length cap] 25)) (bs t.text).size 0 5 = cp at hcv
  have hsz : (w.alloc (.cells #[.int .u8 3, .string (bs t.text), .int .u8 t.lo, .int .u8 t.hi, .int .i64 t.mn, .int .i64 t.mx, .slice p t.kids.length cap] 25)).heap.size = w.heap.size + 1 := by simp
  rw [hsz] at hcv
  clear hsz
  go_enter Tryz.func43, Tryz.ntmps43
  go_wp2_with (go_at_call 87; refine (values_at B b _ _ _ l [46] t.text buf (w.alloc (.cells #[.int .u8 3, .string (bs t.text), .int .u8 t.lo, .int .u8 t.hi, .int .i64 t.mn, .int .i64 t.mx, .slice p t.kids.length cap] 25)) _ HP1.out HL.out HTX.out (by simp) (bs_len _) HB2.out (HLT.out _ (by simp)) (HC2.out _ (by simp))).mono ?_)
  rintro e w2 ⟨rfl, hw2⟩
  have HEND := Lib.hid (hw2.from_later hB HB1.out)
  clear hw2
  go_wp2
  go_end0
  refine ⟨rfl, ?_⟩
  exact HEND.out


/-- texts within Go's bounds, in a tree so deep -/
def textD : Nat → Tr → Prop
  | 0, _ => True
  | d + 1, t => t.text.length ≤ maxLen ∧ (∀ k ∈ t.kids, textD d k)

theorem prTree_any : ∀ (d : Nat) (B b : Nat) (t : Tr), rightD d t = true → byteD d t → textD d t → 5 < B → TreeAt B b t (printD d t) := by
  intro d
  induction d with
  | zero =>
    intro B b t hr
    cases hr
  | succ d ih =>
    intro B b t hr hy htx hB
    obtain ⟨hal, hkr⟩ := kind_of_right hr
    have hT : ∀ x ∈ t.kids, TreeAt B b x (printD d x) := fun x hx => ih B b x (hkr x hx) (hy.2.2 x hx) (htx.2 x hx) hB
    have hkd : t.kind = 1 ∨ t.kind = 2 ∨ t.kind = 3 ∨ t.kind = 4 ∨ t.kind = 5 ∨ t.kind = 6 ∨ t.kind = 7 := by
      unfold aloneB at hal
      by_cases h1 : t.kind = 1
      · exact .inl h1
      by_cases h2 : t.kind = 2
      · exact .inr (.inl h2)
      by_cases h3 : t.kind = 3
      · exact .inr (.inr (.inl h3))
      by_cases h4 : t.kind = 4
      · exact .inr (.inr (.inr (.inl h4)))
      by_cases h5 : t.kind = 5
      · exact .inr (.inr (.inr (.inr (.inl h5))))
      by_cases h6 : t.kind = 6
      · exact .inr (.inr (.inr (.inr (.inr (.inl h6)))))
      by_cases h7 : t.kind = 7
      · exact .inr (.inr (.inr (.inr (.inr (.inr h7)))))
      rw [if_neg h1, if_neg h2, if_neg h3, if_neg h4, if_neg (by omega), if_neg h7] at hal
      cases hal
    rcases hkd with h | h | h | h | h | h | h
    · exact prTree_name d B b t h hr hy hB htx.1 hT
    · exact prTree_chars d B b t h hr hy hB htx.1 hT
    · exact prTree_bytes d B b t h hr hy hB htx.1 hT
    · exact prTree_range d B b t h hr hy hB htx.1 hT
    · exact prTree_row d B b t h hr hy hB htx.1 hT
    · exact prTree_or d B b t h hr hy hB htx.1 hT
    · exact prTree_times d B b t h hr hy hB htx.1 hT
end Go.Proofs.YtgbipbjpeecooaaGreatDoor

/-
  The contract of abnf.Print. Conditions: the rule's tree lies in memory; its bytes are bytes, its texts within Go's bounds; the text within Go's own limit.
-/
namespace Go.Proofs.YtgbipbjpeecooaaGreatDoor
open Go.RowKit

def printP (name : List UInt8) (more : Bool) (t : Tr) : List UInt8 × Int :=
  if nameB name && rightB t then (name ++ (if more then [32, 61, 47, 32] else [32, 61, 32]) ++ printD 100 t, 0) else ([], 2)

theorem ret_pair {s s' : ByteArray} {k k' : Int} (h : s = s') (h2 : k = k') : Ending.returned (.tuple #[.string s, .int .i64 k]) = .returned (.tuple #[.string s', .int .i64 k']) := by rw [h, h2]

set_option maxHeartbeats 4000000 in
set_option maxRecDepth 100000 in
theorem Print_any (r : Rl) (sl : Value) (w : World) (hk : KidsAt w (· < w.heap.size) r.tree.kids sl) (hy : byteD 100 r.tree) (htx : textD 100 r.tree) (hp : PowAt w) (hn : r.name.length ≤ maxLen) (hlen : (printP r.name r.more r.tree).1.length ≤ 140737488355328) :
    Calls Tryz.prog 17 #[.agg (ruleCells r sl).toArray] w fun e w' => e = .returned (.tuple #[.string (bs (printP r.name r.more r.tree).1), .int .i64 (printP r.name r.more r.tree).2]) ∧ Below w.heap.size w w' := by
  obtain ⟨p, cap, rfl, hm⟩ := hk.form
  have HRC : Hid ((ruleCells r (.slice p r.tree.kids.length cap)).toArray = #[.string (bs r.name), .int .i64 r.place, .bool r.more, .int .u8 r.tree.kind, .string (bs r.tree.text), .int .u8 r.tree.lo, .int .u8 r.tree.hi, .int .i64 r.tree.mn, .int .i64 r.tree.mx, .slice p r.tree.kids.length cap]) := show _ = _ from rfl
  rw [HRC.out]
  clear HRC
  have HNM := Lib.hid (fun W => abName_bs r.name hn W)
  have HTV : Hid (treeV r.tree (.slice p r.tree.kids.length cap) = .agg #[.int .u8 r.tree.kind, .string (bs r.tree.text), .int .u8 r.tree.lo, .int .u8 r.tree.hi, .int .i64 r.tree.mn, .int .i64 r.tree.mx, .slice p r.tree.kids.length cap]) := show _ = _ from rfl
  have HRT : Hid (∀ (W : World), Below w.heap.size w W → Calls Tryz.prog 15 #[.agg #[.int .u8 r.tree.kind, .string (bs r.tree.text), .int .u8 r.tree.lo, .int .u8 r.tree.hi, .int .i64 r.tree.mn, .int .i64 r.tree.mx, .slice p r.tree.kids.length cap]] W fun e w' => e = .returned (.bool (rightB r.tree)) ∧ Below W.heap.size W w') := fun W hW => by
    have := abRight_any r.tree _ W ((hk.under hW).mono (fun b hl _ => hl)) htx.1
    rw [HTV.out] at this
    exact this
  have HPP : Hid (printP r.name r.more r.tree = if nameB r.name && rightB r.tree then (r.name ++ (if r.more then [32, 61, 47, 32] else [32, 61, 32]) ++ printD 100 r.tree, 0) else ([], 2)) := show _ = _ from rfl
  have HB1 : Hid (Below w.heap.size w (w.alloc (.cells #[.string (bs r.name), .int .i64 r.place, .bool r.more, .int .u8 r.tree.kind, .string (bs r.tree.text), .int .u8 r.tree.lo, .int .u8 r.tree.hi, .int .i64 r.tree.mn, .int .i64 r.tree.mx, .slice p r.tree.kids.length cap] 27))) := (Below.refl _ _).alloc (Nat.le_refl _) _
  cases hnm : nameB r.name with
  | false =>
    rw [hnm] at HNM HPP
    clear hk hy htx hp hlen HRT HTV hm hn hnm
    go_enter Tryz.func17, Tryz.ntmps17
    go_wp2_with (go_at_call 41; refine (HNM.out _).mono ?_; rintro e w1 ⟨rfl, rfl⟩)
    go_ret2
    refine ⟨?_, HB1.out⟩
    rw [HPP.out]
    rfl
  | true =>
    cases hrt : rightB r.tree with
    | false =>
      rw [hnm, hrt] at HPP
      rw [hnm] at HNM
      rw [hrt] at HRT
      clear hk hy htx hp hlen HTV hm hn hnm hrt
      go_enter Tryz.func17, Tryz.ntmps17
      go_wp2_with (first | (go_at_call 41; refine (HNM.out _).mono ?_; rintro e w1 ⟨rfl, rfl⟩) | (go_at_call 15; refine (HRT.out _ HB1.out).mono ?_))
      rintro e w2 ⟨rfl, hb2⟩
      have HB2 := Lib.hid (HB1.out.trans (hb2.mono HB1.out.size))
      clear hb2
      go_wp2
      go_ret2
      refine ⟨?_, HB2.out⟩
      rw [HPP.out]
      rfl
    | true =>
      rw [hnm, hrt] at HPP
      rw [hnm] at HNM
      rw [hrt] at HRT
      have HK := Lib.hid hk
      have HY := Lib.hid hy
      have HTX := Lib.hid htx
      have HPW := Lib.hid hp
      have HL : Hid ((r.name ++ (if r.more then [32, 61, 47, 32] else [32, 61, 32]) ++ printD 100 r.tree).length ≤ 140737488355328) := by
        show _ ≤ _
        have h1 := hlen
        rw [HPP.out] at h1
        simpa using h1
      have HRI : Hid (rightD 100 r.tree = true) := hrt
      have hpl := hp.lt
      clear hk hy htx hp hlen hm hn hnm hrt
      generalize hsg : (if r.more then [32, 61, 47, 32] else [32, 61, 32] : List UInt8) = sg at HL HPP
      have HSG := Lib.hid hsg
      clear hsg
      cases hmore : r.more with
      | false =>
        rw [hmore] at HB1 HSG HPP
        have HSG2 : Hid (sg = [32, 61, 32]) := by show _ = _; rw [← HSG.out]; rfl
        clear HSG hmore
        go_enter Tryz.func17, Tryz.ntmps17
        go_wp2_with (first | (go_at_call 41; refine (HNM.out _).mono ?_; rintro e w1 ⟨rfl, rfl⟩) | (go_at_call 15; refine (HRT.out _ HB1.out).mono ?_))
        rintro e w2 ⟨rfl, hb2⟩
        have hBX : Blk w2 w.heap.size 27 #[.string (bs r.name), .int .i64 r.place, .bool false, .int .u8 r.tree.kind, .string (bs r.tree.text), .int .u8 r.tree.lo, .int .u8 r.tree.hi, .int .i64 r.tree.mn, .int .i64 r.tree.mx, .slice p r.tree.kids.length cap] := (Blk.new w _ _).below hb2 (by simp)
        have HB2 := Lib.hid (HB1.out.trans (hb2.mono HB1.out.size))
        have hlt2 : w.heap.size < w2.heap.size := hBX.lt
        have hc2 := hBX.cell
        have hc3 : ∀ i, (w2.alloc (.cells #[.pointer none, .slice none 0 0] 91)).cell? ⟨w.heap.size, i, none⟩ = (#[.string (bs r.name), .int .i64 r.place, .bool false, .int .u8 r.tree.kind, .string (bs r.tree.text), .int .u8 r.tree.lo, .int .u8 r.tree.hi, .int .i64 r.tree.mn, .int .i64 r.tree.mx, .slice p r.tree.kids.length cap] : Array Value)[i]? := (hBX.alloc _).cell
        have HBX := Lib.hid hBX
        clear hb2 hBX
        go_wp2_with (go_at_call 42; refine (put_at w2.heap.size w2.heap.size [] none (w2.alloc (.cells #[.pointer none, .slice none 0 0] 91)) (Pr.new w2) [r.name, [32, 61, 32]] (by have := HL.out; rw [HSG2.out] at this; simp at this ⊢; omega) (by simp) _ 2 2 _ (by simp) rfl ((Below.refl _ _).alloc (Nat.le_refl _) _) (Blk.new_at _ _ _ _ (by simp))).mono ?_)
        rintro e w4 ⟨rfl, hw4⟩
        obtain ⟨buf4, hp4, hbel4, hE4, -⟩ := hw4.apart
        have HB4 := Lib.hid (((Below.refl w2.heap.size w2).alloc (Nat.le_refl _) _).trans hbel4)
        have hc4 := (HBX.out.below HB4.out hlt2).cell
        have HP4 := Lib.hid hp4
        have HE4 := Lib.hid hE4
        have HTR : Hid (Calls Tryz.prog 43 #[.pointer (some ⟨w2.heap.size, 0, none⟩), .agg #[.int .u8 r.tree.kind, .string (bs r.tree.text), .int .u8 r.tree.lo, .int .u8 r.tree.hi, .int .i64 r.tree.mn, .int .i64 r.tree.mx, .slice p r.tree.kids.length cap]] w4 fun e w' => e = .returned (.tuple #[]) ∧ Wr w2.heap.size w2.heap.size buf4 w4 ([] ++ [r.name, [32, 61, 32]].flatten ++ printD 100 r.tree) w') := by
          have := prTree_any 100 w2.heap.size w2.heap.size r.tree HRI.out HY.out HTX.out (Nat.lt_trans hpl hlt2) (.slice p r.tree.kids.length cap) _ buf4 w4 HP4.out (((HK.out.under HB2.out).mono (fun b hl _ => hl)).under HB4.out) ((HPW.out.below HB2.out hpl).below HB4.out (Nat.lt_trans hpl hlt2)) (by have := HL.out; rw [HSG2.out] at this; simp at this ⊢; omega)
          rw [HTV.out] at this
          exact this
        clear hw4 hp4 hbel4 hE4 hc2 hc3 HBX HRT HNM
        go_wp2_with (go_at_call 43; refine HTR.out.mono ?_)
        rintro e w5 ⟨rfl, hw5⟩
        obtain ⟨buf5, hp5, hbel5, hE5, -⟩ := hw5.apart
        have HB5 := Lib.hid (HB4.out.trans hbel5)
        have HST := Lib.hid (bdString_any w2.heap.size w2.heap.size _ buf5 w5 hp5 (by simp))
        clear hw5 hp5 hbel5 hE5 hc4 HTR HP4 HE4
        go_wp2_with (go_at_call 44; refine HST.out.mono ?_)
        rintro e w6 ⟨rfl, hb6⟩
        have HEND := Lib.hid (HB2.out.trans ((HB5.out.trans hb6).mono HB2.out.size))
        clear hb6 HST
        go_wp2
        go_ret2
        refine ⟨?_, HEND.out⟩
        exact ret_pair (by rw [HPP.out, HSG2.out]; simp) (by rw [HPP.out]; rfl)
      | true =>
        rw [hmore] at HB1 HSG HPP
        have HSG2 : Hid (sg = [32, 61, 47, 32]) := by show _ = _; rw [← HSG.out]; rfl
        clear HSG hmore
        go_enter Tryz.func17, Tryz.ntmps17
        go_wp2_with (first | (go_at_call 41; refine (HNM.out _).mono ?_; rintro e w1 ⟨rfl, rfl⟩) | (go_at_call 15; refine (HRT.out _ HB1.out).mono ?_))
        rintro e w2 ⟨rfl, hb2⟩
        have hBX : Blk w2 w.heap.size 27 #[.string (bs r.name), .int .i64 r.place, .bool true, .int .u8 r.tree.kind, .string (bs r.tree.text), .int .u8 r.tree.lo, .int .u8 r.tree.hi, .int .i64 r.tree.mn, .int .i64 r.tree.mx, .slice p r.tree.kids.length cap] := (Blk.new w _ _).below hb2 (by simp)
        have HB2 := Lib.hid (HB1.out.trans (hb2.mono HB1.out.size))
        have hlt2 : w.heap.size < w2.heap.size := hBX.lt
        have hc2 := hBX.cell
        have hc3 : ∀ i, (w2.alloc (.cells #[.pointer none, .slice none 0 0] 91)).cell? ⟨w.heap.size, i, none⟩ = (#[.string (bs r.name), .int .i64 r.place, .bool true, .int .u8 r.tree.kind, .string (bs r.tree.text), .int .u8 r.tree.lo, .int .u8 r.tree.hi, .int .i64 r.tree.mn, .int .i64 r.tree.mx, .slice p r.tree.kids.length cap] : Array Value)[i]? := (hBX.alloc _).cell
        have HBX := Lib.hid hBX
        clear hb2 hBX
        go_wp2_with (go_at_call 42; refine (put_at w2.heap.size w2.heap.size [] none (w2.alloc (.cells #[.pointer none, .slice none 0 0] 91)) (Pr.new w2) [r.name, [32, 61, 47, 32]] (by have := HL.out; rw [HSG2.out] at this; simp at this ⊢; omega) (by simp) _ 2 2 _ (by simp) rfl ((Below.refl _ _).alloc (Nat.le_refl _) _) (Blk.new_at _ _ _ _ (by simp))).mono ?_)
        rintro e w4 ⟨rfl, hw4⟩
        obtain ⟨buf4, hp4, hbel4, hE4, -⟩ := hw4.apart
        have HB4 := Lib.hid (((Below.refl w2.heap.size w2).alloc (Nat.le_refl _) _).trans hbel4)
        have hc4 := (HBX.out.below HB4.out hlt2).cell
        have HP4 := Lib.hid hp4
        have HE4 := Lib.hid hE4
        have HTR : Hid (Calls Tryz.prog 43 #[.pointer (some ⟨w2.heap.size, 0, none⟩), .agg #[.int .u8 r.tree.kind, .string (bs r.tree.text), .int .u8 r.tree.lo, .int .u8 r.tree.hi, .int .i64 r.tree.mn, .int .i64 r.tree.mx, .slice p r.tree.kids.length cap]] w4 fun e w' => e = .returned (.tuple #[]) ∧ Wr w2.heap.size w2.heap.size buf4 w4 ([] ++ [r.name, [32, 61, 47, 32]].flatten ++ printD 100 r.tree) w') := by
          have := prTree_any 100 w2.heap.size w2.heap.size r.tree HRI.out HY.out HTX.out (Nat.lt_trans hpl hlt2) (.slice p r.tree.kids.length cap) _ buf4 w4 HP4.out (((HK.out.under HB2.out).mono (fun b hl _ => hl)).under HB4.out) ((HPW.out.below HB2.out hpl).below HB4.out (Nat.lt_trans hpl hlt2)) (by have := HL.out; rw [HSG2.out] at this; simp at this ⊢; omega)
          rw [HTV.out] at this
          exact this
        clear hw4 hp4 hbel4 hE4 hc2 hc3 HBX HRT HNM
        go_wp2_with (go_at_call 43; refine HTR.out.mono ?_)
        rintro e w5 ⟨rfl, hw5⟩
        obtain ⟨buf5, hp5, hbel5, hE5, -⟩ := hw5.apart
        have HB5 := Lib.hid (HB4.out.trans hbel5)
        have HST := Lib.hid (bdString_any w2.heap.size w2.heap.size _ buf5 w5 hp5 (by simp))
        clear hw5 hp5 hbel5 hE5 hc4 HTR HP4 HE4
        go_wp2_with (go_at_call 44; refine HST.out.mono ?_)
        rintro e w6 ⟨rfl, hb6⟩
        have HEND := Lib.hid (HB2.out.trans ((HB5.out.trans hb6).mono HB2.out.size))
        clear hb6 HST
        go_wp2
        go_ret2
        refine ⟨?_, HEND.out⟩
        exact ret_pair (by rw [HPP.out, HSG2.out]; simp) (by rw [HPP.out]; rfl)
end Go.Proofs.YtgbipbjpeecooaaGreatDoor

/-
  The contracts of frankinglaw02's Of, fails and prints. Conditions: the table abnf.leaves (and, of prints, the library's powers of ten) lies where it does; not too many tokens, none too long.
-/
namespace Go.Proofs.YtgbipbjpeecooaaGreatDoor
open Go.RowKit

def ofP (l : List UInt8) : List Rl × Int × Int := if (lexP l).2.2 = 0 then parseP (lexP l).1 else ([], ((lexP l).2.1 : Int), ((lexP l).2.2 : Int))

theorem own_far {w : World} {base : Nat} {A : Option Addr} {n c : Nat} {toks : List Tk} (h : w.ownsRow base 53 7 (.slice A n c) toks.length (toksCells toks)) : ∀ a, A = some a → a.block < w.heap.size := by
  intro a ha
  subst ha
  rcases h.2 with ⟨hv, _⟩ | ⟨g, cap, cur, hv, _, hg, _⟩
  · injection hv with h1; cases h1
  · injection hv with h1
    injection h1 with h1
    rw [h1]
    exact (Array.getElem?_eq_some_iff.1 hg).1

set_option maxHeartbeats 1000000 in
theorem Of_any (l : List UInt8) (hcount : (lexP l).1.length ≤ 200000) (hshort : Short (lexP l).1) (w : World) (hlv : LeavesAt w) :
    Calls Tryz.prog 21 #[.string (bs l)] w fun e w' => ParseOut w (ofP l) e w' := by
  have HLX : Hid (Calls Tryz.prog 11 #[.string (bs l)] w fun e w' => Handed w w' (lexP l) e) := by
    have := Lex_any (bs l) w
    rw [bs_toList] at this
    exact this
  have HO : Hid (ofP l = if (lexP l).2.2 = 0 then parseP (lexP l).1 else ([], ((lexP l).2.1 : Int), ((lexP l).2.2 : Int))) := show _ = _ from rfl
  have HLV := Lib.hid hlv
  have HSH := Lib.hid hshort
  clear hlv hshort
  generalize ofP l = R at *
  generalize lexP l = X at *
  obtain ⟨toks, at_, er⟩ := X
  dsimp only at hcount HSH HO
  by_cases her : er = 0
  · subst her
    rw [if_pos rfl] at HO
    go_enter Tryz.func21, Tryz.ntmps21
    go_wp2_with (go_at_call 11; refine HLX.out.mono ?_)
    rintro e w1 ⟨v, rfl, hown, hb⟩
    have hrow := TokRow.of_own hown
    obtain ⟨A, c, rfl⟩ := hrow.len
    have HPA := Lib.hid (Parse_any w1 A toks.length c toks hrow rfl (own_far hown) hcount (HLV.out.below hb HLV.out.lt) HSH.out)
    have HB := Lib.hid hb
    clear hown hrow hb
    go_wp2_with (go_at_call 12; refine HPA.out.mono ?_)
    rintro e w2 ⟨v2, rfl, hr2, hb2⟩
    have HEND : Hid (RulesAt w2 w.heap.size v2 (parseP toks).1 ∧ Below w.heap.size w w2) := by
      obtain ⟨⟨ps, h1, h2, h3⟩⟩ := hr2
      exact ⟨⟨⟨ps, h1, ownsRow_mono h2 HB.out.size, h3⟩⟩, HB.out.trans (hb2.mono HB.out.size)⟩
    clear hr2 hb2
    go_wp2
    go_ret3
    refine ⟨v2, ?_, ?_, HEND.out.2⟩
    · rw [HO.out]
      rfl
    · rw [HO.out]
      exact HEND.out.1
  · rw [if_neg her] at HO
    have her' : ¬ (er : Int) = 0 := by omega
    go_enter Tryz.func21, Tryz.ntmps21
    go_wp2_with (go_at_call 11; refine HLX.out.mono ?_)
    rintro e w1 ⟨v, rfl, hown, hb⟩
    clear hown
    have HB := Lib.hid hb
    clear hb
    go_wp2
    go_ret3
    refine ⟨.slice none 0 0, ?_, ?_, HB.out⟩
    · rw [HO.out]
      rfl
    · rw [HO.out]
      exact ⟨⟨[], rfl, World.ownsRow_nil _ _ _ _, fun p hp => (by cases hp)⟩⟩

set_option maxHeartbeats 1000000 in
theorem fails_true (l : List UInt8) (at_ er : Int) (hcount : (lexP l).1.length ≤ 200000) (hshort : Short (lexP l).1) (h : ofP l = ([], at_, er)) (w : World) (hlv : LeavesAt w) :
    Calls Tryz.prog 28 #[.string (bs l), .int .i64 at_, .int .i64 er] w fun e w' => e = .returned (.bool true) ∧ Below w.heap.size w w' := by
  have HOF := Of_any l hcount hshort w hlv
  rw [h] at HOF
  have HO := Lib.hid HOF
  clear HOF hlv h hcount hshort
  go_enter Tryz.func28, Tryz.ntmps28
  go_wp2_with (go_at_call 21; refine HO.out.mono ?_)
  rintro e w1 ⟨v, rfl, hr, hb⟩
  obtain ⟨⟨ps, hps, hown, _⟩⟩ := hr
  have hp0 : ps = [] := by simpa using hps
  subst hp0
  obtain ⟨A, c, rfl, _⟩ := (RRow.of_own hown (fun p hp => (by cases hp))).row
  have HB := Lib.hid hb
  clear hown hb hps
  go_wp2
  go_ret
  exact ⟨rfl, HB.out⟩
end Go.Proofs.YtgbipbjpeecooaaGreatDoor

/-
  The contract of frankinglaw02's prints, where the text has one rule, whose text is the one that is asked. Conditions: the tables abnf.leaves and the library's powers of ten lie where they do.
-/
namespace Go.Proofs.YtgbipbjpeecooaaGreatDoor
open Go.RowKit

def byteB : Nat → Tr → Bool
  | 0, _ => true
  | d + 1, t => decide (0 ≤ t.lo ∧ t.lo ≤ 255) && decide (0 ≤ t.hi ∧ t.hi ≤ 255) && t.kids.all (byteB d)
def textB : Nat → Tr → Bool
  | 0, _ => true
  | d + 1, t => decide (t.text.length ≤ maxLen) && t.kids.all (textB d)
theorem byteD_of : ∀ (d : Nat) (t : Tr), byteB d t = true → byteD d t := by
  intro d
  induction d with
  | zero => intro t _; exact trivial
  | succ d ih =>
    intro t h
    have e : byteB (d + 1) t = (decide (0 ≤ t.lo ∧ t.lo ≤ 255) && decide (0 ≤ t.hi ∧ t.hi ≤ 255) && t.kids.all (byteB d)) := rfl
    rw [e, Bool.and_eq_true, Bool.and_eq_true, List.all_eq_true] at h
    exact ⟨of_decide_eq_true h.1.1, of_decide_eq_true h.1.2, fun k hk => ih k (h.2 k hk)⟩
theorem textD_of : ∀ (d : Nat) (t : Tr), textB d t = true → textD d t := by
  intro d
  induction d with
  | zero => intro t _; exact trivial
  | succ d ih =>
    intro t h
    have e : textB (d + 1) t = (decide (t.text.length ≤ maxLen) && t.kids.all (textB d)) := rfl
    rw [e, Bool.and_eq_true, List.all_eq_true] at h
    exact ⟨of_decide_eq_true h.1, fun k hk => ih k (h.2 k hk)⟩

set_option maxRecDepth 100000 in
set_option maxHeartbeats 2000000 in
theorem prints_true (l want : List UInt8) (x : Rl) (hcount : (lexP l).1.length ≤ 200000) (hshort : Short (lexP l).1) (hof : ofP l = ([x], 0, 0)) (hpr : printP x.name x.more x.tree = (want, 0)) (hy : byteD 100 x.tree) (htx : textD 100 x.tree) (hn : x.name.length ≤ maxLen) (hlen : want.length ≤ 140737488355328) (w : World) (hlv : LeavesAt w) (hpw : PowAt w) :
    Calls Tryz.prog 30 #[.string (bs l), .string (bs want)] w fun e w' => e = .returned (.bool true) ∧ Below w.heap.size w w' := by
  have HOF := Of_any l hcount hshort w hlv
  rw [hof] at HOF
  have HO := Lib.hid HOF
  have HPW := Lib.hid hpw
  have HPRI : Hid (∀ (sl : Value) (W : World), KidsAt W (· < W.heap.size) x.tree.kids sl → PowAt W → Calls Tryz.prog 17 #[.agg #[.string (bs x.name), .int .i64 x.place, .bool x.more, .int .u8 x.tree.kind, .string (bs x.tree.text), .int .u8 x.tree.lo, .int .u8 x.tree.hi, .int .i64 x.tree.mn, .int .i64 x.tree.mx, sl]] W fun e w' => e = .returned (.tuple #[.string (bs want), .int .i64 0]) ∧ Below W.heap.size W w') := fun sl W hk hp => by
    have := Print_any x sl W hk hy htx hp hn (by rw [hpr]; exact hlen)
    rw [hpr] at this
    exact this
  have hpl := hpw.lt
  clear HOF hlv hcount hshort hof hpr hy htx hn hlen hpw
  go_enter Tryz.func30, Tryz.ntmps30
  go_wp2_with (go_at_call 21; refine HO.out.mono ?_)
  rintro e w1 ⟨v, rfl, hr, hb⟩
  obtain ⟨⟨ps, hps, hown, hkids⟩⟩ := hr
  obtain ⟨sl, rfl⟩ : ∃ sl, ps = [(x, sl)] := by
    match ps, hps with
    | [(y, sl)], h =>
      have : y = x := by simpa using h
      subst this
      exact ⟨sl, rfl⟩
  have hrow := RRow.of_own hown hkids
  obtain ⟨A, c, rfl, _⟩ := hrow.row
  obtain ⟨g, off, rfl, hg, a0, a1, a2, a3, a4, a5, a6, a7, a8, a9, ka⟩ := hrow.at_ (k := 0) (p := (x, sl)) rfl
  simp only [Nat.zero_mul, Nat.add_zero] at a0 a1 a2 a3 a4 a5 a6 a7 a8 a9 ka
  have HPR := Lib.hid (HPRI.out sl w1 ka (HPW.out.below hb hpl))
  have HB := Lib.hid hb
  obtain ⟨kp, kc, rfl, _⟩ := ka.form
  clear hown hb hps hkids hrow ka HPRI HO
  go_wp2_with (go_at_call 17; refine HPR.out.mono ?_)
  rintro e w2 ⟨rfl, hb2⟩
  have HEND := Lib.hid (HB.out.trans (hb2.mono HB.out.size))
  clear hb2
  go_wp2
  go_ret
  exact ⟨rfl, HEND.out⟩
end Go.Proofs.YtgbipbjpeecooaaGreatDoor

/-
  Layer 2's examples in plain terms. No conditions.
-/
namespace Go.Proofs.YtgbipbjpeecooaaGreatDoor
open Go.RowKit

def treeb : Tr := .mk 1 [98] 0 0 0 0 []
def treec : Tr := .mk 1 [99] 0 0 0 0 []
def treed : Tr := .mk 1 [100] 0 0 0 0 []
def treex : Tr := .mk 5 [] 0 0 0 0 [.mk 2 [120] 0 0 0 0 [], .mk 3 [65] 0 0 0 0 []]
def firstT : Tr := .mk 6 [] 0 0 0 0 [.mk 7 [] 0 0 1 3 [treeb], .mk 7 [] 0 0 0 1 [treex]]
def thirdT : Tr := .mk 5 [] 0 0 0 0 [.mk 6 [] 0 0 0 0 [treeb, treec], treed]
def wakeA : List UInt8 := [97, 32, 61, 32, 49, 42, 51, 98, 32, 47, 32, 91, 34, 120, 34, 32, 37, 120, 52, 49, 93, 10, 97, 32, 61, 32, 40, 98, 41, 10, 65, 32, 61, 32, 40, 40, 66, 32, 47, 32, 99, 41, 32, 100, 41, 10]
def wakeP0 : List UInt8 := [97, 32, 61, 32, 49, 42, 51, 98, 32, 47, 32, 91, 34, 120, 34, 32, 37, 120, 52, 49, 93]
def wakeQ0 : List UInt8 := [97, 32, 61, 32, 49, 42, 51, 98, 32, 47, 32, 42, 49, 40, 34, 120, 34, 32, 37, 120, 52, 49, 41]
def wakeP1 : List UInt8 := [97, 32, 61, 32, 40, 40, 98, 32, 47, 32, 99, 41, 32, 100, 41]
def wakeQ1 : List UInt8 := [97, 32, 61, 32, 40, 98, 32, 47, 32, 99, 41, 32, 100]
def wakeP2 : List UInt8 := [65, 32, 61, 32, 66]
def wakeQ2 : List UInt8 := [97, 32, 61, 32, 98]
def wakeF0 : List UInt8 := [97, 32, 61, 32]
def wakeF1 : List UInt8 := [97, 32, 61, 32, 40, 98]
def wakeF2 : List UInt8 := [97, 32, 98]

theorem short_of (toks : List Tk) (h : toks.all (fun t => decide (t.text.length ≤ 65536)) = true) : Short toks := fun _ t ht => of_decide_eq_true (List.all_eq_true.1 h t (List.mem_of_getElem? ht))
theorem few_of (toks : List Tk) (h : decide (toks.length ≤ 200000) = true) : toks.length ≤ 200000 := of_decide_eq_true h

theorem of_A : ofP wakeA = ([{ name := [97], place := 0, more := false, tree := firstT }, { name := [97], place := 22, more := false, tree := treeb }, { name := [97], place := 30, more := false, tree := thirdT }], 0, 0) := by kernel_rfl
theorem of_P0 : ofP wakeP0 = ([{ name := [97], place := 0, more := false, tree := firstT }], 0, 0) := by kernel_rfl
theorem of_P1 : ofP wakeP1 = ([{ name := [97], place := 0, more := false, tree := thirdT }], 0, 0) := by kernel_rfl
theorem of_P2 : ofP wakeP2 = ([{ name := [97], place := 0, more := false, tree := treeb }], 0, 0) := by kernel_rfl
theorem print_P0 : printP [97] false firstT = (wakeQ0, 0) := by kernel_rfl
theorem print_P1 : printP [97] false thirdT = (wakeQ1, 0) := by kernel_rfl
theorem print_P2 : printP [97] false treeb = (wakeQ2, 0) := by kernel_rfl
theorem of_F0 : ofP wakeF0 = ([], 4, 20) := by kernel_rfl
theorem of_F1 : ofP wakeF1 = ([], 6, 20) := by kernel_rfl
theorem of_F2 : ofP wakeF2 = ([], 2, 20) := by kernel_rfl
theorem few_A : (lexP wakeA).1.length ≤ 200000 := few_of _ (by kernel_rfl)
theorem short_A : Short (lexP wakeA).1 := short_of _ (by kernel_rfl)
theorem few_P0 : (lexP wakeP0).1.length ≤ 200000 := few_of _ (by kernel_rfl)
theorem short_P0 : Short (lexP wakeP0).1 := short_of _ (by kernel_rfl)
theorem few_P1 : (lexP wakeP1).1.length ≤ 200000 := few_of _ (by kernel_rfl)
theorem short_P1 : Short (lexP wakeP1).1 := short_of _ (by kernel_rfl)
theorem few_P2 : (lexP wakeP2).1.length ≤ 200000 := few_of _ (by kernel_rfl)
theorem short_P2 : Short (lexP wakeP2).1 := short_of _ (by kernel_rfl)
theorem few_F0 : (lexP wakeF0).1.length ≤ 200000 := few_of _ (by kernel_rfl)
theorem short_F0 : Short (lexP wakeF0).1 := short_of _ (by kernel_rfl)
theorem few_F1 : (lexP wakeF1).1.length ≤ 200000 := few_of _ (by kernel_rfl)
theorem short_F1 : Short (lexP wakeF1).1 := short_of _ (by kernel_rfl)
theorem few_F2 : (lexP wakeF2).1.length ≤ 200000 := few_of _ (by kernel_rfl)
theorem short_F2 : Short (lexP wakeF2).1 := short_of _ (by kernel_rfl)
theorem byte_firstT : byteD 100 firstT := byteD_of _ _ (by kernel_rfl)
theorem text_firstT : textD 100 firstT := textD_of _ _ (by kernel_rfl)
theorem byte_thirdT : byteD 100 thirdT := byteD_of _ _ (by kernel_rfl)
theorem text_thirdT : textD 100 thirdT := textD_of _ _ (by kernel_rfl)
theorem byte_treeb : byteD 100 treeb := byteD_of _ _ (by kernel_rfl)
theorem text_treeb : textD 100 treeb := textD_of _ _ (by kernel_rfl)
end Go.Proofs.YtgbipbjpeecooaaGreatDoor

/-
  Layer 2's examples in memory: the trees that awake builds, kids and rules in rows that are written out. No conditions.
-/
namespace Go.Proofs.YtgbipbjpeecooaaGreatDoor
open Go.RowKit

theorem KidsAt.single {w : World} {S : Nat → Prop} (k : Tr) (s : Value) (b : Nat) (hS : S b) (ht : k.text.length ≤ maxLen) (hB : Blk w b 25 (headCells k s).toArray) (hk : KidsAt w S k.kids s) : KidsAt w S [k] (.slice (some ⟨b, 0, none⟩) 1 1) := by
  refine KidsAt.row [k] b 0 1 (fun _ => s) hS hB.lt (by simp) (by simp) (by simp [maxLen]) ?_ ?_ ?_
  · intro i h
    have : i = 0 := by simpa using h
    subst this
    exact ht
  · intro i h j u hu
    have : i = 0 := by simpa using h
    subst this
    rw [show 0 + 0 * 7 + j = j from by omega, hB.cell j]
    simpa using hu
  · intro i h
    have : i = 0 := by simpa using h
    subst this
    exact hk
theorem KidsAt.two {w : World} {S : Nat → Prop} (k1 k2 : Tr) (s1 s2 : Value) (b : Nat) (hS : S b) (ht1 : k1.text.length ≤ maxLen) (ht2 : k2.text.length ≤ maxLen) (hB : Blk w b 25 (headCells k1 s1 ++ headCells k2 s2).toArray) (hk1 : KidsAt w S k1.kids s1) (hk2 : KidsAt w S k2.kids s2) : KidsAt w S [k1, k2] (.slice (some ⟨b, 0, none⟩) 2 2) := by
  refine KidsAt.row [k1, k2] b 0 2 (fun i => if i = 0 then s1 else s2) hS hB.lt (by simp) (by simp) (by simp [maxLen]) ?_ ?_ ?_
  · intro i h
    match i, h with
    | 0, _ => exact ht1
    | 1, _ => exact ht2
  · intro i h j u hu
    match i, h with
    | 0, _ =>
      have hj : j < 7 := (List.getElem?_eq_some_iff.1 hu).1
      rw [show 0 + 0 * 7 + j = j from by omega, hB.cell j]
      show (headCells k1 s1 ++ headCells k2 s2).toArray[j]? = some u
      rw [List.getElem?_toArray, List.getElem?_append_left (by rw [headCells_len]; exact hj)]
      exact hu
    | 1, _ =>
      rw [show 0 + 1 * 7 + j = 7 + j from by omega, hB.cell (7 + j)]
      show (headCells k1 s1 ++ headCells k2 s2).toArray[7 + j]? = some u
      rw [List.getElem?_toArray, List.getElem?_append_right (by rw [headCells_len]; omega), headCells_len, Nat.add_sub_cancel_left]
      exact hu
  · intro i h
    match i, h with
    | 0, _ => exact hk1
    | 1, _ => exact hk2
theorem RRow.lit {w : World} {g n : Nat} {cs : Array Value} (ys : Rrow) (h : Blk w g 27 cs) (hcs : cs.toList = flatR ys) (hn : n = ys.length) (c : Nat) (hk : RKids w (· < w.heap.size) ys) : RRow w (.slice (some ⟨g, 0, none⟩) n c) ys := by
  subst hn
  refine ⟨⟨_, _, rfl, fun _ => ⟨g, 0, rfl, h.lt, fun j u hu => ?_⟩⟩, hk⟩
  rw [Nat.zero_add, h.cell j, ← hu, ← hcs]
  simp

/-- the world behind awake's trees -/
def wakeW (w : World) : World := (((((((((((w.alloc (.cells #[.int .u8 1, .string ⟨#[98]⟩, .int .u8 0, .int .u8 0, .int .i64 0, .int .i64 0, .slice none 0 0] 25)).alloc (.cells #[.int .u8 1, .string ⟨#[100]⟩, .int .u8 0, .int .u8 0, .int .i64 0, .int .i64 0, .slice none 0 0] 25)).alloc (.cells #[.int .u8 2, .string ⟨#[120]⟩, .int .u8 0, .int .u8 0, .int .i64 0, .int .i64 0, .slice none 0 0, .int .u8 3, .string ⟨#[65]⟩, .int .u8 0, .int .u8 0, .int .i64 0, .int .i64 0, .slice none 0 0] 25)).alloc (.cells #[.int .u8 5, .string ⟨#[]⟩, .int .u8 0, .int .u8 0, .int .i64 0, .int .i64 0, .slice (some ⟨w.heap.size + 1 + 1, 0, none⟩) 2 2] 25)).alloc (.cells #[.int .u8 1, .string ⟨#[98]⟩, .int .u8 0, .int .u8 0, .int .i64 0, .int .i64 0, .slice none 0 0] 25)).alloc (.cells #[.int .u8 5, .string ⟨#[]⟩, .int .u8 0, .int .u8 0, .int .i64 0, .int .i64 0, .slice (some ⟨w.heap.size + 1 + 1, 0, none⟩) 2 2] 25)).alloc (.cells #[.int .u8 7, .string ⟨#[]⟩, .int .u8 0, .int .u8 0, .int .i64 1, .int .i64 3, .slice (some ⟨w.heap.size + 1 + 1 + 1 + 1, 0, none⟩) 1 1, .int .u8 7, .string ⟨#[]⟩, .int .u8 0, .int .u8 0, .int .i64 0, .int .i64 1, .slice (some ⟨w.heap.size + 1 + 1 + 1 + 1 + 1, 0, none⟩) 1 1] 25)).alloc (.cells #[.int .u8 6, .string ⟨#[]⟩, .int .u8 0, .int .u8 0, .int .i64 0, .int .i64 0, .slice (some ⟨w.heap.size + 1 + 1 + 1 + 1 + 1 + 1, 0, none⟩) 2 2] 25)).alloc (.cells #[.int .u8 1, .string ⟨#[98]⟩, .int .u8 0, .int .u8 0, .int .i64 0, .int .i64 0, .slice none 0 0, .int .u8 1, .string ⟨#[99]⟩, .int .u8 0, .int .u8 0, .int .i64 0, .int .i64 0, .slice none 0 0] 25)).alloc (.cells #[.int .u8 6, .string ⟨#[]⟩, .int .u8 0, .int .u8 0, .int .i64 0, .int .i64 0, .slice (some ⟨w.heap.size + 1 + 1 + 1 + 1 + 1 + 1 + 1 + 1, 0, none⟩) 2 2, .int .u8 1, .string ⟨#[100]⟩, .int .u8 0, .int .u8 0, .int .i64 0, .int .i64 0, .slice none 0 0] 25)).alloc (.cells #[.int .u8 5, .string ⟨#[]⟩, .int .u8 0, .int .u8 0, .int .i64 0, .int .i64 0, .slice (some ⟨w.heap.size + 1 + 1 + 1 + 1 + 1 + 1 + 1 + 1 + 1, 0, none⟩) 2 2] 25))
theorem wake_below (w : World) : Below w.heap.size w (wakeW w) := by
  unfold wakeW
  iterate 11 refine Below.alloc ?_ (by simp; try omega) _
  exact Below.refl _ _
theorem wake_blk0 (w : World) : Blk (wakeW w) (w.heap.size) 25 #[.int .u8 1, .string ⟨#[98]⟩, .int .u8 0, .int .u8 0, .int .i64 0, .int .i64 0, .slice none 0 0] := by
  unfold wakeW
  iterate 10 refine Blk.alloc ?_ _
  exact Blk.new_at _ _ _ _ (by simp)
theorem wake_blk1 (w : World) : Blk (wakeW w) (w.heap.size + 1) 25 #[.int .u8 1, .string ⟨#[100]⟩, .int .u8 0, .int .u8 0, .int .i64 0, .int .i64 0, .slice none 0 0] := by
  unfold wakeW
  iterate 9 refine Blk.alloc ?_ _
  exact Blk.new_at _ _ _ _ (by simp)
theorem wake_blk2 (w : World) : Blk (wakeW w) (w.heap.size + 1 + 1) 25 #[.int .u8 2, .string ⟨#[120]⟩, .int .u8 0, .int .u8 0, .int .i64 0, .int .i64 0, .slice none 0 0, .int .u8 3, .string ⟨#[65]⟩, .int .u8 0, .int .u8 0, .int .i64 0, .int .i64 0, .slice none 0 0] := by
  unfold wakeW
  iterate 8 refine Blk.alloc ?_ _
  exact Blk.new_at _ _ _ _ (by simp)
theorem wake_blk3 (w : World) : Blk (wakeW w) (w.heap.size + 1 + 1 + 1) 25 #[.int .u8 5, .string ⟨#[]⟩, .int .u8 0, .int .u8 0, .int .i64 0, .int .i64 0, .slice (some ⟨w.heap.size + 1 + 1, 0, none⟩) 2 2] := by
  unfold wakeW
  iterate 7 refine Blk.alloc ?_ _
  exact Blk.new_at _ _ _ _ (by simp)
theorem wake_blk4 (w : World) : Blk (wakeW w) (w.heap.size + 1 + 1 + 1 + 1) 25 #[.int .u8 1, .string ⟨#[98]⟩, .int .u8 0, .int .u8 0, .int .i64 0, .int .i64 0, .slice none 0 0] := by
  unfold wakeW
  iterate 6 refine Blk.alloc ?_ _
  exact Blk.new_at _ _ _ _ (by simp)
theorem wake_blk5 (w : World) : Blk (wakeW w) (w.heap.size + 1 + 1 + 1 + 1 + 1) 25 #[.int .u8 5, .string ⟨#[]⟩, .int .u8 0, .int .u8 0, .int .i64 0, .int .i64 0, .slice (some ⟨w.heap.size + 1 + 1, 0, none⟩) 2 2] := by
  unfold wakeW
  iterate 5 refine Blk.alloc ?_ _
  exact Blk.new_at _ _ _ _ (by simp)
theorem wake_blk6 (w : World) : Blk (wakeW w) (w.heap.size + 1 + 1 + 1 + 1 + 1 + 1) 25 #[.int .u8 7, .string ⟨#[]⟩, .int .u8 0, .int .u8 0, .int .i64 1, .int .i64 3, .slice (some ⟨w.heap.size + 1 + 1 + 1 + 1, 0, none⟩) 1 1, .int .u8 7, .string ⟨#[]⟩, .int .u8 0, .int .u8 0, .int .i64 0, .int .i64 1, .slice (some ⟨w.heap.size + 1 + 1 + 1 + 1 + 1, 0, none⟩) 1 1] := by
  unfold wakeW
  iterate 4 refine Blk.alloc ?_ _
  exact Blk.new_at _ _ _ _ (by simp)
theorem wake_blk7 (w : World) : Blk (wakeW w) (w.heap.size + 1 + 1 + 1 + 1 + 1 + 1 + 1) 25 #[.int .u8 6, .string ⟨#[]⟩, .int .u8 0, .int .u8 0, .int .i64 0, .int .i64 0, .slice (some ⟨w.heap.size + 1 + 1 + 1 + 1 + 1 + 1, 0, none⟩) 2 2] := by
  unfold wakeW
  iterate 3 refine Blk.alloc ?_ _
  exact Blk.new_at _ _ _ _ (by simp)
theorem wake_blk8 (w : World) : Blk (wakeW w) (w.heap.size + 1 + 1 + 1 + 1 + 1 + 1 + 1 + 1) 25 #[.int .u8 1, .string ⟨#[98]⟩, .int .u8 0, .int .u8 0, .int .i64 0, .int .i64 0, .slice none 0 0, .int .u8 1, .string ⟨#[99]⟩, .int .u8 0, .int .u8 0, .int .i64 0, .int .i64 0, .slice none 0 0] := by
  unfold wakeW
  iterate 2 refine Blk.alloc ?_ _
  exact Blk.new_at _ _ _ _ (by simp)
theorem wake_blk9 (w : World) : Blk (wakeW w) (w.heap.size + 1 + 1 + 1 + 1 + 1 + 1 + 1 + 1 + 1) 25 #[.int .u8 6, .string ⟨#[]⟩, .int .u8 0, .int .u8 0, .int .i64 0, .int .i64 0, .slice (some ⟨w.heap.size + 1 + 1 + 1 + 1 + 1 + 1 + 1 + 1, 0, none⟩) 2 2, .int .u8 1, .string ⟨#[100]⟩, .int .u8 0, .int .u8 0, .int .i64 0, .int .i64 0, .slice none 0 0] := by
  unfold wakeW
  iterate 1 refine Blk.alloc ?_ _
  exact Blk.new_at _ _ _ _ (by simp)
theorem wake_blk10 (w : World) : Blk (wakeW w) (w.heap.size + 1 + 1 + 1 + 1 + 1 + 1 + 1 + 1 + 1 + 1) 25 #[.int .u8 5, .string ⟨#[]⟩, .int .u8 0, .int .u8 0, .int .i64 0, .int .i64 0, .slice (some ⟨w.heap.size + 1 + 1 + 1 + 1 + 1 + 1 + 1 + 1 + 1, 0, none⟩) 2 2] := by
  unfold wakeW
  exact Blk.new_at _ _ _ _ (by simp)
theorem wake_b (w : World) : KidsAt (wakeW w) (· < (wakeW w).heap.size) [treeb] (.slice (some ⟨w.heap.size + 1 + 1 + 1 + 1, 0, none⟩) 1 1) := KidsAt.single treeb (.slice none 0 0) _ (wake_blk4 w).lt (by decide) (wake_blk4 w) (KidsAt.nil _ _)
theorem wake_x (w : World) : KidsAt (wakeW w) (· < (wakeW w).heap.size) treex.kids (.slice (some ⟨w.heap.size + 1 + 1, 0, none⟩) 2 2) := KidsAt.two (.mk 2 [120] 0 0 0 0 []) (.mk 3 [65] 0 0 0 0 []) (.slice none 0 0) (.slice none 0 0) _ (wake_blk2 w).lt (by decide) (by decide) (wake_blk2 w) (KidsAt.nil _ _) (KidsAt.nil _ _)
theorem wake_xs (w : World) : KidsAt (wakeW w) (· < (wakeW w).heap.size) [treex] (.slice (some ⟨w.heap.size + 1 + 1 + 1 + 1 + 1, 0, none⟩) 1 1) := KidsAt.single treex _ _ (wake_blk5 w).lt (by decide) (wake_blk5 w) (wake_x w)
theorem wake_first (w : World) : KidsAt (wakeW w) (· < (wakeW w).heap.size) firstT.kids (.slice (some ⟨w.heap.size + 1 + 1 + 1 + 1 + 1 + 1, 0, none⟩) 2 2) := KidsAt.two (.mk 7 [] 0 0 1 3 [treeb]) (.mk 7 [] 0 0 0 1 [treex]) _ _ _ (wake_blk6 w).lt (by decide) (by decide) (wake_blk6 w) (wake_b w) (wake_xs w)
theorem wake_or (w : World) : KidsAt (wakeW w) (· < (wakeW w).heap.size) [treeb, treec] (.slice (some ⟨w.heap.size + 1 + 1 + 1 + 1 + 1 + 1 + 1 + 1, 0, none⟩) 2 2) := KidsAt.two treeb treec (.slice none 0 0) (.slice none 0 0) _ (wake_blk8 w).lt (by decide) (by decide) (wake_blk8 w) (KidsAt.nil _ _) (KidsAt.nil _ _)
theorem wake_third (w : World) : KidsAt (wakeW w) (· < (wakeW w).heap.size) thirdT.kids (.slice (some ⟨w.heap.size + 1 + 1 + 1 + 1 + 1 + 1 + 1 + 1 + 1, 0, none⟩) 2 2) := KidsAt.two (.mk 6 [] 0 0 0 0 [treeb, treec]) treed _ (.slice none 0 0) _ (wake_blk9 w).lt (by decide) (by decide) (wake_blk9 w) (wake_or w) (KidsAt.nil _ _)
end Go.Proofs.YtgbipbjpeecooaaGreatDoor

/-
  The contract of frankinglaw02's awake (the chapter's examples): it answers true. Conditions: the tables abnf.leaves and the library's powers of ten lie where they do.
-/
namespace Go.Proofs.YtgbipbjpeecooaaGreatDoor
open Go.RowKit

def wakeY (w : World) : Rrow := [({ name := [97], place := 0, more := false, tree := firstT }, .slice (some ⟨w.heap.size + 1 + 1 + 1 + 1 + 1 + 1, 0, none⟩) 2 2), ({ name := [97], place := 0, more := false, tree := treeb }, .slice none 0 0), ({ name := [97], place := 0, more := false, tree := thirdT }, .slice (some ⟨w.heap.size + 1 + 1 + 1 + 1 + 1 + 1 + 1 + 1 + 1, 0, none⟩) 2 2)]
theorem wake_kids {w W : World} (hb : Below (wakeW w).heap.size (wakeW w) W) : RKids W (· < W.heap.size) (wakeY w) := by
  intro p hp
  have up : ∀ {ks : List Tr} {sl : Value}, KidsAt (wakeW w) (· < (wakeW w).heap.size) ks sl → KidsAt W (· < W.heap.size) ks sl := fun h => (h.under hb).mono (fun b hl _ => hl)
  simp only [wakeY, List.mem_cons, List.not_mem_nil, or_false] at hp
  rcases hp with rfl | rfl | rfl
  · exact ⟨up (wake_first w), Nat.zero_le _⟩
  · exact ⟨KidsAt.nil _ _, by decide⟩
  · exact ⟨up (wake_third w), Nat.zero_le _⟩
theorem wake_same {w : World} {ps : Rrow} (hps : ps.map Prod.fst = [{ name := [97], place := 0, more := false, tree := firstT }, { name := [97], place := 22, more := false, tree := treeb }, { name := [97], place := 30, more := false, tree := thirdT }]) : ∀ (i : Nat) (x y : Rl × Value), ps[i]? = some x → (wakeY w)[i]? = some y → SameR false x.1 y.1 := by
  intro i x y hx hy
  have hx1 : (ps.map Prod.fst)[i]? = some x.1 := by rw [List.getElem?_map, hx]; rfl
  rw [hps] at hx1
  match i, hx1, hy with
  | 0, h1, h2 => injection h1 with h1; injection h2 with h2; rw [← h1, ← h2]; exact ⟨rfl, rfl, rfl, fun h => by cases h⟩
  | 1, h1, h2 => injection h1 with h1; injection h2 with h2; rw [← h1, ← h2]; exact ⟨rfl, rfl, rfl, fun h => by cases h⟩
  | 2, h1, h2 => injection h1 with h1; injection h2 with h2; rw [← h1, ← h2]; exact ⟨rfl, rfl, rfl, fun h => by cases h⟩
  | i + 3, h1, _ => simp at h1

set_option maxRecDepth 100000 in
set_option maxHeartbeats 4000000 in
theorem awake_any (w : World) (hlv : LeavesAt w) (hpw : PowAt w) :
    Calls Tryz.prog 10 #[] w fun e w' => e = .returned (.bool true) ∧ Below w.heap.size w w' := by
  have HB0 := Lib.hid (wake_below w)
  have HOF : Hid (Calls Tryz.prog 21 #[.string (bs wakeA)] (wakeW w) fun e w' => ParseOut (wakeW w) ([{ name := [97], place := 0, more := false, tree := firstT }, { name := [97], place := 22, more := false, tree := treeb }, { name := [97], place := 30, more := false, tree := thirdT }], 0, 0) e w') := by
    have := Of_any wakeA few_A short_A (wakeW w) (hlv.below HB0.out hlv.lt)
    rw [of_A] at this
    exact this
  have HLV : Hid (∀ W, Below w.heap.size w W → LeavesAt W) := fun W hW => hlv.below hW hlv.lt
  have HPW : Hid (∀ W, Below w.heap.size w W → PowAt W) := fun W hW => hpw.below hW hpw.lt
  clear hlv hpw
  go_enter Tryz.func10, Tryz.ntmps10
  go_wp2_with fail
  refine HOF.out.mono ?_
  rintro e w1 ⟨v, rfl, hr, hb⟩
  obtain ⟨⟨ps, hps, hown, hkids⟩⟩ := hr
  have hrow := RRow.of_own hown hkids
  have HB1 := Lib.hid (HB0.out.trans (hb.mono HB0.out.size))
  have c0 := ((wake_blk0 w).below hb (wake_blk0 w).lt).cell
  have c7 := ((wake_blk7 w).below hb (wake_blk7 w).lt).cell
  have c10 := ((wake_blk10 w).below hb (wake_blk10 w).lt).cell
  have HBW := Lib.hid hb
  obtain ⟨A, c, rfl, _⟩ := hrow.row
  have HPL : Hid (ps.length = 3) := by show _ = _; have := congrArg List.length hps; simpa using this
  have HROW := Lib.hid hrow
  have HPS := Lib.hid hps
  clear hown hkids hb hrow hps HOF
  go_wp2_with fail
  refine (Rules_same _ _ ps (wakeY w) false _ (by rw [HPL.out]; omega) (by rw [HPL.out]; rfl) (wake_same HPS.out) (HROW.out.below ((Below.refl _ _).alloc (Nat.le_refl _) _)) (RRow.lit (wakeY w) (Blk.new _ _ _) rfl rfl _ (wake_kids (HBW.out.alloc HBW.out.size _)))).mono ?_
  rintro e w2 ⟨rfl, hb2⟩
  have HB2 := Lib.hid ((HB1.out.alloc HB1.out.size _).trans (hb2.mono (Nat.le_trans HB1.out.size (by simp))))
  clear hb2 c0 c7 c10 HROW HPS HPL HBW HB1 HB0
  go_wp2_with fail
  refine (prints_true wakeP0 wakeQ0 _ few_P0 short_P0 of_P0 print_P0 byte_firstT text_firstT (by decide) (by decide) _ (HLV.out _ HB2.out) (HPW.out _ HB2.out)).mono ?_
  rintro e w3 ⟨rfl, hb3⟩
  have HB3 := Lib.hid (HB2.out.trans (hb3.mono HB2.out.size))
  clear hb3
  go_wp2_with fail
  refine (prints_true wakeP1 wakeQ1 _ few_P1 short_P1 of_P1 print_P1 byte_thirdT text_thirdT (by decide) (by decide) _ (HLV.out _ HB3.out) (HPW.out _ HB3.out)).mono ?_
  rintro e w4 ⟨rfl, hb4⟩
  have HB4 := Lib.hid (HB3.out.trans (hb4.mono HB3.out.size))
  clear hb4
  go_wp2_with fail
  refine (prints_true wakeP2 wakeQ2 _ few_P2 short_P2 of_P2 print_P2 byte_treeb text_treeb (by decide) (by decide) _ (HLV.out _ HB4.out) (HPW.out _ HB4.out)).mono ?_
  rintro e w5 ⟨rfl, hb5⟩
  have HB5 := Lib.hid (HB4.out.trans (hb5.mono HB4.out.size))
  clear hb5
  go_wp2_with fail
  refine (fails_true wakeF0 4 20 few_F0 short_F0 of_F0 _ (HLV.out _ HB5.out)).mono ?_
  rintro e w6 ⟨rfl, hb6⟩
  have HB6 := Lib.hid (HB5.out.trans (hb6.mono HB5.out.size))
  clear hb6
  go_wp2_with fail
  refine (fails_true wakeF1 6 20 few_F1 short_F1 of_F1 _ (HLV.out _ HB6.out)).mono ?_
  rintro e w7 ⟨rfl, hb7⟩
  have HB7 := Lib.hid (HB6.out.trans (hb7.mono HB6.out.size))
  clear hb7
  go_wp2_with fail
  refine (fails_true wakeF2 2 20 few_F2 short_F2 of_F2 _ (HLV.out _ HB7.out)).mono ?_
  rintro e w8 ⟨rfl, hb8⟩
  have HB8 := Lib.hid (HB7.out.trans (hb8.mono HB7.out.size))
  clear hb8
  go_wp2
  go_ret
  exact ⟨rfl, HB8.out⟩
end Go.Proofs.YtgbipbjpeecooaaGreatDoor
