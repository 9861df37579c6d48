/-
  Merged texts (PtA, Gd, PtB, PtC, PtD, Gh, PtE, PtI, PtJ, Gc, PtK, PtL, PtM), each under a head of its own that says what it proves and under which conditions.
-/
import Derived.Test.YtnkepdeegpampaaGreatDoorM01
import Derived.Test.YtnkepdeegpampaaGreatDoorM02
import Derived.Laws.AppendOwn
import Derived.BigQuiet
import Derived.OrdersHeld
import Derived.Deep.RegionHeld3
/-
  The contracts of path's small functions on bytes. No conditions.
-/
namespace Go.Proofs.YtnkepdeegpampaaGreatDoor
open Go.RowKit Go.Shelf

def smlZ (n : Int) : Int := if 65 ≤ n ∧ n ≤ 90 then n + 32 else n
def digZ (n : Int) : Bool := decide (48 ≤ n) && decide (n ≤ 57)
def hexZ (n : Int) : Bool := digZ n || (decide (97 ≤ smlZ n) && decide (smlZ n ≤ 102))
def letZ (n : Int) : Bool := digZ n || (decide (97 ≤ smlZ n) && decide (smlZ n ≤ 122))
theorem sml_z (c : UInt8) : ((sml c).toNat : Int) = smlZ (c.toNat : Int) := all_u8 (P := fun c => ((sml c).toNat : Int) = smlZ (c.toNat : Int)) (by decide +kernel) c
theorem dig_z (c : UInt8) : digB c = digZ (c.toNat : Int) := all_u8 (P := fun c => digB c = digZ (c.toNat : Int)) (by decide +kernel) c
theorem hex_z (c : UInt8) : hexB c = hexZ (c.toNat : Int) := all_u8 (P := fun c => hexB c = hexZ (c.toNat : Int)) (by decide +kernel) c
theorem let_z (c : UInt8) : letB c = letZ (c.toNat : Int) := all_u8 (P := fun c => letB c = letZ (c.toNat : Int)) (by decide +kernel) c
theorem lab_z (c : UInt8) : labB c = (letZ (c.toNat : Int) || (c.toNat : Int) == 45) := all_u8 (P := fun c => labB c = (letZ (c.toNat : Int) || (c.toNat : Int) == 45)) (by decide +kernel) c
theorem not_z (c : UInt8) : notB c = (decide ((c.toNat : Int) < 32) || decide (126 < (c.toNat : Int))) := all_u8 (P := fun c => notB c = (decide ((c.toNat : Int) < 32) || decide (126 < (c.toNat : Int)))) (by decide +kernel) c
set_option maxHeartbeats 400000 in
theorem small_z (n : Int) (h0 : 0 ≤ n) (h1 : n ≤ 255) (w : World) : Calls Tryz.prog 99 #[.int .u8 n] w fun e w' => e = .returned (.int .u8 (smlZ n)) ∧ w' = w := by
  go_enter Tryz.func99, Tryz.ntmps99
  go_wp2
  all_goals go_ret
  all_goals refine ⟨ret_int ?_, rfl⟩
  all_goals unfold smlZ
  all_goals (repeat' split) <;> omega
set_option maxHeartbeats 400000 in
theorem isDigit_z (n : Int) (w : World) : Calls Tryz.prog 118 #[.int .u8 n] w fun e w' => e = .returned (.bool (digZ n)) ∧ w' = w := by
  go_enter Tryz.func118, Tryz.ntmps118
  go_wp2
  all_goals go_ret
  all_goals exact ⟨ret_bool (by rw [Bool.eq_iff_iff]; simp [digZ]; omega), rfl⟩
theorem smlZ_in (n : Int) (h0 : 0 ≤ n) (h1 : n ≤ 255) : 0 ≤ smlZ n ∧ smlZ n ≤ 255 := by unfold smlZ; split <;> omega
set_option maxHeartbeats 400000 in
theorem isHex_z (n : Int) (h0 : 0 ≤ n) (h1 : n ≤ 255) (w : World) : Calls Tryz.prog 128 #[.int .u8 n] w fun e w' => e = .returned (.bool (hexZ n)) ∧ w' = w := by
  have hs := smlZ_in n h0 h1
  go_enter Tryz.func128, Tryz.ntmps128
  go_wp2_with (first | (go_at_call 99; refine (small_z _ h0 h1 _).mono ?_; rintro e w' ⟨rfl, rfl⟩) | (go_at_call 118; refine (isDigit_z _ _).mono ?_; rintro e w' ⟨rfl, rfl⟩))
  all_goals go_ret
  all_goals exact ⟨ret_bool (by first | (simp [hexZ, *]; done) | (simp [hexZ, *]; omega)), rfl⟩
set_option maxHeartbeats 400000 in
theorem isLetDig_z (n : Int) (h0 : 0 ≤ n) (h1 : n ≤ 255) (w : World) : Calls Tryz.prog 127 #[.int .u8 n] w fun e w' => e = .returned (.bool (letZ n)) ∧ w' = w := by
  have hs := smlZ_in n h0 h1
  go_enter Tryz.func127, Tryz.ntmps127
  go_wp2_with (first | (go_at_call 99; refine (small_z _ h0 h1 _).mono ?_; rintro e w' ⟨rfl, rfl⟩) | (go_at_call 118; refine (isDigit_z _ _).mono ?_; rintro e w' ⟨rfl, rfl⟩))
  all_goals go_ret
  all_goals exact ⟨ret_bool (by first | (simp [letZ, *]; done) | (simp [letZ, *]; omega)), rfl⟩
theorem byte_in (c : UInt8) : 0 ≤ (c.toNat : Int) ∧ (c.toNat : Int) ≤ 255 := by have := c.toNat_lt; omega
theorem small_any (c : UInt8) (w : World) : Calls Tryz.prog 99 #[.int .u8 (c.toNat : Int)] w fun e w' => e = .returned (.int .u8 ((sml c).toNat : Int)) ∧ w' = w := by
  rw [sml_z]
  exact small_z _ (byte_in c).1 (byte_in c).2 w
/-- a kind of bytes, as a function -/
def IsB (k : Nat) (p : UInt8 → Bool) : Prop := ∀ (c : UInt8) (w : World), Calls Tryz.prog k #[.int .u8 (c.toNat : Int)] w fun e w' => e = .returned (.bool (p c)) ∧ w' = w
theorem isDigit_any : IsB 118 digB := fun c w => by rw [dig_z]; exact isDigit_z _ w
theorem isHex_any : IsB 128 hexB := fun c w => by rw [hex_z]; exact isHex_z _ (byte_in c).1 (byte_in c).2 w
theorem isLetDig_any : IsB 127 letB := fun c w => by rw [let_z]; exact isLetDig_z _ (byte_in c).1 (byte_in c).2 w
set_option maxHeartbeats 400000 in
theorem isOfLabel_any : IsB 116 labB := fun c w => by
  rw [lab_z]
  obtain ⟨h0, h1⟩ := byte_in c
  generalize (c.toNat : Int) = n at h0 h1
  go_enter Tryz.func116, Tryz.ntmps116
  go_wp2_with (first | (go_at_call 127; refine (isLetDig_z _ h0 h1 _).mono ?_; rintro e w' ⟨rfl, rfl⟩))
  all_goals go_ret
  all_goals exact ⟨ret_bool (by simp [*]), rfl⟩
set_option maxHeartbeats 400000 in
theorem isNotShown_any : IsB 77 notB := fun c w => by
  rw [not_z]
  obtain ⟨h0, h1⟩ := byte_in c
  generalize (c.toNat : Int) = n at h0 h1
  go_enter Tryz.func77, Tryz.ntmps77
  go_wp2
  all_goals go_ret
  all_goals exact ⟨ret_bool (by first | (simp; done) | (simp; omega) | (rw [Bool.eq_iff_iff]; simp; omega)), rfl⟩
theorem atm_z (c : UInt8) : atmB c = (letZ (c.toNat : Int) || decide (0 ≤ Lib.indexByte marksA (c.toNat : Int).toNat.toUInt8)) := all_u8 (P := fun c => atmB c = (letZ (c.toNat : Int) || decide (0 ≤ Lib.indexByte marksA (c.toNat : Int).toNat.toUInt8))) (by decide +kernel) c
set_option maxHeartbeats 400000 in
theorem isOfAtom_any : IsB 115 atmB := fun c w => by
  rw [atm_z]
  obtain ⟨h0, h1⟩ := byte_in c
  generalize (c.toNat : Int) = n at h0 h1
  go_enter Tryz.func115, Tryz.ntmps115
  go_wp2_with (first | (go_at_call 127; refine (isLetDig_z _ h0 h1 _).mono ?_; rintro e w' ⟨rfl, rfl⟩) | (go_at_call 126; refine (Tryz.strings_IndexByte _ _ _).mono ?_; rintro e w' ⟨rfl, rfl⟩))
  all_goals go_ret
  all_goals exact ⟨ret_bool (by simp [marksA, *]), rfl⟩
end Go.Proofs.YtnkepdeegpampaaGreatDoor

/-
  Rows of one's own: as slices that are read; rows and blocks of different types lie apart. No conditions.
-/
namespace Go.Proofs.YtnkepdeegpampaaGreatDoor
open Go.RowKit

theorem own_slice {B n sz : Nat} {e : TypeId} {W : World} {v : Value} {l : List Value} (h : W.ownsRow B e sz v n l) (hm : l.length ≤ maxLen) : ∃ a c, v = .slice a n c ∧ RowAt W a l := by
  have h' := h
  obtain ⟨h1, h2⟩ := h
  rcases h2 with ⟨e1, h0⟩ | ⟨g, cap, cur, e1, _⟩
  · subst e1
    subst h0
    exact ⟨none, 0, rfl, row_of_own h' hm⟩
  · subst e1
    exact ⟨_, cap, rfl, row_of_own h' hm⟩
theorem own_apart {W : World} {B1 B2 z1 z2 n1 n2 : Nat} {e1 e2 : TypeId} {v1 v2 : Value} {x1 x2 : List Value} (h1 : W.ownsRow B1 e1 z1 v1 n1 x1) (h2 : W.ownsRow B2 e2 z2 v2 n2 x2) (hne : e1 ≠ e2) : v1.ownBlock = none ∨ v1.ownBlock ≠ v2.ownBlock := by
  rcases h1.2 with ⟨e, _⟩ | ⟨g, cap, cur, e, _, hb, _⟩
  · subst e; exact .inl rfl
  · subst e
    rcases h2.2 with ⟨e', _⟩ | ⟨g', cap', cur', e', _, hb', _⟩
    · subst e'; exact .inr (by simp [Value.ownBlock])
    · subst e'
      refine .inr (fun h => hne ?_)
      simp only [Value.ownBlock, Option.some.injEq] at h
      subst h
      rw [hb] at hb'
      injection hb' with hb'
      injection hb'
theorem blk_apart {W : World} {B z n g : Nat} {e t : TypeId} {v : Value} {x : List Value} {cs : Array Value} (h : W.ownsRow B e z v n x) (hb : Blk W g t cs) (hne : t ≠ e) : some g ≠ v.ownBlock := by
  rcases h.2 with ⟨e', _⟩ | ⟨g', cap', cur', e', _, hb', _⟩
  · subst e'; simp [Value.ownBlock]
  · subst e'
    intro h
    simp only [Value.ownBlock, Option.some.injEq] at h
    subst h
    unfold Blk at hb
    rw [hb] at hb'
    injection hb' with hb'
    injection hb' with _ hb'
    exact hne hb'
/-- a row of one's own stays, where a block of another type is written to -/
theorem own_set {W : World} {B z n g : Nat} {e t : TypeId} {v : Value} {x : List Value} {cs : Array Value} (h : W.ownsRow B e z v n x) (hb : Blk W g t cs) (hne : t ≠ e) (i : Nat) (u : Value) : (W.setCell ⟨g, i, none⟩ u).ownsRow B e z v n x :=
  h.kept (row := some g) ⟨rfl, rfl, rfl, by simp [World.setCell], fun k _ hk => heap_setCell_other W ⟨g, i, none⟩ k u (fun e => hk (by rw [e]))⟩ (.inr (fun e => blk_apart h hb hne e.symm))
/-- a row of one's own that is there: its block -/
theorem own_blk {W : World} {B g z n c : Nat} {e : TypeId} {xs : List Value} (h : W.ownsRow B e z (.slice (some ⟨g, 0, none⟩) n c) n xs) : ∃ cur, Blk W g e cur ∧ B ≤ g ∧ n ≤ c ∧ c ≤ maxLen ∧ cur.size = c * z ∧ cur.toList.take (n * z) = xs := by
  rcases h.2 with ⟨e1, _⟩ | ⟨g', cap, cur, e1, hg, hb, h3, h4, h5, h6⟩
  · cases e1
  · injection e1 with e1 e2 e3
    injection e1 with e1
    injection e1 with e1
    subst e1
    subst e3
    exact ⟨cur, hb, hg, h3, h4, h5, h6⟩
theorem own_of {W : World} {B g z n c : Nat} {e : TypeId} {xs : List Value} {cur : Array Value} (hb : Blk W g e cur) (hg : B ≤ g) (hn : n ≤ c) (hc : c ≤ maxLen) (hs : cur.size = c * z) (ht : cur.toList.take (n * z) = xs) : W.ownsRow B e z (.slice (some ⟨g, 0, none⟩) n c) n xs := by
  refine ⟨?_, .inr ⟨g, c, cur, rfl, hg, hb, hn, hc, hs, ht⟩⟩
  rw [← ht, List.length_take, Array.length_toList, hs]
  exact Nat.min_eq_left (Nat.mul_le_mul_right z hn)
/-- where it is, if there is anything in it -/
theorem own_there {W : World} {B z n : Nat} {e : TypeId} {v : Value} {xs : List Value} (h : W.ownsRow B e z v n xs) (h0 : 0 < n) : ∃ g c, v = .slice (some ⟨g, 0, none⟩) n c := by
  rcases h.2 with ⟨_, e0⟩ | ⟨g, cap, cur, e1, _⟩
  · omega
  · exact ⟨g, cap, e1⟩
/-- a cell of it is written -/
theorem own_put {W : World} {B g z n c : Nat} {e : TypeId} {xs : List Value} (h : W.ownsRow B e z (.slice (some ⟨g, 0, none⟩) n c) n xs) (i : Nat) (u : Value) : (W.setCell ⟨g, i, none⟩ u).ownsRow B e z (.slice (some ⟨g, 0, none⟩) n c) n (xs.set i u) := by
  obtain ⟨cur, hb, hg, hn, hc, hs, ht⟩ := own_blk h
  refine own_of (hb.set_ i u) hg hn hc (by rw [Array.size_setIfInBounds]; exact hs) ?_
  rw [Array.toList_setIfInBounds, List.take_set, ht]
/-- its beginning -/
theorem own_front {W : World} {B g z n c : Nat} {e : TypeId} {xs ys : List Value} (h : W.ownsRow B e z (.slice (some ⟨g, 0, none⟩) n c) n (xs ++ ys)) (m : Nat) (hm : m ≤ n) (hx : xs.length = m * z) : W.ownsRow B e z (.slice (some ⟨g, 0, none⟩) m c) m xs := by
  obtain ⟨cur, hb, hg, hn, hc, hs, ht⟩ := own_blk h
  refine own_of hb hg (by omega) hc hs ?_
  have h1 := congrArg (List.take (m * z)) ht
  rw [List.take_take, Nat.min_eq_left (Nat.mul_le_mul_right z hm), ← hx, List.take_left] at h1
  rw [← hx]
  exact h1
theorem own_cell {W : World} {B g z n c : Nat} {e : TypeId} {xs : List Value} (h : W.ownsRow B e z (.slice (some ⟨g, 0, none⟩) n c) n xs) {j : Nat} {u : Value} (hj : xs[j]? = some u) : W.cell? ⟨g, j, none⟩ = some u ∧ W.frozen? ⟨g, j, none⟩ = false := by
  obtain ⟨cur, hb, _, _, _, _, _⟩ := own_blk h
  have h1 := h.cells (g := g) rfl j u hj
  rw [Addr.add_lit, Nat.zero_add] at h1
  exact ⟨h1, hb.frozen j⟩
end Go.Proofs.YtnkepdeegpampaaGreatDoor

/-
  A reader of paths in memory, and its smallest methods: limit, take. Conditions: the reader lies in memory.
-/
namespace Go.Proofs.YtnkepdeegpampaaGreatDoor
open Go.RowKit Go.Shelf

/-- the library's error of a numeral that is none: some value -/
def ErrAt (w : World) : Prop := ∃ ev, w.cell? ⟨4, 0, none⟩ = some ev ∧ (ev = .nilIface ∨ ∃ te pe, ev = .iface te pe)
theorem ErrAt.below {B : Nat} {w w' : World} (h : ErrAt w) (hb : Below B w w') (hB : 4 < B) : ErrAt w' := by
  obtain ⟨ev, h1, h2⟩ := h
  exact ⟨ev, (hb.cell (p := ⟨4, 0, none⟩) hB).trans h1, h2⟩
def rdCells (s : List UInt8) (p : Nat) (st : Rs) (v : Value) : Array Value := #[.string (bs s), .int .i64 (p : Int), .bool st.null, v, .string (bs st.loc), .string (bs st.dom), .bool st.lit, .bool st.long]
/-- a reader in memory: block r -/
structure RdIn (w : World) (r : Nat) (s : List UInt8) (p : Nat) (v : Value) (st : Rs) : Prop where
  cells : Blk w r 103 (rdCells s p st v)
  own : w.ownsRow (r + 1) 9 1 v st.route.length (st.route.map textV)
  place : p ≤ s.length
  rest : s.drop p = st.rest
  len : s.length ≤ 9223372036854775807
  err : ErrAt w
  low : 4 < r
def RdAt (w : World) (r : Nat) (s : List UInt8) (st : Rs) : Prop := ∃ p v, RdIn w r s p v st
/-- what lies ahead of the reader, and what is no reader and no row of texts, stays -/
structure Kp (r : Nat) (w w' : World) : Prop where
  low : Below r w w'
  keep : ∀ k t cs, Blk w k t cs → t ≠ 103 → t ≠ 9 → Blk w' k t cs
theorem Kp.refl (r : Nat) (w : World) : Kp r w w := ⟨Below.refl _ _, fun _ _ _ h _ _ => h⟩
theorem Kp.trans {r : Nat} {a b c : World} (h : Kp r a b) (k : Kp r b c) : Kp r a c := ⟨h.low.trans k.low, fun g t cs hb h1 h2 => k.keep g t cs (h.keep g t cs hb h1 h2) h1 h2⟩
theorem Kp.drewN {r : Nat} {a b : World} (h : Kp r a b) (n : Nat) : Kp r a (b.drewN n) := ⟨⟨h.low.os, h.low.tape, h.low.output, h.low.size, h.low.block⟩, h.keep⟩
theorem Kp.set_ {r : Nat} {a w : World} (h : Kp r a w) {cs : Array Value} (hb : Blk w r 103 cs) (i : Nat) (u : Value) : Kp r a (w.setCell ⟨r, i, none⟩ u) :=
  h.trans ⟨(Below.refl r w).setCell (p := ⟨r, i, none⟩) (Nat.le_refl _) u, fun k t cs' hk h1 _ => by
    refine hk.other (p := ⟨r, i, none⟩) ?_ u
    rintro rfl
    unfold Blk at hk hb
    rw [hb] at hk
    injection hk with hk
    injection hk with _ hk
    exact h1 hk.symm⟩
theorem Kp.of_low {r : Nat} {a b c : World} (h : Kp r a b) (hl : Below b.heap.size b c) (hr : r ≤ b.heap.size) : Kp r a c := h.trans ⟨hl.mono hr, fun _ _ _ hb _ _ => hb.below hl hb.lt⟩
theorem RdIn.lt {w : World} {r : Nat} {s : List UInt8} {p : Nat} {v : Value} {st : Rs} (h : RdIn w r s p v st) : r < w.heap.size := h.cells.lt
theorem RdIn.drewN {w : World} {r : Nat} {s : List UInt8} {p : Nat} {v : Value} {st : Rs} (h : RdIn w r s p v st) (n : Nat) : RdIn (w.drewN n) r s p v st := ⟨h.cells, h.own.kept (row := none) ⟨rfl, rfl, rfl, Nat.le_refl _, fun _ _ _ => rfl⟩ (by cases v.ownBlock <;> simp), h.place, h.rest, h.len, h.err, h.low⟩
theorem RdIn.later {w w' : World} {r : Nat} {s : List UInt8} {p : Nat} {v : Value} {st : Rs} (h : RdIn w r s p v st) (hb : Below w.heap.size w w') : RdIn w' r s p v st := ⟨h.cells.below hb h.lt, ownsRow_kept h.own hb, h.place, h.rest, h.len, h.err.below hb (Nat.lt_trans h.low h.lt), h.low⟩
/-- a cell of the reader is written -/
theorem RdIn.put {w : World} {r : Nat} {s : List UInt8} {p q : Nat} {v : Value} {st st' : Rs} (h : RdIn w r s p v st) (i : Nat) (u : Value) (hc : (rdCells s p st v).setIfInBounds i u = rdCells s q st' v) (hr : st'.route = st.route) (hq : q ≤ s.length) (hd : s.drop q = st'.rest) : RdIn (w.setCell ⟨r, i, none⟩ u) r s q v st' := by
  refine ⟨?_, ?_, hq, hd, h.len, ?_, h.low⟩
  · rw [← hc]; exact h.cells.set_ i u
  · rw [hr]; exact own_set h.own h.cells (by decide) i u
  · have hb : Below r w (w.setCell ⟨r, i, none⟩ u) := (Below.refl r w).setCell (p := ⟨r, i, none⟩) (Nat.le_refl _) u
    exact h.err.below hb h.low
/-- what a method that reads a part leaves -/
def ReadOut (w : World) (r : Nat) (s : List UInt8) (g : Rd) (st : Rs) (e : Ending) (w' : World) : Prop := e = .returned (.bool (g st).1) ∧ RdAt w' r s (g st).2 ∧ Kp r w w'
theorem str_at (s : List UInt8) (i : Nat) (h : i < s.length) (W : World) : (Instr.index 9 (.string (bs s)) (.int .i64 (i : Int))).run Tryz.prog W = .ok (.int .u8 (s[i].toNat : Int)) W := by
  rw [run_index_string W 9 (bs s) .i64 (i : Int) Tryz.underlying9]
  rw [dif_pos ⟨by omega, by rw [bs_size]; omega⟩]
  rfl
def LimOut (w : World) (r : Nat) (s : List UInt8) (b : Bool) (st : Rs) (e : Ending) (w' : World) : Prop := e = .returned (.tuple #[]) ∧ RdAt w' r s (limitR b st) ∧ Kp r w w'
theorem limit_any {w : World} {r : Nat} {s : List UInt8} {st : Rs} (h : RdAt w r s st) (m n : Int) : Calls Tryz.prog 87 #[.pointer (some ⟨r, 0, none⟩), .int .i64 m, .int .i64 n] w (LimOut w r s (decide (n < m)) st) := by
  obtain ⟨p, v, h⟩ := h
  have c7 := h.cells.cell 7
  have f7 := h.cells.frozen 7
  simp only [rdCells] at c7
  simp at c7
  have HK := Lib.hid (fun u => (Kp.refl r w).set_ h.cells 7 u)
  have HR := Lib.hid (fun (b : Bool) (hb : (st.long || decide (n < m)) = b) => h.put (q := p) (st' := limitR (decide (n < m)) st) 7 (.bool b) (by simp only [rdCells, limitR, hb]; rfl) rfl h.place h.rest)
  have HP : Hid (∀ (b : Bool) w', (st.long || decide (n < m)) = b → w' = w.setCell ⟨r, 7, none⟩ (.bool b) → LimOut w r s (decide (n < m)) st (.returned (.tuple #[])) w') := fun b w' hb hw => by subst hw; exact ⟨rfl, ⟨p, v, HR.out b hb⟩, HK.out _⟩
  clear h HR HK
  generalize LimOut w r s (decide (n < m)) st = Q at *
  cases hl : st.long with
  | true =>
    rw [hl] at c7 HP
    go_enter Tryz.func87, Tryz.ntmps87
    go_wp2
    go_end0
    exact HP.out true _ rfl rfl
  | false =>
    rw [hl] at c7 HP
    by_cases hlt : n < m
    · have hgt : ¬ m ≤ n := by omega
      go_enter Tryz.func87, Tryz.ntmps87
      go_wp2
      go_end0
      exact HP.out true _ (by simp [hlt]) rfl
    · have hgt : m ≤ n := by omega
      go_enter Tryz.func87, Tryz.ntmps87
      go_wp2
      go_end0
      exact HP.out false _ (by simp; omega) rfl
theorem drewN_add (w : World) (a b : Nat) : (w.drewN a).drewN b = w.drewN (a + b) := by simp [World.drewN, Nat.add_assoc]
theorem take_step (s what : List UInt8) (p k : Nat) (rest : List UInt8) (hd : s.drop p = rest) (hp : p + k < s.length) (hk : k < what.length) (h : low (rest.take k) = what.take k) :
    (sml s[p + k] = what[k] → low (rest.take (k + 1)) = what.take (k + 1)) ∧ (¬ sml s[p + k] = what[k] → ∀ st : Rs, st.rest = rest → (takeR what st).1 = false) := by
  have hr : rest[k]? = some s[p + k] := by rw [← hd, List.getElem?_drop, List.getElem?_eq_getElem hp]
  obtain ⟨hkr, hre⟩ := List.getElem?_eq_some_iff.1 hr
  refine ⟨fun e => ?_, fun e st hst => ?_⟩
  · rw [List.take_add_one, List.take_add_one, low_app, h, hr, List.getElem?_eq_getElem hk]
    simp [low, e]
  · cases ht : (takeR what st).1 with
    | false => rfl
    | true =>
      exfalso
      obtain ⟨h1, _, h3⟩ := takeR_yes _ _ ht
      rw [hst] at h1 h3
      have h4 : (low (rest.take what.length))[k]? = what[k]? := by rw [h1]
      unfold low at h4
      rw [List.getElem?_map, List.getElem?_take, if_pos hk, hr, List.getElem?_eq_getElem hk] at h4
      exact e (Option.some.inj h4)
set_option maxRecDepth 100000 in
set_option maxHeartbeats 2000000 in
theorem take_any {w : World} {r : Nat} {s : List UInt8} {st : Rs} (h : RdAt w r s st) (what : List UInt8) (hw : what.length ≤ 1000) : Calls Tryz.prog 107 #[.pointer (some ⟨r, 0, none⟩), .string (bs what)] w (ReadOut w r s (takeR what) st) := by
  obtain ⟨p, v, h⟩ := h
  have hn : s.length - p = st.rest.length := by rw [← h.rest, List.length_drop]
  have hp := h.place
  have hl := h.len
  have HNO : Hid (∀ q w', (takeR what st).1 = false → w' = w.drewN q → ReadOut w r s (takeR what) st (.returned (.bool false)) w') := fun q w' ht hw => by
    subst hw
    exact ⟨by rw [ht], ⟨p, v, by rw [takeR_no _ _ ht]; exact h.drewN q⟩, (Kp.refl r w).drewN q⟩
  have HYES : Hid (∀ q w', (takeR what st).1 = true → w' = (w.drewN q).setCell ⟨r, 1, none⟩ (.int .i64 ((p + what.length : Nat) : Int)) → ReadOut w r s (takeR what) st (.returned (.bool true)) w') := fun q w' ht hw => by
    subst hw
    obtain ⟨k1, k2, k3⟩ := takeR_yes _ _ ht
    refine ⟨by rw [ht], ⟨p + what.length, v, ?_⟩, ((Kp.refl r w).drewN q).set_ (h.drewN q).cells 1 _⟩
    rw [k2]
    exact (h.drewN q).put 1 _ rfl rfl (by omega) (by simp only; rw [← h.rest, List.drop_drop])
  generalize ReadOut w r s (takeR what) st = Q at *
  have HC : Hid (∀ q i u, (rdCells s p st v)[i]? = some u → (w.drewN q).cell? ⟨r, i, none⟩ = some u ∧ (w.drewN q).frozen? ⟨r, i, none⟩ = false) := fun q i u hu => ⟨((h.drewN q).cells.cell i).trans hu, (h.drewN q).cells.frozen i⟩
  have HD : Hid (s.drop p = st.rest) := h.rest
  have hsz : (bs s).size = s.length := rfl
  have hwz : (bs what).size = what.length := rfl
  clear h
  have HCS : Hid (∀ q, (w.drewN q).cell? ⟨r, 0, none⟩ = some (.string (bs s)) ∧ (w.drewN q).cell? ⟨r, 1, none⟩ = some (.int .i64 (p : Int)) ∧ (w.drewN q).frozen? ⟨r, 1, none⟩ = false) := fun q => ⟨(HC.out q 0 _ rfl).1, (HC.out q 1 _ rfl).1, (HC.out q 1 (.int .i64 (p : Int)) rfl).2⟩
  clear HC
  obtain ⟨c0, c1, f1⟩ := HCS.out 0
  rw [show w.drewN 0 = w from rfl] at c0 c1 f1
  by_cases hlt : s.length - p < what.length
  · have HT := Lib.hid (show (takeR what st).1 = false from by
      cases ht : (takeR what st).1 with
      | false => rfl
      | true => have := (takeR_yes _ _ ht).2.2; omega)
    have hlt2 : (s.length : Int) - (p : Int) < (what.length : Int) := by omega
    clear hlt hn
    go_enter Tryz.func107, Tryz.ntmps107
    go_wp2
    go_quiet (fail)
    go_wp2
    exact HNO.out _ _ HT.out rfl
  · have hle : what.length ≤ st.rest.length := by omega
    have hlt2 : ¬ (s.length : Int) - (p : Int) < (what.length : Int) := by omega
    have hlt3 : (what.length : Int) ≤ (s.length : Int) - (p : Int) := by omega
    have HLE := Lib.hid hle
    have HN := Lib.hid hn
    clear hlt hn hle
    go_enter Tryz.func107, Tryz.ntmps107
    go_wp2
    go_quiet (fail)
    go_wp2
    clear c0 c1 f1
    go_loopw [21] (fun i wr => ∃ k q : Nat, k ≤ what.length ∧ i = .int .i64 k ∧ Hid (low (st.rest.take k) = what.take k) ∧ Hid (wr = w.drewN q)) (fun i _ => what.length - (intOf i).toNat)
    case atStart => exact ⟨0, nq, Nat.zero_le _, rfl, rfl, rfl⟩
    case round =>
      obtain ⟨k, q, hk, rfl, HL, HW⟩ := hrel
      obtain ⟨c0, c1, f1⟩ := HCS.out q
      rw [← HW.out] at c0 c1 f1
      have hk0 : (0 : Int) ≤ (k : Int) := by omega
      by_cases hlt : k < what.length
      · have hkl : (k : Int) < (what.length : Int) := by omega
        have hps : (p : Int) + (k : Int) < (s.length : Int) := by omega
        have hp0 : (0 : Int) ≤ (p : Int) + (k : Int) := by omega
        have hpm : (p : Int) + (k : Int) ≤ 9223372036854775807 := by omega
        have hpk : p + k < s.length := by omega
        have hs1 : ∀ W, (Instr.index 9 (.string (bs s)) (.int .i64 ((p : Int) + (k : Int)))).run Tryz.prog W = .ok (.int .u8 (s[p + k].toNat : Int)) W := fun W => str_at s (p + k) hpk W
        have hs2 : ∀ W, (Instr.index 9 (.string (bs what)) (.int .i64 (k : Int))).run Tryz.prog W = .ok (.int .u8 (what[k].toNat : Int)) W := fun W => str_at what k hlt W
        have HST := Lib.hid (take_step s what p k st.rest HD.out hpk hlt HL.out)
        generalize s[p + k] = c at *
        generalize what[k] = d at *
        have HSM := Lib.hid (fun W => small_any c W)
        by_cases hcd : sml c = d
        · have hcz : ((sml c).toNat : Int) = (d.toNat : Int) := by rw [hcd]
          have HNX := Lib.hid (HST.out.1 hcd)
          clear HST hcd hpk
          go_wp2
          go_quiet ((go_at_call 99; refine (HSM.out _).mono ?_; rintro e w' ⟨rfl, rfl⟩; exact ⟨rfl, _, rfl⟩))
          go_wp2
          go_roundw
          case rel => exact ⟨k + 1, _, by omega, by go_num, HNX.out, (by show _ = _; rw [HW.out]; exact drewN_add w q nq)⟩
          case measure => simp [intOf]; omega
        · have hcz : ¬ ((sml c).toNat : Int) = (d.toNat : Int) := fun e => hcd (UInt8.toNat_inj.1 (by omega))
          have HNX := Lib.hid (HST.out.2 hcd st rfl)
          clear HST hcd hpk
          go_wp2
          go_quiet ((go_at_call 99; refine (HSM.out _).mono ?_; rintro e w' ⟨rfl, rfl⟩; exact ⟨rfl, _, rfl⟩))
          go_wp2
          exact HNO.out (q + nq) _ HNX.out (by rw [HW.out]; exact drewN_add w q nq)
      · have hkl : ¬ (k : Int) < (what.length : Int) := by omega
        have hke : k = what.length := by omega
        have HT := Lib.hid (show (takeR what st).1 = true from by
          have h1 := HL.out
          rw [hke, List.take_length] at h1
          unfold takeR
          rw [if_pos h1])
        clear HL hke
        go_wp2
        exact HYES.out q _ HT.out (by rw [HW.out, Int.natCast_add])
end Go.Proofs.YtnkepdeegpampaaGreatDoor

/-
  A reader's methods that take a function: run, piece. Conditions: the reader lies in memory; the function answers as is said of it.
-/
namespace Go.Proofs.YtnkepdeegpampaaGreatDoor
open Go.RowKit Go.Shelf

/-- a function may be called through a value -/
def Ent (k : Nat) : Prop := ∀ args w, (callFunc k args).run Tryz.prog w = .ok (.enter k args) w
theorem ent_digit : Ent 118 := enters_of Tryz.func118 (by kernel_rfl) rfl
theorem ent_hex : Ent 128 := enters_of Tryz.func128 (by kernel_rfl) rfl
theorem ent_label : Ent 116 := enters_of Tryz.func116 (by kernel_rfl) rfl
theorem ent_atom : Ent 115 := enters_of Tryz.func115 (by kernel_rfl) rfl
theorem str_cut (s : List UInt8) (i j : Nat) (h : i ≤ j) (hj : j ≤ s.length) (W : World) : (Instr.slice 9 (.string (bs s)) (some (.int .i64 (i : Int))) (some (.int .i64 (j : Int))) none).run Tryz.prog W = .ok (.string (bs ((s.drop i).take (j - i)))) W := by
  rw [run_slice_string W 9 (bs s) .i64 .i64 (i : Int) (j : Int) Tryz.underlying9 (by omega) (by omega) (by rw [bs_size]; omega)]
  congr 2
  simp only [Int.toNat_natCast]
  have : ((bs s).extract i j).data = (bs ((s.drop i).take (j - i))).data := by
    rw [ByteArray.data_extract]
    apply Array.toList_inj.1
    simp [bs, List.extract_eq_take_drop]
  cases h1 : (bs s).extract i j
  rw [h1] at this
  cases h2 : bs ((s.drop i).take (j - i))
  rw [h2] at this
  simp only at this
  rw [this]
def RunOut (w : World) (r : Nat) (s : List UInt8) (q : UInt8 → Bool) (st : Rs) (e : Ending) (w' : World) : Prop := e = .returned (.string (bs (runL q st))) ∧ RdAt w' r s (runR q st) ∧ Kp r w w'
theorem tw_split (q : UInt8 → Bool) (l : List UInt8) : l.takeWhile q = l.take (l.takeWhile q).length ∧ l.dropWhile q = l.drop (l.takeWhile q).length := by
  have h := List.takeWhile_append_dropWhile (p := q) (l := l)
  constructor
  · conv => rhs; arg 2; rw [← h]
    rw [List.take_left]
  · conv => rhs; arg 2; rw [← h]
    rw [List.drop_left]
theorem tw_len (q : UInt8 → Bool) (l : List UInt8) (n : Nat) (hn : n ≤ l.length) (h1 : ∀ j (h : j < l.length), j < n → q l[j] = true) (h2 : ∀ h : n < l.length, q l[n] = false) : (l.takeWhile q).length = n := by
  induction l generalizing n with
  | nil => simp at hn ⊢; omega
  | cons c l ih =>
    rw [List.takeWhile_cons]
    cases n with
    | zero =>
      have := h2 (by simp)
      simp only [List.getElem_cons_zero] at this
      rw [this]
      rfl
    | succ n =>
      have h0 := h1 0 (by simp) (by omega)
      simp only [List.getElem_cons_zero] at h0
      rw [h0]
      simp only [if_true, List.length_cons, Nat.add_right_cancel_iff]
      exact ih n (by simpa using hn) (fun j hj hjn => by have := h1 (j + 1) (by simpa using hj) (by omega); simpa using this) (fun hh => by have := h2 (by simpa using hh); simpa using this)
/-- the place of a reader, off the world -/
def placeW (w : World) (r : Nat) : Nat := match w.cell? ⟨r, 1, none⟩ with | some (.int .i64 z) => z.toNat | _ => 0
theorem RdIn.placeW {w : World} {r : Nat} {s : List UInt8} {p : Nat} {v : Value} {st : Rs} (h : RdIn w r s p v st) : placeW w r = p := by
  unfold Go.Proofs.YtnkepdeegpampaaGreatDoor.placeW
  rw [h.cells.cell 1]
  simp [rdCells]
set_option maxRecDepth 100000 in
set_option maxHeartbeats 2000000 in
theorem run_any {w : World} {r : Nat} {s : List UInt8} {st : Rs} (h : RdAt w r s st) {k : Nat} {q : UInt8 → Bool} (hk : IsB k q) (ek : Ent k) : Calls Tryz.prog 114 #[.pointer (some ⟨r, 0, none⟩), .func (.func k) #[] #[]] w (RunOut w r s q st) := by
  obtain ⟨p, v, h⟩ := h
  have ek' : ∀ args w, (callFunc k args).run Tryz.prog w = .ok (.enter k args) w := ek
  clear ek
  have hp := h.place
  have hl := h.len
  have HOUT : Hid (∀ i w' b, p + i ≤ s.length → (∀ j (hj : j < st.rest.length), j < i → q st.rest[j] = true) → (∀ hi : i < st.rest.length, q st.rest[i] = false) → RdIn w' r s (p + i) v { st with rest := st.rest.drop i } → Kp r w w' → b = (s.drop p).take i → RunOut w r s q st (.returned (.string (bs b))) w') := fun i w' b hi hq hn hr hkp hb => by
    have hlen : st.rest.length = s.length - p := by rw [← h.rest, List.length_drop]
    have ht := tw_len q st.rest i (by omega) hq hn
    obtain ⟨e1, e2⟩ := tw_split q st.rest
    rw [ht] at e1 e2
    subst hb
    rw [h.rest, ← e1]
    refine ⟨rfl, ⟨p + i, v, ?_⟩, hkp⟩
    unfold runR
    rw [e2]
    exact hr
  generalize RunOut w r s q st = Q at *
  have hsz : (bs s).size = s.length := rfl
  have c1 := h.cells.cell 1
  simp only [rdCells] at c1
  simp at c1
  have HD : Hid (s.drop p = st.rest) := h.rest
  have HRD : Hid (RdIn w r s (p + 0) v { st with rest := st.rest.drop 0 }) := by rw [Nat.add_zero, List.drop_zero]; exact h
  clear h
  go_enter Tryz.func114, Tryz.ntmps114
  go_wp2
  clear c1
  go_loopw [] (fun wr => ∃ i, p + i ≤ s.length ∧ Hid (∀ j (hj : j < st.rest.length), j < i → q st.rest[j] = true) ∧ Hid (RdIn wr r s (p + i) v { st with rest := st.rest.drop i }) ∧ Hid (Kp r w wr)) (fun wr => s.length - placeW wr r)
  case atStart => exact ⟨0, by omega, fun j _ h => absurd h (by omega), HRD.out, Kp.refl r w⟩
  case round =>
    obtain ⟨i, hi, HQ, HR, HK⟩ := hrel
    have c0 := HR.out.cells.cell 0
    have c1 := HR.out.cells.cell 1
    have f1 := HR.out.cells.frozen 1
    simp only [rdCells] at c0 c1
    simp at c0 c1
    have HPL := Lib.hid HR.out.placeW
    have hlen : st.rest.length = s.length - p := by rw [← HD.out, List.length_drop]
    by_cases hlt : p + i < s.length
    · have hil : i < st.rest.length := by omega
      have hel : st.rest[i] = s[p + i] := by
        have h1 : st.rest[i]? = some s[p + i] := by rw [← HD.out, List.getElem?_drop, List.getElem?_eq_getElem hlt]
        exact (List.getElem?_eq_some_iff.1 h1).2
      have HSTEP : Hid (∀ q', ((wr.drewN q').setCell ⟨r, 1, none⟩ (.int .i64 (((p : Int) + (i : Int)) + 1))) = ((wr.drewN q').setCell ⟨r, 1, none⟩ (.int .i64 ((p + i + 1 : Nat) : Int)))) := fun q' => by congr 2
      have HPUT : Hid (∀ q', RdIn ((wr.drewN q').setCell ⟨r, 1, none⟩ (.int .i64 ((p + i + 1 : Nat) : Int))) r s (p + (i + 1)) v { st with rest := st.rest.drop (i + 1) }) := fun q' =>
        (HR.out.drewN q').put 1 _ rfl rfl (by omega) (by simp only; rw [← HD.out, List.drop_drop])
      have HKP : Hid (∀ q' u, Kp r w ((wr.drewN q').setCell ⟨r, 1, none⟩ u)) := fun q' u => (HK.out.drewN q').set_ (HR.out.drewN q').cells 1 u
      have hs1 : ∀ W, (Instr.index 9 (.string (bs s)) (.int .i64 ((p : Int) + (i : Int)))).run Tryz.prog W = .ok (.int .u8 (s[p + i].toNat : Int)) W := fun W => str_at s (p + i) hlt W
      have hps : (p : Int) + (i : Int) < (s.length : Int) := by omega
      have hp0 : (0 : Int) ≤ (p : Int) + (i : Int) := by omega
      have hpm : (p : Int) + (i : Int) + 1 ≤ 9223372036854775807 := by omega
      have hcut : ∀ W, (Instr.slice 9 (.string (bs s)) (some (.int .i64 (p : Int))) (some (.int .i64 ((p : Int) + (i : Int)))) none).run Tryz.prog W = .ok (.string (bs ((s.drop p).take (p + i - p)))) W := fun W => str_cut s p (p + i) (by omega) (by omega) W
      have HQ2 : Hid (q s[p + i] = true → ∀ j (hj : j < st.rest.length), j < i + 1 → q st.rest[j] = true) := fun hq j hj hji => by
        by_cases h : j < i
        · exact HQ.out j hj h
        · have : j = i := by omega
          subst this
          rw [hel]
          exact hq
      have HQ3 : Hid (q s[p + i] = false → ∀ hi : i < st.rest.length, q st.rest[i] = false) := fun hq _ => by rw [hel]; exact hq
      have hHK := Lib.hid (fun c W => hk c W)
      clear hel hil hlen
      generalize s[p + i] = c at *
      have HLT := Lib.hid hlt
      have HIX := Lib.hid hi
      clear hlt hi
      cases hqc : q c with
      | true =>
        have HFN := Lib.hid (fun W => hHK.out c W)
        rw [hqc] at HFN
        have HQ4 := Lib.hid (HQ2.out hqc)
        clear HQ2 HQ3 hqc hcut
        go_wp2
        go_quiet ((go_at_fn k; refine (HFN.out _).mono ?_; rintro e w' ⟨rfl, rfl⟩; exact ⟨rfl, _, rfl⟩))
        go_wp2
        have hst := HSTEP.out nq
        rw [hst]
        refine ⟨⟨i + 1, Nat.succ_le_of_lt HLT.out, HQ4.out, HPUT.out nq, HKP.out nq _⟩, ?_⟩
        have h1 := (HPUT.out nq).placeW
        have h2 := HLT.out
        have h3 := HPL.out
        rw [h1, h3]
        omega
      | false =>
        have HFN := Lib.hid (fun W => hHK.out c W)
        rw [hqc] at HFN
        have HQ4 := Lib.hid (HQ3.out hqc)
        clear HQ2 HQ3 hqc
        go_wp2
        go_quiet ((go_at_fn k; refine (HFN.out _).mono ?_; rintro e w' ⟨rfl, rfl⟩; exact ⟨rfl, _, rfl⟩))
        go_wp2
        have HR2 := Lib.hid (HR.out.drewN nq)
        have HK2 := Lib.hid (HK.out.drewN nq)
        clear HR HK HPUT HKP HSTEP HPL c0 c1 f1 HRD
        generalize wr.drewN nq = W2 at *
        have c0 := HR2.out.cells.cell 0
        have c1 := HR2.out.cells.cell 1
        simp only [rdCells] at c0 c1
        simp at c0 c1
        clear hs1 hps
        go_quiet (fail)
        go_wp2
        exact HOUT.out i _ _ HIX.out HQ.out HQ4.out (HR2.out.drewN nq) (HK2.out.drewN nq) rfl
    · have hie : p + i = s.length := by omega
      have hps : ¬ (p : Int) + (i : Int) < (s.length : Int) := by omega
      have hpd : decide ((p : Int) + (i : Int) < (s.length : Int)) = false := decide_eq_false hps
      have hcut : ∀ W, (Instr.slice 9 (.string (bs s)) (some (.int .i64 (p : Int))) (some (.int .i64 ((p : Int) + (i : Int)))) none).run Tryz.prog W = .ok (.string (bs ((s.drop p).take (p + i - p)))) W := fun W => str_cut s p (p + i) (by omega) (by omega) W
      have HIE := Lib.hid hie
      have HIX := Lib.hid hi
      have HLN := Lib.hid hlen
      clear hlt hie hi hlen
      go_wp2
      go_quiet (fail)
      go_wp2
      have HR2 := Lib.hid (HR.out.drewN nq)
      have HK2 := Lib.hid (HK.out.drewN nq)
      clear HR HK HPL c0 c1 f1 HRD
      generalize wr.drewN nq = W2 at *
      have c0 := HR2.out.cells.cell 0
      have c1 := HR2.out.cells.cell 1
      simp only [rdCells] at c0 c1
      simp at c0 c1
      clear hps
      go_quiet (fail)
      go_wp2
      exact HOUT.out i _ _ HIX.out HQ.out (fun hh => absurd hh (by have h1 := HLN.out; have h2 := HIE.out; omega)) (HR2.out.drewN nq) (HK2.out.drewN nq) rfl
end Go.Proofs.YtnkepdeegpampaaGreatDoor

/-
  A reader's methods that take a method: piece, each. Conditions: the reader lies in memory; the method reads as is said of it.
-/
namespace Go.Proofs.YtnkepdeegpampaaGreatDoor
open Go.RowKit Go.Shelf

/-- a method reads a part, of texts of at most m bytes, where I holds -/
def Reads (I : List UInt8 → Rs → Prop) (m k : Nat) (g : Rd) : Prop := ∀ (s : List UInt8) (r : Nat) (w : World) (st : Rs), s.length ≤ m → I s st → RdAt w r s st → Calls Tryz.prog k #[.pointer (some ⟨r, 0, none⟩)] w (ReadOut w r s g st)
def meth (k r : Nat) : Value := .func (.func k) #[.pointer (some ⟨r, 0, none⟩)] #[]
theorem RdIn.count {w : World} {r : Nat} {s : List UInt8} {p : Nat} {v : Value} {st : Rs} (h : RdIn w r s p v st) : p + st.rest.length = s.length := by
  have h1 := h.place
  rw [← h.rest, List.length_drop]
  omega
def PieceOut (w : World) (r : Nat) (s : List UInt8) (g : Rd) (st : Rs) (e : Ending) (w' : World) : Prop := e = .returned (.tuple #[.string (bs (used st (g st).2)), .bool (g st).1]) ∧ RdAt w' r s (g st).2 ∧ Kp r w w'
set_option maxRecDepth 100000 in
set_option maxHeartbeats 2000000 in
theorem piece_any {I : List UInt8 → Rs → Prop} {m k : Nat} {g : Rd} (hk : Reads I m k g) (ek : Ent k) (hsuf : Suf g) {w : World} {r : Nat} {s : List UInt8} {st : Rs} (h : RdAt w r s st) (hm : s.length ≤ m) (hI : I s st) : Calls Tryz.prog 85 #[.pointer (some ⟨r, 0, none⟩), meth k r] w (PieceOut w r s g st) := by
  have HC := Lib.hid (hk s r w st hm hI h)
  have ek' : ∀ args w, (callFunc k args).run Tryz.prog w = .ok (.enter k args) w := ek
  obtain ⟨p, v, h⟩ := h
  have HOUT : Hid (∀ w' b p1 v1 q, RdIn w' r s p1 v1 (g st).2 → Kp r w w' → b = (s.drop p).take (p1 - p) → PieceOut w r s g st (.returned (.tuple #[.string (bs b), .bool (g st).1])) (w'.drewN q)) := fun w' b p1 v1 q hr hkp hb => by
    have h1 := h.count
    have h2 := hr.count
    have h3 := (hsuf st).length_le
    subst hb
    refine ⟨?_, ⟨p1, v1, hr.drewN q⟩, hkp.drewN q⟩
    unfold used
    rw [← h.rest, show (s.drop p).length - (g st).2.rest.length = p1 - p from by rw [h.rest]; omega]
  have HLE : Hid (∀ w' p1 v1, RdIn w' r s p1 v1 (g st).2 → p ≤ p1 ∧ p1 ≤ s.length ∧ s.length ≤ 9223372036854775807) := fun w' p1 v1 hr => by
    have h1 := h.count
    have h2 := hr.count
    have h3 := (hsuf st).length_le
    exact ⟨by omega, hr.place, hr.len⟩
  have hsz : (bs s).size = s.length := rfl
  have c1 := h.cells.cell 1
  simp only [rdCells] at c1
  simp at c1
  have HG : Hid ((g st).1 = (g st).1) := rfl
  generalize PieceOut w r s g st = Q at *
  clear h hm hI hk ek hsuf
  unfold meth
  go_enter Tryz.func85, Tryz.ntmps85
  go_upto_region 3 with (go_at_fn k; refine HC.out.mono ?_; rintro e w1 ⟨rfl, ⟨p1, v1, h1⟩, hkp⟩; have H1 := Lib.hid h1; have HKP := Lib.hid hkp; clear h1 hkp)
  have c0 := H1.out.cells.cell 0
  have c3 := H1.out.cells.cell 1
  simp only [rdCells] at c0 c3
  simp at c0 c3
  have hcut : ∀ W, (Instr.slice 9 (.string (bs s)) (some (.int .i64 (p : Int))) (some (.int .i64 (p1 : Int))) none).run Tryz.prog W = .ok (.string (bs ((s.drop p).take (p1 - p)))) W := fun W => str_cut s p p1 (HLE.out _ _ _ H1.out).1 (HLE.out _ _ _ H1.out).2.1 W
  clear HC HG c1
  go_quiet (fail)
  go_wp2
  exact HOUT.out w1 _ p1 v1 nq H1.out HKP.out rfl

def eachG (part : Rd) (sep : List UInt8) (many : Nat) (st : Rs) : Nat × Rs := eachF part sep (st.rest.length + 2) many st
theorem eachG_step {part : Rd} (hp : Suf part) (sep : List UInt8) (hs : sep ≠ []) (many : Nat) (st : Rs) : eachG part sep many st = if (sepR sep many st).1 = false then (many, { (sepR sep many st).2 with rest := st.rest })
    else if (part (sepR sep many st).2).1 = false then (many, { (part (sepR sep many st).2).2 with rest := st.rest })
    else eachG part sep (many + 1) (part (sepR sep many st).2).2 := by
  unfold eachG
  rw [eachF]
  have h1 := (hp (sepR sep many st).2).length_le
  have h2 := (suf_sep sep many st).length_le
  rw [eachF_fuel hp sep hs (st.rest.length + 1) ((part (sepR sep many st).2).2.rest.length + 2) (many + 1) _ (by simp; omega) (by simp)]
def EachOut (w : World) (r : Nat) (s : List UInt8) (g : Rd) (sep : List UInt8) (st : Rs) (e : Ending) (w' : World) : Prop := e = .returned (.int .i64 (((eachR g sep st).1 : Nat) : Int)) ∧ RdAt w' r s (eachR g sep st).2 ∧ Kp r w w'
set_option maxRecDepth 100000 in
set_option maxHeartbeats 2000000 in
theorem each_any {I : List UInt8 → Rs → Prop} {m k : Nat} {g : Rd} (hk : Reads I m k g) (ek : Ent k) (hsuf : Suf g) {sep : List UInt8} (hsep : sep ≠ []) (hsl : sep.length ≤ 1000)
    (hI1 : ∀ s st, I s st → (takeR sep st).1 = true → I s (takeR sep st).2) (hI2 : ∀ s st, I s st → (g st).1 = true → I s (g st).2)
    {w : World} {r : Nat} {s : List UInt8} {st : Rs} (h : RdAt w r s st) (hm : s.length ≤ m) (hm2 : m ≤ 4611686018427387904) (hI : I s st) : Calls Tryz.prog 101 #[.pointer (some ⟨r, 0, none⟩), meth k r, .string (bs sep)] w (EachOut w r s g sep st) := by
  have ek' : ∀ args w, (callFunc k args).run Tryz.prog w = .ok (.enter k args) w := ek
  have HEND : Hid (∀ many st1 st2 wr w2 p1 v1, eachG g sep many st1 = eachR g sep st → eachG g sep many st1 = (many, { st2 with rest := st1.rest }) → RdIn wr r s p1 v1 st1 → Kp r w wr → RdAt w2 r s st2 → Kp r wr w2 →
      EachOut w r s g sep st (.returned (.int .i64 ((many : Nat) : Int))) (w2.setCell ⟨r, 1, none⟩ (.int .i64 (p1 : Int)))) := fun many st1 st2 wr w2 p1 v1 e1 e2 h1 k1 h2 k2 => by
    obtain ⟨p2, v2, h2⟩ := h2
    unfold EachOut
    rw [← e1, e2]
    exact ⟨rfl, ⟨p1, v2, h2.put 1 _ rfl rfl h1.place h1.rest⟩, (k1.trans k2).set_ h2.cells 1 _⟩
  have HST : Hid (eachG g sep 0 st = eachR g sep st) := rfl
  have HSTEP := Lib.hid (eachG_step (part := g) hsuf sep hsep)
  have HK := Lib.hid hk
  have HTK := Lib.hid (fun (w1 : World) (st1 : Rs) (h1 : RdAt w1 r s st1) => take_any h1 sep hsl)
  have HI1 := Lib.hid hI1
  have HI2 := Lib.hid hI2
  have HSL := Lib.hid (fun (st1 : Rs) (ht : (takeR sep st1).1 = true) => (show (takeR sep st1).2.rest.length + 1 ≤ st1.rest.length from by
    obtain ⟨_, e2, e3⟩ := takeR_yes sep st1 ht
    have := List.length_pos_iff.2 hsep
    rw [e2]
    simp
    omega))
  have HSG := Lib.hid (fun st1 => (hsuf st1).length_le)
  have HM := Lib.hid hm
  have HAT := Lib.hid h
  have HI0 := Lib.hid hI
  have hbig : s.length ≤ 4611686018427387904 := by omega
  generalize EachOut w r s g sep st = Q at *
  clear hk ek hsuf hsep hsl hI1 hI2 hm hm2 hI h
  unfold meth
  go_enter Tryz.func101, Tryz.ntmps101
  go_wp2
  go_loopw [7] (fun i wr => ∃ (many : Nat) (st1 : Rs), i = .int .i64 many ∧ (many ≠ 0 → many + st1.rest.length ≤ s.length + 1) ∧ Hid (RdAt wr r s st1) ∧ Hid (Kp r w wr) ∧ Hid (I s st1) ∧ Hid (eachG g sep many st1 = eachR g sep st)) (fun i wr => (s.length - placeW wr r) + (if (intOf i).toNat = 0 then 1 else 0))
  case atStart => exact ⟨0, st, rfl, fun h => absurd rfl h, HAT.out, Kp.refl r w, HI0.out, HST.out⟩
  case round =>
    obtain ⟨many, st1, rfl, hmn, HR, HKP, HI, HE⟩ := hrel
    obtain ⟨p1, v1, hr⟩ := HR.out
    have HR1 := Lib.hid hr
    have HCN := Lib.hid hr.count
    have HPL := Lib.hid hr.placeW
    have c1 := hr.cells.cell 1
    simp only [rdCells] at c1
    simp at c1
    clear hr
    by_cases h0 : many = 0
    · subst h0
      have hS : sepR sep 0 st1 = (true, st1) := rfl
      have hstep := HSTEP.out 0 st1
      rw [hS] at hstep
      simp only [Bool.true_eq_false, if_false] at hstep
      cases hg : (g st1).1 with
      | false =>
        rw [hg] at hstep
        simp only [if_true] at hstep
        have HC := Lib.hid (HK.out s r wr st1 HM.out HI.out HR.out)
        have HE2 := Lib.hid hstep
        have HG := Lib.hid hg
        clear hstep hS hmn hg
        go_upto_region 5 with (go_at_fn k; refine HC.out.mono ?_; rintro e w1 ⟨rfl, h1, hkp⟩; rw [HG.out]; have H1 := Lib.hid h1; have HKQ := Lib.hid hkp; clear h1 hkp)
        have f1 := H1.out.choose_spec.choose_spec.cells.frozen 1
        have c3 := H1.out.choose_spec.choose_spec.cells.cell 1
        simp only [rdCells] at c3
        simp at c3
        clear c1
        go_wp2
        exact HEND.out 0 st1 _ wr w1 p1 v1 HE.out HE2.out HR1.out HKP.out H1.out HKQ.out
      | true =>
        rw [hg] at hstep
        simp only [Bool.true_eq_false, if_false, Nat.zero_add] at hstep
        have HC := Lib.hid (HK.out s r wr st1 HM.out HI.out HR.out)
        have HE2 := Lib.hid (hstep.symm.trans HE.out)
        have HIN := Lib.hid (HI2.out s st1 HI.out hg)
        have HG := Lib.hid hg
        clear hstep hS hmn hg
        go_wp2_with (go_at_fn k; refine HC.out.mono ?_; rintro e w1 ⟨rfl, h1, hkp⟩; rw [HG.out]; have H1 := Lib.hid h1; have HKQ := Lib.hid hkp; clear h1 hkp)
        have h2 := HCN.out
        have h3 := HSG.out st1
        have h5 := HPL.out
        obtain ⟨p2, v2, hr2⟩ := H1.out
        have h4 := hr2.count
        have h6 := hr2.placeW
        clear hr2
        go_roundw
        case rel => exact ⟨1, (g st1).2, by go_num, fun _ => by omega, H1.out, HKP.out.trans HKQ.out, HIN.out, HE2.out⟩
        case measure => simp [intOf, h5, h6]; omega
    · have hstep := HSTEP.out many st1
      have hS : sepR sep many st1 = takeR sep st1 := by unfold sepR; rw [if_neg h0]
      rw [hS] at hstep
      have hm0 : 0 < many := by omega
      have hmb : (many : Int) + 1 ≤ 9223372036854775807 := by have := hmn h0; omega
      have HMN := Lib.hid (hmn h0)
      have HT := Lib.hid (HTK.out wr st1 HR.out)
      cases ht : (takeR sep st1).1 with
      | false =>
        rw [ht] at hstep
        simp only [if_true] at hstep
        have HE2 := Lib.hid hstep
        have HG := Lib.hid ht
        clear hstep hS hmn ht
        go_upto_region 5 with (go_at_call 107; refine HT.out.mono ?_; rintro e w1 ⟨rfl, h1, hkp⟩; rw [HG.out]; have H1 := Lib.hid h1; have HKQ := Lib.hid hkp; clear h1 hkp)
        have f1 := H1.out.choose_spec.choose_spec.cells.frozen 1
        have c3 := H1.out.choose_spec.choose_spec.cells.cell 1
        simp only [rdCells] at c3
        simp at c3
        clear c1
        go_wp2
        exact HEND.out many st1 _ wr w1 p1 v1 HE.out HE2.out HR1.out HKP.out H1.out HKQ.out
      | true =>
        rw [ht] at hstep
        simp only [Bool.true_eq_false, if_false] at hstep
        have HIT := Lib.hid (HI1.out s st1 HI.out ht)
        have HLT := Lib.hid (HSL.out st1 ht)
        have HC := Lib.hid (fun w1 h1 => HK.out s r w1 (takeR sep st1).2 HM.out HIT.out h1)
        have HG := Lib.hid ht
        cases hg : (g (takeR sep st1).2).1 with
        | false =>
          rw [hg] at hstep
          simp only [if_true] at hstep
          have HE2 := Lib.hid hstep
          have HG2 := Lib.hid hg
          clear hstep hS hmn ht hg
          go_upto_region 5 with (first | (go_at_call 107; refine HT.out.mono ?_; rintro e w1 ⟨rfl, h1, hkp⟩; rw [HG.out]; have H1 := Lib.hid h1; have HKQ := Lib.hid hkp; clear h1 hkp) | (go_at_fn k; refine (HC.out _ H1.out).mono ?_; rintro e w2 ⟨rfl, h1, hkp⟩; rw [HG2.out]; have H2 := Lib.hid h1; have HKR := Lib.hid hkp; clear h1 hkp))
          have f1 := H2.out.choose_spec.choose_spec.cells.frozen 1
          have c3 := H2.out.choose_spec.choose_spec.cells.cell 1
          simp only [rdCells] at c3
          simp at c3
          clear c1
          go_wp2
          exact HEND.out many st1 _ wr w2 p1 v1 HE.out HE2.out HR1.out HKP.out H2.out (HKQ.out.trans HKR.out)
        | true =>
          rw [hg] at hstep
          simp only [Bool.true_eq_false, if_false] at hstep
          have HE2 := Lib.hid (hstep.symm.trans HE.out)
          have HIN := Lib.hid (HI2.out s _ HIT.out hg)
          have HG2 := Lib.hid hg
          clear hstep hS hmn ht hg
          go_wp2_with (first | (go_at_call 107; refine HT.out.mono ?_; rintro e w1 ⟨rfl, h1, hkp⟩; rw [HG.out]; have H1 := Lib.hid h1; have HKQ := Lib.hid hkp; clear h1 hkp) | (go_at_fn k; refine (HC.out _ H1.out).mono ?_; rintro e w2 ⟨rfl, h1, hkp⟩; rw [HG2.out]; have H2 := Lib.hid h1; have HKR := Lib.hid hkp; clear h1 hkp))
          have h2 := HCN.out
          have h3 := HSG.out (takeR sep st1).2
          have h5 := HPL.out
          have h7 := HLT.out
          have h8 := HMN.out
          obtain ⟨p2, v2, hr2⟩ := H2.out
          have h4 := hr2.count
          have h6 := hr2.placeW
          clear hr2
          go_roundw
          case rel => exact ⟨many + 1, (g (takeR sep st1).2).2, by go_num, fun _ => by omega, H2.out, (HKP.out.trans HKQ.out).trans HKR.out, HIN.out, HE2.out⟩
          case measure => simp [intOf, h5, h6]; omega
end Go.Proofs.YtnkepdeegpampaaGreatDoor

/-
  Two steps through a region that draws its order, under a condition on the world that is held. No conditions.
-/
namespace Go.Proofs.YtnkepdeegpampaaGreatDoor
variable {P : Program} {ops : Array Oper} {Q : Exit → Act → World → Prop} {md : Region.Mode} {S : World → Prop}
theorem take_skip {i : Nat} {oi : Oper} {fuel : Nat} {listed : Array Bool} {a : Act} {w : World} (hi0 : ops.toList[i]? = some oi)
    (hs : Region.noSelect ops = true) (hf : Region.free md ops listed i = true) (hr : (Region.ready md ops listed).contains i = true)
    (hQ : ∀ c a w, Q (.panic c) (a.put oi.dst undef) w → Q (.panic c) a w) (hw : Region.wanted oi (yielded ops a.tmps) = false) (hS : S w)
    (h : wpAnyH P md ops Q S fuel (listed.setIfInBounds i true) (a.put oi.dst undef) w) : wpAnyH P md ops Q S (fuel + 1) listed a w :=
  wpAnyH_take (by rw [← hi0]; simp) hs hf hr hQ (.inr ⟨hw, rfl⟩) hS h
theorem take_val {i : Nat} {oi : Oper} {v : Value} {fuel : Nat} {listed : Array Bool} {a : Act} {w : World} (hi0 : ops.toList[i]? = some oi)
    (hs : Region.noSelect ops = true) (hf : Region.free md ops listed i = true) (hr : (Region.ready md ops listed).contains i = true)
    (hQ : ∀ c a w, Q (.panic c) (a.put oi.dst v) w → Q (.panic c) a w) (hw : Region.wanted oi (yielded ops a.tmps) = true) (hy : ∀ w, S w → (execOp a.eval oi).run P w = .ok (.value v) w) (hS : S w)
    (h : wpAnyH P md ops Q S fuel (listed.setIfInBounds i true) (a.put oi.dst v) w) : wpAnyH P md ops Q S (fuel + 1) listed a w :=
  wpAnyH_take (by rw [← hi0]; simp) hs hf hr hQ (.inl ⟨hw, hy⟩) hS h
theorem take_call {i : Nat} {oi : Oper} {fuel : Nat} {listed : Array Bool} {a : Act} {w : World} (hi0 : ops.toList[i]? = some oi) (hr : Region.ready md ops listed = [i])
    (hw : Region.wanted oi (yielded ops a.tmps) = true) (h : ∀ K' : Act → World → Prop, Shut (∀ a w, S w → (S w → wpAnyH P md ops Q S fuel (listed.setIfInBounds i true) a w) → K' a w) → Oper.wp P oi a w K' Q) : wpAnyH P md ops Q S (fuel + 1) listed a w :=
  wpAnyH_ready hr (by simp) (AllReadyH.cons (by rw [← hi0]; simp) (fun K' hK => by rw [if_pos hw]; exact h K' hK) AllReadyH.nil)
end Go.Proofs.YtnkepdeegpampaaGreatDoor

/-
  A reader's methods: whole, and those of domains. Conditions: the reader lies in memory.
-/
namespace Go.Proofs.YtnkepdeegpampaaGreatDoor
open Go.RowKit Go.Shelf

def wholeR (g : Rd) (st : Rs) : Bool := (g st).1 && ((g st).2.rest == [])
def WholeOut (w : World) (r : Nat) (s : List UInt8) (g : Rd) (st : Rs) (e : Ending) (w' : World) : Prop := e = .returned (.bool (wholeR g st)) ∧ RdAt w' r s (g st).2 ∧ Kp r w w'
theorem RdAt.drewN {w : World} {r : Nat} {s : List UInt8} {st : Rs} (h : RdAt w r s st) (n : Nat) : RdAt (w.drewN n) r s st := by
  obtain ⟨p, v, h⟩ := h
  exact ⟨p, v, h.drewN n⟩
theorem RdAt.drew {w : World} {r : Nat} {s : List UInt8} {st : Rs} (h : RdAt w r s st) : RdAt w.drew r s st := h.drewN 1
theorem Kp.from_drew {r : Nat} {a b : World} (h : Kp r a.drew b) : Kp r a b := ((Kp.refl r a).drewN 1).trans h
set_option maxRecDepth 100000 in
set_option maxHeartbeats 2000000 in
theorem whole_any {I : List UInt8 → Rs → Prop} {m k : Nat} {g : Rd} (hk : Reads I m k g) (ek : Ent k) {w : World} {r : Nat} {s : List UInt8} {st : Rs} (h : RdAt w r s st) (hm : s.length ≤ m) (hI : I s st) : Calls Tryz.prog 67 #[.pointer (some ⟨r, 0, none⟩), meth k r] w (WholeOut w r s g st) := by
  have ek' : ∀ args w, (callFunc k args).run Tryz.prog w = .ok (.enter k args) w := ek
  have HC := Lib.hid (hk s r w.drew st hm hI h.drew)
  have HOUT : Hid (∀ w' p1 v1 b, RdIn w' r s p1 v1 (g st).2 → Kp r w.drew w' → b = ((g st).1 && decide ((p1 : Int) = (s.length : Int))) → WholeOut w r s g st (.returned (.bool b)) w') := fun w' p1 v1 b hr hkp hb => by
    refine ⟨?_, ⟨p1, v1, hr⟩, hkp.from_drew⟩
    rw [hb]
    unfold wholeR
    have h1 := hr.count
    have h2 := hr.place
    have : decide ((p1 : Int) = (s.length : Int)) = ((g st).2.rest == []) := by
      cases hrest : (g st).2.rest with
      | nil => rw [hrest] at h1; simp at h1; simp [h1]
      | cons c l => rw [hrest] at h1; simp at h1; simp; omega
    rw [this]
  have hsz : (bs s).size = s.length := rfl
  generalize WholeOut w r s g st = Q at *
  clear h hm hI hk ek
  unfold meth
  go_enter Tryz.func67, Tryz.ntmps67
  cases hg : (g st).1 with
  | false =>
    have HG := Lib.hid hg
    clear hg
    go_upto_region 1 with (fail)
    refine wp_region_any (by kernel_rfl) ?_
    change wpAny _ _ _ _ _ _ _ (World.drew _)
    refine wpAny_take (i := 0) rfl (by kernel_rfl) (by kernel_rfl) (by kernel_rfl) (fun _ _ _ h => h) (Or.inl ⟨by rfl, fun w => by go_simp; try with_reducible rfl⟩) ?_; try simp only [Act.put, List.setIfInBounds_toArray]
    refine wpAny_ready (rs := [1]) (by kernel_rfl) (by simp) ?_
    refine AllReady.cons rfl (fun K hK => ?_) AllReady.nil
    go_simp
    refine HC.out.mono ?_
    rintro e w1 ⟨rfl, ⟨p1, v1, h1⟩, hkp⟩
    rw [HG.out]
    have H1 := Lib.hid h1
    have HKP := Lib.hid hkp
    clear h1 hkp
    refine hK _ _ ?_
    clear hK K
    try simp only [Act.put, List.setIfInBounds_toArray, List.set_cons_zero, List.set_cons_succ]
    have c0 := H1.out.cells.cell 0
    have c1 := H1.out.cells.cell 1
    simp only [rdCells] at c0 c1
    simp at c0 c1
    refine wpAny_of_held (S := fun W => W.cell? ⟨r, 0, none⟩ = some (.string (bs s)) ∧ W.cell? ⟨r, 1, none⟩ = some (.int .i64 (p1 : Int))) _ _ _ _ ?_
    have hS := And.intro c0 c1
    refine take_val (i := 2) rfl (by kernel_rfl) (by kernel_rfl) (by kernel_rfl) (fun _ _ _ h => h) rfl (fun w hSw => by (try dsimp only at hSw); go_simp; try with_reducible rfl) hS ?_; try simp only [Act.put, List.setIfInBounds_toArray, List.set_cons_zero, List.set_cons_succ]
    refine take_skip (i := 3) rfl (by kernel_rfl) (by kernel_rfl) (by kernel_rfl) (fun _ _ _ h => h) rfl hS ?_; try simp only [Act.put, List.setIfInBounds_toArray, List.set_cons_zero, List.set_cons_succ]
    refine take_skip (i := 4) rfl (by kernel_rfl) (by kernel_rfl) (by kernel_rfl) (fun _ _ _ h => h) rfl hS ?_; try simp only [Act.put, List.setIfInBounds_toArray, List.set_cons_zero, List.set_cons_succ]
    refine take_skip (i := 5) rfl (by kernel_rfl) (by kernel_rfl) (by kernel_rfl) (fun _ _ _ h => h) rfl hS ?_; try simp only [Act.put, List.setIfInBounds_toArray, List.set_cons_zero, List.set_cons_succ]
    refine take_skip (i := 6) rfl (by kernel_rfl) (by kernel_rfl) (by kernel_rfl) (fun _ _ _ h => h) rfl hS ?_; try simp only [Act.put, List.setIfInBounds_toArray, List.set_cons_zero, List.set_cons_succ]
    refine take_skip (i := 7) rfl (by kernel_rfl) (by kernel_rfl) (by kernel_rfl) (fun _ _ _ h => h) rfl hS ?_; try simp only [Act.put, List.setIfInBounds_toArray, List.set_cons_zero, List.set_cons_succ]
    refine take_skip (i := 8) rfl (by kernel_rfl) (by kernel_rfl) (by kernel_rfl) (fun _ _ _ h => h) rfl hS ?_; try simp only [Act.put, List.setIfInBounds_toArray, List.set_cons_zero, List.set_cons_succ]
    refine take_skip (i := 9) rfl (by kernel_rfl) (by kernel_rfl) (by kernel_rfl) (fun _ _ _ h => h) rfl hS ?_; try simp only [Act.put, List.setIfInBounds_toArray, List.set_cons_zero, List.set_cons_succ]
    refine take_skip (i := 10) rfl (by kernel_rfl) (by kernel_rfl) (by kernel_rfl) (fun _ _ _ h => h) rfl hS ?_; try simp only [Act.put, List.setIfInBounds_toArray, List.set_cons_zero, List.set_cons_succ]
    refine take_skip (i := 11) rfl (by kernel_rfl) (by kernel_rfl) (by kernel_rfl) (fun _ _ _ h => h) rfl hS ?_; try simp only [Act.put, List.setIfInBounds_toArray, List.set_cons_zero, List.set_cons_succ]
    refine take_skip (i := 12) rfl (by kernel_rfl) (by kernel_rfl) (by kernel_rfl) (fun _ _ _ h => h) rfl hS ?_; try simp only [Act.put, List.setIfInBounds_toArray, List.set_cons_zero, List.set_cons_succ]
    refine take_val (i := 13) rfl (by kernel_rfl) (by kernel_rfl) (by kernel_rfl) (fun _ _ _ h => h) rfl (fun w hSw => by (try dsimp only at hSw); go_simp; try with_reducible rfl) hS ?_; try simp only [Act.put, List.setIfInBounds_toArray, List.set_cons_zero, List.set_cons_succ]
    refine take_val (i := 14) rfl (by kernel_rfl) (by kernel_rfl) (by kernel_rfl) (fun _ _ _ h => h) rfl (fun w hSw => by (try dsimp only at hSw); go_simp; try with_reducible rfl) hS ?_; try simp only [Act.put, List.setIfInBounds_toArray, List.set_cons_zero, List.set_cons_succ]
    refine wpAnyH_done (by kernel_rfl) ?_ _
    clear hS
    go_wp2
    exact HOUT.out w1 p1 v1 _ H1.out HKP.out (by rw [HG.out]; rfl)
  | true =>
    have HG := Lib.hid hg
    clear hg
    go_upto_region 1 with (fail)
    refine wp_region_any (by kernel_rfl) ?_
    change wpAny _ _ _ _ _ _ _ (World.drew _)
    refine wpAny_take (i := 0) rfl (by kernel_rfl) (by kernel_rfl) (by kernel_rfl) (fun _ _ _ h => h) (Or.inl ⟨by rfl, fun w => by go_simp; try with_reducible rfl⟩) ?_; try simp only [Act.put, List.setIfInBounds_toArray]
    refine wpAny_ready (rs := [1]) (by kernel_rfl) (by simp) ?_
    refine AllReady.cons rfl (fun K hK => ?_) AllReady.nil
    go_simp
    refine HC.out.mono ?_
    rintro e w1 ⟨rfl, ⟨p1, v1, h1⟩, hkp⟩
    rw [HG.out]
    have H1 := Lib.hid h1
    have HKP := Lib.hid hkp
    clear h1 hkp
    refine hK _ _ ?_
    clear hK K
    try simp only [Act.put, List.setIfInBounds_toArray, List.set_cons_zero, List.set_cons_succ]
    have c0 := H1.out.cells.cell 0
    have c1 := H1.out.cells.cell 1
    simp only [rdCells] at c0 c1
    simp at c0 c1
    refine wpAny_of_held (S := fun W => W.cell? ⟨r, 0, none⟩ = some (.string (bs s)) ∧ W.cell? ⟨r, 1, none⟩ = some (.int .i64 (p1 : Int))) _ _ _ _ ?_
    have hS := And.intro c0 c1
    refine take_val (i := 2) rfl (by kernel_rfl) (by kernel_rfl) (by kernel_rfl) (fun _ _ _ h => h) rfl (fun w hSw => by (try dsimp only at hSw); go_simp; try with_reducible rfl) hS ?_; try simp only [Act.put, List.setIfInBounds_toArray, List.set_cons_zero, List.set_cons_succ]
    refine take_val (i := 3) rfl (by kernel_rfl) (by kernel_rfl) (by kernel_rfl) (fun _ _ _ h => h) rfl (fun w hSw => by (try dsimp only at hSw); go_simp; try with_reducible rfl) hS ?_; try simp only [Act.put, List.setIfInBounds_toArray, List.set_cons_zero, List.set_cons_succ]
    refine take_val (i := 4) rfl (by kernel_rfl) (by kernel_rfl) (by kernel_rfl) (fun _ _ _ h => h) rfl (fun w hSw => by (try dsimp only at hSw); go_simp; try with_reducible rfl) hS ?_; try simp only [Act.put, List.setIfInBounds_toArray, List.set_cons_zero, List.set_cons_succ]
    refine take_val (i := 5) rfl (by kernel_rfl) (by kernel_rfl) (by kernel_rfl) (fun _ _ _ h => h) rfl (fun w hSw => by (try dsimp only at hSw); go_simp; try with_reducible rfl) hS ?_; try simp only [Act.put, List.setIfInBounds_toArray, List.set_cons_zero, List.set_cons_succ]
    refine take_val (i := 6) rfl (by kernel_rfl) (by kernel_rfl) (by kernel_rfl) (fun _ _ _ h => h) rfl (fun w hSw => by (try dsimp only at hSw); go_simp; try with_reducible rfl) hS ?_; try simp only [Act.put, List.setIfInBounds_toArray, List.set_cons_zero, List.set_cons_succ]
    refine take_val (i := 7) rfl (by kernel_rfl) (by kernel_rfl) (by kernel_rfl) (fun _ _ _ h => h) rfl (fun w hSw => by (try dsimp only at hSw); go_simp; try with_reducible rfl) hS ?_; try simp only [Act.put, List.setIfInBounds_toArray, List.set_cons_zero, List.set_cons_succ]
    refine take_val (i := 8) rfl (by kernel_rfl) (by kernel_rfl) (by kernel_rfl) (fun _ _ _ h => h) rfl (fun w hSw => by (try dsimp only at hSw); go_simp; try with_reducible rfl) hS ?_; try simp only [Act.put, List.setIfInBounds_toArray, List.set_cons_zero, List.set_cons_succ]
    refine take_val (i := 9) rfl (by kernel_rfl) (by kernel_rfl) (by kernel_rfl) (fun _ _ _ h => h) rfl (fun w hSw => by (try dsimp only at hSw); go_simp; try with_reducible rfl) hS ?_; try simp only [Act.put, List.setIfInBounds_toArray, List.set_cons_zero, List.set_cons_succ]
    refine take_val (i := 10) rfl (by kernel_rfl) (by kernel_rfl) (by kernel_rfl) (fun _ _ _ h => h) rfl (fun w hSw => by (try dsimp only at hSw); go_simp; try with_reducible rfl) hS ?_; try simp only [Act.put, List.setIfInBounds_toArray, List.set_cons_zero, List.set_cons_succ]
    refine take_val (i := 11) rfl (by kernel_rfl) (by kernel_rfl) (by kernel_rfl) (fun _ _ _ h => h) rfl (fun w hSw => by (try dsimp only at hSw); go_simp; try with_reducible rfl) hS ?_; try simp only [Act.put, List.setIfInBounds_toArray, List.set_cons_zero, List.set_cons_succ]
    refine take_val (i := 12) rfl (by kernel_rfl) (by kernel_rfl) (by kernel_rfl) (fun _ _ _ h => h) rfl (fun w hSw => by (try dsimp only at hSw); go_simp; try with_reducible rfl) hS ?_; try simp only [Act.put, List.setIfInBounds_toArray, List.set_cons_zero, List.set_cons_succ]
    refine take_val (i := 13) rfl (by kernel_rfl) (by kernel_rfl) (by kernel_rfl) (fun _ _ _ h => h) rfl (fun w hSw => by (try dsimp only at hSw); go_simp; try with_reducible rfl) hS ?_; try simp only [Act.put, List.setIfInBounds_toArray, List.set_cons_zero, List.set_cons_succ]
    refine take_val (i := 14) rfl (by kernel_rfl) (by kernel_rfl) (by kernel_rfl) (fun _ _ _ h => h) rfl (fun w hSw => by (try dsimp only at hSw); go_simp; try with_reducible rfl) hS ?_; try simp only [Act.put, List.setIfInBounds_toArray, List.set_cons_zero, List.set_cons_succ]
    refine wpAnyH_done (by kernel_rfl) ?_ _
    clear hS
    go_wp2
    exact HOUT.out w1 p1 v1 _ H1.out HKP.out (by rw [HG.out]; rfl)
end Go.Proofs.YtnkepdeegpampaaGreatDoor

/-
  A reader's methods: atoms, labels, domains, a literal's words. Conditions: the reader lies in memory.
-/
namespace Go.Proofs.YtnkepdeegpampaaGreatDoor
open Go.RowKit Go.Shelf

def anyI (_ : List UInt8) (_ : Rs) : Prop := True
theorem any1 {g : Rd} : ∀ s st, anyI s st → (g st).1 = true → anyI s (g st).2 := fun _ _ _ _ => trivial
theorem bs_toL (l : List UInt8) : (bs l).toList = l := by rw [Lib.toList_data]; rfl
theorem not_empty (l : List UInt8) : (!(bs l).toList.isEmpty) = (l != []) := by
  rw [bs_toL]
  cases l <;> rfl
theorem ent_m_atom : Ent 102 := enters_of Tryz.func102 (by kernel_rfl) rfl
theorem ent_m_atoms : Ent 78 := enters_of Tryz.func78 (by kernel_rfl) rfl
theorem ent_m_group : Ent 117 := enters_of Tryz.func117 (by kernel_rfl) rfl
theorem ent_m_number : Ent 109 := enters_of Tryz.func109 (by kernel_rfl) rfl
theorem ent_m_label : Ent 105 := enters_of Tryz.func105 (by kernel_rfl) rfl
theorem ent_m_labels : Ent 86 := enters_of Tryz.func86 (by kernel_rfl) rfl
theorem ent_m_domain : Ent 68 := enters_of Tryz.func68 (by kernel_rfl) rfl
theorem ent_m_address : Ent 108 := enters_of Tryz.func108 (by kernel_rfl) rfl
theorem ent_m_words : Ent 90 := enters_of Tryz.func90 (by kernel_rfl) rfl
theorem ent_m_hop : Ent 120 := enters_of Tryz.func120 (by kernel_rfl) rfl
theorem ent_m_quoted : Ent 121 := enters_of Tryz.func121 (by kernel_rfl) rfl
theorem ent_m_plain : Ent 122 := enters_of Tryz.func122 (by kernel_rfl) rfl
theorem ent_m_bracket : Ent 123 := enters_of Tryz.func123 (by kernel_rfl) rfl
theorem ent_m_named : Ent 124 := enters_of Tryz.func124 (by kernel_rfl) rfl
theorem ent_m_mailbox : Ent 111 := enters_of Tryz.func111 (by kernel_rfl) rfl
theorem ent_m_route : Ent 110 := enters_of Tryz.func110 (by kernel_rfl) rfl
theorem ent_m_full : Ent 95 := enters_of Tryz.func95 (by kernel_rfl) rfl
theorem ent_m_alone : Ent 94 := enters_of Tryz.func94 (by kernel_rfl) rfl
theorem ent_m_null : Ent 93 := enters_of Tryz.func93 (by kernel_rfl) rfl
set_option maxRecDepth 100000 in
set_option maxHeartbeats 1000000 in
theorem atom_any (m : Nat) : Reads anyI m 102 atomR := by
  intro s r w st _ _ h
  have HR := Lib.hid (run_any h isOfAtom_any ent_atom)
  have HOUT : Hid (∀ w', RdAt w' r s (runR atmB st) → Kp r w w' → ∀ b, b = (runL atmB st != []) → ReadOut w r s atomR st (.returned (.bool b)) w') := fun w' h1 h2 b hb => by subst hb; exact ⟨rfl, h1, h2⟩
  generalize ReadOut w r s atomR st = Q at *
  go_enter Tryz.func102, Tryz.ntmps102
  go_wp2_with (go_at_call 114; refine HR.out.mono ?_; rintro e w1 ⟨rfl, h1, hkp⟩; have H1 := Lib.hid h1; have HKP := Lib.hid hkp; clear h1 hkp)
  exact HOUT.out w1 H1.out HKP.out _ (not_empty _)
theorem group_val (l : List UInt8) : (!(bs l).toList.isEmpty && decide (((bs l).size : Int) ≤ 4)) = (l != [] && decide (l.length ≤ 4)) := by
  rw [not_empty, bs_size]
  congr 1
  by_cases h : l.length ≤ 4
  · rw [decide_eq_true h, decide_eq_true (by omega)]
  · rw [decide_eq_false h, decide_eq_false (by omega)]
set_option maxRecDepth 100000 in
set_option maxHeartbeats 1000000 in
theorem group_any (m : Nat) : Reads anyI m 117 groupR := by
  intro s r w st _ _ h
  have HR := Lib.hid (run_any h isHex_any ent_hex)
  have HOUT : Hid (∀ w', RdAt w' r s (runR hexB st) → Kp r w w' → ∀ b, b = (runL hexB st != [] && decide ((runL hexB st).length ≤ 4)) → ReadOut w r s groupR st (.returned (.bool b)) w') := fun w' h1 h2 b hb => by subst hb; exact ⟨rfl, h1, h2⟩
  generalize ReadOut w r s groupR st = Q at *
  go_enter Tryz.func117, Tryz.ntmps117
  go_wp2_with (go_at_call 114; refine HR.out.mono ?_; rintro e w1 ⟨rfl, h1, hkp⟩; have H1 := Lib.hid h1; have HKP := Lib.hid hkp; clear h1 hkp)
  all_goals refine HOUT.out w1 H1.out HKP.out _ ?_
  all_goals first | exact group_val _ | (rename_i he; rw [bs_toL] at he; rw [he]; rfl)
/-- of a label: its bytes' places -/
theorem labOk_form : ∀ l : List UInt8, match l with | [] => labOk ([] : List UInt8) = false | c :: t => ∃ n d, t.length = n ∧ (c :: t)[n]? = some d ∧ labOk (c :: t) = (decide (¬ (c.toNat : Int) = 45) && decide (¬ (d.toNat : Int) = 45))
  | [] => rfl
  | c :: t => by
    refine ⟨t.length, (c :: t).getLast (by simp), rfl, ?_, ?_⟩
    · rw [List.getLast_eq_getElem, ← List.getElem?_eq_getElem]
      rfl
    · have hz : ∀ x : UInt8, (some x != some 45) = decide (¬ (x.toNat : Int) = 45) := all_u8 (by decide +kernel)
      unfold labOk
      rw [List.getLast?_eq_some_getLast (by simp), List.head?_cons, hz, hz]
      rfl
theorem label_len {st : Rs} : (runL labB st).length ≤ st.rest.length := by
  unfold runL
  have := congrArg List.length (List.takeWhile_append_dropWhile (p := labB) (l := st.rest))
  rw [List.length_append] at this
  omega
set_option maxRecDepth 100000 in
set_option maxHeartbeats 1000000 in
theorem label_any (m : Nat) : Reads anyI m 105 labelR := by
  intro s r w st _ _ h
  have HR := Lib.hid (run_any h isOfLabel_any ent_label)
  have HOUT : Hid (∀ w1 w2 b, Kp r w w1 → LimOut w1 r s (decide ((63 : Int) < ((runL labB st).length : Int))) (runR labB st) (.returned (.tuple #[])) w2 → b = labOk (runL labB st) → ReadOut w r s labelR st (.returned (.bool b)) w2) := fun w1 w2 b h1 h2 hb => by
    obtain ⟨_, h3, h4⟩ := h2
    subst hb
    refine ⟨rfl, ?_, h1.trans h4⟩
    have : limitR (decide ((63 : Int) < ((runL labB st).length : Int))) (runR labB st) = (labelR st).2 := by
      unfold limitR labelR
      simp only [runR]
      congr 2
      simp
      omega
    rw [← this]
    exact h3
  generalize ReadOut w r s labelR st = Q at *
  go_enter Tryz.func105, Tryz.ntmps105
  go_upto_region 3 with (first | (go_at_call 114; refine HR.out.mono ?_; rintro e w1 ⟨rfl, h1, hkp⟩; have H1 := Lib.hid h1; have HKP := Lib.hid hkp; clear h1 hkp) | (go_at_call 87; refine (limit_any H1.out _ _).mono ?_; rintro e w2 hh; obtain ⟨rfl, -⟩ := id hh; have H2 := Lib.hid hh; clear hh))
  have hlb := labOk_form (runL labB st)
  have hsz : (bs (runL labB st)).size = (runL labB st).length := rfl
  rw [hsz] at H2
  have HO2 : Hid (∀ b, b = labOk (runL labB st) → Q (.returned (.bool b)) w2) := fun b hb => HOUT.out w1 w2 b HKP.out H2.out hb
  have hbig : (runL labB st).length ≤ 9223372036854775807 := by
    obtain ⟨p, v, hr⟩ := h
    have h1 := hr.count
    have h2 := hr.len
    have h3 := @label_len st
    omega
  clear HOUT H2 HR H1 HKP h
  generalize runL labB st = l at *
  cases l with
  | nil =>
    have hT := bs_toL []
    generalize bs [] = B at *
    go_wp2
    exact HO2.out _ hlb.symm
  | cons c t =>
    obtain ⟨n, d, hn, hd, hlo⟩ := hlb
    rw [hlo] at HO2
    have hT := bs_toL (c :: t)
    have hs1 : ∀ W, (Instr.index 9 (.string (bs (c :: t))) (.int .i64 0)).run Tryz.prog W = .ok (.int .u8 (c.toNat : Int)) W := fun W => str_at (c :: t) 0 (by simp) W
    have hs2 : ∀ W, (Instr.index 9 (.string (bs (c :: t))) (.int .i64 (n : Int))).run Tryz.prog W = .ok (.int .u8 (d.toNat : Int)) W := fun W => by
      obtain ⟨h1, h2⟩ := List.getElem?_eq_some_iff.1 hd
      rw [← h2]
      exact str_at (c :: t) n h1 W
    have hsn : ((bs (c :: t)).size : Int) = (n : Int) + 1 := by rw [hsz, List.length_cons, hn]; rfl
    have hnb : (n : Int) + 1 ≤ 9223372036854775807 := by rw [List.length_cons, hn] at hbig; omega
    clear hsz hd hn hlo hbig
    generalize bs (c :: t) = B at *
    by_cases hc : (c.toNat : Int) = 45
    · go_wp2
      exact HO2.out _ (by simp [hc])
    · by_cases hd : (d.toNat : Int) = 45
      · go_wp2
        exact HO2.out _ (by simp [hd])
      · go_wp2
        exact HO2.out _ (by simp [hc, hd])
def big : Nat := 4611686018427387904
theorem pos_val (n : Nat) : decide ((0 : Int) < (n : Int)) = decide (0 < n) := by
  by_cases h : 0 < n
  · rw [decide_eq_true h, decide_eq_true (by omega)]
  · rw [decide_eq_false h, decide_eq_false (by omega)]
set_option maxRecDepth 100000 in
set_option maxHeartbeats 1000000 in
theorem atoms_any (m : Nat) (hm : m ≤ 4611686018427387904) : Reads anyI m 78 atomsR := by
  intro s r w st hs _ h
  have HE1 := Lib.hid (each_any (sep := [46]) (atom_any m) ent_m_atom suf_atom (by decide) (by decide) any1 any1 h hs hm trivial)
  have HOUT : Hid (∀ w', RdAt w' r s (eachR atomR [46] st).2 → Kp r w w' → ∀ b, b = decide (0 < (eachR atomR [46] st).1) → ReadOut w r s atomsR st (.returned (.bool b)) w') := fun w' h1 h2 b hb => by subst hb; exact ⟨rfl, h1, h2⟩
  generalize ReadOut w r s atomsR st = Q at *
  have hmf : ∀ (fn : Fn) (first cap : Array Value) (w : World), (Instr.makeFunc fn first cap).run Tryz.prog w = .ok (.func fn first cap) w := fun _ _ _ _ => rfl
  go_enter Tryz.func78, Tryz.ntmps78
  go_wp2_with (go_at_call 101; refine HE1.out.mono ?_; rintro e w1 ⟨rfl, h1, hkp⟩; have H1 := Lib.hid h1; have HKP1 := Lib.hid hkp; clear h1 hkp)
  exact HOUT.out w1 H1.out HKP1.out _ (by first | rfl | exact pos_val _)
set_option maxRecDepth 100000 in
set_option maxHeartbeats 1000000 in
theorem labels_any (m : Nat) (hm : m ≤ 4611686018427387904) : Reads anyI m 86 labelsR := by
  intro s r w st hs _ h
  have HE1 := Lib.hid (each_any (sep := [46]) (label_any m) ent_m_label suf_label (by decide) (by decide) any1 any1 h hs hm trivial)
  have HOUT : Hid (∀ w', RdAt w' r s (eachR labelR [46] st).2 → Kp r w w' → ∀ b, b = decide (0 < (eachR labelR [46] st).1) → ReadOut w r s labelsR st (.returned (.bool b)) w') := fun w' h1 h2 b hb => by subst hb; exact ⟨rfl, h1, h2⟩
  generalize ReadOut w r s labelsR st = Q at *
  have hmf : ∀ (fn : Fn) (first cap : Array Value) (w : World), (Instr.makeFunc fn first cap).run Tryz.prog w = .ok (.func fn first cap) w := fun _ _ _ _ => rfl
  go_enter Tryz.func86, Tryz.ntmps86
  go_wp2_with (go_at_call 101; refine HE1.out.mono ?_; rintro e w1 ⟨rfl, h1, hkp⟩; have H1 := Lib.hid h1; have HKP1 := Lib.hid hkp; clear h1 hkp)
  exact HOUT.out w1 H1.out HKP1.out _ (by first | rfl | exact pos_val _)
set_option maxRecDepth 100000 in
set_option maxHeartbeats 1000000 in
theorem domain_any (m : Nat) (hm : m ≤ 4611686018427387904) : Reads anyI m 68 domainR := by
  intro s r w st hs _ h
  have HP := Lib.hid (piece_any (labels_any m hm) ent_m_labels suf_labels h hs trivial)
  have HOUT : Hid (∀ w1 w2 b, Kp r w w1 → LimOut w1 r s (decide ((255 : Int) < ((used st (labelsR st).2).length : Int))) (labelsR st).2 (.returned (.tuple #[])) w2 → b = (labelsR st).1 → ReadOut w r s domainR st (.returned (.bool b)) w2) := fun w1 w2 b h1 h2 hb => by
    obtain ⟨_, h3, h4⟩ := h2
    subst hb
    refine ⟨rfl, ?_, h1.trans h4⟩
    have : limitR (decide ((255 : Int) < ((used st (labelsR st).2).length : Int))) (labelsR st).2 = (domainR st).2 := by
      unfold limitR domainR
      simp only
      congr 2
      by_cases hh : 255 < (used st (labelsR st).2).length
      · rw [decide_eq_true hh, decide_eq_true (by omega)]
      · rw [decide_eq_false hh, decide_eq_false (by omega)]
    rw [← this]
    exact h3
  generalize ReadOut w r s domainR st = Q at *
  have hsz : (bs (used st (labelsR st).2)).size = (used st (labelsR st).2).length := rfl
  have hmf : ∀ (fn : Fn) (first cap : Array Value) (w : World), (Instr.makeFunc fn first cap).run Tryz.prog w = .ok (.func fn first cap) w := fun _ _ _ _ => rfl
  go_enter Tryz.func68, Tryz.ntmps68
  go_wp2_with (first | (go_at_call 85; refine HP.out.mono ?_; rintro e w1 ⟨rfl, h1, hkp⟩; have H1 := Lib.hid h1; have HKP1 := Lib.hid hkp; clear h1 hkp) | (go_at_call 87; refine (limit_any H1.out _ _).mono ?_; rintro e w2 hh; obtain ⟨rfl, -⟩ := id hh; have H2 := Lib.hid hh; clear hh))
  exact HOUT.out w1 w2 _ HKP1.out H2.out rfl
end Go.Proofs.YtnkepdeegpampaaGreatDoor

/-
  A reader's methods: numbers, addresses, a literal's words. Conditions: the reader lies in memory.
-/
namespace Go.Proofs.YtnkepdeegpampaaGreatDoor
open Go.RowKit Go.Shelf

theorem dig_val (c : UInt8) : digB c = true → Lib.digitVal c = some (c.toNat - 48) := all_u8 (P := fun c => digB c = true → Lib.digitVal c = some (c.toNat - 48)) (by decide +kernel) c
theorem dig_sign (c : UInt8) : digB c = true → (c == 45) = false ∧ (c == 43) = false := all_u8 (P := fun c => digB c = true → (c == 45) = false ∧ (c == 43) = false) (by decide +kernel) c
theorem dec_val : ∀ (l : List UInt8) (acc : Nat), (∀ c ∈ l, digB c = true) → Lib.decFrom acc l = some (l.foldl (fun n c => 10 * n + (c.toNat - 48)) acc)
  | [], _, _ => rfl
  | c :: l, acc, h => by
    rw [Lib.decFrom, dig_val c (h c (by simp))]
    simp only
    rw [dec_val l _ (fun d hd => h d (by simp [hd])), List.foldl_cons, Nat.mul_comm acc 10]
theorem atoi_val (l : List UInt8) (h0 : l ≠ []) (h : ∀ c ∈ l, digB c = true) : Lib.atoi l = some ((valD l : Nat) : Int) := by
  cases l with
  | nil => exact absurd rfl h0
  | cons c l =>
    obtain ⟨e1, e2⟩ := dig_sign c (h c (by simp))
    rw [Lib.atoi, e1, e2]
    simp only [Bool.false_eq_true, if_false]
    unfold Lib.decNat
    rw [dec_val (c :: l) 0 h]
    rfl
theorem bytesWorld_low (w : World) (e : TypeId) (t : ByteArray) : Below w.heap.size w (Lib.bytesWorld w e t) := by
  exact ⟨rfl, rfl, rfl, by rw [Lib.bytesWorld_size]; omega, fun j hj => Lib.bytesWorld_at_old w e t j hj⟩
set_option maxRecDepth 100000 in
set_option maxHeartbeats 1000000 in
theorem number_any (m : Nat) : Reads anyI m 109 numberR := by
  intro s r w st _ _ h
  have HR := Lib.hid (run_any h isDigit_any ent_digit)
  have HOUT : Hid (∀ w1 w', RdAt w1 r s (runR digB st) → Kp r w w1 → Below w1.heap.size w1 w' → ∀ b, b = numOk (runL digB st) → ReadOut w r s numberR st (.returned (.bool b)) w') := fun w1 w' h1 h2 h3 b hb => by
    subst hb
    obtain ⟨p, v, hr⟩ := h1
    exact ⟨rfl, ⟨p, v, hr.later h3⟩, h2.of_low h3 (Nat.le_of_lt hr.lt)⟩
  have HDG : Hid (∀ c ∈ runL digB st, digB c = true) := fun c hc => mem_run hc
  have HER : Hid (∀ w1, RdAt w1 r s (runR digB st) → ErrAt w1) := fun w1 h1 => by obtain ⟨p, v, hr⟩ := h1; exact hr.err
  generalize ReadOut w r s numberR st = Q at *
  go_enter Tryz.func109, Tryz.ntmps109
  go_upto_region 2 with (go_at_call 114; refine HR.out.mono ?_; rintro e w1 ⟨rfl, h1, hkp⟩; have H1 := Lib.hid h1; have HKP := Lib.hid hkp; clear h1 hkp)
  have hsz : (bs (runL digB st)).size = (runL digB st).length := rfl
  have HO2 : Hid (∀ w' b, Below w1.heap.size w1 w' → b = numOk (runL digB st) → Q (.returned (.bool b)) w') := fun w' b h1 h2 => HOUT.out w1 w' H1.out HKP.out h1 b h2
  have HE2 := Lib.hid (HER.out w1 H1.out)
  clear HOUT HER HR H1 HKP h
  generalize runL digB st = l at *
  by_cases h3 : l.length ≤ 3
  · by_cases h0 : l = []
    · subst h0
      obtain ⟨ev, v1, v2⟩ := HE2.out
      have HAT := Lib.hid (Tryz.strconv_Atoi_err (bs []) (by decide) rfl ev w1 v1 v2)
      clear HE2 HDG
      have hsz0 : (bs []).size = 0 := rfl
      generalize bs [] = B at *
      clear hsz h3 v1 v2
      go_upto_region 5 with (go_at_call 119; refine HAT.out.mono ?_; rintro e w2 ⟨N, rfl, -, -, hb2⟩; have HB2 := Lib.hid hb2; clear hb2)
      go_wp2
      exact HO2.out w2 _ HB2.out rfl
    · have HAT := Lib.hid (Tryz.strconv_Atoi (bs l) _ (by rw [hsz]; omega) (atoi_val l h0 HDG.out) w1)
      have hnb : ((l.length : Nat) : Int) ≤ 3 := by omega
      have HVL : Hid (∀ b, b = decide (((valD l : Nat) : Int) ≤ 255) → b = numOk l) := fun b hb => by
        subst hb
        unfold numOk
        have e1 : (l != []) = true := by simpa using h0
        rw [e1, decide_eq_true h3]
        simp only [Bool.true_and]
        by_cases hv : valD l ≤ 255
        · rw [decide_eq_true hv, decide_eq_true (by omega)]
        · rw [decide_eq_false hv, decide_eq_false (by omega)]
      clear HE2 HDG h0 h3
      have hsz0 : ((bs l).size : Int) = (l.length : Int) := by rw [hsz]
      generalize bs l = B at *
      clear hsz
      generalize valD l = z at *
      go_wp2_with (go_at_call 119; refine HAT.out.mono ?_; rintro e w2 ⟨rfl, t, hb2⟩; have HB2 := Lib.hid hb2; clear hb2)
      exact HO2.out w2 _ (by rw [HB2.out]; exact bytesWorld_low _ _ _) (HVL.out _ rfl)
  · have hnb : (3 : Int) < (l.length : Int) := by omega
    have hsz0 : ((bs l).size : Int) = (l.length : Int) := by rw [hsz]
    generalize bs l = B at *
    clear hsz
    go_wp2
    exact HO2.out w1 _ (Below.refl _ _) (by unfold numOk; rw [decide_eq_false h3]; simp)
theorem beq_val (n k : Nat) : ((n : Int) == (k : Int)) = decide (n = k) := by
  by_cases h : n = k
  · subst h; simp
  · rw [decide_eq_false h]
    simp
    omega
theorem le_val (a b k : Nat) : decide ((a : Int) + (b : Int) ≤ (k : Int)) = decide (a + b ≤ k) := by
  by_cases h : a + b ≤ k
  · rw [decide_eq_true h, decide_eq_true (by omega)]
  · rw [decide_eq_false h, decide_eq_false (by omega)]
theorem eachF_le {part : Rd} (hp : Suf part) {sep : List UInt8} (hs : sep ≠ []) : ∀ (f many : Nat) (st : Rs), (eachF part sep f many st).1 ≤ many + f
  | 0, _, _ => Nat.le_refl _
  | f + 1, many, st => by
    rw [eachF]
    split
    · simp
    · split
      · simp
      · have := eachF_le hp hs f (many + 1) (part (sepR sep many st).2).2
        omega
theorem eachR_le {part : Rd} (hp : Suf part) {sep : List UInt8} (hs : sep ≠ []) (st : Rs) : (eachR part sep st).1 ≤ st.rest.length + 2 := by
  have := eachF_le hp hs (st.rest.length + 2) 0 st
  unfold eachR
  omega
theorem RdAt.bound {w : World} {r : Nat} {s : List UInt8} {st : Rs} (h : RdAt w r s st) : st.rest.length ≤ s.length := by
  obtain ⟨p, v, hr⟩ := h
  have := hr.count
  omega
set_option maxRecDepth 100000 in
set_option maxHeartbeats 1000000 in
theorem address_any (m : Nat) (hm : m ≤ 4611686018427387900) : Reads anyI m 108 addressR := by
  intro s r w st hs _ h
  have HE1 := Lib.hid (fun (W : World) (t : Rs) (ht : RdAt W r s t) => each_any (sep := [58]) (group_any m) ent_m_group suf_group (by decide) (by decide) any1 any1 ht hs (by omega) trivial)
  have HT1 := Lib.hid (fun (W : World) (t : Rs) (ht : RdAt W r s t) => take_any ht [58, 58] (by decide))
  have h1 := eachR_le (part := groupR) (sep := [58]) suf_group (by decide) st
  have h2 := h.bound
  have h3 := eachR_le (part := groupR) (sep := [58]) suf_group (by decide) (takeR [58, 58] (eachR groupR [58] st).2).2
  have h4 : (takeR [58, 58] (eachR groupR [58] st).2).2.rest.length ≤ st.rest.length := ((suf_take [58, 58] _).trans (suf_each suf_group [58] st)).length_le
  have hn1 : (((eachR groupR [58] st).1 : Nat) : Int) ≤ 4611686018427387902 := by omega
  have hn2 : (((eachR groupR [58] (takeR [58, 58] (eachR groupR [58] st).2).2).1 : Nat) : Int) ≤ 4611686018427387902 := by omega
  clear h1 h2 h3 h4
  have HH := Lib.hid h
  have HOUT : Hid (∀ w' b, RdAt w' r s (addressR st).2 → Kp r w w' → b = (addressR st).1 → ReadOut w r s addressR st (.returned (.bool b)) w') := fun w' b h1 h2 hb => by subst hb; exact ⟨rfl, h1, h2⟩
  generalize ReadOut w r s addressR st = Q at *
  unfold addressR at HOUT
  clear h
  have hmf : ∀ (fn : Fn) (first cap : Array Value) (w : World), (Instr.makeFunc fn first cap).run Tryz.prog w = .ok (.func fn first cap) w := fun _ _ _ _ => rfl
  cases ht : (takeR [58, 58] (eachR groupR [58] st).2).1 with
  | false =>
    rw [if_pos ht] at HOUT
    have HG := Lib.hid ht
    clear ht
    go_enter Tryz.func108, Tryz.ntmps108
    go_wp2_with (first | (go_at_call 101; refine (HE1.out _ _ HH.out).mono ?_; rintro e w1 ⟨rfl, h1, hkp⟩; have H1 := Lib.hid h1; have HKP1 := Lib.hid hkp; clear h1 hkp) | (go_at_call 107; refine (HT1.out _ _ H1.out).mono ?_; rintro e w2 ⟨rfl, h1, hkp⟩; rw [HG.out]; have H2 := Lib.hid h1; have HKP2 := Lib.hid hkp; clear h1 hkp))
    exact HOUT.out w2 _ H2.out (HKP1.out.trans HKP2.out) (beq_val _ 8)
  | true =>
    rw [if_neg (by simp [ht])] at HOUT
    have HG := Lib.hid ht
    clear ht
    go_enter Tryz.func108, Tryz.ntmps108
    go_upto_region 4 with (first | (go_at_call 101; refine (HE1.out _ _ HH.out).mono ?_; rintro e w1 ⟨rfl, h1, hkp⟩; have H1 := Lib.hid h1; have HKP1 := Lib.hid hkp; clear h1 hkp) | (go_at_call 107; refine (HT1.out _ _ H1.out).mono ?_; rintro e w2 ⟨rfl, h1, hkp⟩; rw [HG.out]; have H2 := Lib.hid h1; have HKP2 := Lib.hid hkp; clear h1 hkp))
    generalize (eachR groupR [58] st).1 = n1 at *
    go_wp2_with (go_at_call 101; refine (HE1.out _ _ H2.out).mono ?_; rintro e w3 ⟨rfl, h1, hkp⟩; have H3 := Lib.hid h1; have HKP3 := Lib.hid hkp; clear h1 hkp)
    exact HOUT.out w3 _ H3.out ((HKP1.out.trans HKP2.out).trans HKP3.out) (le_val _ _ 6)
theorem ipv6_val : ipv6P = [105, 112, 118, 54, 58] := rfl
theorem numbers_each (st : Rs) : numbersR st = (decide ((eachR numberR [46] st).1 = 4), (eachR numberR [46] st).2) := rfl
set_option maxRecDepth 100000 in
set_option maxHeartbeats 1000000 in
theorem words_any (m : Nat) (hm : m ≤ 4611686018427387900) : Reads anyI m 90 wordsR := by
  intro s r w st hs _ h
  have HE1 := Lib.hid (fun (W : World) (t : Rs) (ht : RdAt W r s t) => each_any (sep := [46]) (number_any m) ent_m_number suf_number (by decide) (by decide) any1 any1 ht hs (by omega) trivial)
  have HT1 := Lib.hid (fun (W : World) (t : Rs) (ht : RdAt W r s t) => take_any ht ipv6P (by decide))
  have HA1 := Lib.hid (fun (W : World) (t : Rs) (ht : RdAt W r s t) => address_any m hm s r W t hs trivial ht)
  have HH := Lib.hid h
  have HOUT : Hid (∀ w' b, RdAt w' r s (wordsR st).2 → Kp r w w' → b = (wordsR st).1 → ReadOut w r s wordsR st (.returned (.bool b)) w') := fun w' b h1 h2 hb => by subst hb; exact ⟨rfl, h1, h2⟩
  generalize ReadOut w r s wordsR st = Q at *
  unfold wordsR at HOUT
  clear h
  have hmf : ∀ (fn : Fn) (first cap : Array Value) (w : World), (Instr.makeFunc fn first cap).run Tryz.prog w = .ok (.func fn first cap) w := fun _ _ _ _ => rfl
  cases ht : (takeR ipv6P st).1 with
  | false =>
    rw [if_neg (by simp [ht]), numbers_each] at HOUT
    have HG := Lib.hid ht
    clear ht
    go_enter Tryz.func90, Tryz.ntmps90
    go_wp2_with (first | (go_at_call 101; refine (HE1.out _ _ H1.out).mono ?_; rintro e w2 ⟨rfl, h1, hkp⟩; have H2 := Lib.hid h1; have HKP2 := Lib.hid hkp; clear h1 hkp) | (go_at_call 107; refine (HT1.out _ _ HH.out).mono ?_; rintro e w1 ⟨rfl, h1, hkp⟩; rw [HG.out]; have H1 := Lib.hid h1; have HKP1 := Lib.hid hkp; clear h1 hkp))
    exact HOUT.out w2 _ H2.out (HKP1.out.trans HKP2.out) (beq_val _ 4)
  | true =>
    rw [if_pos ht] at HOUT
    have HG := Lib.hid ht
    clear ht
    go_enter Tryz.func90, Tryz.ntmps90
    go_wp2_with (first | (go_at_call 108; refine (HA1.out _ _ H1.out).mono ?_; rintro e w2 ⟨rfl, h1, hkp⟩; have H2 := Lib.hid h1; have HKP2 := Lib.hid hkp; clear h1 hkp) | (go_at_call 107; refine (HT1.out _ _ HH.out).mono ?_; rintro e w1 ⟨rfl, h1, hkp⟩; rw [HG.out]; have H1 := Lib.hid h1; have HKP1 := Lib.hid hkp; clear h1 hkp))
    exact HOUT.out w2 _ H2.out (HKP1.out.trans HKP2.out) rfl
end Go.Proofs.YtnkepdeegpampaaGreatDoor

/-
  A slice of bytes as a text. Conditions: the bytes lie in memory.
-/
namespace Go.Proofs.YtnkepdeegpampaaGreatDoor
open Go.RowKit

/-- bytes as a text -/
theorem conv_any (w : World) (a : Option Addr) (l : List UInt8) (c : Nat) (h : BytesAt w a l) : (convert 41 9 (.slice a l.length c)).run Tryz.prog w = .ok (.string (bs l)) w := by
  by_cases h0 : 0 < l.length
  · obtain ⟨g, off, rfl, _, hc⟩ := RowAt.row h (by simpa using h0)
    refine run_convert_bytes_back (P := Tryz.prog) w 41 9 5 ⟨g, off, none⟩ c l Tryz.underlying41 Tryz.underlying5 Tryz.underlying9 fun j hj => ?_
    rw [Addr.add_mid, hc j (by simpa using hj), List.getElem_map]
    rfl
  · have hl : l = [] := List.eq_nil_of_length_eq_zero (by omega)
    subst hl
    show (convert 41 9 (.slice a 0 c)).run Tryz.prog w = _
    rw [run_convert_bytes_string w 41 9 5 _ 0 c Tryz.underlying41 Tryz.underlying5 Tryz.underlying9]
    cases a <;> simp [Conv.bytesToString, loadCells]
    all_goals rfl
end Go.Proofs.YtnkepdeegpampaaGreatDoor

/-
  path.inSmall: a text in small letters. Conditions: the text is of at most 2^62 bytes.
-/
namespace Go.Proofs.YtnkepdeegpampaaGreatDoor
open Go.RowKit Go.Shelf

/-- a row of bytes that a text was turned into, as it is written over -/
def BuW (w : World) (N : Nat) (l : List UInt8) : Prop := ∃ cur, w.heap[N]? = some (.cells cur 5 (cur.size, cur.size + 1)) ∧ l.length ≤ cur.size ∧ ∀ j, (h : j < l.length) → cur[j]? = some (byteV l[j])
theorem BuW.new (w : World) (l : List UInt8) : BuW (Lib.bytesWorld w 5 (bs l)) w.heap.size l := by
  refine ⟨_, Lib.bytesWorld_at_new w 5 (bs l), ?_, fun j hj => ?_⟩
  · unfold Lib.bytesCells
    simp [bs]
  · have h := Lib.bytesWorld_cell w 5 (bs l) j hj
    rw [World.cell?, Lib.bytesWorld_at_new] at h
    simp only at h
    have h2 : (Lib.bytesCells w 5 (bs l))[j]? = some (.int .u8 ((bs l).data.toList.getD j 0).toNat) := h
    rw [h2, bs_list, List.getD_eq_getElem?_getD, List.getElem?_eq_getElem hj]
    rfl
theorem BuW.cell {w : World} {N : Nat} {l : List UInt8} (h : BuW w N l) {j : Nat} (hj : j < l.length) : w.cell? ⟨N, j, none⟩ = some (.int .u8 (l[j].toNat : Int)) ∧ w.frozen? ⟨N, j, none⟩ = false := by
  obtain ⟨cur, h1, h2, h3⟩ := h
  constructor
  · unfold World.cell?
    rw [h1]
    exact h3 j hj
  · simp [World.frozen?, h1]
    omega
theorem BuW.put {w : World} {N : Nat} {l : List UInt8} (h : BuW w N l) {j : Nat} (hj : j < l.length) (c : UInt8) : BuW (w.setCell ⟨N, j, none⟩ (.int .u8 (c.toNat : Int))) N (l.set j c) := by
  obtain ⟨cur, h1, h2, h3⟩ := h
  refine ⟨cur.setIfInBounds j (.int .u8 (c.toNat : Int)), ?_, by simpa using h2, fun i hi => ?_⟩
  · rw [setCell_eq_setRow w N j cur 5 (cur.size, cur.size + 1) _ h1]
    have := setRow_heap w N cur (cur.setIfInBounds j (.int .u8 (c.toNat : Int))) 5 (cur.size, cur.size + 1) h1
    simpa using this
  · rw [List.length_set] at hi
    rw [Array.getElem?_setIfInBounds]
    by_cases hij : j = i
    · subst hij
      simp [byteV]
      omega
    · rw [if_neg hij, h3 i hi]
      congr 2
      simp [hij]
theorem BuW.bytes {w : World} {N : Nat} {l : List UInt8} (h : BuW w N l) (hl : l.length ≤ maxLen) : BytesAt w (some ⟨N, 0, none⟩) l := by
  refine ⟨by rw [List.length_map]; exact hl, fun _ => ⟨N, 0, rfl, ?_, fun j hj => ?_⟩⟩
  · obtain ⟨cur, h1, _⟩ := h
    exact (Array.getElem?_eq_some_iff.1 h1).1
  · rw [List.length_map] at hj
    rw [Nat.zero_add, (h.cell hj).1, List.getElem_map]
    rfl
theorem low_step (l : List UInt8) (k : Nat) (hk : k < l.length) : ((low (l.take k) ++ l.drop k).set k (sml l[k])) = low (l.take (k + 1)) ++ l.drop (k + 1) ∧ (low (l.take k) ++ l.drop k)[k]? = some l[k] := by
  have hlen : (low (l.take k)).length = k := by rw [low_len, List.length_take]; omega
  have hd : l.drop k = l[k] :: l.drop (k + 1) := List.drop_eq_getElem_cons hk
  constructor
  · rw [List.set_append_right _ _ (by omega), hlen, Nat.sub_self, hd, List.set_cons_zero, List.take_succ_eq_append_getElem hk, low_app, List.append_assoc]
    rfl
  · rw [List.getElem?_append_right (by omega), hlen, Nat.sub_self, hd]
    rfl
set_option maxRecDepth 100000 in
set_option maxHeartbeats 1000000 in
theorem inSmall_any (l : List UInt8) (hl : l.length ≤ 4611686018427387904) (w : World) : Calls Tryz.prog 75 #[.string (bs l)] w fun e w' => e = .returned (.string (bs (low l))) ∧ Below w.heap.size w w' := by
  have hcv := Lib.run_convert_string_bytes (P := Tryz.prog) w 9 41 5 (bs l) (u := .string) Tryz.underlying9 Tryz.underlying41 Tryz.underlying5
  rw [bs_size] at hcv
  have HB := Lib.hid (BuW.new w l)
  have HLW := Lib.hid (bytesWorld_low w 5 (bs l))
  have hcg : l.length ≤ grownCap w l.length 0 5 := grownCap_ge w l.length 0 _
  generalize grownCap w l.length 0 5 = cp at *
  generalize Lib.bytesWorld w 5 (bs l) = W1 at *
  obtain ⟨N, hN⟩ : ∃ N, N = w.heap.size := ⟨_, rfl⟩
  rw [← hN] at HB HLW hcv ⊢
  obtain ⟨n, hn⟩ : ∃ n, n = l.length := ⟨_, rfl⟩
  rw [← hn] at hcg hcv hl
  have HNN := Lib.hid hn
  clear hN hn
  generalize hS : bs l = S at *
  clear hS
  go_enter Tryz.func75, Tryz.ntmps75
  go_wp2
  go_loopw [10] (fun i wr => ∃ k : Nat, k ≤ n ∧ i = .int .i64 k ∧ Hid (BuW wr N (low (l.take k) ++ l.drop k)) ∧ Hid (Below N w wr)) (fun i _ => n - (intOf i).toNat)
  case atStart => exact ⟨0, Nat.zero_le _, rfl, HB.out, HLW.out⟩
  case round =>
    obtain ⟨k, hk, rfl, HBR, HLR⟩ := hrel
    have hk0 : (0 : Int) ≤ (k : Int) := by omega
    by_cases hlt : k < n
    · have hkl : k < l.length := by rw [← HNN.out]; exact hlt
      have hkz : (k : Int) < (n : Int) := by omega
      obtain ⟨e1, e2⟩ := low_step l k hkl
      obtain ⟨e3, e4⟩ := List.getElem?_eq_some_iff.1 e2
      have hcell := HBR.out.cell e3
      rw [e4] at hcell
      obtain ⟨c0, f0⟩ := hcell
      have HP := Lib.hid (HBR.out.put e3 (sml l[k]))
      rw [e1] at HP
      have HSM := Lib.hid (fun W => small_any l[k] W)
      have HLP : Hid (∀ u, Below N w (wr.setCell ⟨N, k, none⟩ u)) := fun u => HLR.out.setCell (p := ⟨N, k, none⟩) (Nat.le_refl _) u
      clear e1 e2 e3 e4
      generalize l[k] = c at *
      clear hkl
      have hkc : k < cp := by omega
      go_wp2_with (go_at_call 99; refine (HSM.out _).mono ?_; rintro e w' ⟨rfl, rfl⟩)
      go_roundw
      case rel => exact ⟨k + 1, by omega, by go_num, HP.out, HLP.out _⟩
      case measure => simp [intOf]; omega
    · have hke : k = n := by omega
      have hkz : ¬ (k : Int) < (n : Int) := by omega
      have HB2 := Lib.hid (HBR.out)
      rw [hke, HNN.out, List.take_length, List.drop_length, List.append_nil] at HB2
      have hcv2 := conv_any wr (some ⟨N, 0, none⟩) (low l) cp (HB2.out.bytes (by rw [low_len, ← HNN.out]; unfold maxLen; omega))
      rw [low_len, ← HNN.out] at hcv2
      clear hke HBR
      go_wp2
      go_ret
      exact ⟨rfl, HLR.out⟩
end Go.Proofs.YtnkepdeegpampaaGreatDoor

/-
  A reader's methods: mean, plain, named, bracket. Conditions: the reader lies in memory; its text is of at most 2^48 bytes.
-/
namespace Go.Proofs.YtnkepdeegpampaaGreatDoor
open Go.RowKit Go.Shelf

def MeanOut (w : World) (r : Nat) (s : List UInt8) (m : List UInt8) (st : Rs) (e : Ending) (w' : World) : Prop := e = .returned (.tuple #[]) ∧ RdAt w' r s (meanR m st) ∧ Kp r w w'
set_option maxRecDepth 100000 in
set_option maxHeartbeats 1000000 in
theorem mean_any {w : World} {r : Nat} {s : List UInt8} {st : Rs} (h : RdAt w r s st) (m : List UInt8) : Calls Tryz.prog 131 #[.pointer (some ⟨r, 0, none⟩), .string (bs m)] w (MeanOut w r s m st) := by
  have HL := Lib.hid (limit_any h ((m.length : Nat) : Int) 64)
  have HOUT : Hid (∀ w1, RdAt w1 r s (limitR (decide ((64 : Int) < (m.length : Int))) st) → Kp r w w1 → (w1.frozen? ⟨r, 4, none⟩ = false ∧ ∃ u, w1.cell? ⟨r, 4, none⟩ = some u) ∧ MeanOut w r s m st (.returned (.tuple #[])) (w1.setCell ⟨r, 4, none⟩ (.string (bs m)))) := fun w1 h1 hk => by
    obtain ⟨p, v, hr⟩ := h1
    refine ⟨⟨hr.cells.frozen 4, _, hr.cells.cell 4⟩, rfl, ⟨p, v, ?_⟩, hk.set_ hr.cells 4 _⟩
    have : limitR (decide ((64 : Int) < (m.length : Int))) st = limitR (decide (64 < m.length)) st := by
      congr 1
      by_cases h : 64 < m.length
      · rw [decide_eq_true h, decide_eq_true (by omega)]
      · rw [decide_eq_false h, decide_eq_false (by omega)]
    rw [this] at hr
    exact hr.put 4 _ rfl rfl hr.place hr.rest
  have hsz : ((bs m).size : Int) = (m.length : Int) := rfl
  generalize MeanOut w r s m st = Q at *
  go_enter Tryz.func131, Tryz.ntmps131
  go_upto_region 1 with (go_at_call 87; refine HL.out.mono ?_; rintro e w1 ⟨rfl, h1, hkp⟩; obtain ⟨⟨f4, u, c4⟩, hq⟩ := HOUT.out w1 h1 hkp; have HQ := Lib.hid hq; clear h1 hkp hq)
  go_wp2
  go_end0
  exact HQ.out
theorem clone_any (l : List UInt8) (hl : l.length ≤ 281474976710656) (w : World) : Calls Tryz.prog 53 #[.string (bs l)] w fun e w' => e = .returned (.string (bs l)) ∧ Below w.heap.size w w' := by
  have HC := Lib.hid (Tryz.stringslite_Clone (bs l) w (by rw [bs_size]; exact hl))
  go_enter Tryz.func53, Tryz.ntmps53
  go_wp2_with (go_at_call 74; refine HC.out.mono ?_; rintro e w1 ⟨rfl, hb⟩; have HB := Lib.hid hb; clear hb)
  go_ret
  exact ⟨rfl, HB.out⟩
theorem RdAt.later {w w' : World} {r : Nat} {s : List UInt8} {st : Rs} (h : RdAt w r s st) (hb : Below w.heap.size w w') : RdAt w' r s st := by
  obtain ⟨p, v, h⟩ := h
  exact ⟨p, v, h.later hb⟩
theorem RdAt.lt {w : World} {r : Nat} {s : List UInt8} {st : Rs} (h : RdAt w r s st) : r < w.heap.size := by
  obtain ⟨p, v, h⟩ := h
  exact h.lt
theorem used_len_le (a b : Rs) : (used a b).length ≤ a.rest.length := by unfold used; rw [List.length_take]; omega
set_option maxRecDepth 100000 in
set_option maxHeartbeats 1000000 in
theorem plain_any (m : Nat) (hm : m ≤ 281474976710656) : Reads anyI m 122 plainR := by
  intro s r w st hs _ h
  have HP := Lib.hid (piece_any (atoms_any m (by omega)) ent_m_atoms suf_atoms h hs trivial)
  have HCL := Lib.hid (fun W => clone_any (used st (atomsR st).2) (by have := used_len_le st (atomsR st).2; have := h.bound; omega) W)
  have HOUT : Hid (∀ w1 w2 w3, RdAt w1 r s (atomsR st).2 → Kp r w w1 → Below w1.heap.size w1 w2 → MeanOut w2 r s (used st (atomsR st).2) (atomsR st).2 (.returned (.tuple #[])) w3 → ReadOut w r s plainR st (.returned (.bool (atomsR st).1)) w3) := fun w1 w2 w3 h1 h2 h3 h4 => by
    obtain ⟨_, k1, k2⟩ := h4
    exact ⟨rfl, k1, (h2.of_low h3 (Nat.le_of_lt h1.lt)).trans k2⟩
  generalize ReadOut w r s plainR st = Q at *
  have hmf : ∀ (fn : Fn) (first cap : Array Value) (w : World), (Instr.makeFunc fn first cap).run Tryz.prog w = .ok (.func fn first cap) w := fun _ _ _ _ => rfl
  clear h
  go_enter Tryz.func122, Tryz.ntmps122
  go_wp2_with (first | (go_at_call 85; refine HP.out.mono ?_; rintro e w1 ⟨rfl, h1, hkp⟩; have H1 := Lib.hid h1; have HKP1 := Lib.hid hkp; clear h1 hkp) | (go_at_call 53; refine (HCL.out _).mono ?_; rintro e w2 ⟨rfl, hb⟩; have HB2 := Lib.hid hb; clear hb) | (go_at_call 131; refine (mean_any (H1.out.later HB2.out) _).mono ?_; rintro e w3 hh; obtain ⟨rfl, -⟩ := id hh; have H3 := Lib.hid hh; clear hh))
  exact HOUT.out w1 w2 w3 H1.out HKP1.out HB2.out H3.out
set_option maxRecDepth 100000 in
set_option maxHeartbeats 1000000 in
theorem named_any (m : Nat) (hm : m ≤ 281474976710656) : Reads anyI m 124 namedR := by
  intro s r w st hs _ h
  have HP := Lib.hid (piece_any (domain_any m (by omega)) ent_m_domain suf_domain h hs trivial)
  have HIS := Lib.hid (fun W => inSmall_any (used st (domainR st).2) (by have := used_len_le st (domainR st).2; have := h.bound; omega) W)
  have HOUT : Hid (∀ w1 w2, RdAt w1 r s (domainR st).2 → Kp r w w1 → Below w1.heap.size w1 w2 → (w2.frozen? ⟨r, 5, none⟩ = false ∧ ∃ u, w2.cell? ⟨r, 5, none⟩ = some u) ∧ ReadOut w r s namedR st (.returned (.bool (domainR st).1)) (w2.setCell ⟨r, 5, none⟩ (.string (bs (low (used st (domainR st).2)))))) := fun w1 w2 h1 h2 h3 => by
    obtain ⟨p, v, hr⟩ := h1.later h3
    exact ⟨⟨hr.cells.frozen 5, _, hr.cells.cell 5⟩, rfl, ⟨p, v, hr.put 5 _ rfl rfl hr.place hr.rest⟩, (h2.of_low h3 (Nat.le_of_lt h1.lt)).set_ hr.cells 5 _⟩
  generalize ReadOut w r s namedR st = Q at *
  have hmf : ∀ (fn : Fn) (first cap : Array Value) (w : World), (Instr.makeFunc fn first cap).run Tryz.prog w = .ok (.func fn first cap) w := fun _ _ _ _ => rfl
  clear h
  go_enter Tryz.func124, Tryz.ntmps124
  go_wp2_with (first | (go_at_call 85; refine HP.out.mono ?_; rintro e w1 ⟨rfl, h1, hkp⟩; have H1 := Lib.hid h1; have HKP1 := Lib.hid hkp; clear h1 hkp) | (go_at_call 75; refine (HIS.out _).mono ?_; rintro e w2 ⟨rfl, hb⟩; obtain ⟨⟨f5, u, c5⟩, hq⟩ := HOUT.out w1 w2 H1.out HKP1.out hb; have HQ := Lib.hid hq; clear hb hq))
  exact HQ.out
set_option maxRecDepth 100000 in
set_option maxHeartbeats 1000000 in
theorem bracket_any (m : Nat) (hm : m ≤ 281474976710656) : Reads anyI m 123 bracketR := by
  intro s r w st hs _ h
  have HT1 := Lib.hid (take_any h [91] (by decide))
  have HP := Lib.hid (fun (W : World) (hW : RdAt W r s (takeR [91] st).2) => piece_any (words_any m (by omega)) ent_m_words suf_words hW hs trivial)
  have HT3 := Lib.hid (fun (W : World) (hW : RdAt W r s (wordsR (takeR [91] st).2).2) => take_any hW [93] (by decide))
  have HIS := Lib.hid (fun W => inSmall_any (used (takeR [91] st).2 (wordsR (takeR [91] st).2).2) (by have := used_len_le (takeR [91] st).2 (wordsR (takeR [91] st).2).2; have := h.bound; have := (suf_take [91] st).length_le; omega) W)
  have HNO1 : Hid (∀ w1, (takeR [91] st).1 = false → RdAt w1 r s (takeR [91] st).2 → Kp r w w1 → ReadOut w r s bracketR st (.returned (.bool false)) w1) := fun w1 hg h1 h2 => by
    unfold ReadOut bracketR
    rw [if_pos hg]
    exact ⟨rfl, h1, h2⟩
  have HNO2 : Hid (∀ w1, (takeR [91] st).1 = true → (wordsR (takeR [91] st).2).1 = false → RdAt w1 r s (wordsR (takeR [91] st).2).2 → Kp r w w1 → ReadOut w r s bracketR st (.returned (.bool false)) w1) := fun w1 hg hg2 h1 h2 => by
    unfold ReadOut bracketR
    rw [if_neg (by simp [hg]), if_pos hg2]
    exact ⟨rfl, h1, h2⟩
  have HNO3 : Hid (∀ w1, (takeR [91] st).1 = true → (wordsR (takeR [91] st).2).1 = true → (takeR [93] (wordsR (takeR [91] st).2).2).1 = false → RdAt w1 r s (takeR [93] (wordsR (takeR [91] st).2).2).2 → Kp r w w1 → ReadOut w r s bracketR st (.returned (.bool false)) w1) := fun w1 hg hg2 hg3 h1 h2 => by
    unfold ReadOut bracketR
    rw [if_neg (by simp [hg]), if_neg (by simp [hg2]), if_pos hg3]
    exact ⟨rfl, h1, h2⟩
  have HYES : Hid (∀ w1 w2, (takeR [91] st).1 = true → (wordsR (takeR [91] st).2).1 = true → (takeR [93] (wordsR (takeR [91] st).2).2).1 = true → RdAt w1 r s (takeR [93] (wordsR (takeR [91] st).2).2).2 → Kp r w w1 → Below w1.heap.size w1 w2 →
      (w2.frozen? ⟨r, 5, none⟩ = false ∧ w2.frozen? ⟨r, 6, none⟩ = false ∧ (∃ u, w2.cell? ⟨r, 5, none⟩ = some u) ∧ ∃ u, w2.cell? ⟨r, 6, none⟩ = some u) ∧ ReadOut w r s bracketR st (.returned (.bool true)) ((w2.setCell ⟨r, 5, none⟩ (.string (bs (low (used (takeR [91] st).2 (wordsR (takeR [91] st).2).2))))).setCell ⟨r, 6, none⟩ (.bool true))) := fun w1 w2 hg hg2 hg3 h1 h2 h3 => by
    unfold ReadOut bracketR
    rw [if_neg (by simp [hg]), if_neg (by simp [hg2]), if_neg (by simp [hg3])]
    obtain ⟨p, v, hr⟩ := h1.later h3
    have hr2 := hr.put (st' := { (takeR [93] (wordsR (takeR [91] st).2).2).2 with dom := low (used (takeR [91] st).2 (wordsR (takeR [91] st).2).2) }) 5 (.string (bs (low (used (takeR [91] st).2 (wordsR (takeR [91] st).2).2)))) rfl rfl hr.place hr.rest
    exact ⟨⟨hr.cells.frozen 5, hr.cells.frozen 6, ⟨_, hr.cells.cell 5⟩, _, hr.cells.cell 6⟩, rfl, ⟨p, v, hr2.put 6 _ rfl rfl hr2.place hr2.rest⟩, ((h2.of_low h3 (Nat.le_of_lt h1.lt)).set_ hr.cells 5 _).set_ hr2.cells 6 _⟩
  generalize ReadOut w r s bracketR st = Q at *
  have hmf : ∀ (fn : Fn) (first cap : Array Value) (w : World), (Instr.makeFunc fn first cap).run Tryz.prog w = .ok (.func fn first cap) w := fun _ _ _ _ => rfl
  clear h
  cases hg1 : (takeR [91] st).1 with
  | false =>
    have HG1 := Lib.hid hg1
    have HO := Lib.hid (fun w1 => HNO1.out w1 hg1)
    clear hg1 HNO1 HNO2 HNO3 HYES HP HT3 HIS
    go_enter Tryz.func123, Tryz.ntmps123
    go_wp2_with (go_at_call 107; refine HT1.out.mono ?_; rintro e w1 ⟨rfl, h1, hkp⟩; rw [HG1.out]; have H1 := Lib.hid h1; have HKP1 := Lib.hid hkp; clear h1 hkp HT1)
    exact HO.out w1 H1.out HKP1.out
  | true =>
    have HG1 := Lib.hid hg1
    cases hg2 : (wordsR (takeR [91] st).2).1 with
    | false =>
      have HG2 := Lib.hid hg2
      have HO := Lib.hid (fun w1 => HNO2.out w1 hg1 hg2)
      clear hg1 hg2 HNO1 HNO2 HNO3 HYES HT3 HIS
      go_enter Tryz.func123, Tryz.ntmps123
      go_wp2_with (first | (go_at_call 107; refine HT1.out.mono ?_; rintro e w1 ⟨rfl, h1, hkp⟩; rw [HG1.out]; have H1 := Lib.hid h1; have HKP1 := Lib.hid hkp; clear h1 hkp HT1) | (go_at_call 85; refine (HP.out w1 H1.out).mono ?_; rintro e w2 ⟨rfl, h1, hkp⟩; rw [HG2.out]; have H2 := Lib.hid h1; have HKP2 := Lib.hid hkp; clear h1 hkp))
      exact HO.out w2 H2.out (HKP1.out.trans HKP2.out)
    | true =>
      have HG2 := Lib.hid hg2
      cases hg3 : (takeR [93] (wordsR (takeR [91] st).2).2).1 with
      | false =>
        have HG3 := Lib.hid hg3
        have HO := Lib.hid (fun w1 => HNO3.out w1 hg1 hg2 hg3)
        clear hg1 hg2 hg3 HNO1 HNO2 HNO3 HYES HIS
        go_enter Tryz.func123, Tryz.ntmps123
        go_wp2_with (first | (go_at_call 107; refine HT1.out.mono ?_; rintro e w1 ⟨rfl, h1, hkp⟩; rw [HG1.out]; have H1 := Lib.hid h1; have HKP1 := Lib.hid hkp; clear h1 hkp HT1) | (go_at_call 85; refine (HP.out w1 H1.out).mono ?_; rintro e w2 ⟨rfl, h1, hkp⟩; rw [HG2.out]; have H2 := Lib.hid h1; have HKP2 := Lib.hid hkp; clear h1 hkp) | (go_at_call 107; refine (HT3.out w2 H2.out).mono ?_; rintro e w3 ⟨rfl, h1, hkp⟩; rw [HG3.out]; have H3 := Lib.hid h1; have HKP3 := Lib.hid hkp; clear h1 hkp))
        exact HO.out w3 H3.out ((HKP1.out.trans HKP2.out).trans HKP3.out)
      | true =>
        have HG3 := Lib.hid hg3
        have HO := Lib.hid (fun w1 w2 => HYES.out w1 w2 hg1 hg2 hg3)
        clear hg1 hg2 hg3 HNO1 HNO2 HNO3 HYES
        go_enter Tryz.func123, Tryz.ntmps123
        go_wp2_with (first | (go_at_call 107; refine HT1.out.mono ?_; rintro e w1 ⟨rfl, h1, hkp⟩; rw [HG1.out]; have H1 := Lib.hid h1; have HKP1 := Lib.hid hkp; clear h1 hkp HT1) | (go_at_call 85; refine (HP.out w1 H1.out).mono ?_; rintro e w2 ⟨rfl, h1, hkp⟩; rw [HG2.out]; have H2 := Lib.hid h1; have HKP2 := Lib.hid hkp; clear h1 hkp) | (go_at_call 107; refine (HT3.out w2 H2.out).mono ?_; rintro e w3 ⟨rfl, h1, hkp⟩; rw [HG3.out]; have H3 := Lib.hid h1; have HKP3 := Lib.hid hkp; clear h1 hkp) | (go_at_call 75; refine (HIS.out _).mono ?_; rintro e w4 ⟨rfl, hb⟩; obtain ⟨⟨f5, f6, ⟨u, c5⟩, u', c6⟩, hq⟩ := HO.out w3 w4 H3.out ((HKP1.out.trans HKP2.out).trans HKP3.out) hb; have HQ := Lib.hid hq; clear hb hq))
        exact HQ.out
end Go.Proofs.YtnkepdeegpampaaGreatDoor

/-
  A reader's method either. Conditions: the reader lies in memory; the methods read as is said of them.
-/
namespace Go.Proofs.YtnkepdeegpampaaGreatDoor
open Go.RowKit Go.Shelf

theorem either_nil (st : Rs) : eitherR [] st = (false, st) := by rw [eitherR]
theorem either_cons (p : Rd) (ps : List Rd) (st : Rs) : eitherR (p :: ps) st = if (p st).1 = true then p st else eitherR ps { (p st).2 with rest := st.rest } := by rw [eitherR]
/-- methods in a row -/
def methsC (ps : List (Nat × Rd)) (r : Nat) : List Value := ps.map fun x => meth x.1 r
set_option maxRecDepth 100000 in
set_option maxHeartbeats 2000000 in
theorem either_any {I : List UInt8 → Rs → Prop} {m : Nat} (ps : List (Nat × Rd)) (hps : ∀ x ∈ ps, Reads I m x.1 x.2 ∧ Ent x.1) (hps2 : ∀ i x, ps[i]? = some x → i + 1 < ps.length → ∀ s st, I s st → I s { (x.2 st).2 with rest := st.rest }) (n : Nat) (hn : n = ps.length) (hn2 : n ≤ 100) {w : World} {r : Nat} {s : List UInt8} {st : Rs} (h : RdAt w r s st) (hm : s.length ≤ m) (hI : I s st)
    {b : Nat} (hb : Blk w b 34 (methsC ps r).toArray) (c : Nat) : Calls Tryz.prog 92 #[.pointer (some ⟨r, 0, none⟩), .slice (some ⟨b, 0, none⟩) n c] w (ReadOut w r s (eitherR (ps.map (·.2))) st) := by
  obtain ⟨p, v, hr⟩ := h
  have c1 := hr.cells.cell 1
  simp only [rdCells] at c1
  simp at c1
  have HP0 := Lib.hid (And.intro hr.place hr.rest)
  have HR0 := Lib.hid (show RdAt w r s st from ⟨p, v, hr⟩)
  have HB := Lib.hid hb
  have HPS := Lib.hid hps
  have HPS2 := Lib.hid hps2
  have HN := Lib.hid hn
  have HI0 := Lib.hid hI
  have HM := Lib.hid hm
  have HYES : Hid (∀ st1 w1 w' g qs, eitherR (g :: qs) st1 = eitherR (ps.map (·.2)) st → (g st1).1 = true → Kp r w w1 → RdAt w' r s (g st1).2 → Kp r w1 w' → ReadOut w r s (eitherR (ps.map (·.2))) st (.returned (.bool true)) w') := fun st1 w1 w' g qs he hg k1 h1 k2 => by
    unfold ReadOut
    rw [← he, either_cons, if_pos hg, hg]
    exact ⟨rfl, h1, k1.trans k2⟩
  have HNO : Hid (∀ st1 w', eitherR [] st1 = eitherR (ps.map (·.2)) st → RdAt w' r s st1 → Kp r w w' → ReadOut w r s (eitherR (ps.map (·.2))) st (.returned (.bool false)) w') := fun st1 w' he h1 k1 => by
    unfold ReadOut
    rw [← he, either_nil]
    exact ⟨rfl, h1, k1⟩
  have HE0 : Hid (eitherR ((ps.drop 0).map (·.2)) st = eitherR (ps.map (·.2)) st) := rfl
  have HML : Hid (∀ k : Nat, (methsC ps r).toArray[k]? = (ps[k]?).map fun (x : Nat × Rd) => meth x.1 r) := fun k => by simp [methsC]
  generalize ReadOut w r s (eitherR (ps.map (·.2))) st = Q at *
  generalize (methsC ps r).toArray = MC at *
  clear hr hb hps hps2 hn hI hm
  go_enter Tryz.func92, Tryz.ntmps92
  go_wp2
  clear c1
  go_loopw [14] (fun i wr => ∃ (k : Nat) (st1 : Rs), k ≤ n ∧ i = .int .i64 k ∧ Hid (RdAt wr r s st1) ∧ Hid (st1.rest = st.rest) ∧ Hid (Kp r w wr) ∧ Hid (k < n → I s st1) ∧ Hid (eitherR ((ps.drop k).map (·.2)) st1 = eitherR (ps.map (·.2)) st)) (fun i _ => n - (intOf i).toNat)
  case atStart => exact ⟨0, st, Nat.zero_le _, rfl, HR0.out, rfl, Kp.refl r w, fun _ => HI0.out, HE0.out⟩
  case round =>
    obtain ⟨k, st1, hk, rfl, HR, HS, HK, HI, HE⟩ := hrel
    have hk0 : (0 : Int) ≤ (k : Int) := by omega
    by_cases hlt : k < n
    · have hkp : k < ps.length := by rw [← HN.out]; exact hlt
      have hkz : (k : Int) < (n : Int) := by omega
      obtain ⟨x, hx⟩ : ∃ x, ps[k] = x := ⟨_, rfl⟩
      have hx2 : ps[k]? = some x := by rw [← hx]; exact List.getElem?_eq_getElem hkp
      obtain ⟨q1, q2⟩ := HPS.out x (by rw [← hx]; exact List.getElem_mem hkp)
      have hcell : wr.cell? ⟨b, k, none⟩ = some (meth x.1 r) := by
        rw [(HK.out.keep b _ _ HB.out (by decide) (by decide)).cell k, HML.out, hx2]
        rfl
      have hdr : (ps.drop k).map (·.2) = x.2 :: (ps.drop (k + 1)).map (·.2) := by
        rw [List.drop_eq_getElem_cons hkp, hx, List.map_cons]
      have HE2 := Lib.hid HE.out
      rw [hdr] at HE2
      have HC := Lib.hid (q1 s r wr st1 HM.out (HI.out hlt) HR.out)
      have HI2 := Lib.hid (fun (hk2 : k + 1 < n) => HPS2.out k x hx2 (by rw [← HN.out]; exact hk2) s st1 (HI.out hlt))
      have ek' : ∀ args w, (callFunc x.1 args).run Tryz.prog w = .ok (.enter x.1 args) w := q2
      unfold meth at hcell
      generalize x.1 = kk at *
      generalize x.2 = g at *
      clear hx hx2 q1 q2 hdr hkp
      cases hg : (g st1).1 with
      | true =>
        have HG := Lib.hid hg
        clear hg
        go_wp2_with (go_at_fn kk; refine HC.out.mono ?_; rintro e w1 ⟨rfl, h1, hkp⟩; rw [HG.out]; have H1 := Lib.hid h1; have HKQ := Lib.hid hkp; clear h1 hkp)
        exact HYES.out st1 wr w1 g _ HE2.out HG.out HK.out H1.out HKQ.out
      | false =>
        have HG := Lib.hid hg
        have HE3 := Lib.hid HE2.out
        rw [either_cons, hg] at HE3
        simp only [Bool.false_eq_true, if_false] at HE3
        have HRS := Lib.hid (fun w1 (h1 : RdAt w1 r s (g st1).2) => (show (w1.frozen? ⟨r, 1, none⟩ = false ∧ ∃ u, w1.cell? ⟨r, 1, none⟩ = some u) ∧ RdAt (w1.setCell ⟨r, 1, none⟩ (.int .i64 (p : Int))) r s { (g st1).2 with rest := st1.rest } ∧ Kp r w1 (w1.setCell ⟨r, 1, none⟩ (.int .i64 (p : Int))) from by
          obtain ⟨p1, v1, hr1⟩ := h1
          exact ⟨⟨hr1.cells.frozen 1, _, hr1.cells.cell 1⟩, ⟨p, v1, hr1.put 1 _ rfl rfl HP0.out.1 (by rw [HP0.out.2]; exact HS.out.symm)⟩, (Kp.refl r w1).set_ hr1.cells 1 _⟩))
        clear hg
        go_wp2_with (go_at_fn kk; refine HC.out.mono ?_; rintro e w1 ⟨rfl, h1, hkp⟩; rw [HG.out]; obtain ⟨⟨f1, u, c1⟩, q1, q2⟩ := HRS.out w1 h1; have H1 := Lib.hid q1; have HKQ := Lib.hid (hkp.trans q2); clear h1 hkp q1 q2)
        go_roundw
        case rel => exact ⟨k + 1, _, by omega, by go_num, H1.out, HS.out, HK.out.trans HKQ.out, HI2.out, HE3.out⟩
        case measure => simp [intOf]; omega
    · have hke : k = n := by omega
      have hkz : ¬ (k : Int) < (n : Int) := by omega
      have HE2 := Lib.hid HE.out
      rw [hke, HN.out, List.drop_length] at HE2
      clear hke HE
      go_wp2
      exact HNO.out st1 _ HE2.out HR.out HK.out
end Go.Proofs.YtnkepdeegpampaaGreatDoor
