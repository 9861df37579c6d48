/-
  The contract of table.reader.names. Conditions: the reader lies in memory.
-/
import Derived.Test.YtkgfjapflpjdbaaTbP
import Derived.Laws.OwnMore
import Derived.Laws.MakeOwn
import Derived.Laws.IdiomStrings
import Derived.OwnWalk
namespace Go.Proofs.Ytkgfjapflpjdbaa
open Go.RowKit

/-- bytes as a text -/
theorem conv_any (w : World) (a : Option Addr) (l : List UInt8) (c : Nat) (h : BytesAt w a l) : (convert 31 9 (.slice a l.length c)).run Try.prog w = .ok (.string (bs l)) w := by
  by_cases h0 : 0 < l.length
  · obtain ⟨g, off, rfl, _, hc⟩ := RowAt.row h (by simpa using h0)
    refine run_convert_bytes_back (P := Try.prog) w 31 9 5 ⟨g, off, none⟩ c l Try.underlying31 Try.underlying5 Try.underlying9 fun j hj => ?_
    rw [Addr.add_mid, hc j (by simpa using hj), List.getElem_map]
    rfl
  · have hl : l = [] := List.eq_nil_of_length_eq_zero (by omega)
    subst hl
    show (convert 31 9 (.slice a 0 c)).run Try.prog w = _
    rw [run_convert_bytes_string w 31 9 5 _ 0 c Try.underlying31 Try.underlying5 Try.underlying9]
    cases a <;> simp [Conv.bytesToString, loadCells]
    all_goals rfl
/-- a reader where another block has changed -/
theorem RdIn.other {w w' : World} {R G : Nat} {l : List UInt8} {a : Option Addr} {c : Nat} {s : Rs} (h : RdIn w R l a c s) (ho : Only G w w') (hR : R ≠ G) (ha : 0 < l.length → ∀ x, a = some x → x.block ≠ G) : RdIn w' R l a c s :=
  ⟨ho.blk h.blk hR, RowAt.only h.bytes ho (fun h0 => ha (by simpa using h0)), h.cap, h.capm, h.le, h.apart⟩
theorem Only.set_new {R : Nat} {a w : World} (h : Only R a w) (g j : Nat) (v : Value) (hg : a.heap.size ≤ g) : Only R a (w.setCell ⟨g, j, none⟩ v) :=
  ⟨h.os, h.tape, h.output, by have := h.size; simpa [World.setCell] using this, fun k hk hne => (heap_setCell_other w ⟨g, j, none⟩ k v (by show k ≠ g; omega)).trans (h.block k hk hne)⟩
/-- names, one behind the other -/
def namesR (l : List UInt8) : Nat → Rs → List (List UInt8) × Rs
  | 0, s => ([], s)
  | m + 1, s => let x := namesR l m s; let n := numP l x.2 1; let b := someP l n.2 n.1; (x.1 ++ [b.1], b.2)
theorem namesR_len (l : List UInt8) (s : Rs) : ∀ m, (namesR l m s).1.length = m
  | 0 => rfl
  | m + 1 => by simp [namesR, namesR_len l s m]
/-- a row that is being filled -/
structure NameRow (cs : Array Value) (ns : List (List UInt8)) (many : Nat) : Prop where
  size : cs.size = many
  cells : ∀ j, (h : j < ns.length) → cs[j]? = some (textV ns[j])
theorem NameRow.put {cs : Array Value} {ns : List (List UInt8)} {many : Nat} (h : NameRow cs ns many) (b : List UInt8) (hk : ns.length < many) : NameRow (cs.setIfInBounds ns.length (textV b)) (ns ++ [b]) many := by
  refine ⟨by simp [h.size], fun j hj => ?_⟩
  rw [List.length_append, List.length_singleton] at hj
  by_cases e : j = ns.length
  · subst e
    rw [Array.getElem?_setIfInBounds_self_of_lt (by rw [h.size]; exact hk)]
    simp
  · rw [Array.getElem?_setIfInBounds_ne (by omega), h.cells j (by omega), List.getElem_append_left (by omega)]
theorem info9 : (Try.prog.info? 9).map (fun i => (i.zero, i.size, i.bytes)) = some (some (.string ⟨#[]⟩), 1, 16) := by kernel_rfl
set_option maxHeartbeats 2000000 in
theorem names_any (w : World) (R : Nat) (l : List UInt8) (a : Option Addr) (c : Nat) (s : Rs) (m : Nat) (hm : m ≤ 255) (h : RdIn w R l a c s) :
    Calls Try.prog 40 #[.pointer (some ⟨R, 0, none⟩), .int .i64 (m : Int)] w fun e w' => ∃ a', e = .returned (.slice a' m m) ∧ Only R w w' ∧ RdIn w' R l a c (namesR l m s).2 ∧ TextsAt w' a' (namesR l m s).1 ∧ (∀ x, a' = some x → w.heap.size ≤ x.block) := by
  obtain ⟨i0, hi0, hz0, hz1, hz2⟩ := info_parts info9
  have hRl := h.blk.lt
  have hmake := run_make (P := Try.prog) w 28 9 i0 (.string ⟨#[]⟩) Try.underlying28 hi0 hz0 .i64 .i64 (m : Int) (m : Int) (by omega) (Int.le_refl _) (by rw [hz2]; omega) (by omega)
  rw [Int.toNat_natCast, hz1, Nat.mul_one] at hmake
  obtain ⟨cs0, hcs0⟩ : ∃ cs0, madeCells (Value.string ⟨#[]⟩).cells m = cs0 := ⟨_, rfl⟩
  have hsz0 : cs0.size = m := by rw [← hcs0]; exact size_madeCells _ _
  rw [hcs0] at hmake
  have HN0 : Hid (NameRow cs0 [] m) := ⟨hsz0, fun j hj => by simp at hj⟩
  have HAG : Hid (0 < l.length → ∀ x, a = some x → x.block ≠ w.heap.size) := fun h0 x hx => by
    obtain ⟨g, off, h1, h2, _⟩ := RowAt.row h.bytes (by simpa using h0)
    rw [hx] at h1
    injection h1 with h1
    rw [h1]
    show g ≠ w.heap.size
    omega
  have HNL := Lib.hid (namesR_len l s)
  have HR0 : Hid (RdIn (w.alloc (.cells cs0 9)) R l a c s) := h.later ((Below.refl _ _).alloc (Nat.le_refl _) _)
  have HB0 : Hid (Blk (w.alloc (.cells cs0 9)) w.heap.size 9 cs0) := Blk.new _ _ _
  have HO0 : Hid (Only R w (w.alloc (.cells cs0 9))) := (Only.refl R w).alloc _
  have HRG : Hid (R ≠ w.heap.size) := by show _ ≠ _; omega
  have HNS : Hid (∀ k, namesR l (k + 1) s = ((namesR l k s).1 ++ [(someP l (numP l (namesR l k s).2 1).2 (numP l (namesR l k s).2 1).1).1], (someP l (numP l (namesR l k s).2 1).2 (numP l (namesR l k s).2 1).1).2)) := fun k => rfl
  have hcv := conv_any
  have HCV := Lib.hid hcv
  clear h hcs0 hcv hRl
  go_enter Try.func40, Try.ntmps40
  go_wp2
  go_loopw [11] (fun i wr => ∃ (k : Nat) (cs : Array Value), i = .int .i64 k ∧ k ≤ m ∧ Hid (NameRow cs (namesR l k s).1 m) ∧ Hid (RdIn wr R l a c (namesR l k s).2) ∧ Hid (Blk wr w.heap.size 9 cs) ∧ Hid (Only R w wr)) (fun i _ => m - (intOf i).toNat)
  case atStart => exact ⟨0, cs0, rfl, Nat.zero_le _, HN0, HR0, HB0, HO0⟩
  case round =>
    obtain ⟨k, cs, rfl, hk, HN, HRD, HBK, HON⟩ := hrel
    by_cases hlt : k < m
    · have HC1 := Lib.hid (number_any wr R l a c _ 1 (by omega) HRD.out)
      have HS1 := Lib.hid (numP_lt l (namesR l k s).2 1)
      have HSN := Lib.hid (HNS.out k)
      have HKL := Lib.hid (HNL.out k)
      generalize namesR l k s = x at *
      generalize hne : numP l x.2 1 = n at *
      have HNE := Lib.hid hne
      clear hne
      have HC2 : Hid (∀ w2, RdIn w2 R l a c n.2 → Calls Try.prog 38 #[.pointer (some ⟨R, 0, none⟩), .int .i64 (n.1 : Int)] w2 fun e w' => ∃ a' c', e = .returned (.slice a' (someP l n.2 n.1).1.length c') ∧ Some_ w2 R l a c n.2 n.1 a' c' w') := fun w2 h2 => some_any w2 R l a c n.2 n.1 (by have := HS1.out; unfold maxLen; omega) h2
      generalize hbe : someP l n.2 n.1 = b at *
      have HBE := Lib.hid hbe
      clear hbe
      have hk0 : (0 : Int) ≤ k := by omega
      have hlt' : (k : Int) < m := by omega
      go_wp2_with (first
        | (go_at_call 39; refine HC1.out.mono ?_; rintro e w2 ⟨rfl, ho2, hr2⟩; have HO2 := Lib.hid ho2; have HR2 := Lib.hid hr2; clear ho2 hr2)
        | (go_at_call 38; refine (HC2.out _ HR2.out).mono ?_; rintro e w3 ⟨a3, c3, rfl, hs3⟩; have HS3 := Lib.hid hs3; clear hs3; have hcv3 : (convert 31 9 (.slice a3 b.1.length c3)).run Try.prog w3 = .ok (.string (bs b.1)) w3 := HCV.out w3 a3 b.1 c3 (by have := HS3.out.bytes; rw [HBE.out] at this; exact this); have hBK3 : Blk w3 w.heap.size 9 cs := HS3.out.only.blk (HO2.out.blk HBK.out HRG.out.symm) HRG.out.symm; have hcell3 : w3.cell? ⟨w.heap.size, k, none⟩ = some (cs[k]'(by have := HN.out.size; omega)) := (hBK3.cell k).trans (Array.getElem?_eq_getElem _); have hfr3 := hBK3.frozen k; have HBK3 := Lib.hid hBK3; clear hBK3))
      have HV : Hid (Value.string (bs b.1) = textV b.1) := show _ = _ from rfl
      have HR4 : Hid (RdIn (w3.setCell ⟨w.heap.size, k, none⟩ (.string (bs b.1))) R l a c b.2) := by
        have := HS3.out.rd
        rw [HBE.out] at this
        exact this.other ((Only.refl _ _).set_ k _) HRG.out HAG.out
      have HN4 : Hid (NameRow (cs.setIfInBounds k (.string (bs b.1))) (x.1 ++ [b.1]) m) := by
        have := HN.out.put b.1 (by rw [HKL.out]; exact hlt)
        rw [HKL.out] at this
        exact this
      have HB4 : Hid (Blk (w3.setCell ⟨w.heap.size, k, none⟩ (.string (bs b.1))) w.heap.size 9 (cs.setIfInBounds k (.string (bs b.1)))) := HBK3.out.set_ k _
      have HO4 : Hid (Only R w (w3.setCell ⟨w.heap.size, k, none⟩ (.string (bs b.1)))) := ((HON.out.trans HO2.out).trans HS3.out.only).set_new _ _ _ (Nat.le_refl _)
      go_roundw
      case rel => exact ⟨k + 1, _, by go_num, by omega, by rw [HSN.out]; exact HN4, by rw [HSN.out]; exact HR4, HB4, HO4⟩
      case measure => simp [intOf]; omega
    · have hkm : k = m := by omega
      rw [hkm] at HN HRD
      clear hkm
      have hlt' : ¬ (k : Int) < m := by omega
      go_wp2
      go_ret
      refine ⟨_, rfl, HON.out, HRD.out, ?_, fun x hx => by injection hx with hx; rw [← hx]; exact Nat.le_refl _⟩
      refine ⟨by rw [List.length_map, HNL.out]; unfold maxLen; omega, fun h0 => ⟨w.heap.size, 0, rfl, HBK.out.lt, fun j hj => ?_⟩⟩
      rw [Nat.zero_add, HBK.out.cell j, List.getElem_map]
      exact HN.out.cells j (by simpa using hj)
end Go.Proofs.Ytkgfjapflpjdbaa
