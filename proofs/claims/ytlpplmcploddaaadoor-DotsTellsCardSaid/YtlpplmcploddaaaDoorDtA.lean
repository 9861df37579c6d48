/-
  The library's functions on bytes, at bytes in memory: where a line's end stands, a dot ahead. Conditions: the bytes lie in memory; the library's MaxLen holds some number.
-/
import Derived.Test.YtlpplmcploddaaaDoorDtP
import Derived.Test.YtlpplmcploddaaaDoorGb
import Derived.Test.YtlpplmcploddaaaDoorShelf
namespace Go.Proofs.YtlpplmcploddaaaDoor
open Go.RowKit Go.Shelf

def numsOf (l : List UInt8) : List Int := l.map fun c => (c.toNat : Int)
theorem nums_len (l : List UInt8) : (numsOf l).length = l.length := List.length_map _
theorem bytes_nums (l : List UInt8) : Lib.bytesOf (numsOf l) = l := by
  unfold Lib.bytesOf numsOf
  rw [List.map_map]
  conv => rhs; rw [← List.map_id l]
  refine List.map_congr_left fun c _ => ?_
  simp
theorem nums_byte (l : List UInt8) : ∀ x ∈ numsOf l, 0 ≤ x ∧ x < 256 := by
  intro x hx
  obtain ⟨c, _, rfl⟩ := List.mem_map.1 hx
  have := c.toNat_lt
  omega
theorem bytesIn {w : World} {a : Option Addr} {l : List UInt8} (h : BytesAt w a l) : Lib.BytesIn w a l.length (numsOf l) := by
  intro h0
  obtain ⟨g, off, e1, e2, e3⟩ := RowAt.row h (by rw [List.length_map]; exact h0)
  refine ⟨g, off, e1, fun i hi => ?_⟩
  rw [e3 i (by rw [List.length_map]; exact hi), List.getElem_map]
  simp [numsOf, byteV, List.getD_eq_getElem?_getD, List.getElem?_eq_getElem hi]
/-- two bytes that a literal lays -/
theorem lit_bytes (W : World) (l : List UInt8) (C : Array Value) (fr : Nat × Nat) (hC : (l.map byteV).toArray = C) (hl : l.length ≤ 100000) : BytesAt (W.alloc (.cells C 5 fr)) (some ⟨W.heap.size, 0, none⟩) l := by
  subst hC
  refine ⟨by rw [List.length_map]; unfold maxLen; omega, fun _ => ⟨W.heap.size, 0, rfl, by rw [World.size_alloc]; omega, fun j hj => ?_⟩⟩
  rw [Nat.zero_add, World.cell?_alloc_mark]
  rw [List.getElem?_toArray]
  exact List.getElem?_eq_getElem hj
/-- what is behind, as the library hands it out -/
def behindA (a : Option Addr) (c k : Nat) : Option Addr := if c = k then a else a.map (fun x => x.add k)
theorem cut_yes (a : Option Addr) (c : Nat) (l r : List UInt8) (n : Nat) (hn : n = (l ++ 13 :: 10 :: r).length) (p2 : Option Addr) (c2 : Nat) (m : Int) (W : World) (h : BytesAt W a (l ++ 13 :: 10 :: r)) (h2 : BytesAt W p2 [13, 10]) (hl : NoEnd l) (hc : n ≤ c) (hs : n < 4294967281) (ha : a = none → c = 0) (hm : W.cell? ⟨0, 0, none⟩ = some (.int .i64 m)) :
    Calls Tryd.prog 22 #[.slice a n c, .slice p2 2 c2] W fun e w' => e = .returned (.tuple #[.slice a l.length c, .slice (behindA a c (l.length + 2)) (n - (l.length + 2)) (c - (l.length + 2)), .bool true]) ∧ ∃ q, w' = W.drewN q := by
  subst hn
  have hb1 := bytesIn h
  have hb2 := bytesIn h2
  have := Tryd.bytes_Cut_all a p2 _ c 2 c2 (numsOf (l ++ 13 :: 10 :: r)) (numsOf [13, 10]) m W (nums_len _) rfl (nums_byte _) (nums_byte _) hb1 hb2 ha hc hs (by omega) hm
  rw [bytes_nums, bytes_nums, index_end hl r] at this
  refine this.mono ?_
  rintro e w' ⟨rfl, hw⟩
  refine ⟨?_, hw⟩
  unfold Lib.cutV Lib.fromV behindA
  rw [if_pos (by omega)]
  simp
theorem cut_no (a : Option Addr) (c : Nat) (l : List UInt8) (n : Nat) (hn : n = l.length) (p2 : Option Addr) (c2 : Nat) (m : Int) (W : World) (h : BytesAt W a l) (h2 : BytesAt W p2 [13, 10]) (hl : NoEnd l) (hc : n ≤ c) (hs : n < 4294967281) (ha : a = none → c = 0) (hm : W.cell? ⟨0, 0, none⟩ = some (.int .i64 m)) :
    Calls Tryd.prog 22 #[.slice a n c, .slice p2 2 c2] W fun e w' => e = .returned (.tuple #[.slice a n c, .slice none 0 0, .bool false]) ∧ ∃ q, w' = W.drewN q := by
  subst hn
  have hb1 := bytesIn h
  have hb2 := bytesIn h2
  have := Tryd.bytes_Cut_all a p2 _ c 2 c2 (numsOf l) (numsOf [13, 10]) m W (nums_len _) rfl (nums_byte _) (nums_byte _) hb1 hb2 ha hc hs (by omega) hm
  rw [bytes_nums, bytes_nums, index_noEnd hl] at this
  exact this
theorem pre_dot (l : List UInt8) : Lib.hasPrefix l [46] = decide (l.head? = some 46) := by
  cases l with
  | nil => rfl
  | cons x r =>
    simp only [Lib.hasPrefix, List.isPrefixOf, List.head?_cons, Option.some.injEq, Bool.and_true]
    by_cases h : x = 46
    · subst h; rfl
    · rw [decide_eq_false h]
      simpa using fun e => h e.symm
theorem prefix_any (a : Option Addr) (c : Nat) (l : List UInt8) (n : Nat) (hn : n = l.length) (p2 : Option Addr) (c2 : Nat) (W : World) (h : BytesAt W a l) (h2 : BytesAt W p2 [46]) (hc : n ≤ c) :
    Calls Tryd.prog 20 #[.slice a n c, .slice p2 1 c2] W fun e w' => e = .returned (.bool (decide (l.head? = some 46))) ∧ w' = W := by
  subst hn
  have := Tryd.bytes_HasPrefix_all a p2 _ c 1 c2 (numsOf l) (numsOf [46]) W (nums_len _) rfl hc (bytesIn h) (bytesIn h2)
  rw [bytes_nums, bytes_nums, pre_dot] at this
  exact this
theorem cutprefix_no (a : Option Addr) (c : Nat) (l : List UInt8) (n : Nat) (hn : n = l.length) (p2 : Option Addr) (c2 : Nat) (W : World) (h : BytesAt W a l) (h2 : BytesAt W p2 [46]) (hc : n ≤ c) (hd : l.head? ≠ some 46) :
    Calls Tryd.prog 19 #[.slice a n c, .slice p2 1 c2] W fun e w' => e = .returned (.tuple #[.slice a n c, .bool false]) ∧ w' = W := by
  subst hn
  have := Tryd.bytes_CutPrefix_all a p2 _ c 1 c2 (numsOf l) (numsOf [46]) W (nums_len _) rfl hc (bytesIn h) (bytesIn h2)
  rw [bytes_nums, bytes_nums, pre_dot, decide_eq_false hd] at this
  have e : Lib.trimPrefixV a l.length c (numsOf l) (numsOf [46]) = .slice a l.length c := by
    unfold Lib.trimPrefixV
    split
    · unfold Lib.bytesTrimPrefix
      rw [bytes_nums, bytes_nums, pre_dot, decide_eq_false hd]
      rfl
    · rfl
  rw [e] at this
  exact this
theorem cutprefix_yes (a : Option Addr) (c : Nat) (r : List UInt8) (n : Nat) (hn : n = r.length + 1) (p2 : Option Addr) (c2 : Nat) (W : World) (h : BytesAt W a (46 :: r)) (h2 : BytesAt W p2 [46]) (hc : n ≤ c) :
    Calls Tryd.prog 19 #[.slice a n c, .slice p2 1 c2] W fun e w' => e = .returned (.tuple #[.slice (behindA a c 1) r.length (c - 1), .bool true]) ∧ w' = W := by
  subst hn
  have := Tryd.bytes_CutPrefix_all a p2 _ c 1 c2 (numsOf (46 :: r)) (numsOf [46]) W (nums_len _) rfl hc (bytesIn h) (bytesIn h2)
  rw [bytes_nums, bytes_nums, pre_dot] at this
  obtain ⟨g, off, rfl, _⟩ := RowAt.row h (by simp)
  have e : Lib.trimPrefixV (some ⟨g, off, none⟩) (46 :: r).length c (numsOf (46 :: r)) (numsOf [46]) = .slice (behindA (some ⟨g, off, none⟩) c 1) r.length (c - 1) := by
    show Lib.bytesTrimPrefix g off _ c (numsOf (46 :: r)) (numsOf [46]) = _
    unfold Lib.bytesTrimPrefix Lib.sliceFrom behindA
    rw [bytes_nums, bytes_nums, pre_dot]
    simp [numsOf, Addr.add_mid]
  rw [e] at this
  simpa using this
/-- what is behind, in memory -/
theorem behind_bytes {W : World} {a : Option Addr} {l : List UInt8} (h : BytesAt W a l) (c k : Nat) (hc : l.length ≤ c) : BytesAt W (behindA a c k) (l.drop k) := by
  refine drop_bytes h k _ fun hk => ?_
  unfold behindA
  rw [if_neg (by omega)]
end Go.Proofs.YtlpplmcploddaaaDoor
