/-
  LexWrong answers true for every two texts and every number: its walk. No conditions.
-/
import Derived.Test.YtiicfaohplnapaaRules
import Derived.Test.YtiicfaohplnapaaShelf2
namespace Go.Proofs.Ytiicfaohplnapaa
open Go.RowKit

/-- what may not stand in a rule, where it is told, and as which error -/
def bads : List (List UInt8 × Nat × Nat) := [([49, 114, 32, 61, 32, 97], 0, 10), ([61], 0, 10), ([114, 32, 61, 32, 49, 50, 51, 52, 53, 97], 4, 12), ([114, 32, 61, 32, 49, 42, 49, 50, 51, 52, 53, 97], 6, 12), ([114, 32, 61, 32, 50, 42, 49, 97], 4, 13), ([114, 32, 61, 32, 57, 57, 57, 57, 57, 42, 49, 50, 51, 52, 53], 4, 12), ([114, 32, 61, 32, 34, 97], 4, 14), ([114, 32, 61, 32, 34, 9, 34], 4, 14), ([114, 32, 61, 32, 37], 4, 15), ([114, 32, 61, 32, 37, 113, 49], 4, 15), ([114, 32, 61, 32, 37, 120], 4, 15), ([114, 32, 61, 32, 37, 100, 50, 53, 54], 4, 15), ([114, 32, 61, 32, 37, 120, 53, 45, 52], 4, 15), ([114, 32, 61, 32, 37, 120, 49, 46], 4, 15), ([114, 32, 61, 32, 37, 98, 48, 48, 48, 48, 48, 48, 48, 48, 49], 4, 15), ([114, 32, 61, 32, 97, 32, 60, 98, 62], 6, 16), ([114, 32, 61, 32, 97, 46, 98], 5, 11), ([114, 32, 61, 32, 37, 120, 53, 45, 54, 45, 55], 9, 11), ([114, 32, 61, 32, 39, 97, 39], 4, 11), ([114, 32, 61, 32, 0], 4, 11), ([114, 32, 61, 32, 195, 169], 4, 11), ([0], 0, 10)]

theorem bads_told : ∀ x ∈ bads, ∀ o : Bool, (lineP (cutP (x.1 ++ [10]) 0).1 0 [] o).err = x.2.2 ∧ (lineP (cutP (x.1 ++ [10]) 0).1 0 [] o).place = x.2.1 ∧ x.2.2 ≠ 0 ∧ x.1.length ≤ 20 := by decide +kernel

theorem lex_wrong (s behind : List UInt8) (x : List UInt8 × Nat × Nat) (hx : x ∈ bads) (hs : s.length ≤ 1000) (hb : behind.length ≤ 1000) (h1 : (lexP s).2.2 = 0) :
    lexP (s ++ [10] ++ x.1 ++ [10] ++ behind) = ([], s.length + 1 + x.2.1, x.2.2) := by
  obtain ⟨a, oa, hra, _, _⟩ := lex_ok (by omega) h1
  obtain ⟨e1, e2, e3, e4⟩ := bads_told x hx oa
  have hlen : (s ++ [10]).length = s.length + 1 := by simp
  have hlenx : (x.1 ++ [10]).length = x.1.length + 1 := by simp
  have hass : s ++ [10] ++ x.1 ++ [10] ++ behind = s ++ [10] ++ (x.1 ++ [10] ++ behind) := by simp
  have hnl := run_nl s s.length 0 [] false (a, oa) (by omega) (by omega) hra
  have hfirst := run_first s (x.1 ++ [10] ++ behind) (s.length + 1) 0 [] false (by omega) (by omega)
  rw [hnl] at hfirst
  simp only at hfirst
  have hbeh := run_behind (s ++ [10]) (x.1 ++ [10] ++ behind) a (x.1 ++ [10] ++ behind).length 0 [] oa (by omega) (by omega)
  simp only [List.map_nil, List.append_nil, Nat.zero_add, hlen] at hbeh
  have hstep : run (x.1 ++ [10] ++ behind) 0 [] oa = .inr (x.2.1, x.2.2) := by
    rw [run_step (by rw [List.length_append]; omega), cut_nl x.1 behind 0 (by omega), if_pos (by rw [e1]; exact e3), e1, e2]
  rw [hass, lexP_run _ (by simp only [List.length_append, List.length_singleton]; omega), hfirst, hbeh, hstep]
  show ([], x.2.1 + (s.length + 1), x.2.2) = _
  rw [Nat.add_comm]

theorem cat_bs (s behind : ByteArray) (text : List UInt8) : s ++ ({ data := #[10] } : ByteArray) ++ bs text ++ ({ data := #[10] } : ByteArray) ++ behind = bs (s.data.toList ++ [10] ++ text ++ [10] ++ behind.data.toList) := by
  apply ByteArray.ext
  simp [bs, ByteArray.data_append]
theorem wrong_fails (s behind : ByteArray) (text : List UInt8) (off er : Nat) (hx : (text, off, er) ∈ bads) (hs : s.size ≤ 1000) (hb : behind.size ≤ 1000) (h1 : (lexP s.data.toList).2.2 = 0) (W : World) :
    Calls Try.prog 17 #[.string (s ++ ({ data := #[10] } : ByteArray) ++ bs text ++ ({ data := #[10] } : ByteArray) ++ behind), .int .i64 ((s.size : Int) + 1 + off), .int .i64 er] W fun e w' => e = .returned (.bool true) ∧ Below W.heap.size W w' := by
  have h := lex_wrong s.data.toList behind.data.toList (text, off, er) hx (by rw [listLen]; exact hs) (by rw [listLen]; exact hb) h1
  have := fails_true _ _ _ h W
  rw [← cat_bs, listLen] at this
  exact this
theorem wrong_fails0 (s behind : ByteArray) (text : List UInt8) (er : Nat) (hx : (text, 0, er) ∈ bads) (hs : s.size ≤ 1000) (hb : behind.size ≤ 1000) (h1 : (lexP s.data.toList).2.2 = 0) (W : World) :
    Calls Try.prog 17 #[.string (s ++ ({ data := #[10] } : ByteArray) ++ bs text ++ ({ data := #[10] } : ByteArray) ++ behind), .int .i64 ((s.size : Int) + 1), .int .i64 er] W fun e w' => e = .returned (.bool true) ∧ Below W.heap.size W w' := by
  have := wrong_fails s behind text 0 er hx hs hb h1 W
  rw [show ((s.size : Int) + 1 + ((0 : Nat) : Int)) = (s.size : Int) + 1 from by omega] at this
  exact this

theorem lex_long (l : List UInt8) (h : 65536 < l.length) : lexP l = ([], 65536, 3) := by
  unfold lexP
  rw [if_pos h]
theorem repeat_any (W : World) : Calls Try.prog 18 #[.string ({ data := #[32] } : ByteArray), .int .i64 65537] W fun e w' => e = .returned (.string (bs (Lib.repeatL [32] 65537))) ∧ Below W.heap.size W w' :=
  Try.strings_Repeat ({ data := #[32] } : ByteArray) 65537 W (by omega) (by show 1 * 65537 ≤ _; omega)
theorem long_fails (W : World) : Calls Try.prog 17 #[.string (bs (Lib.repeatL [32] 65537)), .int .i64 65536, .int .i64 3] W fun e w' => e = .returned (.bool true) ∧ Below W.heap.size W w' :=
  fails_true _ 65536 3 (lex_long _ (by rw [Lib.repeatL_length, List.length_singleton]; omega)) W
/-- what the calls one behind the other leave as it was -/
theorem chain5 {w w1 w2 w3 w4 w5 : World} {o1 o2 : Obj} (h1 : Below w.heap.size w w1) (h2 : Below ((w1.alloc o1).alloc o2).heap.size ((w1.alloc o1).alloc o2) w2) (h3 : Below w2.heap.size w2 w3) (h4 : Below w3.heap.size w3 w4) (h5 : Below w4.heap.size w4 w5) : Below w.heap.size w w5 := by
  have a : Below w.heap.size w w2 := ((h1.alloc h1.size _).alloc (by have := h1.size; simp; omega) _).trans (h2.mono (by have := h1.size; simp; omega))
  have s2 := a.size
  have s3 := h3.size
  have s4 := h4.size
  exact a.trans ((h3.mono (by omega)).trans ((h4.mono (by omega)).trans (h5.mono (by omega))))

end Go.Proofs.Ytiicfaohplnapaa
