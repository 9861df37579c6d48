/-
  frankinglaw12's examples (awake) come out true. No conditions.
-/
import Derived.Test.YtdgkedbnokdnfaaFrQ
import Derived.Lib.SmallJoins
import Derived.Outline
namespace Go.Proofs.Ytdgkedbnokdnfaa
open Go.RowKit

/-- bytes that a literal lays, whatever its mark -/
theorem lit_bytes (W : World) (l : List UInt8) (C : Array Value) (fr : Nat × Nat) (hC : (l.map byteV).toArray = C) (hl : l.length ≤ 100000) : BytesAt (W.alloc (.cells C 5 fr)) (some ⟨W.heap.size, 0, none⟩) l := by
  subst hC
  refine ⟨by rw [List.length_map]; unfold maxLen; omega, fun _ => ⟨W.heap.size, 0, rfl, by rw [World.size_alloc]; omega, fun j hj => ?_⟩⟩
  rw [Nat.zero_add, World.cell?_alloc_mark]
  rw [List.getElem?_toArray]
  exact List.getElem?_eq_getElem hj
/-- lines that a literal lays -/
theorem lit_lines (W : World) (ls : List LnP) (C : Array Value) (hC : (linCells ls).toArray = C) (hl : ls.length ≤ 100000) : RowAt (W.alloc (.cells C 35)) (some ⟨W.heap.size, 0, none⟩) (linCells ls) := by
  subst hC
  refine ⟨by rw [linCells_len]; unfold maxLen; omega, fun _ => ⟨W.heap.size, 0, rfl, by rw [World.size_alloc]; omega, fun j hj => ?_⟩⟩
  rw [Nat.zero_add, (Blk.new W 35 (linCells ls).toArray).cell j]
  rw [List.getElem?_toArray]
  exact List.getElem?_eq_getElem hj
def awB1 : List UInt8 := [97, 98, 13, 10, 99, 100, 101, 102, 103, 104, 13]
def awT1 : List UInt8 := [99, 100, 101, 102, 103, 104, 13]
theorem aw1 : rawP [] awB1 = (awT1, [[97, 98]]) := by decide +kernel
theorem aw2 : rawP awT1 [10] = ([], [[99, 100, 101, 102, 103, 104]]) := by decide +kernel
theorem aw3 : rawP [] [13, 13, 10] = ([], [[13]]) := by decide +kernel
theorem awF1 : frT 4 awT1 = #[.int .i64 4, .string ⟨#[99, 100, 101, 102]⟩, .bool true, .bool true] := by kernel_rfl
theorem awF0 : frT 4 [] = #[.int .i64 4, .string ⟨#[]⟩, .bool false, .bool false] := by kernel_rfl
/-- the contract of Push, in the examples' words -/
theorem push_at (m : Nat) (t : List UInt8) (C : Array Value) (hC : frT m t = C) (b : List UInt8) (n : Nat) (hn : b.length = n) (t2 : List UInt8) (l2 : List (List UInt8)) (hr : rawP t b = (t2, l2)) (C2 : Array Value) (hC2 : frT m t2 = C2) (hm : m ≤ 100000) (hb : n ≤ 100000) (a : Option Addr) (c : Nat) (w : World) (h : BytesAt w a b) :
    Calls Try.prog 16 #[.agg C, .slice a n c] w fun e W' => ∃ A c', e = .returned (.tuple #[.agg C2, .slice A l2.length c']) ∧ RowAt W' A (linCells (l2.map (lineP m))) ∧ Below w.heap.size w W' ∧ ∀ x, A = some x → w.heap.size ≤ x.block := by
  subst hC hn hC2
  refine (push_any m t a b c w h hm hb).mono ?_
  rintro e W' ⟨vl, rfl, ho, hb2⟩
  rw [hr] at ho ⊢
  obtain ⟨A, c', rfl, hA⟩ := own_form ho
  refine ⟨A, c', rfl, row_of_own ho ?_, hb2, hA⟩
  rw [linCells_len, List.length_map]
  have := rawP_few b t
  rw [hr] at this
  simp only at this
  unfold maxLen
  omega
/-- lines that are told, and a literal of the same ones -/
theorem same_lit (W : World) (A : Option Addr) (c k : Nat) (ls : List LnP) (hk : ls.length = k) (C : Array Value) (hC : (linCells ls).toArray = C) (hA : RowAt W A (linCells ls)) (hk2 : k ≤ 100) :
    Calls Try.prog 9 #[.slice A k c, .slice (some ⟨W.heap.size, 0, none⟩) k k] (W.alloc (.cells C 35)) fun e w' => e = .returned (.bool true) ∧ Below W.heap.size W w' := by
  subst hk
  refine (same_eq A _ c ls.length ls _ (RowAt.below hA ((Below.refl _ _).alloc (Nat.le_refl _) _)) (lit_lines W ls C hC (by omega)) (by omega)).mono ?_
  rintro e w' ⟨rfl, m, rfl⟩
  exact ⟨rfl, below_drewN ((Below.refl _ _).alloc (Nat.le_refl _) _) m⟩
set_option maxRecDepth 100000 in
set_option maxHeartbeats 4000000 in
theorem awake_any (w : World) : Calls Try.prog 7 #[] w fun e w' => e = .returned (.bool true) ∧ Below w.heap.size w w' := by
  have hN := new_yes 4 (by decide) (by decide) w
  rw [show frCells (4 : Nat) [] false false = #[.int .i64 4, .string ⟨#[]⟩, .bool false, .bool false] from by kernel_rfl, show ((4 : Nat) : Int) = 4 from rfl] at hN
  go_enter Try.func7, Try.ntmps7
  go_wp2_with (go_at_call 15; refine hN.mono ?_)
  rintro e w1 ⟨rfl, hb1⟩
  go_upto_region 2 with (fail)
  have hF1 : Blk (w1.alloc (.cells #[.int .i64 4, .string ⟨#[]⟩, .bool false, .bool false] 26)) w1.heap.size 26 #[.int .i64 4, .string ⟨#[]⟩, .bool false, .bool false] := Blk.new _ _ _
  have hL1 : Below w.heap.size w (w1.alloc (.cells #[.int .i64 4, .string ⟨#[]⟩, .bool false, .bool false] 26)) := hb1.alloc hb1.size _
  have HFW : Hid (w.heap.size ≤ w1.heap.size) := hb1.size
  generalize w1.alloc (.cells #[.int .i64 4, .string ⟨#[]⟩, .bool false, .bool false] 26) = W1 at *
  generalize w1.heap.size = f1 at *
  clear hb1
  have hcv := Joins.run_convert_bytes_const_at (P := Try.prog) W1 23 5 #[.int .u8 97, .int .u8 98, .int .u8 13, .int .u8 10, .int .u8 99, .int .u8 100, .int .u8 101, .int .u8 102, .int .u8 103, .int .u8 104, .int .u8 13] 11 11 W1.heap.size rfl Try.underlying23 Try.underlying5
  have hP := push_at 4 [] #[.int .i64 4, .string ⟨#[]⟩, .bool false, .bool false] awF0 [97, 98, 13, 10, 99, 100, 101, 102, 103, 104, 13] 11 rfl awT1 [[97, 98]] aw1 #[.int .i64 4, .string ⟨#[99, 100, 101, 102]⟩, .bool true, .bool true] awF1 (by omega) (by omega) (some ⟨W1.heap.size, 0, none⟩) 11 (W1.alloc (.cells #[.int .u8 97, .int .u8 98, .int .u8 13, .int .u8 10, .int .u8 99, .int .u8 100, .int .u8 101, .int .u8 102, .int .u8 103, .int .u8 104, .int .u8 13] 5 (11, 12))) (lit_bytes W1 [97, 98, 13, 10, 99, 100, 101, 102, 103, 104, 13] #[.int .u8 97, .int .u8 98, .int .u8 13, .int .u8 10, .int .u8 99, .int .u8 100, .int .u8 101, .int .u8 102, .int .u8 103, .int .u8 104, .int .u8 13] (11, 12) (by kernel_rfl) (by decide))
  have hbW1 : Below W1.heap.size W1 (W1.alloc (.cells #[.int .u8 97, .int .u8 98, .int .u8 13, .int .u8 10, .int .u8 99, .int .u8 100, .int .u8 101, .int .u8 102, .int .u8 103, .int .u8 104, .int .u8 13] 5 (11, 12))) := (Below.refl _ _).alloc (Nat.le_refl _) _
  have HbW := Lib.hid hbW1
  clear hbW1
  rw [show (([[97, 98]] : List (List UInt8)).length) = 1 from rfl] at hP
  have HP := Lib.hid hP
  have HF1 := Lib.hid hF1
  have HL1 := Lib.hid hL1
  have ac0 := hF1.cell 0
  have ac1 := hF1.cell 1
  have ac2 := hF1.cell 2
  have ac3 := hF1.cell 3
  have az0 := hF1.frozen 0
  have az1 := hF1.frozen 1
  have az2 := hF1.frozen 2
  have az3 := hF1.frozen 3
  simp at ac0 ac1 ac2 ac3
  clear hP hF1 hL1
  go_wp2_with (go_at_call 16; refine HP.out.mono ?_)
  rintro e w3 ⟨A1, c1, rfl, hr1, hb3, hA1⟩
  have HA1 : Hid (∀ x, A1 = some x → W1.heap.size ≤ x.block) := fun x hx => by have := hA1 x hx; rw [World.size_alloc] at this; omega
  clear hA1
  clear HP hcv ac0 az0 ac1 az1 ac2 az2 ac3 az3
  have hb3' : Below W1.heap.size W1 w3 := low_trans HbW.out hb3
  have hF3 := HF1.out.below hb3' HF1.out.lt
  have bc0 := hF3.cell 0
  have bc1 := hF3.cell 1
  have bc2 := hF3.cell 2
  have bc3 := hF3.cell 3
  have bz0 := hF3.frozen 0
  have bz1 := hF3.frozen 1
  have bz2 := hF3.frozen 2
  have bz3 := hF3.frozen 3
  simp at bc0 bc1 bc2 bc3
  go_upto_region 3 with (fail)
  have ho := ((((Only.refl f1 w3).set_ 0 (.int .i64 4)).set_ 1 (.string ⟨#[99, 100, 101, 102]⟩)).set_ 2 (.bool true)).set_ 3 (.bool true)
  have hF4 : Blk ((((w3.setCell ⟨f1, 0, none⟩ (.int .i64 4)).setCell ⟨f1, 1, none⟩ (.string ⟨#[99, 100, 101, 102]⟩)).setCell ⟨f1, 2, none⟩ (.bool true)).setCell ⟨f1, 3, none⟩ (.bool true)) f1 26 #[.int .i64 4, .string ⟨#[99, 100, 101, 102]⟩, .bool true, .bool true] := (((hF3.set_ 0 _).set_ 1 _).set_ 2 _).set_ 3 _
  have hA4 := RowAt.only hr1 ho (fun _ x hx => by have := HA1.out x hx; have := HF1.out.lt; omega)
  have hL4 : Below w.heap.size w ((((w3.setCell ⟨f1, 0, none⟩ (.int .i64 4)).setCell ⟨f1, 1, none⟩ (.string ⟨#[99, 100, 101, 102]⟩)).setCell ⟨f1, 2, none⟩ (.bool true)).setCell ⟨f1, 3, none⟩ (.bool true)) := ((((HL1.out.trans (hb3'.mono HL1.out.size)).setCell (p := ⟨f1, 0, none⟩) HFW.out _).setCell (p := ⟨f1, 1, none⟩) HFW.out _).setCell (p := ⟨f1, 2, none⟩) HFW.out _).setCell (p := ⟨f1, 3, none⟩) HFW.out _
  clear ho hF3 hr1 hb3 hb3' HL1 HF1 HA1 HbW bc0 bz0 bc1 bz1 bc2 bz2 bc3 bz3
  generalize (((w3.setCell ⟨f1, 0, none⟩ (.int .i64 4)).setCell ⟨f1, 1, none⟩ (.string ⟨#[99, 100, 101, 102]⟩)).setCell ⟨f1, 2, none⟩ (.bool true)).setCell ⟨f1, 3, none⟩ (.bool true) = W3 at *
  have hcv := Joins.run_convert_bytes_const_at (P := Try.prog) W3 23 5 #[.int .u8 10] 1 1 W3.heap.size rfl Try.underlying23 Try.underlying5
  have hP := push_at 4 awT1 #[.int .i64 4, .string ⟨#[99, 100, 101, 102]⟩, .bool true, .bool true] awF1 [10] 1 rfl [] [[99, 100, 101, 102, 103, 104]] aw2 #[.int .i64 4, .string ⟨#[]⟩, .bool false, .bool false] awF0 (by omega) (by omega) (some ⟨W3.heap.size, 0, none⟩) 1 (W3.alloc (.cells #[.int .u8 10] 5 (1, 2))) (lit_bytes W3 [10] #[.int .u8 10] (1, 2) (by kernel_rfl) (by decide))
  rw [show (([[99, 100, 101, 102, 103, 104]] : List (List UInt8)).length) = 1 from rfl] at hP
  have HbW : Hid (Below W3.heap.size W3 (W3.alloc (.cells #[.int .u8 10] 5 (1, 2)))) := (Below.refl _ _).alloc (Nat.le_refl _) _
  have HP := Lib.hid hP
  have HF4 := Lib.hid hF4
  have HA4 := Lib.hid hA4
  have HL4 := Lib.hid hL4
  have dc0 := hF4.cell 0
  have dc1 := hF4.cell 1
  have dc2 := hF4.cell 2
  have dc3 := hF4.cell 3
  have dz0 := hF4.frozen 0
  have dz1 := hF4.frozen 1
  have dz2 := hF4.frozen 2
  have dz3 := hF4.frozen 3
  simp at dc0 dc1 dc2 dc3
  clear hP hF4 hA4 hL4
  go_wp2_with (go_at_call 16; refine HP.out.mono ?_)
  rintro e w5 ⟨A2, c2, rfl, hr2, hb5, -⟩
  clear HP hcv dc0 dz0 dc1 dz1 dc2 dz2 dc3 dz3
  have hb' : Below W3.heap.size W3 w5 := low_trans HbW.out hb5
  go_upto_region 4 with (fail)
  have hbA : Below W3.heap.size W3 (w5.alloc (.cells #[.int .i64 4, .string ⟨#[]⟩, .bool false, .bool false] 26)) := hb'.alloc hb'.size _
  have hF6 : Blk (w5.alloc (.cells #[.int .i64 4, .string ⟨#[]⟩, .bool false, .bool false] 26)) f1 26 #[.int .i64 4, .string ⟨#[99, 100, 101, 102]⟩, .bool true, .bool true] := HF4.out.below hbA HF4.out.lt
  have hG6 : Blk (w5.alloc (.cells #[.int .i64 4, .string ⟨#[]⟩, .bool false, .bool false] 26)) w5.heap.size 26 #[.int .i64 4, .string ⟨#[]⟩, .bool false, .bool false] := Blk.new _ _ _
  have hA6 := RowAt.below HA4.out hbA
  have hB6 := RowAt.below hr2 ((Below.refl w5.heap.size w5).alloc (Nat.le_refl _) (.cells #[.int .i64 4, .string ⟨#[]⟩, .bool false, .bool false] 26))
  have hL6 := low_trans HL4.out hbA
  clear HbW HF4 HA4 HL4 hbA hb' hb5 hr2
  generalize w5.alloc (.cells #[.int .i64 4, .string ⟨#[]⟩, .bool false, .bool false] 26) = W5 at *
  generalize w5.heap.size = g1 at *
  have hcv := Joins.run_convert_bytes_const_at (P := Try.prog) W5 23 5 #[.int .u8 13, .int .u8 13, .int .u8 10] 3 3 W5.heap.size rfl Try.underlying23 Try.underlying5
  have hP := push_at 4 [] #[.int .i64 4, .string ⟨#[]⟩, .bool false, .bool false] awF0 [13, 13, 10] 3 rfl [] [[13]] aw3 #[.int .i64 4, .string ⟨#[]⟩, .bool false, .bool false] awF0 (by omega) (by omega) (some ⟨W5.heap.size, 0, none⟩) 3 (W5.alloc (.cells #[.int .u8 13, .int .u8 13, .int .u8 10] 5 (3, 4))) (lit_bytes W5 [13, 13, 10] #[.int .u8 13, .int .u8 13, .int .u8 10] (3, 4) (by kernel_rfl) (by decide))
  rw [show (([[13]] : List (List UInt8)).length) = 1 from rfl] at hP
  have HbW : Hid (Below W5.heap.size W5 (W5.alloc (.cells #[.int .u8 13, .int .u8 13, .int .u8 10] 5 (3, 4)))) := (Below.refl _ _).alloc (Nat.le_refl _) _
  have HP := Lib.hid hP
  have HG6 := Lib.hid hG6
  have HF6 := Lib.hid hF6
  have HA6 := Lib.hid hA6
  have HB6 := Lib.hid hB6
  have HL6 := Lib.hid hL6
  have kc0 := hG6.cell 0
  have kc1 := hG6.cell 1
  have kc2 := hG6.cell 2
  have kc3 := hG6.cell 3
  have kz0 := hG6.frozen 0
  have kz1 := hG6.frozen 1
  have kz2 := hG6.frozen 2
  have kz3 := hG6.frozen 3
  simp at kc0 kc1 kc2 kc3
  clear hP hG6 hF6 hA6 hB6 hL6
  go_wp2_with (go_at_call 16; refine HP.out.mono ?_)
  rintro e w7 ⟨A3, c3, rfl, hr3, hb7, -⟩
  clear HP hcv kc0 kz0 kc1 kz1 kc2 kz2 kc3 kz3
  have hb' : Below W5.heap.size W5 w7 := low_trans HbW.out hb7
  go_upto_region 5 with (fail)
  have hbA : Below W5.heap.size W5 (w7.alloc (.cells #[.int .i64 4, .string ⟨#[]⟩, .bool false, .bool false] 26)) := hb'.alloc hb'.size _
  have hF8 : Blk (w7.alloc (.cells #[.int .i64 4, .string ⟨#[]⟩, .bool false, .bool false] 26)) f1 26 #[.int .i64 4, .string ⟨#[99, 100, 101, 102]⟩, .bool true, .bool true] := HF6.out.below hbA HF6.out.lt
  have hH8 : Blk (w7.alloc (.cells #[.int .i64 4, .string ⟨#[]⟩, .bool false, .bool false] 26)) w7.heap.size 26 #[.int .i64 4, .string ⟨#[]⟩, .bool false, .bool false] := Blk.new _ _ _
  have hA8 := RowAt.below HA6.out hbA
  have hB8 := RowAt.below HB6.out hbA
  have hC8 := RowAt.below hr3 ((Below.refl w7.heap.size w7).alloc (Nat.le_refl _) (.cells #[.int .i64 4, .string ⟨#[]⟩, .bool false, .bool false] 26))
  have hL8 := low_trans HL6.out hbA
  clear HbW HF6 HG6 HA6 HB6 HL6 hbA hb' hb7 hr3
  generalize w7.alloc (.cells #[.int .i64 4, .string ⟨#[]⟩, .bool false, .bool false] 26) = W7 at *
  generalize w7.heap.size = h1 at *
  have hN := new_no 0 (by omega) W7
  rw [show frCells 0 [] false false = #[.int .i64 0, .string ⟨#[]⟩, .bool false, .bool false] from by kernel_rfl] at hN
  go_wp2_with (go_at_call 15; refine hN.mono ?_)
  rintro e w8 ⟨rfl, hb'⟩
  clear hN
  go_upto_region 6 with (fail)
  have hbA : Below W7.heap.size W7 (w8.alloc (.cells #[.int .i64 0, .string ⟨#[]⟩, .bool false, .bool false] 26)) := hb'.alloc hb'.size _
  have hF9 : Blk (w8.alloc (.cells #[.int .i64 0, .string ⟨#[]⟩, .bool false, .bool false] 26)) f1 26 #[.int .i64 4, .string ⟨#[99, 100, 101, 102]⟩, .bool true, .bool true] := hF8.below hbA hF8.lt
  have hH9 : Blk (w8.alloc (.cells #[.int .i64 0, .string ⟨#[]⟩, .bool false, .bool false] 26)) h1 26 #[.int .i64 4, .string ⟨#[]⟩, .bool false, .bool false] := hH8.below hbA hH8.lt
  have hA9 := RowAt.below hA8 hbA
  have hB9 := RowAt.below hB8 hbA
  have hC9 := RowAt.below hC8 hbA
  have hL9 := low_trans hL8 hbA
  clear hbA hb' hF8 hH8 hA8 hB8 hC8 hL8
  generalize w8.alloc (.cells #[.int .i64 0, .string ⟨#[]⟩, .bool false, .bool false] 26) = W8 at *
  have hN := new_no 2001 (by omega) W8
  rw [show frCells 0 [] false false = #[.int .i64 0, .string ⟨#[]⟩, .bool false, .bool false] from by kernel_rfl] at hN
  go_wp2_with (go_at_call 15; refine hN.mono ?_)
  rintro e w9 ⟨rfl, hb'⟩
  clear hN
  go_upto_region 7 with (fail)
  have hbA : Below W8.heap.size W8 (w9.alloc (.cells #[.int .i64 0, .string ⟨#[]⟩, .bool false, .bool false] 26)) := hb'.alloc hb'.size _
  have hF10 : Blk (w9.alloc (.cells #[.int .i64 0, .string ⟨#[]⟩, .bool false, .bool false] 26)) f1 26 #[.int .i64 4, .string ⟨#[99, 100, 101, 102]⟩, .bool true, .bool true] := hF9.below hbA hF9.lt
  have hH10 : Blk (w9.alloc (.cells #[.int .i64 0, .string ⟨#[]⟩, .bool false, .bool false] 26)) h1 26 #[.int .i64 4, .string ⟨#[]⟩, .bool false, .bool false] := hH9.below hbA hH9.lt
  have hA10 := RowAt.below hA9 hbA
  have hB10 := RowAt.below hB9 hbA
  have hC10 := RowAt.below hC9 hbA
  have hL10 := low_trans hL9 hbA
  clear hbA hb' hF9 hH9 hA9 hB9 hC9 hL9
  generalize w9.alloc (.cells #[.int .i64 0, .string ⟨#[]⟩, .bool false, .bool false] 26) = W9 at *
  have HF10 := Lib.hid hF10
  have HH10 := Lib.hid hH10
  have HA10 := Lib.hid hA10
  have HB10 := Lib.hid hB10
  have HC10 := Lib.hid hC10
  have HL10 := Lib.hid hL10
  clear hF10 hH10 hA10 hB10 hC10 hL10
  have hS := same_lit W9 A1 c1 1 [lineP 4 [97, 98]] rfl #[.string ⟨#[97, 98]⟩, .bool false] (by kernel_rfl) HA10.out (by decide)
  go_wp2_with (go_at_call 9; refine hS.mono ?_)
  rintro e w11 ⟨rfl, hb'⟩
  clear hS
  have HF11 := Lib.hid (HF10.out.below hb' HF10.out.lt)
  have HH11 := Lib.hid (HH10.out.below hb' HH10.out.lt)
  have HA11 := Lib.hid (RowAt.below HA10.out hb')
  have HB11 := Lib.hid (RowAt.below HB10.out hb')
  have HC11 := Lib.hid (RowAt.below HC10.out hb')
  have HL11 := Lib.hid (low_trans HL10.out hb')
  clear hb'
  have hF := HF11.out
  have pc0 := hF.cell 0
  have pc1 := hF.cell 1
  have pc2 := hF.cell 2
  have pc3 := hF.cell 3
  simp at pc0 pc1 pc2 pc3
  clear hF
  have hS := same_lit w11 A2 c2 1 [lineP 4 [99, 100, 101, 102, 103, 104]] rfl #[.string ⟨#[99, 100, 101, 102]⟩, .bool true] (by kernel_rfl) HB11.out (by decide)
  go_wp2_with (go_at_call 9; refine hS.mono ?_)
  rintro e w12 ⟨rfl, hb'⟩
  clear hS
  have HF12 := Lib.hid (HF11.out.below hb' HF11.out.lt)
  have HH12 := Lib.hid (HH11.out.below hb' HH11.out.lt)
  have HA12 := Lib.hid (RowAt.below HA11.out hb')
  have HB12 := Lib.hid (RowAt.below HB11.out hb')
  have HC12 := Lib.hid (RowAt.below HC11.out hb')
  have HL12 := Lib.hid (low_trans HL11.out hb')
  clear hb'
  have hS := same_lit w12 A3 c3 1 [lineP 4 [13]] rfl #[.string ⟨#[13]⟩, .bool false] (by kernel_rfl) HC12.out (by decide)
  go_wp2_with (go_at_call 9; refine hS.mono ?_)
  rintro e w13 ⟨rfl, hb'⟩
  clear hS
  have HF13 := Lib.hid (HF12.out.below hb' HF12.out.lt)
  have HH13 := Lib.hid (HH12.out.below hb' HH12.out.lt)
  have HA13 := Lib.hid (RowAt.below HA12.out hb')
  have HB13 := Lib.hid (RowAt.below HB12.out hb')
  have HC13 := Lib.hid (RowAt.below HC12.out hb')
  have HL13 := Lib.hid (low_trans HL12.out hb')
  clear hb'
  have hF := HF13.out
  have qc0 := hF.cell 0
  have qc1 := hF.cell 1
  have qc2 := hF.cell 2
  have qc3 := hF.cell 3
  simp at qc0 qc1 qc2 qc3
  clear hF
  have hF := HH13.out
  have rc0 := hF.cell 0
  have rc1 := hF.cell 1
  have rc2 := hF.cell 2
  have rc3 := hF.cell 3
  simp at rc0 rc1 rc2 rc3
  clear hF
  have hR := rest_any 4 [99, 100, 101, 102] true true w13 (by decide)
  rw [show frCells 4 [99, 100, 101, 102] true true = #[.int .i64 4, .string ⟨#[99, 100, 101, 102]⟩, .bool true, .bool true] from by kernel_rfl, show bs (restP [99, 100, 101, 102] true) = ⟨#[99, 100, 101, 102, 13]⟩ from rfl] at hR
  go_wp2_with (go_at_call 12; refine hR.mono ?_)
  rintro e w14 ⟨rfl, hb'⟩
  clear hR
  have HL14 := Lib.hid (low_trans HL13.out hb')
  clear hb'
  go_wp2
  go_ret
  exact ⟨rfl, HL14.out⟩
end Go.Proofs.Ytdgkedbnokdnfaa
