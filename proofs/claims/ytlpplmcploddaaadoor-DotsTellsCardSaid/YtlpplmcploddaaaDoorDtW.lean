/-
  frankinglaw13's examples (awake) come out true. Condition: the library's MaxLen holds some number.
-/
import Derived.Test.YtlpplmcploddaaaDoorDtF
import Derived.Lib.SmallJoins
import Derived.Outline
namespace Go.Proofs.YtlpplmcploddaaaDoor
open Go.RowKit Go.Shelf

theorem decode_yes {a : Option Addr} {b : List UInt8} {m : Nat} (hm : b.length = m) {c : Nat} (hc : m ≤ c) (hm2 : m ≤ 1000000) {w : World} (h : BytesAt w a b) {mx : Int} (hmx : w.cell? ⟨0, 0, none⟩ = some (.int .i64 mx)) {body : List UInt8} {n : Nat} (hr : readD b = some (body, n)) (hb : body.length ≤ 2000000) :
    Calls Tryd.prog 9 #[.slice a m c] w fun e w' => ∃ A c', e = .returned (.tuple #[.slice A body.length c', .int .i64 (n : Nat), .bool true]) ∧ BytesAt w' A body ∧ w'.ownsRow w.heap.size 5 1 (.slice A body.length c') body.length (body.map byteV) ∧ Below w.heap.size w w' := by
  refine (decode_any a b m hm c hc hm2 w h mx hmx).mono ?_
  rintro e w' ⟨h1, ⟨h2, _⟩ | ⟨body2, n2, v, h2, rfl, h3⟩⟩
  · rw [hr] at h2; cases h2
  · rw [hr] at h2
    injection h2 with h2
    injection h2 with e1 e2
    subst e1 e2
    obtain ⟨A, c', rfl⟩ := own_slice' h3
    exact ⟨A, c', rfl, row_of_own h3 (by rw [List.length_map]; unfold maxLen; omega), h3, h1⟩
theorem decode_no {a : Option Addr} {b : List UInt8} {m : Nat} (hm : b.length = m) {c : Nat} (hc : m ≤ c) (hm2 : m ≤ 1000000) {w : World} (h : BytesAt w a b) {mx : Int} (hmx : w.cell? ⟨0, 0, none⟩ = some (.int .i64 mx)) (hr : readD b = none) :
    Calls Tryd.prog 9 #[.slice a m c] w fun e w' => e = .returned (.tuple #[.slice none 0 0, .int .i64 0, .bool false]) ∧ Below w.heap.size w w' := by
  refine (decode_any a b m hm c hc hm2 w h mx hmx).mono ?_
  rintro e w' ⟨h1, ⟨_, rfl⟩ | ⟨body2, n2, v, h2, _⟩⟩
  · exact ⟨rfl, h1⟩
  · rw [hr] at h2; cases h2
theorem decode_one {a : Option Addr} {b : List UInt8} {m : Nat} (hm : b.length = m) {c : Nat} (hc : m ≤ c) (hm2 : m ≤ 100000) {w : World} (h : BytesAt w a b) {mx : Int} (hmx : w.cell? ⟨0, 0, none⟩ = some (.int .i64 mx)) :
    Calls Tryd.prog 9 #[.slice a m c] w fun e w' => ∃ A c' body n ok, e = .returned (.tuple #[.slice A (List.length body) c', .int .i64 ((n : Nat) : Int), .bool ok]) ∧ BytesAt w' A body ∧ Below w.heap.size w w' ∧ ((ok = false ∧ readD b = none ∧ n = 0 ∧ body = []) ∨ (ok = true ∧ readD b = some (body, n))) := by
  rcases hr : readD b with _ | ⟨body, n⟩
  · refine (decode_no hm hc (by omega) h hmx hr).mono ?_
    rintro e w' ⟨rfl, h1⟩
    exact ⟨none, 0, [], 0, false, rfl, ⟨by decide, fun h => absurd h (by decide)⟩, h1, .inl ⟨rfl, rfl, rfl, rfl⟩⟩
  · have hs := (again_of b body n hr).small
    refine (decode_yes hm hc (by omega) h hmx hr (by omega)).mono ?_
    rintro e w' ⟨A, c', rfl, h1, _, h2⟩
    exact ⟨A, c', body, n, true, rfl, h1, h2, .inr ⟨rfl, rfl⟩⟩
/-- Encode, and its answer as a text -/
theorem encode_text {a : Option Addr} {b : List UInt8} {m : Nat} (hm : b.length = m) {c : Nat} (hc : m ≤ c) (hm2 : m ≤ 100000) {w : World} (h : BytesAt w a b) {mx : Int} (hmx : w.cell? ⟨0, 0, none⟩ = some (.int .i64 mx)) {out : List UInt8} (ho : sentD b = out) :
    Calls Tryd.prog 11 #[.slice a m c] w fun e w' => ∃ g c', e = .returned (.slice (some ⟨g, 0, none⟩) out.length c') ∧ BytesAt w' (some ⟨g, 0, none⟩) out ∧ w'.ownsRow w.heap.size 5 1 (.slice (some ⟨g, 0, none⟩) out.length c') out.length (out.map byteV) ∧ Below w.heap.size w w' := by
  subst ho
  refine (encode_any a b m hm c hc (by omega) w h mx hmx).mono ?_
  rintro e w' ⟨g, c', rfl, h1, h2⟩
  refine ⟨g, c', rfl, row_of_own h1 ?_, h1, h2⟩
  rw [List.length_map]
  have h3 := (sent_bounds b).2
  have h4 : Lib.count (wholeD b) [13, 10] ≤ b.length := by
    rw [count_whole]
    have := items_few 0 b
    rw [← items_texts, List.length_map]
    exact this
  unfold maxLen
  omega
theorem ex1 : readD [46, 13, 10, 46, 120] = some ([], 3) := by decide +kernel
theorem ex2 : readD [97, 46] = none := by decide +kernel
theorem ex3 : sentD [97, 13, 10, 46, 98] = [97, 13, 10, 46, 46, 98, 13, 10, 46, 13, 10] := by decide +kernel
theorem ex4 : sentD [] = [46, 13, 10] := by decide +kernel
theorem exU1 (w : World) : Calls Tryd.prog 5 #[.string ⟨#[46]⟩] w fun e w' => e = .returned (.tuple #[.string ⟨#[]⟩, .bool true]) ∧ Below w.heap.size w w' := by
  have := unstuff_any [46] (by decide) w
  rw [show unstD [46] = [] from by decide +kernel, show decide ([(46 : UInt8)] = [46]) = true from by decide +kernel] at this
  exact this
theorem exU2 (w : World) : Calls Tryd.prog 5 #[.string ⟨#[46, 46]⟩] w fun e w' => e = .returned (.tuple #[.string ⟨#[46]⟩, .bool false]) ∧ Below w.heap.size w w' := by
  have := unstuff_any [46, 46] (by decide) w
  rw [show unstD [46, 46] = [46] from by decide +kernel, show decide ([(46 : UInt8), 46] = [46]) = false from by decide +kernel] at this
  exact this
theorem exS1 (w : World) : Calls Tryd.prog 7 #[.string ⟨#[46, 97]⟩] w fun e w' => e = .returned (.string ⟨#[46, 46, 97]⟩) ∧ Below w.heap.size w w' := by
  have := stuff_any [46, 97] (by decide) w
  rw [show stuffD [46, 97] = [46, 46, 97] from by decide +kernel] at this
  exact this
theorem exS2 (w : World) : Calls Tryd.prog 7 #[.string ⟨#[97, 46]⟩] w fun e w' => e = .returned (.string ⟨#[97, 46]⟩) ∧ Below w.heap.size w w' := by
  have := stuff_any [97, 46] (by decide) w
  rw [show stuffD [97, 46] = [97, 46] from by decide +kernel] at this
  exact this
set_option maxRecDepth 100000 in
set_option maxHeartbeats 4000000 in
theorem awake_any (w : World) (mx : Int) (hmx : w.cell? ⟨0, 0, none⟩ = some (.int .i64 mx)) : Calls Tryd.prog 4 #[] w fun e w' => e = .returned (.bool true) ∧ Below w.heap.size w w' := by
  have hg0 : 0 < w.heap.size := World.block_lt_of_cell? w ⟨0, 0, none⟩ hmx
  have HMX : Hid (∀ W, Below w.heap.size w W → W.cell? ⟨0, 0, none⟩ = some (.int .i64 mx)) := fun W hb => (hb.cell (p := ⟨0, 0, none⟩) hg0).trans hmx
  clear hmx hg0
  go_enter Tryd.func4, Tryd.ntmps4
  go_wp2_with (go_at_call 5; refine (exU1 _).mono ?_)
  rintro e w1 ⟨rfl, hb⟩
  have HL1 := Lib.hid hb
  clear hb
  go_wp2_with (go_at_call 5; refine (exU2 _).mono ?_)
  rintro e w2 ⟨rfl, hb⟩
  have HL2 := Lib.hid (low_trans HL1.out hb)
  clear hb HL1
  have hcv := Joins.run_convert_bytes_const_at (P := Tryd.prog) w2 22 5 #[.int .u8 46, .int .u8 13, .int .u8 10, .int .u8 46, .int .u8 120] 5 5 w2.heap.size rfl Tryd.underlying22 Tryd.underlying5
  have HB2 : Hid (Below w.heap.size w (w2.alloc (.cells #[.int .u8 46, .int .u8 13, .int .u8 10, .int .u8 46, .int .u8 120] 5 (5, 6)))) := HL2.out.alloc HL2.out.size _
  have HD := Lib.hid (decode_yes (m := 5) rfl (Nat.le_refl 5) (by decide) (lit_bytes w2 [46, 13, 10, 46, 120] #[.int .u8 46, .int .u8 13, .int .u8 10, .int .u8 46, .int .u8 120] (5, 6) rfl (by decide)) (HMX.out _ HB2.out) ex1 (by decide))
  go_wp2_with (go_at_call 9; refine HD.out.mono ?_)
  rintro e w3 ⟨A3, c3, rfl, _, _, hb⟩
  have HL3 := Lib.hid (low_trans HB2.out hb)
  clear hb HL2 HB2 HD hcv
  have hcv := Joins.run_convert_bytes_const_at (P := Tryd.prog) w3 22 5 #[.int .u8 97, .int .u8 46] 2 2 w3.heap.size rfl Tryd.underlying22 Tryd.underlying5
  have HB3 : Hid (Below w.heap.size w (w3.alloc (.cells #[.int .u8 97, .int .u8 46] 5 (2, 3)))) := HL3.out.alloc HL3.out.size _
  have HD := Lib.hid (decode_no (m := 2) rfl (Nat.le_refl 2) (by decide) (lit_bytes w3 [97, 46] #[.int .u8 97, .int .u8 46] (2, 3) rfl (by decide)) (HMX.out _ HB3.out) ex2)
  go_wp2_with (go_at_call 9; refine HD.out.mono ?_)
  rintro e w4 ⟨rfl, hb⟩
  have HL4 := Lib.hid (low_trans HB3.out hb)
  clear hb HL3 HB3 HD hcv
  go_wp2_with (go_at_call 7; refine (exS1 _).mono ?_)
  rintro e w5 ⟨rfl, hb⟩
  have HL5 := Lib.hid (low_trans HL4.out hb)
  clear hb HL4
  go_wp2_with (go_at_call 7; refine (exS2 _).mono ?_)
  rintro e w6 ⟨rfl, hb⟩
  have HL6 := Lib.hid (low_trans HL5.out hb)
  clear hb HL5
  have hcv := Joins.run_convert_bytes_const_at (P := Tryd.prog) w6 22 5 #[.int .u8 97, .int .u8 13, .int .u8 10, .int .u8 46, .int .u8 98] 5 5 w6.heap.size rfl Tryd.underlying22 Tryd.underlying5
  have HB6 : Hid (Below w.heap.size w (w6.alloc (.cells #[.int .u8 97, .int .u8 13, .int .u8 10, .int .u8 46, .int .u8 98] 5 (5, 6)))) := HL6.out.alloc HL6.out.size _
  have HE := Lib.hid (encode_text (m := 5) rfl (Nat.le_refl 5) (by decide) (lit_bytes w6 [97, 13, 10, 46, 98] #[.int .u8 97, .int .u8 13, .int .u8 10, .int .u8 46, .int .u8 98] (5, 6) rfl (by decide)) (HMX.out _ HB6.out) ex3)
  go_wp2_with (go_at_call 11; refine HE.out.mono ?_)
  rintro e w7 ⟨g7, c7, rfl, hby, _, hb⟩
  have HL7 := Lib.hid (low_trans HB6.out hb)
  have hcv7 : (convert 22 9 (.slice (some ⟨g7, 0, none⟩) 11 c7)).run Tryd.prog w7 = .ok (.string ⟨#[97, 13, 10, 46, 46, 98, 13, 10, 46, 13, 10]⟩) w7 := conv_any w7 _ _ c7 hby
  clear hb hby HL6 HB6 HE hcv
  have HE := Lib.hid (encode_text (a := none) (b := []) (m := 0) rfl (c := 0) (Nat.le_refl 0) (by decide) (w := w7) ⟨by decide, fun h => absurd h (by decide)⟩ (HMX.out _ HL7.out) ex4)
  go_wp2_with (go_at_call 11; refine HE.out.mono ?_)
  rintro e w8 ⟨g8, c8, rfl, hby, _, hb⟩
  have HL8 := Lib.hid (low_trans HL7.out hb)
  have hcv8 : (convert 22 9 (.slice (some ⟨g8, 0, none⟩) 3 c8)).run Tryd.prog w8 = .ok (.string ⟨#[46, 13, 10]⟩) w8 := conv_any w8 _ _ c8 hby
  clear hb hby HL7 HE hcv7
  go_wp2
  go_ret
  exact ⟨rfl, HL8.out⟩
end Go.Proofs.YtlpplmcploddaaaDoor
