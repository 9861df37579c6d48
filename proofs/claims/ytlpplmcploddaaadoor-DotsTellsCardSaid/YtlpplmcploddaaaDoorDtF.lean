/-
  The contracts of dots.Stuff, dots.Unstuff. Conditions: at most 1000000 bytes.
-/
import Derived.Test.YtlpplmcploddaaaDoorDtD
import Derived.Lib.ConvBytes
namespace Go.Proofs.YtlpplmcploddaaaDoor
open Go.RowKit Go.Shelf

theorem text_bytes (W : World) (l : List UInt8) (hl : l.length ≤ maxLen) : BytesAt (Lib.bytesWorld W 5 (bs l)) (some ⟨W.heap.size, 0, none⟩) l := by
  refine ⟨by rw [List.length_map]; exact hl, fun _ => ⟨W.heap.size, 0, rfl, by rw [Lib.bytesWorld_size]; omega, fun j hj => ?_⟩⟩
  rw [List.length_map] at hj
  rw [Nat.zero_add, Lib.bytesWorld_cell W 5 (bs l) j hj, bs_list, List.getElem_map, List.getD_eq_getElem?_getD, List.getElem?_eq_getElem hj]
  rfl
theorem text_low (W : World) (l : List UInt8) : Below W.heap.size W (Lib.bytesWorld W 5 (bs l)) := ⟨rfl, rfl, rfl, by rw [Lib.bytesWorld_size]; omega, fun k hk => Lib.bytesWorld_at_old _ _ _ k hk⟩
theorem cap_ge (W : World) (n : Nat) : n ≤ grownCap W n 0 5 := grownCap_ge W n 0 _
set_option maxRecDepth 100000 in
set_option maxHeartbeats 1000000 in
theorem stuff_any (l : List UInt8) (hl : l.length ≤ 1000000) (w : World) :
    Calls Tryd.prog 7 #[.string (bs l)] w fun e w' => e = .returned (.string (bs (stuffD l))) ∧ Below w.heap.size w w' := by
  have hcv := Lib.run_convert_string_bytes (P := Tryd.prog) w 9 22 5 (bs l) (u := .string) Tryd.underlying9 Tryd.underlying22 Tryd.underlying5
  rw [bs_size] at hcv
  have hby := text_bytes w l (by unfold maxLen; omega)
  have HLW := Lib.hid (text_low w l)
  have hsz : (Lib.bytesWorld w 5 (bs l)).heap.size = w.heap.size + 1 := Lib.bytesWorld_size _ _ _
  have hcg := cap_ge w l.length
  generalize grownCap w l.length 0 5 = cp at *
  generalize Lib.bytesWorld w 5 (bs l) = W1 at *
  have HST := Lib.hid (stuffed_any W1.heap.size (.slice none 0 0) [] l.length (some ⟨w.heap.size, 0, none⟩) l rfl cp W1 (World.ownsRow_nil _ _ _ _) (Nat.le_refl _) hby (fun p e => by cases e; show w.heap.size < _; omega) hcg (by simp; omega))
  clear hby hsz hcg
  generalize hS : bs l = S at *
  clear hS
  go_enter Tryd.func7, Tryd.ntmps7
  go_wp2_with (go_at_call 14; refine HST.out.mono ?_; rintro e w5 ⟨v5, rfl, hst5⟩; obtain ⟨A5, c5, rfl⟩ := own_slice' hst5.own; have hcv5 := conv_any w5 A5 (stuffD l) c5 (row_of_own (by simpa using hst5.own) (by have := (stuff_len l).2; unfold maxLen; rw [List.length_map]; omega)); have HS5 := Lib.hid hst5.low; clear hst5 HST hcv)
  go_ret
  exact ⟨rfl, low_trans HLW.out HS5.out⟩
set_option maxRecDepth 100000 in
set_option maxHeartbeats 1000000 in
theorem unstuff_any (l : List UInt8) (hl : l.length ≤ 1000000) (w : World) :
    Calls Tryd.prog 5 #[.string (bs l)] w fun e w' => e = .returned (.tuple #[.string (bs (unstD l)), .bool (decide (l = [46]))]) ∧ Below w.heap.size w w' := by
  have hcv := Lib.run_convert_string_bytes (P := Tryd.prog) w 9 22 5 (bs l) (u := .string) Tryd.underlying9 Tryd.underlying22 Tryd.underlying5
  rw [bs_size] at hcv
  have hby := text_bytes w l (by unfold maxLen; omega)
  have HLW := Lib.hid (text_low w l)
  have hcg := cap_ge w l.length
  generalize grownCap w l.length 0 5 = cp at *
  generalize Lib.bytesWorld w 5 (bs l) = W1 at *
  have HU := Lib.hid (unstuffed_any (some ⟨w.heap.size, 0, none⟩) l l.length rfl cp W1 hby hcg)
  have HBY : Hid (BytesAt (W1.alloc (.cells #[.int .u8 46] 5 (1, 2))) (some ⟨w.heap.size, 0, none⟩) l) := RowAt.below hby ((Below.refl _ _).alloc (Nat.le_refl _) _)
  have HLW2 : Hid (Below W1.heap.size W1 (W1.alloc (.cells #[.int .u8 46] 5 (1, 2)))) := (Below.refl _ _).alloc (Nat.le_refl _) _
  generalize W1.alloc (.cells #[.int .u8 46] 5 (1, 2)) = W2 at *
  clear hby hcg
  generalize hS : bs l = S at *
  clear hS
  generalize decide (l = [46]) = db at *
  go_enter Tryd.func5, Tryd.ntmps5
  go_wp2_with (go_at_call 13; refine HU.out.mono ?_; rintro e w5 ⟨a5, c5, rfl, hun, rfl⟩; have hcv5 := conv_any _ a5 (unstD l) c5 (hun.at_ _ HBY.out); clear hun HU hcv)
  go_ret2
  exact ⟨rfl, low_trans HLW.out HLW2.out⟩
theorem bs_cat (x y : List UInt8) : bs (x ++ y) = bs x ++ bs y := by
  apply ByteArray.ext
  rw [ByteArray.data_append]
  simp [bs]
theorem bs_toL (l : List UInt8) : (bs l).toList = l := by rw [Lib.toList_data]; rfl
end Go.Proofs.YtlpplmcploddaaaDoor
