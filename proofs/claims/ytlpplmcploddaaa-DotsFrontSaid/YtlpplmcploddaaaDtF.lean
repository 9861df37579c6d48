/-
  The contracts of dots.Stuff, dots.Unstuff, frankinglaw13.whole. Conditions: at most 1000000 bytes; bytes lie in memory.
-/
import Derived.Test.YtlpplmcploddaaaDtD
import Derived.Lib.ConvBytes
namespace Go.Proofs.Ytlpplmcploddaaa
open Go.RowKit Go.Shelf

theorem text_bytes (W : World) (l : List UInt8) (hl : l.length ≤ maxLen) : BytesAt (Lib.bytesWorld W 5 (bs l)) (some ⟨W.heap.size, 0, none⟩) l := by
  refine ⟨by rw [List.length_map]; exact hl, fun _ => ⟨W.heap.size, 0, rfl, by rw [Lib.bytesWorld_size]; omega, fun j hj => ?_⟩⟩
  rw [List.length_map] at hj
  rw [Nat.zero_add, Lib.bytesWorld_cell W 5 (bs l) j hj, bs_list, List.getElem_map, List.getD_eq_getElem?_getD, List.getElem?_eq_getElem hj]
  rfl
theorem text_low (W : World) (l : List UInt8) : Below W.heap.size W (Lib.bytesWorld W 5 (bs l)) := ⟨rfl, rfl, rfl, by rw [Lib.bytesWorld_size]; omega, fun k hk => Lib.bytesWorld_at_old _ _ _ k hk⟩
theorem cap_ge (W : World) (n : Nat) : n ≤ grownCap W n 0 5 := grownCap_ge W n 0 _
set_option maxRecDepth 100000 in
set_option maxHeartbeats 1000000 in
theorem stuff_any (l : List UInt8) (hl : l.length ≤ 1000000) (w : World) :
    Calls Try.prog 16 #[.string (bs l)] w fun e w' => e = .returned (.string (bs (stuffD l))) ∧ Below w.heap.size w w' := by
  have hcv := Lib.run_convert_string_bytes (P := Try.prog) w 9 22 5 (bs l) (u := .string) Try.underlying9 Try.underlying22 Try.underlying5
  rw [bs_size] at hcv
  have hby := text_bytes w l (by unfold maxLen; omega)
  have HLW := Lib.hid (text_low w l)
  have hsz : (Lib.bytesWorld w 5 (bs l)).heap.size = w.heap.size + 1 := Lib.bytesWorld_size _ _ _
  have hcg := cap_ge w l.length
  generalize grownCap w l.length 0 5 = cp at *
  generalize Lib.bytesWorld w 5 (bs l) = W1 at *
  have HST := Lib.hid (stuffed_any W1.heap.size (.slice none 0 0) [] l.length (some ⟨w.heap.size, 0, none⟩) l rfl cp W1 (World.ownsRow_nil _ _ _ _) (Nat.le_refl _) hby (fun p e => by cases e; show w.heap.size < _; omega) hcg (by simp; omega))
  clear hby hsz hcg
  generalize hS : bs l = S at *
  clear hS
  go_enter Try.func16, Try.ntmps16
  go_wp2_with (go_at_call 18; refine HST.out.mono ?_; rintro e w5 ⟨v5, rfl, hst5⟩; obtain ⟨A5, c5, rfl⟩ := own_slice' hst5.own; have hcv5 := conv_any w5 A5 (stuffD l) c5 (row_of_own (by simpa using hst5.own) (by have := (stuff_len l).2; unfold maxLen; rw [List.length_map]; omega)); have HS5 := Lib.hid hst5.low; clear hst5 HST hcv)
  go_ret
  exact ⟨rfl, low_trans HLW.out HS5.out⟩
set_option maxRecDepth 100000 in
set_option maxHeartbeats 1000000 in
theorem unstuff_any (l : List UInt8) (hl : l.length ≤ 1000000) (w : World) :
    Calls Try.prog 15 #[.string (bs l)] w fun e w' => e = .returned (.tuple #[.string (bs (unstD l)), .bool (decide (l = [46]))]) ∧ Below w.heap.size w w' := by
  have hcv := Lib.run_convert_string_bytes (P := Try.prog) w 9 22 5 (bs l) (u := .string) Try.underlying9 Try.underlying22 Try.underlying5
  rw [bs_size] at hcv
  have hby := text_bytes w l (by unfold maxLen; omega)
  have HLW := Lib.hid (text_low w l)
  have hcg := cap_ge w l.length
  generalize grownCap w l.length 0 5 = cp at *
  generalize Lib.bytesWorld w 5 (bs l) = W1 at *
  have HU := Lib.hid (unstuffed_any (some ⟨w.heap.size, 0, none⟩) l l.length rfl cp W1 hby hcg)
  have HBY : Hid (BytesAt (W1.alloc (.cells #[.int .u8 46] 5 (1, 2))) (some ⟨w.heap.size, 0, none⟩) l) := RowAt.below hby ((Below.refl _ _).alloc (Nat.le_refl _) _)
  have HLW2 : Hid (Below W1.heap.size W1 (W1.alloc (.cells #[.int .u8 46] 5 (1, 2)))) := (Below.refl _ _).alloc (Nat.le_refl _) _
  generalize W1.alloc (.cells #[.int .u8 46] 5 (1, 2)) = W2 at *
  clear hby hcg
  generalize hS : bs l = S at *
  clear hS
  generalize decide (l = [46]) = db at *
  go_enter Try.func15, Try.ntmps15
  go_wp2_with (go_at_call 19; refine HU.out.mono ?_; rintro e w5 ⟨a5, c5, rfl, hun, rfl⟩; have hcv5 := conv_any _ a5 (unstD l) c5 (hun.at_ _ HBY.out); clear hun HU hcv)
  go_ret2
  exact ⟨rfl, low_trans HLW.out HLW2.out⟩
theorem bs_cat (x y : List UInt8) : bs (x ++ y) = bs x ++ bs y := by
  apply ByteArray.ext
  rw [ByteArray.data_append]
  simp [bs]
theorem bs_toL (l : List UInt8) : (bs l).toList = l := by rw [Lib.toList_data]; rfl
theorem suf_of (b : List UInt8) : Lib.hasSuffix b [13, 10] = decide ([13, 10] <:+ b) := by
  unfold Lib.hasSuffix
  rw [Bool.eq_iff_iff, decide_eq_true_iff, List.isSuffixOf_iff_suffix]
set_option maxRecDepth 100000 in
set_option maxHeartbeats 1000000 in
theorem whole_any (a : Option Addr) (b : List UInt8) (m : Nat) (hm : b.length = m) (c : Nat) (hm2 : m ≤ 1000000) (w : World) (h : BytesAt w a b) :
    Calls Try.prog 10 #[.slice a m c] w fun e w' => e = .returned (.string (bs (wholeD b))) ∧ w = w' := by
  subst hm
  have hcv := conv_any w a b c h
  have hSz : (bs b).size = b.length := rfl
  have hsuf := Try.strings_HasSuffix (bs b) ⟨#[13, 10]⟩ w (by rw [hSz]; omega)
  rw [bs_list, show (⟨#[13, 10]⟩ : ByteArray).data.toList = [13, 10] from rfl, suf_of] at hsuf
  by_cases h0 : b = []
  · subst h0
    have he : wholeD [] = [] := rfl
    rw [he]
    have hcv' : (convert 22 9 (.slice a 0 c)).run Try.prog w = .ok (.string ⟨#[]⟩) w := hcv
    show Calls _ _ #[.slice a 0 c] w fun e w' => e = .returned (.string ⟨#[]⟩) ∧ w = w'
    clear he hsuf hcv h hm2 hSz
    go_enter Try.func10, Try.ntmps10
    go_wp2
    go_ret
    exact ⟨rfl, rfl⟩
  · by_cases h1 : [13, 10] <:+ b
    · have he : wholeD b = b := by unfold wholeD; rw [if_pos (.inr h1)]
      rw [decide_eq_true h1] at hsuf
      rw [he]
      have HSU := Lib.hid hsuf
      have hne : ¬ (bs b).toList = [] := by rw [bs_toL]; exact h0
      have hne2 : (bs b).toList.isEmpty = false := by rw [bs_toL]; cases b <;> simp_all
      generalize bs b = S at *
      clear hsuf he h1 h0 h
      go_enter Try.func10, Try.ntmps10
      go_wp2_with (go_at_call 12; refine HSU.out.mono ?_; rintro e w5 ⟨rfl, rfl⟩)
      go_ret
      exact ⟨rfl, rfl⟩
    · have he : wholeD b = b ++ [13, 10] := by unfold wholeD; rw [if_neg (fun h => h.elim h0 h1)]
      rw [decide_eq_false h1] at hsuf
      rw [he]
      have HSU := Lib.hid hsuf
      have hne : ¬ (bs b).toList = [] := by rw [bs_toL]; exact h0
      have hne2 : (bs b).toList.isEmpty = false := by rw [bs_toL]; cases b <;> simp_all
      have hap : Hid (bs (b ++ [13, 10]) = bs b ++ ⟨#[13, 10]⟩) := by
        show _ = _
        rw [bs_cat]
        rfl
      have hsz : (bs b).size ≤ 1000000 := by rw [hSz]; exact hm2
      rw [hap.out]
      generalize bs b = S at *
      clear hsuf he h1 h0 h hap
      go_enter Try.func10, Try.ntmps10
      go_wp2_with (go_at_call 12; refine HSU.out.mono ?_; rintro e w5 ⟨rfl, rfl⟩)
      go_ret
      exact ⟨rfl, rfl⟩
end Go.Proofs.Ytlpplmcploddaaa
