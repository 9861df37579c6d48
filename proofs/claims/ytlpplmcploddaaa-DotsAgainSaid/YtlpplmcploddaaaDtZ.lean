/-
  The contract of frankinglaw13.DotsAgain. Conditions: the slice lies in memory; the library's MaxLen holds some number.
-/
import Derived.Test.YtlpplmcploddaaaDtX
namespace Go.Proofs.Ytlpplmcploddaaa
open Go.RowKit Go.Shelf

set_option maxRecDepth 100000 in
set_option maxHeartbeats 1000000 in
theorem again_any (a0 : Option Addr) (b0 : List UInt8) (c0 : Nat) (w : World) (hb0 : BytesAt w a0 b0) (hc0 : b0.length ≤ c0) (mx : Int) (hmx : w.cell? ⟨0, 0, none⟩ = some (.int .i64 mx)) :
    Calls Try.prog 5 #[.slice a0 b0.length c0] w fun e w' => e = .returned (.bool true) ∧ Below w.heap.size w w' := by
  have hg0 : 0 < w.heap.size := World.block_lt_of_cell? w ⟨0, 0, none⟩ hmx
  have HMX : Hid (∀ W, Below w.heap.size w W → W.cell? ⟨0, 0, none⟩ = some (.int .i64 mx)) := fun W hb => (hb.cell (p := ⟨0, 0, none⟩) hg0).trans hmx
  have HAW : Hid (∀ W, Below w.heap.size w W → Calls Try.prog 7 #[] W fun e w' => e = .returned (.bool true) ∧ Below W.heap.size W w') := fun W hb => awake_any W mx (HMX.out W hb)
  obtain ⟨n0, hn0⟩ : ∃ n0, n0 = b0.length := ⟨_, rfl⟩
  rw [← hn0] at hc0
  rw [← hn0]
  by_cases h0 : n0 ≤ 3000
  · have h0' : ¬ (3000 : Int) < (n0 : Int) := by omega
    rcases hr : readD b0 with _ | ⟨body, n⟩
    · have HD := Lib.hid (decode_no (a := a0) hn0.symm hc0 (by omega) hb0 hmx hr)
      clear hr hb0 hmx hn0 hg0
      go_enter Try.func5, Try.ntmps5
      go_wp2_with (first
        | (go_at_call 9; refine HD.out.mono ?_; rintro e w5 ⟨rfl, hb5⟩; have HL5 := Lib.hid hb5; have HA := Lib.hid (HAW.out w5 hb5); clear hb5 HD)
        | (go_at_call 7; refine HA.out.mono ?_; rintro e w9 ⟨rfl, hb9⟩; have HL9 := Lib.hid (low_trans HL5.out hb9); clear hb9))
      go_ret
      exact ⟨rfl, HL9.out⟩
    · have hag := again_of b0 body n hr
      have HAG := Lib.hid hag
      have h3 := hag.lo
      have h4 := hag.hi
      have h5 := hag.small
      rw [← hn0] at h4 h5
      have HD := Lib.hid (decode_yes (a := a0) hn0.symm hc0 (by omega) hb0 hmx hr (by omega))
      obtain ⟨k, hk⟩ : ∃ k, k = body.length := ⟨_, rfl⟩
      rw [← hk] at HD h5
      have HK := Lib.hid hk
      have HB0 := Lib.hid hb0
      have HN0 := Lib.hid hn0
      clear hr hag hb0 hmx hn0 hg0 hk
      have r1 : ¬ (n : Int) < 3 := by omega
      have r2 : ¬ (n0 : Int) < (n : Int) := by omega
      go_enter Try.func5, Try.ntmps5
      go_upto_region 6 with (go_at_call 9; refine HD.out.mono ?_; rintro e w5 ⟨A5, c5, rfl, hby5, hown5, hb5⟩; have HBY5 := Lib.hid hby5; have HC5 := Lib.hid (own_cap hown5); have HL5 := Lib.hid hb5; clear hby5 hown5 hb5 HD)
      have hc5 : k ≤ c5 := by have := HC5.out; have := HK.out; omega
      have HBD : Hid (BytesAt w5.drew A5 body) := RowAt.below HBY5.out (Below.refl _ _).drew
      have HLD : Hid (Below w.heap.size w w5.drew) := HL5.out.drew
      have HBA : Hid (BytesAt w5.drew a0 b0) := RowAt.below HB0.out HLD.out
      -- b[:n], as a text
      obtain ⟨X, hX⟩ : ∃ X, X = bs (b0.take n) := ⟨_, rfl⟩
      obtain ⟨Y, hY⟩ : ∃ Y, Y = bs body := ⟨_, rfl⟩
      have hnl : (b0.take n).length = n := by rw [List.length_take, ← HN0.out]; omega
      have hXs : X.size = n := by rw [hX, bs_size, hnl]
      have hsl := slice_to a0 n0 c0 n (by omega)
      have hcv1 : (convert 22 9 (.slice a0 n c0)).run Try.prog w5.drew = .ok (.string X) w5.drew := by
        have := conv_any w5.drew a0 (b0.take n) c0 (take_bytes HBA.out n)
        rw [hnl] at this
        rw [hX]
        exact this
      have hcv2 : (convert 22 9 (.slice A5 k c5)).run Try.prog w5.drew = .ok (.string Y) w5.drew := by
        rw [HK.out, hY]
        exact conv_any w5.drew A5 body c5 HBD.out
      have HSF : Hid (Calls Try.prog 12 #[.string (⟨#[13, 10]⟩ ++ X), .string ⟨#[13, 10, 46, 13, 10]⟩] w5.drew fun e w' => e = .returned (.bool true) ∧ w' = w5.drew) := by
        have := Try.strings_HasSuffix (⟨#[13, 10]⟩ ++ X) ⟨#[13, 10, 46, 13, 10]⟩ w5.drew (by rw [ByteArray.size_append, hXs]; show 2 + _ ≤ _; omega)
        have e1 : (⟨#[13, 10]⟩ ++ X).data.toList = 13 :: 10 :: b0.take n := by
          rw [hX, ByteArray.data_append]
          simp [bs]
        have e2 : Lib.hasSuffix (13 :: 10 :: b0.take n) [13, 10, 46, 13, 10] = true := by
          unfold Lib.hasSuffix
          rw [List.isSuffixOf_iff_suffix]
          exact HAG.out.suf
        rw [e1, show (⟨#[13, 10, 46, 13, 10]⟩ : ByteArray).data.toList = [13, 10, 46, 13, 10] from rfl, e2] at this
        exact this
      have HWH : Hid (Calls Try.prog 10 #[.slice A5 k c5] w5.drew fun e w' => e = .returned (.string Y) ∧ w' = w5.drew) := by
        have := whole_any A5 body k HK.out.symm c5 (by omega) w5.drew HBD.out
        rw [HAG.out.whole, ← hY] at this
        exact this.mono fun _ _ h => ⟨h.1, h.2.symm⟩
      have hsz : ¬ 9223372036854775807 < 2 + X.size := by omega
      have HX := Lib.hid hX
      have HY := Lib.hid hY
      have HNL := Lib.hid hnl
      clear hX hY hnl hXs
      refine wp_region_still_lit (by kernel_rfl) (by kernel_rfl) ?_
      repeat still_step
      still_call HSF.out
      repeat still_step
      still_call HWH.out
      repeat still_step
      refine wpStill_nil ?_
      have hbd := sent_bounds body
      have hco : Lib.count (wholeD body) [13, 10] ≤ k := by
        rw [count_whole, HK.out]
        have := items_few 0 body
        rw [← items_texts, List.length_map]
        exact this
      have hdo := HAG.out.dots
      obtain ⟨SB, hSB⟩ : ∃ SB, SB = sentD body := ⟨_, rfl⟩
      obtain ⟨ms, hms⟩ : ∃ ms, ms = SB.length := ⟨_, rfl⟩
      rw [← hSB, ← hms] at hbd hdo
      rw [← HK.out] at hbd
      have HE := Lib.hid (encode_text (a := A5) HK.out.symm hc5 (by omega) HBD.out (HMX.out _ HLD.out) (out := SB) hSB.symm)
      rw [← hms] at HE
      have HSB := Lib.hid hSB
      have HMS := Lib.hid hms
      have hms2 : ms ≤ 7000 := by omega
      obtain ⟨dc, hdc⟩ : ∃ dc, dc = b0.count 46 := ⟨_, rfl⟩
      rw [← hdc] at hdo
      have HDC := Lib.hid hdc
      have hdl : dc ≤ n0 := by rw [hdc, HN0.out]; exact List.count_le_length
      clear hSB hms hbd hco hsl hcv1 hcv2 hsz HSF HWH hdc
      go_wp2_with (go_at_call 8; refine HE.out.mono ?_; rintro e w7 ⟨g7, c7, rfl, hby7, hown7, hb7⟩; have HBY7 := Lib.hid hby7; have HC7 := Lib.hid (own_cap hown7); have HL7 := Lib.hid (low_trans HLD.out hb7); have HB7 := Lib.hid hb7; clear hby7 hown7 hb7 HE)
      have hcap7 : ms ≤ c7 := by have := HC7.out; have := HMS.out; omega
      have HD2 := Lib.hid (decode_yes (a := some ⟨g7, 0, none⟩) (b := SB) (m := ms) HMS.out.symm hcap7 (by omega) HBY7.out (HMX.out _ HL7.out) (body := body) (n := ms) (by
        have h1 := read_sent body []
        rw [List.append_nil, ← whole_all, HAG.out.whole, ← HSB.out, ← HMS.out] at h1
        exact h1) (by have := HK.out; omega))
      rw [← HK.out] at HD2
      go_upto_region 9 with (go_at_call 9; refine HD2.out.mono ?_; rintro e w8 ⟨A8, c8, rfl, hby8, hown8, hb8⟩; have HBY8 := Lib.hid hby8; have HL8 := Lib.hid (low_trans HL7.out hb8); have HB8 := Lib.hid hb8; clear hby8 hown8 hb8 HD2)
      have hsl := slice_to a0 n0 c0 n (by omega)
      have HD3 := Lib.hid (decode_yes (a := a0) (b := b0.take n) (m := n) HNL.out (c := c0) (by omega) (by omega) (take_bytes (RowAt.below HB0.out HL8.out) n) (HMX.out _ HL8.out) HAG.out.cut (by have := HK.out; omega))
      rw [← HK.out] at HD3
      go_upto_region 10 with (go_at_call 9; refine HD3.out.mono ?_; rintro e w9 ⟨A9, c9, rfl, hby9, hown9, hb9⟩; have HL9 := Lib.hid (low_trans HL8.out hb9); have HB9 := Lib.hid hb9; clear hby9 hown9 hb9 HD3 hsl)
      have hcv1 : (convert 22 9 (.slice A8 k c8)).run Try.prog w9 = .ok (.string Y) w9 := by
        rw [HK.out, HY.out]
        exact conv_any w9 A8 body c8 (RowAt.below HBY8.out HB9.out)
      have hcv2 : (convert 22 9 (.slice A5 k c5)).run Try.prog w9 = .ok (.string Y) w9 := by
        rw [HK.out, HY.out]
        exact conv_any w9 A5 body c5 (RowAt.below (RowAt.below (RowAt.below HBD.out HB7.out) HB8.out) HB9.out)
      have hcv3 : (convert 22 9 (.slice a0 n0 c0)).run Try.prog w9 = .ok (.string (bs b0)) w9 := by
        rw [HN0.out]
        exact conv_any w9 a0 b0 c0 (RowAt.below HB0.out HL9.out)
      have HCO : Hid (Calls Try.prog 11 #[.string (bs b0), .string ⟨#[46]⟩] w9 fun e w' => e = .returned (.int .i64 (dc : Int)) ∧ w' = w9) := by
        have := Try.strings_Count_one (bs b0) 46 w9
        rw [HDC.out]
        exact this
      have HA9 := Lib.hid (HAW.out w9 HL9.out)
      generalize bs b0 = Z at *
      have q1 : (n : Int) ≤ (ms : Int) + (dc : Int) := by omega
      have q2 : (n : Int) - (dc : Int) ≤ (ms : Int) := by omega
      have q3 : (0 : Int) ≤ (dc : Int) := by omega
      have q4 : (dc : Int) ≤ 3000 := by omega
      have q5 : (n : Int) ≤ 3000 := by omega
      have q6 : (ms : Int) ≤ 7000 := by omega
      clear hdo hdl hms2 hcap7
      go_wp2_with (first
        | (go_at_call 11; refine HCO.out.mono ?_; rintro e w10 ⟨rfl, rfl⟩; clear HCO)
        | (go_at_call 7; refine HA9.out.mono ?_; rintro e w11 ⟨rfl, hb11⟩; have HL11 := Lib.hid (low_trans HL9.out hb11); clear hb11))
      go_ret
      exact ⟨rfl, HL11.out⟩
  · have h0' : (3000 : Int) < (n0 : Int) := by omega
    have HA := Lib.hid (HAW.out w (Below.refl _ _))
    clear hb0 hmx hn0 hg0
    go_enter Try.func5, Try.ntmps5
    go_wp2_with (go_at_call 7; refine HA.out.mono ?_; rintro e w9 ⟨rfl, hb9⟩; have HL9 := Lib.hid hb9; clear hb9)
    go_ret
    exact ⟨rfl, HL9.out⟩
end Go.Proofs.Ytlpplmcploddaaa
