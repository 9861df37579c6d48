/-
  The contract of frankinglaw13.DotsFront. Conditions: the slice lies in memory; the library's MaxLen holds some number.
-/
import Derived.Test.YtlpplmcploddaaaDtX
namespace Go.Proofs.Ytlpplmcploddaaa
open Go.RowKit Go.Shelf

set_option maxRecDepth 100000 in
set_option maxHeartbeats 1000000 in
theorem front_any (a0 : Option Addr) (b0 : List UInt8) (c0 : Nat) (cut : Nat) (hcut : cut < 65536) (w : World) (hb0 : BytesAt w a0 b0) (hc0 : b0.length ≤ c0) (mx : Int) (hmx : w.cell? ⟨0, 0, none⟩ = some (.int .i64 mx)) :
    Calls Try.prog 4 #[.slice a0 b0.length c0, .int .u16 (cut : Int)] w fun e w' => e = .returned (.bool true) ∧ Below w.heap.size w w' := by
  have hg0 : 0 < w.heap.size := World.block_lt_of_cell? w ⟨0, 0, none⟩ hmx
  have HMX : Hid (∀ W, Below w.heap.size w W → W.cell? ⟨0, 0, none⟩ = some (.int .i64 mx)) := fun W hb => (hb.cell (p := ⟨0, 0, none⟩) hg0).trans hmx
  have HAW : Hid (∀ W, Below w.heap.size w W → Calls Try.prog 7 #[] W fun e w' => e = .returned (.bool true) ∧ Below W.heap.size W w') := fun W hb => awake_any W mx (HMX.out W hb)
  obtain ⟨n0, hn0⟩ : ∃ n0, n0 = b0.length := ⟨_, rfl⟩
  rw [← hn0] at hc0
  rw [← hn0]
  by_cases h0 : n0 ≤ 3000
  · have h0' : ¬ (3000 : Int) < (n0 : Int) := by omega
    have HE := Lib.hid (encode_text hn0.symm hc0 (by omega) hb0 hmx (out := sentD b0) rfl)
    have HB0 := Lib.hid hb0
    have hbd := sent_bounds b0
    rw [← hn0] at hbd
    have hco : Lib.count (wholeD b0) [13, 10] ≤ n0 := by
      rw [count_whole, hn0]
      have := items_few 0 b0
      rw [← items_texts, List.length_map]
      exact this
    obtain ⟨ct, hct⟩ : ∃ ct, ct = Lib.count (wholeD b0) [13, 10] := ⟨_, rfl⟩
    rw [← hct] at hbd hco
    obtain ⟨S, hS⟩ : ∃ S, S = sentD b0 := ⟨_, rfl⟩
    rw [← hS] at hbd HE
    have HS := Lib.hid hS
    obtain ⟨ns, hns⟩ : ∃ ns, ns = S.length := ⟨_, rfl⟩
    rw [← hns] at hbd HE
    have HNS := Lib.hid hns
    have HN0 := Lib.hid hn0
    have HCT := Lib.hid hct
    obtain ⟨hb1, hb2⟩ := hbd
    have hns0 : ((ns : Int) == 0) = false := by rw [beq_eq_false_iff_ne]; omega
    obtain ⟨k, hk⟩ : ∃ k, k = cut % ns := ⟨_, rfl⟩
    have hkl : k < ns := by rw [hk]; exact Nat.mod_lt _ (by omega)
    have hrem : (cut : Int).tmod (ns : Int) = (k : Int) := by rw [rem_of _ _ (by omega), hk]
    have HW0 := Lib.hid (fun W hW => whole_any a0 b0 n0 hn0.symm c0 (by omega) W (RowAt.below hb0 hW))
    have HWL : Hid ((wholeD b0).length ≤ 3002) := by show _ ≤ _; have := (whole_len b0).2; omega
    clear hS hns hn0 hct hk hmx hg0 hb0
    go_enter Try.func4, Try.ntmps4
    go_upto_region 4 with (go_at_call 8; refine HE.out.mono ?_; rintro e w5 ⟨g5, c5, rfl, hby5, hown5, hb5⟩; have HBY5 := Lib.hid hby5; have HCP := Lib.hid (own_cap hown5); have HL5 := Lib.hid hb5; clear hby5 hown5 hb5 HE)
    have hcp : ns ≤ c5 := by have := HCP.out; have := HNS.out; omega
    have hsl := slice_to (some ⟨g5, 0, none⟩) ns c5 k (by omega)
    have HD := Lib.hid (decode_no (a := some ⟨g5, 0, none⟩) (b := S.take k) (m := k) (by rw [List.length_take, ← HNS.out]; omega) (c := c5) (by omega) (by omega) (take_bytes HBY5.out k) (HMX.out _ HL5.out) (by
      refine read_front b0 _ ?_ ?_
      · rw [HS.out]; exact List.take_prefix _ _
      · rw [List.length_take, ← HS.out, ← HNS.out]; omega))
    go_upto_region 7 with (go_at_call 9; refine HD.out.mono ?_; rintro e w8 ⟨rfl, hb8⟩; have HL8 := Lib.hid (low_trans HL5.out hb8); clear hb8 HD)
    have HWC := Lib.hid (HW0.out w8 HL8.out)
    have HCC : Hid (Calls Try.prog 11 #[.string (bs (wholeD b0)), .string ⟨#[13, 10]⟩] w8 fun e w' => e = .returned (.int .i64 (ct : Int)) ∧ w' = w8) := by
      have := Try.strings_Count (bs (wholeD b0)) ⟨#[13, 10]⟩ mx w8 (by rw [bs_size]; have := HWL.out; omega) (HMX.out _ HL8.out) (by decide)
      rw [HCT.out]
      exact this
    have HA8 := Lib.hid (HAW.out w8 HL8.out)
    generalize bs (wholeD b0) = X at *
    go_upto_region 8 with (first
      | (go_at_call 10; refine HWC.out.mono ?_; rintro e w9 ⟨rfl, rfl⟩; clear HWC)
      | (go_at_call 11; refine HCC.out.mono ?_; rintro e w9 ⟨rfl, rfl⟩; clear HCC))
    have q1 : (n0 : Int) + 3 ≤ (ns : Int) := by omega
    have q2 : (ns : Int) ≤ (n0 : Int) + (ct : Int) + 5 := by omega
    have q3 : (n0 : Int) ≤ 3000 := by omega
    have q4 : (ct : Int) ≤ 3000 := by omega
    go_wp2_with (go_at_call 7; refine HA8.out.mono ?_; rintro e w9 ⟨rfl, hb9⟩; have HL9 := Lib.hid (low_trans HL8.out hb9); clear hb9)
    go_ret
    exact ⟨rfl, HL9.out⟩
  · have h0' : (3000 : Int) < (n0 : Int) := by omega
    have HA := Lib.hid (HAW.out w (Below.refl _ _))
    clear hb0 hmx hn0 hg0
    go_enter Try.func4, Try.ntmps4
    go_wp2_with (go_at_call 7; refine HA.out.mono ?_; rintro e w9 ⟨rfl, hb9⟩; have HL9 := Lib.hid hb9; clear hb9)
    go_ret
    exact ⟨rfl, HL9.out⟩
end Go.Proofs.Ytlpplmcploddaaa
