/-
  The contract of frankinglaw13.DotsBack. Conditions: the slices lie in memory; the library's MaxLen holds some number.
-/
import Derived.Test.YtlpplmcploddaaaDtW
import Derived.StillTailTactics
namespace Go.Proofs.Ytlpplmcploddaaa
open Go.RowKit Go.Shelf

/-- an empty row that is there -/
theorem empty_row (W : World) (base : Nat) (hb : base ≤ W.heap.size) : (W.alloc (.cells #[] 5)).ownsRow base 5 1 (.slice (some ⟨W.heap.size, 0, none⟩) 0 0) ([] : List UInt8).length (([] : List UInt8).map byteV) :=
  ⟨rfl, .inr ⟨W.heap.size, 0, #[], rfl, hb, by show (W.heap.push _)[W.heap.size]? = _; simp, Nat.le_refl _, Nat.zero_le _, rfl, rfl⟩⟩
theorem own_cap {W : World} {B z n k : Nat} {e : TypeId} {A : Option Addr} {c : Nat} {xs : List Value} (h : W.ownsRow B e z (.slice A n c) k xs) : k ≤ c := by
  rcases h.2 with ⟨h1, h0⟩ | ⟨g, cap, cur, h1, _, _, h2, _⟩
  · rw [h0]; exact Nat.zero_le _
  · injection h1 with _ _ h1
    subst h1
    exact h2
set_option maxRecDepth 100000 in
set_option maxHeartbeats 1000000 in
theorem back_any (a0 a1 : Option Addr) (b0 b1 : List UInt8) (c0 c1 : Nat) (w : World) (hb0 : BytesAt w a0 b0) (hb1 : BytesAt w a1 b1) (hc0 : b0.length ≤ c0) (hc1 : b1.length ≤ c1) (mx : Int) (hmx : w.cell? ⟨0, 0, none⟩ = some (.int .i64 mx)) :
    Calls Try.prog 3 #[.slice a0 b0.length c0, .slice a1 b1.length c1] w fun e w' => e = .returned (.bool true) ∧ Below w.heap.size w w' := by
  obtain ⟨i0, hi, hz0, hz1, hz2⟩ := info_parts info8
  have hg0 : 0 < w.heap.size := World.block_lt_of_cell? w ⟨0, 0, none⟩ hmx
  have HMX : Hid (∀ W, Below w.heap.size w W → W.cell? ⟨0, 0, none⟩ = some (.int .i64 mx)) := fun W hb => (hb.cell (p := ⟨0, 0, none⟩) hg0).trans hmx
  have HAW : Hid (∀ W, Below w.heap.size w W → Calls Try.prog 7 #[] W fun e w' => e = .returned (.bool true) ∧ Below W.heap.size W w') := fun W hb => awake_any W mx (HMX.out W hb)
  obtain ⟨n0, hn0⟩ : ∃ n0, n0 = b0.length := ⟨_, rfl⟩
  obtain ⟨n1, hn1⟩ : ∃ n1, n1 = b1.length := ⟨_, rfl⟩
  rw [← hn0] at hc0
  rw [← hn1] at hc1
  rw [← hn0, ← hn1]
  by_cases h0 : n0 ≤ 3000
  · have h0' : ¬ (3000 : Int) < (n0 : Int) := by omega
    by_cases h1 : n1 ≤ 3000
    · have h1' : ¬ (3000 : Int) < (n1 : Int) := by omega
      have HE := Lib.hid (encode_text hn0.symm hc0 (by omega) hb0 hmx (out := sentD b0) rfl)
      have HB0 := Lib.hid hb0
      have HB1 := Lib.hid hb1
      have HN0 := Lib.hid hn0
      have HN1 := Lib.hid hn1
      clear hb0 hb1 hmx hn0 hn1 hg0
      have hsl : (sentD b0).length ≤ 7000 := by
        have h1 := (sent_bounds b0).2
        have h2 : Lib.count (wholeD b0) [13, 10] ≤ b0.length := by
          rw [count_whole]
          have := items_few 0 b0
          rw [← items_texts, List.length_map]
          exact this
        have := HN0.out
        omega
      obtain ⟨S, hS⟩ : ∃ S, S = sentD b0 := ⟨_, rfl⟩
      rw [← hS] at hsl HE
      have HS := Lib.hid hS
      obtain ⟨ns, hns⟩ : ∃ ns, ns = S.length := ⟨_, rfl⟩
      rw [← hns] at hsl HE
      have HNS := Lib.hid hns
      clear hS hns
      go_enter Try.func3, Try.ntmps3
      go_upto_region 4 with (go_at_call 8; refine HE.out.mono ?_; rintro e w5 ⟨g5, c5, rfl, hby5, hown5, hb5⟩; have HBY5 := Lib.hid hby5; have HL5 := Lib.hid hb5; clear hby5 hown5 hb5 HE)
      have hq := empty_row w5 (w5.heap.size) (Nat.le_refl _)
      have HQ := Lib.hid hq
      have HBYQ : Hid (BytesAt (w5.alloc (.cells #[] 5)) (some ⟨g5, 0, none⟩) S) := RowAt.below HBY5.out ((Below.refl _ _).alloc (Nat.le_refl _) _)
      clear hq
      go_wp2_with (at_builtin; refine wpList_append_rows rfl _ _ 22 rfl w5.heap.size 5 i0 (.int .u8 0) 1 1 Try.underlying22 hi hz0 hz1 hz2 rfl (by decide) _ _ _ rfl HQ.out (some ⟨g5, 0, none⟩) ns c5 (S.map byteV) rfl ?c1 HBYQ.out byteV_one ?c3 ?c4 ?c5 ?_)
      case c1 => rw [List.length_map, HNS.out, Nat.mul_one]
      case c3 => unfold maxLen; show 0 + _ ≤ _; omega
      case c4 => show (0 + _) * 1 ≤ _; omega
      case c5 => simp
      intro v6 w6 hown6 hg6
      have HS6 : Hid (StW w5.heap.size w5 w6 v6 S) := StW.grown (l := []) ⟨HQ.out, (Below.refl _ _).alloc (Nat.le_refl _) _, KeepsOthers.alloc _ _, Nat.le_refl _⟩ S HNS.out rfl (by simpa using hown6) hg6
      have HB6 : Hid (BytesAt w6 a1 b1) := RowAt.below HB1.out (low_trans HL5.out HS6.out.low)
      clear hown6 hg6 HQ HBYQ
      go_wp2_with (at_builtin; refine wpList_append_rows rfl _ _ 22 rfl w5.heap.size 5 i0 (.int .u8 0) 1 1 Try.underlying22 hi hz0 hz1 hz2 rfl (by decide) _ _ _ rfl HS6.out.own a1 n1 c1 (b1.map byteV) rfl ?c1 HB6.out byteV_one ?c3 ?c4 ?c5 ?_)
      case c1 => rw [List.length_map, HN1.out, Nat.mul_one]
      case c3 => have := HNS.out; unfold maxLen; simp; omega
      case c4 => have := HNS.out; simp; omega
      case c5 => exact Nat.le_trans HS6.out.hb HS6.out.low.size
      intro v7 w7 hown7 hg7
      have hs7 := HS6.out.grown b1 HN1.out rfl hown7 hg7
      clear hown7 hg7
      obtain ⟨A7, c7, rfl⟩ := own_slice' hs7.own
      have hL7 := low_trans HL5.out hs7.low
      obtain ⟨nt, hnt⟩ : ∃ nt, nt = (S ++ b1).length := ⟨_, rfl⟩
      have hnt2 : nt = ns + n1 := by rw [hnt, List.length_append, ← HNS.out, ← HN1.out]
      obtain ⟨WB, hWB⟩ : ∃ WB, WB = wholeD b0 := ⟨_, rfl⟩
      have hwl : WB.length ≤ 3002 := by rw [hWB]; have := (whole_len b0).2; have := HN0.out; omega
      have HD := Lib.hid (decode_yes (a := A7) (b := S ++ b1) (m := nt) hnt.symm (c := c7) (by rw [hnt]; exact own_cap hs7.own) (by omega) (row_of_own hs7.own (by rw [List.length_map, ← hnt]; unfold maxLen; omega)) (HMX.out _ hL7) (body := WB) (n := ns) (by rw [HS.out, HNS.out, HS.out, hWB, whole_all]; exact read_sent b0 b1) (by omega))
      rw [← hnt]
      have HL7 := Lib.hid hL7
      have HWB := Lib.hid hWB
      obtain ⟨nw, hnw⟩ : ∃ nw, nw = WB.length := ⟨_, rfl⟩
      have HNW := Lib.hid hnw
      rw [← hnw] at HD
      clear hs7 hnt hnt2 hwl hWB hL7 hnw HS6 HB6
      go_upto_region 5 with (go_at_call 9; refine HD.out.mono ?_; rintro e w8 ⟨A8, c8, rfl, hby8, hown8, hb8⟩; have HBY8 := Lib.hid hby8; have HL8 := Lib.hid (low_trans HL7.out hb8); clear hby8 hown8 hb8 HD)
      have hdr : Below w8.heap.size w8 w8.drew := (Below.refl _ _).drew
      have hcv : (convert 22 9 (.slice A8 nw c8)).run Try.prog w8.drew = .ok (.string (bs WB)) w8.drew := by
        rw [HNW.out]
        exact conv_any w8.drew A8 WB c8 (RowAt.below HBY8.out hdr)
      have HLD : Hid (Below w.heap.size w w8.drew) := low_trans HL8.out hdr
      have HWH := Lib.hid (whole_any a0 b0 n0 HN0.out.symm c0 (by omega) w8.drew (RowAt.below HB0.out HLD.out))
      rw [← HWB.out] at HWH
      clear hdr
      generalize bs WB = X at *
      refine wp_region_still_tail 15 (by kernel_rfl) (by kernel_rfl) ?_
      simp only [List.take_succ_cons, List.take_zero, List.drop_succ_cons, List.drop_zero]
      repeat still_step
      still_call (HWH.out.mono fun _ _ h => ⟨h.1, h.2.symm⟩)
      repeat still_step
      refine wpStill_nil ?_
      go_wp2_with (go_at_call 7; refine (HAW.out _ HLD.out).mono ?_; rintro e w9 ⟨rfl, hb9⟩; have HL9 := Lib.hid (low_trans HLD.out hb9); clear hb9)
      go_ret
      exact ⟨rfl, HL9.out⟩
    · have h1' : (3000 : Int) < (n1 : Int) := by omega
      have HA := Lib.hid (HAW.out w (Below.refl _ _))
      clear hb0 hb1 hmx hn0 hn1 hg0
      go_enter Try.func3, Try.ntmps3
      go_wp2_with (go_at_call 7; refine HA.out.mono ?_; rintro e w9 ⟨rfl, hb9⟩; have HL9 := Lib.hid hb9; clear hb9)
      go_ret
      exact ⟨rfl, HL9.out⟩
  · have h0' : (3000 : Int) < (n0 : Int) := by omega
    have HA := Lib.hid (HAW.out w (Below.refl _ _))
    clear hb0 hb1 hmx hn0 hn1 hg0
    go_enter Try.func3, Try.ntmps3
    go_wp2_with (go_at_call 7; refine HA.out.mono ?_; rintro e w9 ⟨rfl, hb9⟩; have HL9 := Lib.hid hb9; clear hb9)
    go_ret
    exact ⟨rfl, HL9.out⟩
end Go.Proofs.Ytlpplmcploddaaa
