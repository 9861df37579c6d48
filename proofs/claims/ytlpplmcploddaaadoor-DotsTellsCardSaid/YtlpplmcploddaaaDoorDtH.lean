/-
  The contract of the document's own Decode. Conditions: at most 3000 bytes, in memory; the library's MaxLen holds some number.
-/
import Derived.Test.YtlpplmcploddaaaDoorDtV
namespace Go.Proofs.YtlpplmcploddaaaDoor
open Go.RowKit Go.Shelf

theorem rep_two (x : List UInt8) : 2 ≤ (rep [13, 10] (13 :: 10 :: x)).length := by
  by_cases h : (10 :: x).take 2 = [10, 46]
  · have : ∃ r, x = 46 :: r := by
      cases x with
      | nil => simp at h
      | cons y r => simp at h; exact ⟨r, by rw [h]⟩
    obtain ⟨r, rfl⟩ := this
    rw [rep_hit]
    simp
  · rw [rep_on _ 13 _ (fun hh => h hh.2), rep_on _ 10 _ (by simp)]
    simp
set_option maxRecDepth 100000 in
set_option maxHeartbeats 1000000 in
theorem rdecode_any (a : Option Addr) (b : List UInt8) (m : Nat) (hm : b.length = m) (c : Nat) (hm2 : m ≤ 3000) (w : World) (h : BytesAt w a b) (mx : Int) (hmx : w.cell? ⟨0, 0, none⟩ = some (.int .i64 mx)) :
    Calls Tryd.prog 10 #[.slice a m c] w fun e w' => ∃ A c' body n ok, e = .returned (.tuple #[.slice A (List.length body) c', .int .i64 ((n : Nat) : Int), .bool ok]) ∧ BytesAt w' A body ∧ Below w.heap.size w w' ∧ ((ok = false ∧ readD b = none ∧ n = 0 ∧ body = []) ∨ (ok = true ∧ readD b = some (body, n))) := by
  have hcvb := conv_any w a b c h
  rw [hm] at hcvb
  have hbs : (bs b).size = m := by rw [bs_size, hm]
  obtain ⟨SX, hSX⟩ : ∃ SX, SX = (⟨#[13, 10]⟩ : ByteArray) ++ bs b := ⟨_, rfl⟩
  have hSX2 : SX = bs (13 :: 10 :: b) := by
    rw [hSX, show (13 : UInt8) :: 10 :: b = [13, 10] ++ b from rfl, bs_cat]
    rfl
  have hsx : SX.size = m + 2 := by rw [hSX2, bs_size, List.length_cons, List.length_cons, hm]
  have hb0 : ¬ 9223372036854775807 < 2 + (bs b).size := by omega
  have hix := Tryd.strings_Index SX ⟨#[13, 10, 46, 13, 10]⟩ mx w (by omega) hmx
  rw [hSX2, bs_list, show (⟨#[13, 10, 46, 13, 10]⟩ : ByteArray).data.toList = endP from rfl, ← hSX2] at hix
  rcases ref_read b with ⟨h1, h2⟩ | ⟨i, h1, h2, h3⟩
  · rw [h1] at hix
    have HIX := Lib.hid hix
    rw [hSX] at HIX
    clear hix hSX hSX2 hsx h hm hbs h1 hmx
    generalize bs b = X at *
    go_enter Tryd.func10, Tryd.ntmps10
    go_wp2_with (go_at_call 16; refine HIX.out.mono ?_; rintro e w4 ⟨rfl, rfl⟩; clear HIX)
    go_ret3
    exact ⟨none, 0, [], 0, false, rfl, ⟨by decide, fun h => absurd h (by decide)⟩, Below.refl _ _, .inl ⟨rfl, h2, rfl, rfl⟩⟩
  · rw [h1] at hix
    have HIX := Lib.hid hix
    have hsm := (again_of b _ _ h3).small
    obtain ⟨Pf, hPf⟩ : ∃ Pf, Pf = (13 :: 10 :: b).take (i + 2) := ⟨_, rfl⟩
    obtain ⟨R, hR⟩ : ∃ R, R = rep [13, 10] Pf := ⟨_, rfl⟩
    rw [← hPf, ← hR] at h3 hsm
    obtain ⟨PS, hPS⟩ : ∃ PS, PS = bs Pf := ⟨_, rfl⟩
    obtain ⟨RS, hRS⟩ : ∃ RS, RS = bs R := ⟨_, rfl⟩
    obtain ⟨Z, hZ⟩ : ∃ Z, Z = R.drop 2 := ⟨_, rfl⟩
    obtain ⟨ZS, hZS⟩ : ∃ ZS, ZS = bs Z := ⟨_, rfl⟩
    rw [← hZ] at h3 hsm
    have hpl : Pf.length = i + 2 := by rw [hPf, List.length_take]; simp; omega
    have HP : Hid (Calls Tryd.prog 17 #[.string PS, .string ⟨#[13, 10, 46]⟩, .string ⟨#[13, 10]⟩] w fun e w' => e = .returned (.string RS) ∧ Below w.heap.size w w') := by
      rw [hPS, hRS, hR]
      exact replace_call Pf [13, 10] (by omega) (by decide) (by decide) w mx hmx
    have hr2 : 2 ≤ RS.size := by
      rw [hRS, bs_size, hR, hPf, show i + 2 = (i + 1) + 1 from rfl, List.take_succ_cons, List.take_succ_cons]
      exact rep_two _
    have hfold1 : ∀ k, k = i + 2 → SX.extract 0 k = PS := fun k hk => by
      rw [hk, hPS, hPf, hSX2, ext_bs]
      simp
    have hf1 := hfold1 ((i : Int) + 2).toNat (by omega)
    have hf2 := hfold1 (i + 2) rfl
    have hfold2 : RS.extract 2 RS.size = ZS := by rw [hRS, hZS, hZ, ext_from]
    have HCV : Hid (∀ W, ∃ c', (convert 9 22 (.string ZS)).run Tryd.prog W = .ok (.slice (some ⟨W.heap.size, 0, none⟩) Z.length c') (Lib.bytesWorld W 5 (bs Z)) ∧ BytesAt (Lib.bytesWorld W 5 (bs Z)) (some ⟨W.heap.size, 0, none⟩) Z ∧ Below W.heap.size W (Lib.bytesWorld W 5 (bs Z))) := fun W => by
      have := Lib.run_convert_string_bytes (P := Tryd.prog) W 9 22 5 (bs Z) (u := .string) Tryd.underlying9 Tryd.underlying22 Tryd.underlying5
      rw [bs_size] at this
      exact ⟨_, by rw [hZS]; exact this, text_bytes W Z (by unfold maxLen; omega), text_low W Z⟩
    have q1 : ¬ (i : Int) < 0 := by omega
    have q2 : (0 : Int) ≤ (i : Int) + 2 := by omega
    have q3 : (i : Int) + 2 ≤ (SX.size : Int) := by omega
    have q4 : (i : Int) ≤ 3000 := by omega
    have q0 : (0 : Int) ≤ (i : Int) := by omega
    have H3 := Lib.hid h3
    obtain ⟨X, hX⟩ : ∃ X, X = bs b := ⟨_, rfl⟩
    rw [← hX] at hcvb hb0 hSX
    have hfs : (⟨#[13, 10]⟩ : ByteArray) ++ X = SX := hSX.symm
    clear hix hSX hSX2 hsx h hm hbs h1 h2 h3 hmx hsm hPf hR hPS hRS hZ hZS hpl hfold1 hX
    go_enter Tryd.func10, Tryd.ntmps10
    go_wp2_with (first
      | (go_at_call 16; refine HIX.out.mono ?_; rintro e w4 ⟨rfl, rfl⟩; clear HIX)
      | (go_at_call 17; refine HP.out.mono ?_; rintro e w5 ⟨rfl, hb5⟩; have HL5 := Lib.hid hb5; obtain ⟨c5, hcv5, hby5, hlo5⟩ := HCV.out w5; have HBY5 := Lib.hid hby5; have HLO5 := Lib.hid hlo5; clear hb5 hby5 hlo5 HP))
    go_ret3
    exact ⟨_, _, Z, i + 3, true, rfl, HBY5.out, low_trans HL5.out HLO5.out, .inr ⟨rfl, H3.out⟩⟩
end Go.Proofs.YtlpplmcploddaaaDoor
