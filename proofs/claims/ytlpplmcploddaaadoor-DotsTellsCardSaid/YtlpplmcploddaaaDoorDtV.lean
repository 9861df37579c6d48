/-
  The contracts of the document's own Stuff, Unstuff, Encode, Decode. Conditions: texts within Go's own bounds, bytes in memory; the library's MaxLen holds some number.
-/
import Derived.Test.YtlpplmcploddaaaDoorDtW
import Derived.Test.YtlpplmcploddaaaDoorDtU
namespace Go.Proofs.YtlpplmcploddaaaDoor
open Go.RowKit Go.Shelf

set_option maxRecDepth 100000 in
set_option maxHeartbeats 1000000 in
theorem rstuff_any (l : List UInt8) (hl : l.length ≤ 1000000) (w : World) :
    Calls Tryd.prog 8 #[.string (bs l)] w fun e w' => e = .returned (.string (bs (stuffD l))) ∧ w = w' := by
  cases l with
  | nil =>
    go_enter Tryd.func8, Tryd.ntmps8
    go_wp2
    go_ret
    exact ⟨rfl, rfl⟩
  | cons c r =>
    have hsz : (bs (c :: r)).size = r.length + 1 := rfl
    have h0 : ∀ h, (bs (c :: r))[0]'h = c := fun _ => rfl
    have hs0 : 0 < (bs (c :: r)).size := by rw [hsz]; omega
    have hs1 : ¬ 9223372036854775807 < 1 + (bs (c :: r)).size := by rw [hsz]; simp at hl; omega
    by_cases hc : c = 46
    · subst hc
      have e : bs (stuffD (46 :: r)) = ⟨#[46]⟩ ++ bs (46 :: r) := by
        rw [show stuffD (46 :: r) = [46] ++ (46 :: r) from by simp [stuffD], bs_cat]
        rfl
      rw [e]
      clear hsz e
      generalize bs (46 :: r) = S at *
      go_enter Tryd.func8, Tryd.ntmps8
      go_wp2
      go_ret
      exact ⟨rfl, rfl⟩
    · have e : stuffD (c :: r) = c :: r := by unfold stuffD; rw [if_neg (by simpa using hc)]
      rw [e]
      have hn : ((c.toNat : Int) == 46) = false := by
        rw [beq_eq_false_iff_ne]
        intro h
        apply hc
        have : c.toNat = 46 := by omega
        exact UInt8.toNat_inj.1 this
      clear hsz e
      generalize bs (c :: r) = S at *
      go_enter Tryd.func8, Tryd.ntmps8
      go_wp2
      go_ret
      exact ⟨rfl, rfl⟩
set_option maxRecDepth 100000 in
set_option maxHeartbeats 1000000 in
theorem runstuff_any (l : List UInt8) (hl : l.length ≤ 1000000) (w : World) :
    Calls Tryd.prog 6 #[.string (bs l)] w fun e w' => e = .returned (.tuple #[.string (bs (unstD l)), .bool (decide (l = [46]))]) ∧ w = w' := by
  cases l with
  | nil =>
    go_enter Tryd.func6, Tryd.ntmps6
    go_wp2
    go_ret2
    exact ⟨rfl, rfl⟩
  | cons c r =>
    have hsz : (bs (c :: r)).size = r.length + 1 := rfl
    have h0 : ∀ h, (bs (c :: r))[0]'h = c := fun _ => rfl
    have hs0 : 0 < (bs (c :: r)).size := by rw [hsz]; omega
    have hs1 : 1 ≤ (bs (c :: r)).size := hs0
    by_cases hc : c = 46
    · subst hc
      by_cases hr : r = []
      · subst hr
        have e : unstD [46] = [] := by simp [unstD]
        rw [e, show decide ([(46 : UInt8)] = [46]) = true from by decide]
        have hs2 : (bs [46]).size = 1 := rfl
        clear hsz e
        go_enter Tryd.func6, Tryd.ntmps6
        go_wp2
        go_ret2
        exact ⟨rfl, rfl⟩
      · have e : unstD (46 :: r) = r := by simp [unstD]
        rw [e, show decide ((46 : UInt8) :: r = [46]) = false from by simp [hr]]
        have hx : bs r = (bs (46 :: r)).extract 1 (bs (46 :: r)).size := by
          apply ByteArray.ext
          rw [ByteArray.data_extract, hsz]
          simp [bs]
        have hne : (((bs (46 :: r)).size : Int) == 1) = false := by
          rw [beq_eq_false_iff_ne, hsz]
          have := List.length_pos_iff.2 hr
          omega
        rw [hx]
        clear hsz e hx
        generalize bs (46 :: r) = S at *
        go_enter Tryd.func6, Tryd.ntmps6
        go_wp2
        go_ret2
        exact ⟨rfl, rfl⟩
    · have e : unstD (c :: r) = c :: r := by unfold unstD; rw [if_neg (by simpa using hc)]
      rw [e, show decide (c :: r = [46]) = false from by simp [hc]]
      have hn : ((c.toNat : Int) == 46) = false := by
        rw [beq_eq_false_iff_ne]
        intro h
        apply hc
        have : c.toNat = 46 := by omega
        exact UInt8.toNat_inj.1 this
      clear hsz e
      generalize bs (c :: r) = S at *
      go_enter Tryd.func6, Tryd.ntmps6
      go_wp2
      all_goals go_ret2
      all_goals exact ⟨rfl, rfl⟩
theorem replace_call (s new : List UInt8) (hs : s.length ≤ 100000) (hn : new.length ≤ 10) (hne : new ≠ dotP) (w : World) (mx : Int) (hmx : w.cell? ⟨0, 0, none⟩ = some (.int .i64 mx)) :
    Calls Tryd.prog 17 #[.string (bs s), .string ⟨#[13, 10, 46]⟩, .string (bs new)] w fun e w' => e = .returned (.string (bs (rep new s))) ∧ Below w.heap.size w w' := by
  have hz : (bs s).size = s.length := rfl
  have hz2 : (bs new).size = new.length := rfl
  have hmul := Lib.countB_mul_le ⟨#[13, 10, 46]⟩ (by decide) (bs s).size (bs s) (Nat.le_refl _)
  have h3 : (⟨#[13, 10, 46]⟩ : ByteArray).size = 3 := rfl
  rw [h3, hz] at hmul
  have := Tryd.strings_ReplaceAll (bs s) ⟨#[13, 10, 46]⟩ (bs new) mx w (by rw [hz]; omega) hmx (by decide) (by
    rw [hz, hz2]
    have : Lib.countB (bs s) ⟨#[13, 10, 46]⟩ * new.length ≤ Lib.countB (bs s) ⟨#[13, 10, 46]⟩ * 10 := Nat.mul_le_mul_left _ hn
    omega)
  rw [bs_list, bs_list, show (⟨#[13, 10, 46]⟩ : ByteArray).data.toList = dotP from rfl, replaceAll_rep new s hne] at this
  exact this
theorem ext_bs (l : List UInt8) (a z : Nat) : (bs l).extract a z = bs ((l.drop a).take (z - a)) := by
  apply ByteArray.ext
  apply Array.toList_inj.1
  rw [ByteArray.data_extract, Array.toList_extract, List.extract_eq_take_drop]
  rfl
theorem ext_from (l : List UInt8) (a : Nat) : (bs l).extract a (bs l).size = bs (l.drop a) := by
  rw [ext_bs, bs_size, List.take_of_length_le (by rw [List.length_drop]; omega)]
theorem sent_le (b : List UInt8) (n : Nat) (h : b.length ≤ n) : (sentD b).length ≤ 2 * n + 5 := by
  have h1 := (sent_bounds b).2
  have h2 : Lib.count (wholeD b) [13, 10] ≤ b.length := by
    rw [count_whole]
    have := items_few 0 b
    rw [← items_texts, List.length_map]
    exact this
  omega
set_option maxRecDepth 100000 in
set_option maxHeartbeats 1000000 in
theorem rencode_any (a : Option Addr) (b : List UInt8) (m : Nat) (hm : b.length = m) (c : Nat) (hm2 : m ≤ 3000) (w : World) (h : BytesAt w a b) (mx : Int) (hmx : w.cell? ⟨0, 0, none⟩ = some (.int .i64 mx)) :
    Calls Tryd.prog 12 #[.slice a m c] w fun e w' => ∃ g c', e = .returned (.slice (some ⟨g, 0, none⟩) (sentD b).length c') ∧ BytesAt w' (some ⟨g, 0, none⟩) (sentD b) ∧ Below w.heap.size w w' := by
  have hP : ∀ x, x = bs (13 :: 10 :: wholeD b) → Hid (Calls Tryd.prog 17 #[.string x, .string ⟨#[13, 10, 46]⟩, .string ⟨#[13, 10, 46, 46]⟩] w fun e w' => e = .returned (.string (bs (rep [13, 10, 46, 46] (13 :: 10 :: wholeD b)))) ∧ Below w.heap.size w w') := fun x hx => by
    subst hx
    exact replace_call (13 :: 10 :: wholeD b) [13, 10, 46, 46] (by have := (whole_len b).2; simp; omega) (by decide) (by decide) w mx hmx
  have hrs := ref_sent b
  have hsl := sent_le b 3000 (by omega)
  obtain ⟨R, hR⟩ : ∃ R, R = rep [13, 10, 46, 46] (13 :: 10 :: wholeD b) := ⟨_, rfl⟩
  obtain ⟨Z, hZ⟩ : ∃ Z, Z = sentD b := ⟨_, rfl⟩
  rw [← hR] at hP hrs
  rw [← hZ] at hrs hsl ⊢
  obtain ⟨RS, hRS⟩ : ∃ RS, RS = bs R := ⟨_, rfl⟩
  obtain ⟨ZS, hZS⟩ : ∃ ZS, ZS = bs Z := ⟨_, rfl⟩
  rw [← hRS] at hP
  have hrl : 2 ≤ R.length := by
    rw [hR, whole_all]
    have := rep_stuff (allD b) (all_noEnd b)
    unfold behindE at this
    rw [this]
    simp
  have hz1 : RS.size = R.length := by rw [hRS]; rfl
  have hz2 : ZS.size = Z.length := by rw [hZS]; rfl
  have hlen : R.length - 2 + 3 = Z.length := by
    have := congrArg List.length hrs
    rw [List.length_append, List.length_drop] at this
    simpa using this
  have hfold : RS.extract 2 RS.size ++ (⟨#[46, 13, 10]⟩ : ByteArray) = ZS := by
    rw [hZS, ← hrs, bs_cat, hRS, ext_from]
    rfl
  have hr2 : 2 ≤ RS.size := by omega
  have hex : (RS.extract 2 RS.size).size = RS.size - 2 := by simp [ByteArray.size_extract]
  have hb1 : ¬ 9223372036854775807 < (RS.extract 2 RS.size).size + 3 := by omega
  have hb2 : ¬ 9223372036854775807 < RS.size - 2 + 3 := by omega
  have HCV : Hid (∀ W, ∃ c', (convert 9 22 (.string ZS)).run Tryd.prog W = .ok (.slice (some ⟨W.heap.size, 0, none⟩) Z.length c') (Lib.bytesWorld W 5 (bs Z)) ∧ BytesAt (Lib.bytesWorld W 5 (bs Z)) (some ⟨W.heap.size, 0, none⟩) Z ∧ Below W.heap.size W (Lib.bytesWorld W 5 (bs Z))) := fun W => by
    have := Lib.run_convert_string_bytes (P := Tryd.prog) W 9 22 5 (bs Z) (u := .string) Tryd.underlying9 Tryd.underlying22 Tryd.underlying5
    rw [bs_size] at this
    exact ⟨_, by rw [hZS]; exact this, text_bytes W Z (by unfold maxLen; omega), text_low W Z⟩
  have hcvb := conv_any w a b c h
  have hbs : (bs b).size = m := by rw [bs_size, hm]
  by_cases h0 : b = []
  · subst h0
    have hm0 : m = 0 := by rw [← hm]; rfl
    subst hm0
    have HP := hP ⟨#[13, 10]⟩ rfl
    have hcv0 : (convert 22 9 (.slice a 0 c)).run Tryd.prog w = .ok (.string ⟨#[]⟩) w := hcvb
    clear hcvb hP hrs hR hZ hRS hZS hrl hz1 hz2 hlen hex hsl hbs
    go_enter Tryd.func12, Tryd.ntmps12
    go_wp2_with (go_at_call 17; refine HP.out.mono ?_; rintro e w5 ⟨rfl, hb5⟩; have HL5 := Lib.hid hb5; obtain ⟨c5, hcv5, hby5, hlo5⟩ := HCV.out w5; have HBY5 := Lib.hid hby5; have HLO5 := Lib.hid hlo5; clear hb5 hby5 hlo5 HP)
    go_ret
    exact ⟨_, _, rfl, HBY5.out, low_trans HL5.out HLO5.out⟩
  · have hsuf : ∀ x : ByteArray, x = ⟨#[13, 10]⟩ ++ bs b → Calls Tryd.prog 18 #[.string x, .string ⟨#[13, 10]⟩] w fun e w' => e = .returned (.bool (decide ([13, 10] <:+ b))) ∧ w' = w := fun x hx => by
      have := Tryd.strings_HasSuffix x ⟨#[13, 10]⟩ w (by rw [hx, ByteArray.size_append, hbs]; show 2 + _ ≤ _; omega)
      have e1 : x.data.toList = 13 :: 10 :: b := by
        rw [hx, ByteArray.data_append]
        simp [bs]
      have e2 : Lib.hasSuffix (13 :: 10 :: b) [13, 10] = decide ([13, 10] <:+ b) := by
        unfold Lib.hasSuffix
        rw [Bool.eq_iff_iff, decide_eq_true_iff, List.isSuffixOf_iff_suffix]
        constructor
        · rintro ⟨t, ht⟩
          match t, ht with
          | [], ht => exact absurd (by simpa using ht) h0
          | [x], ht =>
            exfalso
            simp at ht
          | x :: y :: t, ht =>
            simp at ht
            exact ⟨t, ht.2.2⟩
        · rintro ⟨t, ht⟩
          exact ⟨13 :: 10 :: t, by rw [← ht]; rfl⟩
      rw [e1, show (⟨#[13, 10]⟩ : ByteArray).data.toList = [13, 10] from rfl, e2] at this
      exact this
    have hm0 : (0 : Int) < (m : Int) := by have := List.length_pos_iff.2 h0; omega
    have hm0' : 0 < m := by omega
    rw [hm] at hcvb
    by_cases h1 : [13, 10] <:+ b
    · have hw : wholeD b = b := by unfold wholeD; rw [if_pos (.inr h1)]
      have HP := hP (⟨#[13, 10]⟩ ++ bs b) (by
        rw [hw, show (13 : UInt8) :: 10 :: b = [13, 10] ++ b from rfl, bs_cat]
        rfl)
      have HSF := Lib.hid (hsuf _ rfl)
      rw [decide_eq_true h1] at HSF
      have hb0 : ¬ 9223372036854775807 < 2 + (bs b).size := by omega
      clear hP hrs hR hZ hRS hZS hrl hz1 hz2 hlen hex hsl hbs hsuf h0 h1 hw
      generalize bs b = X at *
      go_enter Tryd.func12, Tryd.ntmps12
      go_wp2_with (first
        | (go_at_call 18; refine HSF.out.mono ?_; rintro e w4 ⟨rfl, rfl⟩; clear HSF)
        | (go_at_call 17; refine HP.out.mono ?_; rintro e w5 ⟨rfl, hb5⟩; have HL5 := Lib.hid hb5; obtain ⟨c5, hcv5, hby5, hlo5⟩ := HCV.out w5; have HBY5 := Lib.hid hby5; have HLO5 := Lib.hid hlo5; clear hb5 hby5 hlo5 HP))
      go_ret
      exact ⟨_, _, rfl, HBY5.out, low_trans HL5.out HLO5.out⟩
    · have hw : wholeD b = b ++ [13, 10] := by unfold wholeD; rw [if_neg (fun h => h.elim h0 h1)]
      have HP := hP (⟨#[13, 10]⟩ ++ bs b ++ ⟨#[13, 10]⟩) (by
        rw [hw, show (13 : UInt8) :: 10 :: (b ++ [13, 10]) = ([13, 10] ++ b) ++ [13, 10] from rfl, bs_cat, bs_cat]
        rfl)
      have HSF := Lib.hid (hsuf _ rfl)
      rw [decide_eq_false h1] at HSF
      have hb0 : ¬ 9223372036854775807 < 2 + (bs b).size := by omega
      have hb00 : ¬ 9223372036854775807 < 2 + (bs b).size + 2 := by omega
      clear hP hrs hR hZ hRS hZS hrl hz1 hz2 hlen hex hsl hbs hsuf h0 h1 hw
      generalize bs b = X at *
      go_enter Tryd.func12, Tryd.ntmps12
      go_wp2_with (first
        | (go_at_call 18; refine HSF.out.mono ?_; rintro e w4 ⟨rfl, rfl⟩; clear HSF)
        | (go_at_call 17; refine HP.out.mono ?_; rintro e w5 ⟨rfl, hb5⟩; have HL5 := Lib.hid hb5; obtain ⟨c5, hcv5, hby5, hlo5⟩ := HCV.out w5; have HBY5 := Lib.hid hby5; have HLO5 := Lib.hid hlo5; clear hb5 hby5 hlo5 HP))
      go_ret
      exact ⟨_, _, rfl, HBY5.out, low_trans HL5.out HLO5.out⟩
end Go.Proofs.YtlpplmcploddaaaDoor
