/-
  CommandBlanks answers true, and leaves its arguments as they were, for every input of bulk at most 1048576 (the form 'Upto'): the row, and the tied card. Conditions: that bound; the listed variables as the library's text lays them (the card ties them).
-/
import Derived.Test.YtnkepdeegpampaaGreatDoorM07
import Derived.Lib.IndexBytes
import Derived.Test.YtnkepdeegpampaaGreatDoorM05
import Derived.Test.YtnkepdeegpampaaGreatDoorRows
import Derived.Test.YtnkepdeegpampaaGreatDoorTie
import Derived.Test.YtnkepdeegpampaaGreatDoorCards
import Derived.WalkKit
import Derived.ProofKit
import Derived.OpenShut
import Derived.LaidMore
import Derived.Lay
import Derived.SevenTiedAt
import Derived.Stop.Joined
import Derived.Stop.LaidErr
import Derived.Lib.LaidTab
import Derived.Deep.DeepHandedRow
import Derived.ShutString
import Derived.ChangeOld
import Derived.Below
/-
  The contract of frankinglaw16.CommandBlanks. Conditions: texts of at most 2^40 bytes; the command lies in memory; the variables that are read.
-/
namespace Go.Proofs.YtnkepdeegpampaaGreatDoor
open Go.RowKit Go.Shelf

theorem byte_cut (c : UInt8) (s : List UInt8) : decide (0 ≤ Lib.indexByte s c) = cutH c s := by
  rw [← Lib.index_one, index_cut]
  cases hh : cutH c s with
  | true => rw [if_pos rfl]; exact decide_eq_true (by omega)
  | false => rfl
theorem replace_tab (s : List UInt8) (hh : cutH 32 s = true) : Lib.replace s [32] [9] 1 = cutW 32 s ++ 9 :: cutB 32 s := by
  have hi := index_cut 32 s
  rw [if_pos hh] at hi
  obtain ⟨h1, h2, _⟩ := cut_drop 32 s hh
  have hm : (32 : UInt8) ∈ s := by unfold cutH at hh; simpa using hh
  have hc : 1 ≤ s.count 32 := List.one_le_count_iff.2 hm
  have hn : Lib.replaceNum s [32] 1 = 1 := by
    unfold Lib.replaceNum
    rw [Lib.count_one, if_neg (by omega)]
    rfl
  unfold Lib.replace
  rw [if_neg (by decide), hn, Lib.replaceK_hit [32] [9] 0 s _ hi, h1]
  have e : s.drop ((cutW 32 s).length + [(32 : UInt8)].length) = cutB 32 s := h2
  rw [e]
  show cutW 32 s ++ [9] ++ cutB 32 s = _
  simp
theorem tab_len (s : List UInt8) (hh : cutH 32 s = true) : (cutW 32 s ++ 9 :: cutB 32 s).length = s.length := by
  obtain ⟨_, _, h⟩ := cut_drop 32 s hh
  rw [List.length_append, List.length_cons]
  omega
theorem replace_any (s : List UInt8) (hs : s.length ≤ 1000) (hh : cutH 32 s = true) (w : World) (he : Env w) : Calls Tryz.prog 19 #[.string (bs s), .string ⟨#[32]⟩, .string ⟨#[9]⟩, .int .i64 1] w fun e w' => e = .returned (.string (bs (cutW 32 s ++ 9 :: cutB 32 s))) ∧ Below w.heap.size w w' := by
  obtain ⟨m, hm⟩ := he.max
  have hc : Lib.countB (bs s) ⟨#[32]⟩ = s.count 32 := Lib.count_one 32 s
  have hcl : s.count 32 ≤ s.length := List.count_le_length
  have hsz : (⟨#[9]⟩ : ByteArray).size = 1 := rfl
  refine (Tryz.strings_Replace (bs s) ⟨#[32]⟩ ⟨#[9]⟩ 1 m w (by rw [bs_size]; omega) hm (Nat.le_refl _) (by rw [hc, hsz, bs_size]; omega)).mono ?_
  rintro e w' ⟨rfl, hb⟩
  have er : Lib.replace (bs s).data.toList (⟨#[32]⟩ : ByteArray).data.toList (⟨#[9]⟩ : ByteArray).data.toList 1 = cutW 32 s ++ 9 :: cutB 32 s := replace_tab s hh
  rw [er]
  exact ⟨rfl, hb⟩
set_option maxRecDepth 100000 in
set_option maxHeartbeats 2000000 in
theorem blanks16_any (c : Cm) (hv : c.verb ≤ 255) (a1 a2 : Option Addr) (c1 c2 : Nat) (hf : CmFits c 1099511627776) (w : World) (hi : CmIn w c a1 c1 a2) (he : Env w) : Calls Tryz.prog 6 #[cmV c a1 c1 a2 c2] w (SameOut w true) := by
  obtain ⟨W1, hW1⟩ : ∃ W1, W1 = w.alloc (.cells (cmCells c (.slice a1 c.path.route.length c1) (.slice a2 c.params.length c2)) 29) := ⟨_, rfl⟩
  obtain ⟨g1, hg1⟩ : ∃ g1, g1 = w.heap.size := ⟨_, rfl⟩
  have hb1 : Below w.heap.size w W1 := by rw [hW1]; exact (Below.refl _ w).alloc (Nat.le_refl _) _
  have hk1 : Blk W1 g1 29 (cmCells c (.slice a1 c.path.route.length c1) (.slice a2 c.params.length c2)) := by rw [hW1, hg1]; exact Blk.new _ _ _
  have hi1 := hi.below hb1
  have he1 := he.later hb1
  have HE := Lib.hid (fun W (hW : Below W1.heap.size W1 W) => he1.later hW)
  have HPR := Lib.hid (fun W (hW : Below W1.heap.size W1 W) => cprint_any c hv a1 a2 c1 c2 hf W (hi1.below hW) (he1.later hW))
  have HAW := Lib.hid (fun W (hW : Below W1.heap.size W1 W) => awake16_any W (he1.later hW))
  have HL1 := Lib.hid hb1
  have HK1 := Lib.hid hk1
  have HQ : Hid (∀ w', Below w.heap.size w w' → SameOut w true (.returned (.bool true)) w') := fun w' h => ⟨rfl, h⟩
  generalize SameOut w true = Q at *
  unfold PrOut printC at HPR
  unfold cmV cmCells at HPR ⊢
  unfold cmCells at hW1 HK1
  have HW1 := Lib.hid hW1
  have HG1 := Lib.hid hg1
  have HK2 : Hid (∀ W, Below W1.heap.size W1 W → W.cell? ⟨g1, 0, none⟩ = some (.int .u8 (c.verb : Int)) ∧ W.cell? ⟨g1, 1, none⟩ = some (.string (bs c.arg))) := fun W hW => ⟨(hk1.below hW hk1.lt).cell 0, (hk1.below hW hk1.lt).cell 1⟩
  clear hW1 hg1 hb1 hk1 hi he hf hi1 he1
  obtain ⟨x0, x1, x2, x3, x4, x5, x6, x7⟩ := cells8 HK1.out
  have hv0 : (0 : Int) ≤ (c.verb : Int) := by omega
  have hv1 : (c.verb : Int) ≤ 255 := by omega
  cases hr : rightC c with
  | false =>
    rw [hr] at HPR
    rw [if_neg (by decide)] at HPR
    clear hr
    go_enter Tryz.func6, Tryz.ntmps6
    go_upto_region 1 with (fail)
    rw [← HW1.out, ← HG1.out]
    go_wp2_with (first | (go_at_call 8; refine (HPR.out _ (Below.refl _ _)).mono ?_; rintro e w3 ⟨rfl, hb⟩; have HB3 := Lib.hid hb; clear hb) | (go_at_call 10; refine (HAW.out _ HB3.out).mono ?_; rintro e w5 ⟨rfl, hb⟩; have HB5 := Lib.hid (low_trans HB3.out hb); clear hb))
    exact HQ.out _ (low_trans HL1.out HB5.out)
  | true =>
    rw [hr] at HPR
    rw [if_pos rfl] at HPR
    have hls : (bs (lineP c)).size = (lineP c).length := rfl
    by_cases hlt : (lineP c).length < 510
    · have hlz : ¬ (510 : Int) ≤ ((lineP c).length : Int) := by omega
      have hld : decide ((510 : Int) ≤ ((lineP c).length : Int)) = false := decide_eq_false hlz
      have HRA := Lib.hid (fun W (hW : Below W1.heap.size W1 W) => refused_yes (32 :: lineP c) (by rw [List.length_cons]; omega) 160 (blank_ahead hlt) W (HE.out W hW))
      have HRW := Lib.hid (fun (h : ¬ ((7 ≤ c.verb ∧ c.verb ≤ 10) ∧ c.arg ≠ [])) W (hW : Below W1.heap.size W1 W) => refused_yes (lineP c ++ [32]) (by rw [List.length_append]; simp; omega) 161 (blank_wrong hr h hlt) W (HE.out W hW))
      have HRF : Hid (((7 ≤ c.verb ∧ c.verb ≤ 10) ∧ c.arg ≠ []) → ∀ W, Below W1.heap.size W1 W → Calls Tryz.prog 20 #[.string (bs (lineP c ++ [32])), .agg #[.int .u8 (c.verb : Int), .string (bs (c.arg ++ [32])), .bool false, .slice none 0 0, .string ⟨#[]⟩, .string ⟨#[]⟩, .bool false, .slice none 0 0]] W (SameOut W true)) := fun h W hW => reads16_yes (lineP c ++ [32]) (by rw [List.length_append]; simp; omega) { verb := c.verb, arg := c.arg ++ [32] } (blank_free hr h.1 h.2 hlt) none none 0 0 W (noTexts W none) (noPms W none) (HE.out W hW)
      have hal : c.arg.length ≤ 1000000 := by
        by_cases hs : c.verb = 3 ∨ c.verb = 4
        · obtain ⟨ahead, hv2⟩ : ∃ ahead, (c.verb = 3 ∧ ahead = fromT ∨ c.verb = 4 ∧ ahead = toT) := by
            rcases hs with h | h
            · exact ⟨fromT, .inl ⟨h, rfl⟩⟩
            · exact ⟨toT, .inr ⟨h, rfl⟩⟩
          obtain ⟨_, _, k3, _⟩ := sent_some hv2 hr
          have : c.arg = [] := congrArg Cm.arg k3
          rw [this]
          exact Nat.zero_le _
        · obtain ⟨hn, _, _, _, e⟩ := right_some hr
          have hb : behindP c = c.arg := by unfold behindP; rw [if_neg (by omega), if_neg (by omega)]
          rw [hb] at e
          rw [e, List.length_append] at hn
          by_cases hb0 : c.arg = []
          · rw [hb0]; exact Nat.zero_le _
          · rw [if_neg hb0, List.length_cons] at hn
            omega
      have hadd1 := add_bs [32] (lineP c) (by simp; omega)
      have hadd2 := add_bs (lineP c) [32] (by simp; omega)
      have hadd3 := add_bs c.arg [32] (by simp; omega)
      have e32 : (⟨#[32]⟩ : ByteArray) = bs [32] := rfl
      rw [← e32] at hadd1 hadd2 hadd3
      have e1 : [32] ++ lineP c = 32 :: lineP c := rfl
      rw [e1] at hadd1
      have HCO := Lib.hid (fun W => Tryz.strings_Contains_one (bs (lineP c)) 32 W)
      have e2 : (bs (lineP c)).data.toList = lineP c := rfl
      rw [e2, byte_cut] at HCO
      have HTB := Lib.hid (fun (hh : cutH 32 (lineP c) = true) W (hW : Below W1.heap.size W1 W) => replace_any (lineP c) (by omega) hh W (HE.out W hW))
      have HRT := Lib.hid (fun (hh : cutH 32 (lineP c) = true) W (hW : Below W1.heap.size W1 W) => refused_yes (cutW 32 (lineP c) ++ 9 :: cutB 32 (lineP c)) (by rw [tab_len _ hh]; omega) 160 (tab_wrong (cutW_not 32 _) (by rw [tab_len _ hh]; omega)) W (HE.out W hW))
      have hem : (bs c.arg).toList.isEmpty = decide (c.arg = []) := by rw [bs_toL]; cases c.arg <;> rfl
      clear e32 e1 e2 hr hlt hal
      generalize cutW 32 (lineP c) ++ 9 :: cutB 32 (lineP c) = T1 at *
      generalize cutH 32 (lineP c) = H1 at *
      generalize (lineP c).length = ln at *
      generalize bs (32 :: lineP c) = S2 at *
      generalize bs (lineP c ++ [32]) = S3 at *
      generalize bs (lineP c) = S at *
      generalize bs T1 = S4 at *
      generalize bs (c.arg ++ [32]) = A2 at *
      cases H1 with
      | false =>
        go_enter Tryz.func6, Tryz.ntmps6
        go_upto_region 1 with (fail)
        rw [← HW1.out, ← HG1.out]
        go_upto_region 6 with (first | (go_at_call 8; refine (HPR.out _ (Below.refl _ _)).mono ?_; rintro e w3 ⟨rfl, hb⟩; have HB3 := Lib.hid hb; clear hb x0 x1 x2 x3 x4 x5 x6 x7 HPR) | (go_at_call 17; (with_reducible refine (HRA.out _ HB3.out).mono ?_); rintro e w4 ⟨rfl, hb⟩; have HB4 := Lib.hid (low_trans HB3.out hb); clear hb HRA) | (go_at_call 18; refine (HCO.out _).mono ?_; rintro e w5 ⟨rfl, rfl⟩))
        obtain ⟨x0, x1⟩ := HK2.out w5 HB4.out
        clear HRT HTB HCO hadd1
        by_cases h7 : 7 ≤ c.verb
        · have h7z : (7 : Int) ≤ (c.verb : Int) := by omega
          have h7d : decide ((7 : Int) ≤ (c.verb : Int)) = true := decide_eq_true h7z
          by_cases h10 : c.verb ≤ 10
          · have h10z : (c.verb : Int) ≤ 10 := by omega
            have h10d : decide ((c.verb : Int) ≤ (10 : Int)) = true := decide_eq_true h10z
            by_cases ha : c.arg = []
            · rw [decide_eq_true ha] at hem
              have HRX := Lib.hid (HRW.out (fun h => h.2 ha))
              clear HRW HRF ha
              go_wp2_with (first | (go_at_call 17; (with_reducible refine (HRX.out _ HB4.out).mono ?_); rintro e w8 ⟨rfl, hb⟩; have HB8 := Lib.hid (low_trans HB4.out hb); clear hb HRX) | (go_at_call 10; refine (HAW.out _ HB8.out).mono ?_; rintro e w9 ⟨rfl, hb⟩; have HB9 := Lib.hid (low_trans HB8.out hb); clear hb))
              exact HQ.out _ (low_trans HL1.out HB9.out)
            · rw [decide_eq_false ha] at hem
              have HRX := Lib.hid (HRF.out ⟨⟨h7, h10⟩, ha⟩)
              clear HRW HRF ha h7 h10
              go_wp2_with (first | (go_at_call 20; (with_reducible refine (HRX.out _ HB4.out).mono ?_); rintro e w8 ⟨rfl, hb⟩; have HB8 := Lib.hid (low_trans HB4.out hb); clear hb HRX) | (go_at_call 10; refine (HAW.out _ HB8.out).mono ?_; rintro e w9 ⟨rfl, hb⟩; have HB9 := Lib.hid (low_trans HB8.out hb); clear hb))
              exact HQ.out _ (low_trans HL1.out HB9.out)
          · have h10z : ¬ (c.verb : Int) ≤ 10 := by omega
            have h10d : decide ((c.verb : Int) ≤ (10 : Int)) = false := decide_eq_false h10z
            have HRX := Lib.hid (HRW.out (fun h => h10 h.1.2))
            clear HRW HRF
            go_wp2_with (first | (go_at_call 17; (with_reducible refine (HRX.out _ HB4.out).mono ?_); rintro e w8 ⟨rfl, hb⟩; have HB8 := Lib.hid (low_trans HB4.out hb); clear hb HRX) | (go_at_call 10; refine (HAW.out _ HB8.out).mono ?_; rintro e w9 ⟨rfl, hb⟩; have HB9 := Lib.hid (low_trans HB8.out hb); clear hb))
            exact HQ.out _ (low_trans HL1.out HB9.out)
        · have h7z : ¬ (7 : Int) ≤ (c.verb : Int) := by omega
          have h7d : decide ((7 : Int) ≤ (c.verb : Int)) = false := decide_eq_false h7z
          have HRX := Lib.hid (HRW.out (fun h => h7 h.1.1))
          clear HRW HRF
          go_wp2_with (first | (go_at_call 17; (with_reducible refine (HRX.out _ HB4.out).mono ?_); rintro e w8 ⟨rfl, hb⟩; have HB8 := Lib.hid (low_trans HB4.out hb); clear hb HRX) | (go_at_call 10; refine (HAW.out _ HB8.out).mono ?_; rintro e w9 ⟨rfl, hb⟩; have HB9 := Lib.hid (low_trans HB8.out hb); clear hb))
          exact HQ.out _ (low_trans HL1.out HB9.out)
      | true =>
        have HTB2 := Lib.hid (HTB.out rfl)
        have HRT2 := Lib.hid (HRT.out rfl)
        go_enter Tryz.func6, Tryz.ntmps6
        go_upto_region 1 with (fail)
        rw [← HW1.out, ← HG1.out]
        go_upto_region 6 with (first | (go_at_call 8; refine (HPR.out _ (Below.refl _ _)).mono ?_; rintro e w3 ⟨rfl, hb⟩; have HB3 := Lib.hid hb; clear hb x0 x1 x2 x3 x4 x5 x6 x7 HPR) | (go_at_call 17; (with_reducible refine (HRA.out _ HB3.out).mono ?_); rintro e w4 ⟨rfl, hb⟩; have HB4 := Lib.hid (low_trans HB3.out hb); clear hb HRA) | (go_at_call 18; refine (HCO.out _).mono ?_; rintro e w5 ⟨rfl, rfl⟩) | (go_at_call 19; refine (HTB2.out _ HB4.out).mono ?_; rintro e w6 ⟨rfl, hb⟩; have HB6 := Lib.hid (low_trans HB4.out hb); clear hb) | (go_at_call 17; (with_reducible refine (HRT2.out _ HB6.out).mono ?_); rintro e w7 ⟨rfl, hb⟩; have HB7 := Lib.hid (low_trans HB6.out hb); clear hb HRT2))
        obtain ⟨x0, x1⟩ := HK2.out w7 HB7.out
        clear HRT HTB HCO hadd1
        by_cases h7 : 7 ≤ c.verb
        · have h7z : (7 : Int) ≤ (c.verb : Int) := by omega
          have h7d : decide ((7 : Int) ≤ (c.verb : Int)) = true := decide_eq_true h7z
          by_cases h10 : c.verb ≤ 10
          · have h10z : (c.verb : Int) ≤ 10 := by omega
            have h10d : decide ((c.verb : Int) ≤ (10 : Int)) = true := decide_eq_true h10z
            by_cases ha : c.arg = []
            · rw [decide_eq_true ha] at hem
              have HRX := Lib.hid (HRW.out (fun h => h.2 ha))
              clear HRW HRF ha
              go_wp2_with (first | (go_at_call 17; (with_reducible refine (HRX.out _ HB7.out).mono ?_); rintro e w8 ⟨rfl, hb⟩; have HB8 := Lib.hid (low_trans HB7.out hb); clear hb HRX) | (go_at_call 10; refine (HAW.out _ HB8.out).mono ?_; rintro e w9 ⟨rfl, hb⟩; have HB9 := Lib.hid (low_trans HB8.out hb); clear hb))
              exact HQ.out _ (low_trans HL1.out HB9.out)
            · rw [decide_eq_false ha] at hem
              have HRX := Lib.hid (HRF.out ⟨⟨h7, h10⟩, ha⟩)
              clear HRW HRF ha h7 h10
              go_wp2_with (first | (go_at_call 20; (with_reducible refine (HRX.out _ HB7.out).mono ?_); rintro e w8 ⟨rfl, hb⟩; have HB8 := Lib.hid (low_trans HB7.out hb); clear hb HRX) | (go_at_call 10; refine (HAW.out _ HB8.out).mono ?_; rintro e w9 ⟨rfl, hb⟩; have HB9 := Lib.hid (low_trans HB8.out hb); clear hb))
              exact HQ.out _ (low_trans HL1.out HB9.out)
          · have h10z : ¬ (c.verb : Int) ≤ 10 := by omega
            have h10d : decide ((c.verb : Int) ≤ (10 : Int)) = false := decide_eq_false h10z
            have HRX := Lib.hid (HRW.out (fun h => h10 h.1.2))
            clear HRW HRF
            go_wp2_with (first | (go_at_call 17; (with_reducible refine (HRX.out _ HB7.out).mono ?_); rintro e w8 ⟨rfl, hb⟩; have HB8 := Lib.hid (low_trans HB7.out hb); clear hb HRX) | (go_at_call 10; refine (HAW.out _ HB8.out).mono ?_; rintro e w9 ⟨rfl, hb⟩; have HB9 := Lib.hid (low_trans HB8.out hb); clear hb))
            exact HQ.out _ (low_trans HL1.out HB9.out)
        · have h7z : ¬ (7 : Int) ≤ (c.verb : Int) := by omega
          have h7d : decide ((7 : Int) ≤ (c.verb : Int)) = false := decide_eq_false h7z
          have HRX := Lib.hid (HRW.out (fun h => h7 h.1.1))
          clear HRW HRF
          go_wp2_with (first | (go_at_call 17; (with_reducible refine (HRX.out _ HB7.out).mono ?_); rintro e w8 ⟨rfl, hb⟩; have HB8 := Lib.hid (low_trans HB7.out hb); clear hb HRX) | (go_at_call 10; refine (HAW.out _ HB8.out).mono ?_; rintro e w9 ⟨rfl, hb⟩; have HB9 := Lib.hid (low_trans HB8.out hb); clear hb))
          exact HQ.out _ (low_trans HL1.out HB9.out)
    · have hlz : (510 : Int) ≤ ((lineP c).length : Int) := by omega
      have hld : decide ((510 : Int) ≤ ((lineP c).length : Int)) = true := decide_eq_true hlz
      clear hr hlt
      generalize (lineP c).length = ln at *
      generalize bs (lineP c) = S at *
      go_enter Tryz.func6, Tryz.ntmps6
      go_upto_region 1 with (fail)
      rw [← HW1.out, ← HG1.out]
      go_wp2_with (first | (go_at_call 8; refine (HPR.out _ (Below.refl _ _)).mono ?_; rintro e w3 ⟨rfl, hb⟩; have HB3 := Lib.hid hb; clear hb) | (go_at_call 10; refine (HAW.out _ HB3.out).mono ?_; rintro e w5 ⟨rfl, hb⟩; have HB5 := Lib.hid (low_trans HB3.out hb); clear hb))
      exact HQ.out _ (low_trans HL1.out HB5.out)
end Go.Proofs.YtnkepdeegpampaaGreatDoor

/-
  A path that came in lies in memory, and its texts are no longer than the reading's bulk. No conditions.
-/
namespace Go.Proofs.YtnkepdeegpampaaGreatDoor
open Go.ChangeShapes Go.RowKit
variable {H : Type} {enc : TypeId × Value → H} {W : World} {fuel : Nat}

theorem zBool : Tryz.prog.cellsOf 4 = 1 := by kernel_rfl
theorem zString : Tryz.prog.cellsOf 9 = 1 := by kernel_rfl
theorem zStrings : Tryz.prog.cellsOf 22 = 1 := by kernel_rfl
theorem zBox : Tryz.prog.cellsOf 24 = 3 := by kernel_rfl
theorem zPath : Tryz.prog.cellsOf 26 = 5 := by kernel_rfl
theorem of3 {α : Type} (l : List α) (h : l.length = 3) : ∃ a0 a1 a2, l = [a0, a1, a2] := by
  match l, h with
  | [a0, a1, a2], _ => exact ⟨a0, a1, a2, rfl⟩
theorem of5 {α : Type} (l : List α) (h : l.length = 5) : ∃ a0 a1 a2 a3 a4, l = [a0, a1, a2, a3, a4] := by
  match l, h with
  | [a0, a1, a2, a3, a4], _ => exact ⟨a0, a1, a2, a3, a4, rfl⟩
theorem bulk_of : ∀ (ds : List (DataW H)) (i : Nat) (d : DataW H), ds[i]? = some d → Rows.uptoBulk d ≤ Rows.uptoBulkAll ds
  | [], i, d, h => by simp at h
  | e :: r, 0, d, h => by
    have : e = d := by simpa using h
    subst this
    rw [Rows.uptoBulkAll]
    omega
  | e :: r, i + 1, d, h => by
    have := bulk_of r i d (by simpa using h)
    rw [Rows.uptoBulkAll]
    omega
theorem open_textsB {cs : List Value} {x : DataW H × List MemPlace} (h : DataW.trod enc Tryz.prog W 0 (fun _ => true) true fuel 22 cs = some x) : ∃ a c l, cs = [.slice a (List.length l) c] ∧ TextsAt W a l ∧ l.length ≤ c ∧ ∀ s ∈ l, s.length ≤ Rows.uptoBulk x.1 := by
  rcases DataW.trod_slice Tryz.underlying22 h with ⟨hn, rfl⟩ | ⟨a, len, cap, elems, rest, m, rfl, hcs, rfl, hb, hl, hm, hlen, hel, _, _⟩
  · exact ⟨none, 0, [], hn, ⟨by decide, fun h => absurd h (by decide)⟩, Nat.le_refl _, fun s hs => (by cases hs)⟩
  · have each : ∀ i : Nat, ∃ s : ByteArray, i < len → W.cell? (a.add i) = some (.string s) ∧ ∃ y, elems[i]? = some y ∧ y.1 = .lit (.string s.data.toList) := fun i => by
      by_cases hi : i < len
      · have he := hel i hi
        rw [List.getElem?_eq_getElem (by omega), zString, Option.bind_eq_some_iff] at he
        obtain ⟨cs', hc', ht'⟩ := he
        obtain ⟨s, rfl, e2, _⟩ := DataW.trod_string Tryz.underlying9 ht'
        obtain ⟨_, _, hcell⟩ := World.cells?_some hc'
        have h0 := hcell 0 (by omega)
        refine ⟨s, fun _ => ⟨?_, _, List.getElem?_eq_getElem (by omega), by rw [e2]⟩⟩
        rw [Nat.mul_one] at h0
        have e : (a.add i).add 0 = a.add i := by unfold Addr.add; split <;> simp_all
        rw [e] at h0
        rw [h0]
        rfl
      · exact ⟨.empty, fun h => absurd h hi⟩
    obtain ⟨f, hf⟩ := Classical.axiomOfChoice each
    have hkl : ((List.range len).map fun i => (f i).data.toList).length = len := by simp
    refine ⟨some a, cap, (List.range len).map fun i => (f i).data.toList, by rw [hkl]; exact hcs, row_of a _ (by rw [List.length_map, hkl]; omega) fun i hi => ?_, by rw [hkl]; exact hl, fun s hs => ?_⟩
    · rw [List.length_map, hkl] at hi
      rw [(hf i hi).1, List.getElem_map, List.getElem_map, List.getElem_range]
      rfl
    · obtain ⟨i, hi, rfl⟩ := List.mem_map.1 hs
      have hi := List.mem_range.1 hi
      obtain ⟨_, y, h1, h2⟩ := hf i hi
      have := bulk_of (elems.map (·.1)) i y.1 (by rw [List.getElem?_map, h1]; rfl)
      rw [h2, Rows.uptoBulk] at this
      show _ ≤ Rows.uptoBulkAll (elems.map (·.1)) + Rows.uptoBulkAll (rest.map (·.1)) + 1
      omega
set_option maxRecDepth 100000 in
theorem open_box {cs : List Value} {x : DataW H × List MemPlace} (h : DataW.trod enc Tryz.prog W 0 (fun _ => true) true fuel 24 cs = some x) : ∃ (loc d : List UInt8) (lit : Bool), cs = [.string (bs loc), .string (bs d), .bool lit] ∧ loc.length ≤ Rows.uptoBulk x.1 ∧ d.length ≤ Rows.uptoBulk x.1 := by
  obtain ⟨xs, n, rfl, rfl, hl, hlen, hf⟩ := DataW.trod_struct Tryz.underlying24 h
  rw [zBox] at hl
  have hlen : xs.length = 3 := hlen
  obtain ⟨c0, c1, c2, rfl⟩ := of3 cs hl
  obtain ⟨y0, y1, y2, rfl⟩ := of3 xs hlen
  have h0 : DataW.trod enc Tryz.prog W 0 (fun _ => true) true n 9 (([c0, c1, c2].drop 0).take (Tryz.prog.cellsOf 9)) = some y0 := hf 0 _ rfl
  have h1 : DataW.trod enc Tryz.prog W 0 (fun _ => true) true n 9 (([c0, c1, c2].drop 1).take (Tryz.prog.cellsOf 9)) = some y1 := hf 1 _ rfl
  have h2 : DataW.trod enc Tryz.prog W 0 (fun _ => true) true n 4 (([c0, c1, c2].drop 2).take (Tryz.prog.cellsOf 4)) = some y2 := hf 2 _ rfl
  rw [zString] at h0 h1
  rw [zBool] at h2
  obtain ⟨s0, e0, rfl, _⟩ := DataW.trod_string Tryz.underlying9 h0
  obtain ⟨s1, e1, rfl, _⟩ := DataW.trod_string Tryz.underlying9 h1
  obtain ⟨b, e2, rfl⟩ := DataW.trod_bool Tryz.underlying4 h2
  have g0 : c0 = .string s0 := by injection e0
  have g1 : c1 = .string s1 := by injection e1
  have g2 : c2 = .bool b := by injection e2
  subst g0 g1 g2
  refine ⟨s0.data.toList, s1.data.toList, b, rfl, ?_, ?_⟩
  · show _ ≤ ((s0.data.toList.length + 1) + ((s1.data.toList.length + 1) + (Rows.uptoBulk _ + 0))) + 1
    omega
  · show _ ≤ ((s0.data.toList.length + 1) + ((s1.data.toList.length + 1) + (Rows.uptoBulk _ + 0))) + 1
    omega
set_option maxRecDepth 100000 in
theorem open_pathB {cs : List Value} {x : DataW H × List MemPlace} (h : DataW.trod enc Tryz.prog W 0 (fun _ => true) true fuel 26 cs = some x) : ∃ (P : Pa) (a : Option Addr) (c : Nat), cs = (paCells P (.slice a P.route.length c)).toList ∧ TextsAt W a P.route ∧ PaFits P (Rows.uptoBulk x.1) ∧ P.route.length ≤ c := by
  obtain ⟨xs, n, rfl, rfl, hl, hlen, hf⟩ := DataW.trod_struct Tryz.underlying26 h
  rw [zPath] at hl
  have hlen : xs.length = 3 := hlen
  obtain ⟨c0, c1, c2, c3, c4, rfl⟩ := of5 cs hl
  obtain ⟨y0, y1, y2, rfl⟩ := of3 xs hlen
  have h0 : DataW.trod enc Tryz.prog W 0 (fun _ => true) true n 4 (([c0, c1, c2, c3, c4].drop 0).take (Tryz.prog.cellsOf 4)) = some y0 := hf 0 _ rfl
  have h1 : DataW.trod enc Tryz.prog W 0 (fun _ => true) true n 22 (([c0, c1, c2, c3, c4].drop 1).take (Tryz.prog.cellsOf 22)) = some y1 := hf 1 _ rfl
  have h2 : DataW.trod enc Tryz.prog W 0 (fun _ => true) true n 24 (([c0, c1, c2, c3, c4].drop 2).take (Tryz.prog.cellsOf 24)) = some y2 := hf 2 _ rfl
  rw [zBool] at h0
  rw [zStrings] at h1
  rw [zBox] at h2
  obtain ⟨b, e0, rfl⟩ := DataW.trod_bool Tryz.underlying4 h0
  obtain ⟨a, c, l, e1, ht, hc, hb⟩ := open_textsB h1
  obtain ⟨loc, d, lit, e2, hb1, hb2⟩ := open_box h2
  have g0 : c0 = .bool b := by injection e0
  have e1' : [c1] = [Value.slice a l.length c] := e1
  have g1 : c1 = .slice a l.length c := by injection e1'
  have e2' : [c2, c3, c4] = [Value.string (bs loc), .string (bs d), .bool lit] := e2
  simp only [List.cons.injEq, and_true] at e2'
  obtain ⟨g2, g3, g4⟩ := e2'
  subst g0 g1 g2 g3 g4
  have hbulk : Rows.uptoBulk y1.1 + Rows.uptoBulk y2.1 ≤ Rows.uptoBulkAll [(DataW.lit (.bool b), ([] : List MemPlace)).1, y1.1, y2.1] := by
    simp only [Rows.uptoBulkAll]
    omega
  refine ⟨⟨b, l, loc, d, lit⟩, a, c, rfl, ht, ⟨?_, ?_, fun s hs => ?_⟩, hc⟩
  · show _ ≤ Rows.uptoBulkAll [(DataW.lit (.bool b), ([] : List MemPlace)).1, y1.1, y2.1] + 1
    show loc.length ≤ _
    omega
  · show _ ≤ Rows.uptoBulkAll [(DataW.lit (.bool b), ([] : List MemPlace)).1, y1.1, y2.1] + 1
    show d.length ≤ _
    omega
  · show _ ≤ Rows.uptoBulkAll [(DataW.lit (.bool b), ([] : List MemPlace)).1, y1.1, y2.1] + 1
    have := hb s hs
    omega
end Go.Proofs.YtnkepdeegpampaaGreatDoor

/-
  A command that came in lies in memory, and its texts are no longer than the reading's bulk; what the program's table of words holds. No conditions.
-/
namespace Go.Proofs.YtnkepdeegpampaaGreatDoor
open Go.ChangeShapes Go.RowKit
variable {H : Type} {enc : TypeId × Value → H} {W : World} {fuel : Nat}

theorem CmFits.mono {c : Cm} {n m : Nat} (h : CmFits c n) (hm : n ≤ m) : CmFits c m := ⟨Nat.le_trans h.arg hm, h.path.mono hm, fun p hp => ⟨Nat.le_trans (h.pms p hp).1 hm, Nat.le_trans (h.pms p hp).2 hm⟩⟩
theorem zU8 : Tryz.prog.cellsOf 5 = 1 := by kernel_rfl
theorem zPm : Tryz.prog.cellsOf 45 = 3 := by kernel_rfl
theorem zPms : Tryz.prog.cellsOf 27 = 1 := by kernel_rfl
theorem zCmd : Tryz.prog.cellsOf 29 = 8 := by kernel_rfl
theorem of4 {α : Type} (l : List α) (h : l.length = 4) : ∃ a0 a1 a2 a3, l = [a0, a1, a2, a3] := by
  match l, h with
  | [a0, a1, a2, a3], _ => exact ⟨a0, a1, a2, a3, rfl⟩
theorem of8 {α : Type} (l : List α) (h : l.length = 8) : ∃ a0 a1 a2 a3 a4 a5 a6 a7, l = [a0, a1, a2, a3, a4, a5, a6, a7] := by
  match l, h with
  | [a0, a1, a2, a3, a4, a5, a6, a7], _ => exact ⟨a0, a1, a2, a3, a4, a5, a6, a7, rfl⟩
set_option maxRecDepth 100000 in
theorem open_pm {cs : List Value} {x : DataW H × List MemPlace} (h : DataW.trod enc Tryz.prog W 0 (fun _ => true) true fuel 45 cs = some x) : ∃ p : Pm, cs = pmCells p ∧ p.key.length ≤ Rows.uptoBulk x.1 ∧ p.value.length ≤ Rows.uptoBulk x.1 := by
  obtain ⟨xs, n, rfl, rfl, hl, hlen, hf⟩ := DataW.trod_struct Tryz.underlying45 h
  rw [zPm] at hl
  have hlen : xs.length = 3 := hlen
  obtain ⟨c0, c1, c2, rfl⟩ := of3 cs hl
  obtain ⟨y0, y1, y2, rfl⟩ := of3 xs hlen
  have h0 : DataW.trod enc Tryz.prog W 0 (fun _ => true) true n 9 (([c0, c1, c2].drop 0).take (Tryz.prog.cellsOf 9)) = some y0 := hf 0 _ rfl
  have h1 : DataW.trod enc Tryz.prog W 0 (fun _ => true) true n 9 (([c0, c1, c2].drop 1).take (Tryz.prog.cellsOf 9)) = some y1 := hf 1 _ rfl
  have h2 : DataW.trod enc Tryz.prog W 0 (fun _ => true) true n 4 (([c0, c1, c2].drop 2).take (Tryz.prog.cellsOf 4)) = some y2 := hf 2 _ rfl
  rw [zString] at h0 h1
  rw [zBool] at h2
  obtain ⟨s0, e0, rfl, _⟩ := DataW.trod_string Tryz.underlying9 h0
  obtain ⟨s1, e1, rfl, _⟩ := DataW.trod_string Tryz.underlying9 h1
  obtain ⟨b, e2, rfl⟩ := DataW.trod_bool Tryz.underlying4 h2
  have g0 : c0 = .string s0 := by injection e0
  have g1 : c1 = .string s1 := by injection e1
  have g2 : c2 = .bool b := by injection e2
  subst g0 g1 g2
  refine ⟨⟨s0.data.toList, s1.data.toList, b⟩, rfl, ?_, ?_⟩
  · show s0.data.toList.length ≤ ((s0.data.toList.length + 1) + ((s1.data.toList.length + 1) + (Rows.uptoBulk _ + 0))) + 1
    omega
  · show s1.data.toList.length ≤ ((s0.data.toList.length + 1) + ((s1.data.toList.length + 1) + (Rows.uptoBulk _ + 0))) + 1
    omega
theorem bulk_pos (d : DataW H) : 1 ≤ Rows.uptoBulk d := by
  cases d with
  | lit x => cases x <;> simp [Rows.uptoBulk]
  | nil => simp [Rows.uptoBulk]
  | ptr d => simp [Rows.uptoBulk]
  | slice a b => simp [Rows.uptoBulk]
  | agg p => simp [Rows.uptoBulk]
  | iface t d => simp [Rows.uptoBulk]
  | map e => simp [Rows.uptoBulk]
  | held e => simp [Rows.uptoBulk]
theorem bulk_len : ∀ ds : List (DataW H), ds.length ≤ Rows.uptoBulkAll ds
  | [] => Nat.zero_le _
  | d :: ds => by
    have h1 := bulk_pos d
    have h2 := bulk_len ds
    rw [Rows.uptoBulkAll, List.length_cons]
    omega
theorem open_pmsB {cs : List Value} {x : DataW H × List MemPlace} (hbk : Rows.uptoBulk x.1 ≤ 1048576) (h : DataW.trod enc Tryz.prog W 0 (fun _ => true) true fuel 27 cs = some x) : ∃ a c l, cs = [.slice a (List.length l) c] ∧ PmsAt W a l ∧ ∀ p ∈ l, p.key.length ≤ Rows.uptoBulk x.1 ∧ p.value.length ≤ Rows.uptoBulk x.1 := by
  rcases DataW.trod_slice Tryz.underlying27 h with ⟨hn, rfl⟩ | ⟨a, len, cap, elems, rest, m, rfl, hcs, rfl, hb, hl, hm, hlen, hel, _, _⟩
  · exact ⟨none, 0, [], hn, pms_none _ _, fun s hs => (by cases hs)⟩
  · have each : ∀ i : Nat, ∃ p : Pm, i < len → (∀ r, r < 3 → W.cell? (a.add (i * 3 + r)) = (pmCells p)[r]?) ∧ ∃ y, elems[i]? = some y ∧ p.key.length ≤ Rows.uptoBulk y.1 ∧ p.value.length ≤ Rows.uptoBulk y.1 := fun i => by
      by_cases hi : i < len
      · have he := hel i hi
        rw [List.getElem?_eq_getElem (by omega), zPm, Option.bind_eq_some_iff] at he
        obtain ⟨cs', hc', ht'⟩ := he
        obtain ⟨p, rfl, e2, e3⟩ := open_pm ht'
        obtain ⟨_, _, hcell⟩ := World.cells?_some hc'
        refine ⟨p, fun _ => ⟨fun r hr => ?_, _, List.getElem?_eq_getElem (by omega), e2, e3⟩⟩
        have h0 := hcell r hr
        have e : (a.add (i * 3)).add r = a.add (i * 3 + r) := by
          unfold Addr.add
          by_cases h1 : i * 3 = 0 <;> by_cases h2 : r = 0 <;> simp [h1, h2, Nat.add_assoc]
        rw [e] at h0
        exact h0
      · exact ⟨⟨[], [], false⟩, fun h => absurd h hi⟩
    obtain ⟨f, hf⟩ := Classical.axiomOfChoice each
    have hkl : ((List.range len).map f).length = len := by simp
    refine ⟨some a, cap, (List.range len).map f, by rw [hkl]; exact hcs, row_of a _ ?_ fun j hj => ?_, fun p hp => ?_⟩
    · rw [pmFlat_len, hkl]
      have h1 := bulk_len (elems.map (·.1))
      rw [List.length_map, hlen] at h1
      have h2 : Rows.uptoBulkAll (elems.map (·.1)) + Rows.uptoBulkAll (rest.map (·.1)) + 1 ≤ 1048576 := hbk
      unfold maxLen
      omega
    · rw [pmFlat_len, hkl] at hj
      have hi : j / 3 < len := by omega
      have hjr : j = j / 3 * 3 + j % 3 := by omega
      have hk : j / 3 < ((List.range len).map f).length := by rw [hkl]; exact hi
      have h1 := (hf (j / 3) hi).1 (j % 3) (Nat.mod_lt _ (by decide))
      have h2 := pmFlat_at ((List.range len).map f) (j / 3) hk (j % 3) (Nat.mod_lt _ (by decide))
      rw [← hjr] at h1 h2
      rw [h1, ← List.getElem?_eq_getElem, h2, List.getElem_map, List.getElem_range]
    · obtain ⟨i, hi, rfl⟩ := List.mem_map.1 hp
      have hi := List.mem_range.1 hi
      obtain ⟨_, y, h1, h2, h3⟩ := hf i hi
      have := bulk_of (elems.map (·.1)) i y.1 (by rw [List.getElem?_map, h1]; rfl)
      have hh : Rows.uptoBulkAll (elems.map (·.1)) ≤ Rows.uptoBulkAll (elems.map (·.1)) + Rows.uptoBulkAll (rest.map (·.1)) + 1 := by omega
      exact ⟨Nat.le_trans h2 (Nat.le_trans this hh), Nat.le_trans h3 (Nat.le_trans this hh)⟩
set_option maxRecDepth 100000 in
theorem open_cmdB {cs : List Value} {x : DataW H × List MemPlace} (hbk : Rows.uptoBulk x.1 ≤ 1048576) (h : DataW.trod enc Tryz.prog W 0 (fun _ => true) true fuel 29 cs = some x) : ∃ (C : Cm) (a1 : Option Addr) (c1 : Nat) (a2 : Option Addr) (c2 : Nat), cs = (cmCells C (.slice a1 C.path.route.length c1) (.slice a2 C.params.length c2)).toList ∧ C.verb ≤ 255 ∧ CmIn W C a1 c1 a2 ∧ CmFits C (Rows.uptoBulk x.1) := by
  obtain ⟨xs, n, rfl, rfl, hl, hlen, hf⟩ := DataW.trod_struct Tryz.underlying29 h
  rw [zCmd] at hl
  have hlen : xs.length = 4 := hlen
  obtain ⟨c0, c1, c2, c3, c4, c5, c6, c7, rfl⟩ := of8 cs hl
  obtain ⟨y0, y1, y2, y3, rfl⟩ := of4 xs hlen
  have h0 : DataW.trod enc Tryz.prog W 0 (fun _ => true) true n 5 (([c0, c1, c2, c3, c4, c5, c6, c7].drop 0).take (Tryz.prog.cellsOf 5)) = some y0 := hf 0 _ rfl
  have h1 : DataW.trod enc Tryz.prog W 0 (fun _ => true) true n 9 (([c0, c1, c2, c3, c4, c5, c6, c7].drop 1).take (Tryz.prog.cellsOf 9)) = some y1 := hf 1 _ rfl
  have h2 : DataW.trod enc Tryz.prog W 0 (fun _ => true) true n 26 (([c0, c1, c2, c3, c4, c5, c6, c7].drop 2).take (Tryz.prog.cellsOf 26)) = some y2 := hf 2 _ rfl
  have h3 : DataW.trod enc Tryz.prog W 0 (fun _ => true) true n 27 (([c0, c1, c2, c3, c4, c5, c6, c7].drop 7).take (Tryz.prog.cellsOf 27)) = some y3 := hf 3 _ rfl
  rw [zU8] at h0
  rw [zString] at h1
  rw [zPath] at h2
  rw [zPms] at h3
  have hall : Rows.uptoBulk y0.1 + Rows.uptoBulk y1.1 + Rows.uptoBulk y2.1 + Rows.uptoBulk y3.1 ≤ Rows.uptoBulkAll [y0.1, y1.1, y2.1, y3.1] := by
    simp only [Rows.uptoBulkAll]
    omega
  have hbk2 : Rows.uptoBulkAll [y0.1, y1.1, y2.1, y3.1] + 1 ≤ 1048576 := hbk
  obtain ⟨k, e0, _, hk⟩ := DataW.trod_int Tryz.underlying5 h0
  obtain ⟨s, e1, es, _⟩ := DataW.trod_string Tryz.underlying9 h1
  obtain ⟨P, a1, cp, e2, ht, hfit, hroom⟩ := open_pathB h2
  obtain ⟨a2, cq, L, e3, hpm, hfl⟩ := open_pmsB (by omega) h3
  have g0 : c0 = .int .u8 k := by injection e0
  have g1 : c1 = .string s := by injection e1
  have g3 : c7 = .slice a2 L.length cq := by
    have e3' : [c7] = [Value.slice a2 L.length cq] := e3
    injection e3'
  have e2' : [c2, c3, c4, c5, c6] = [Value.bool P.null, .slice a1 P.route.length cp, .string (bs P.loc), .string (bs P.dom), .bool P.lit] := e2
  simp only [List.cons.injEq, and_true] at e2'
  obtain ⟨q2, q3, q4, q5, q6⟩ := e2'
  subst g0 g1 g3 q2 q3 q4 q5 q6
  have hkr : 0 ≤ k ∧ k ≤ 255 := by
    simp [Lit.wf, IntKind.min, IntKind.max, IntKind.signed, IntKind.bits] at hk
    omega
  have hkn : ((k.toNat : Nat) : Int) = k := Int.toNat_of_nonneg hkr.1
  have hsb : s.data.toList.length + 1 ≤ Rows.uptoBulk y1.1 := by rw [es]; exact Nat.le_refl _
  refine ⟨⟨k.toNat, s.data.toList, P, L⟩, a1, cp, a2, cq, ?_, ?_, ⟨ht, hroom, hpm⟩, ⟨?_, ?_, fun p hp => ?_⟩⟩
  · simp only [cmCells]
    rw [hkn]
    rfl
  · show k.toNat ≤ 255
    omega
  · show s.data.toList.length ≤ Rows.uptoBulkAll [y0.1, y1.1, y2.1, y3.1] + 1
    omega
  · show PaFits P (Rows.uptoBulkAll [y0.1, y1.1, y2.1, y3.1] + 1)
    exact hfit.mono (by omega)
  · obtain ⟨k1, k2⟩ := hfl p hp
    show p.key.length ≤ Rows.uptoBulkAll [y0.1, y1.1, y2.1, y3.1] + 1 ∧ p.value.length ≤ Rows.uptoBulkAll [y0.1, y1.1, y2.1, y3.1] + 1
    exact ⟨by omega, by omega⟩
theorem zWords : Tryz.prog.cellsOf 59 = 12 := by kernel_rfl
theorem gWords : Tryz.prog.globalNamed "franking/command.words" = some 0 := by kernel_rfl
theorem gWordsType : (Tryz.prog.globals[0]?).map (·.type) = some 59 := by kernel_rfl
/-- the table of words holds the words -/
theorem words_of {rest : List (String × DataW Unit)} (h : laidMet Tryz.prog (("franking/command.words", Rows.laid_franking_command_words) :: rest) W) : ∀ i, i < 12 → W.cell? ⟨0, i, none⟩ = some (.string (bs (wordP i))) := by
  obtain ⟨ps, ⟨g', t', cs, fuel, p, q, hg', ht', hvar, hd, _, _⟩, _⟩ := h
  obtain rfl := Option.some.inj (gWords.symm.trans hg')
  obtain rfl := Option.some.inj (gWordsType.symm.trans ht')
  intro i hi
  rw [World.var?_cell gWords hvar i]
  obtain ⟨xs, m, rfl, hx, hl, hlen, hf⟩ := DataW.trod_array Tryz.underlying59 hd
  have hi2 := hf i hi
  rw [zString, Nat.mul_one] at hi2
  have hxs : xs.map (·.1) = wordsV.map fun s => (DataW.lit (.string s) : DataW Unit) := by
    have := congrArg Prod.fst hx
    have e : (Rows.laid_franking_command_words : DataW Unit) = .agg (wordsV.map fun s => (DataW.lit (.string s) : DataW Unit)) := rfl
    rw [e] at this
    exact (DataW.agg.inj this).symm
  have hxi : i < xs.length := by omega
  rw [List.getElem?_eq_getElem hxi] at hi2
  obtain ⟨s, e1, e2, _⟩ := DataW.trod_string Tryz.underlying9 hi2
  have h1 : cs.toList[i]? = some (.string s) := by
    have := congrArg (·[0]?) e1
    simpa [List.getElem?_take, List.getElem?_drop] using this
  have h2 : (xs.map (·.1))[i]? = some (DataW.lit (.string s.data.toList)) := by
    rw [List.getElem?_map, List.getElem?_eq_getElem hxi, e2]
    rfl
  rw [hxs, List.getElem?_map] at h2
  have hw : wordsV[i]? = some (wordP i) := by
    unfold wordP
    rw [List.getD_eq_getElem?_getD]
    have hlw : i < wordsV.length := hi
    rw [List.getElem?_eq_getElem hlw]
    rfl
  rw [hw] at h2
  have h3 : wordP i = s.data.toList := by
    rw [Option.map_some] at h2
    exact Lit.string.inj (DataW.lit.inj (Option.some.inj h2))
  rw [← Array.getElem?_toList, h1, h3]
  rfl
end Go.Proofs.YtnkepdeegpampaaGreatDoor

/-
  CommandBlanks answers true, and leaves its arguments as they were, for every input of bulk at most 1048576 (the form 'Upto'): the row, and the tied card. Conditions: that bound; the listed variables as the library's text lays them (the card ties them).
-/
namespace Go.Proofs.YtnkepdeegpampaaGreatDoor.commandBlanks
open Go.ChangeShapes Go.WideShapes Go.ChangeAt Go.RowKit
open Go.ChangeMaps (open_string shut_string)

theorem own : ownKnob Tryz.prog.godebug = none := by kernel_rfl
theorem laidOut : laidOutB Tryz.prog = true := by kernel_rfl
theorem gEs : Tryz.prog.globalNamed "strconv.ErrSyntax" = some ErrG := by kernel_rfl
theorem gEsType : (Tryz.prog.globals[ErrG]?).map (·.type) = some 70 := by kernel_rfl
theorem cellsE : Tryz.prog.cellsOf 148 = 1 := by kernel_rfl
theorem cellsS : Tryz.prog.cellsOf 9 = 1 := by kernel_rfl
theorem star : "*" ++ "errors.errorString" = "*errors.errorString" := by decide
theorem rowE (u : TypeId) (h : Tryz.prog.typeName? 3 u = some "*errors.errorString") : u = 146 :=
  typeName_ptr_named (nm := "errors.errorString") (by rw [star]; kernel_rfl) (by kernel_rfl) (by decide) u (by rw [star]; exact h)
theorem env_of_laid {W : World} (h : laidMetH Tryz.prog Rows.commandBlanksUptoRow.laid W) (hS : W.ShapedOpen Tryz.prog) : Env W := by
  rw [MakeChecks.laidMetH_plain _ _ _ (by kernel_rfl)] at h
  have h' : laidMet Tryz.prog [("math/bits.deBruijn32tab", Rows.laid_math_bits_deBruijn32tab), ("math/bits.deBruijn64tab", Rows.laid_math_bits_deBruijn64tab), ("internal/strconv.uint64pow10", Rows.laid_internal_strconv_uint64pow10), ("unicode/utf8.acceptRanges", Rows.laid_unicode_utf8_acceptRanges), ("strconv.ErrRange", Rows.laid_strconv_ErrRange), ("strconv.ErrSyntax", Rows.laid_strconv_ErrSyntax), ("franking/command.words", Rows.laid_franking_command_words), ("unicode/utf8.first", Rows.laid_unicode_utf8_first)] W := h
  obtain ⟨a0, s0, hv0, -, -, -⟩ := laid_sentinel h'.tail.tail.tail.tail.tail gEs gEsType Tryz.underlying70 rowE Tryz.underlying146 Tryz.underlying148 rfl rfl Tryz.underlying9 cellsE cellsS
  have h0 : W.cell? ⟨ErrG, 0, none⟩ = some (.iface 146 (.pointer (some a0))) := by have h0 := World.var?_cell gEs hv0 0; simpa using h0
  obtain ⟨mx, hmx⟩ := cell_of_shapedOpen_int (g := 1) (zero := #[.int .i64 0]) (t := 3) hS (of_decide_eq_true (by kernel_rfl)) (by kernel_rfl) rfl (by kernel_rfl) (by kernel_rfl) Tryz.underlying3
  exact ⟨⟨⟨_, h0, Or.inr ⟨_, _, rfl⟩⟩, World.block_lt_of_cell? _ _ h0⟩, ⟨mx, hmx⟩, words_of h'.tail.tail.tail.tail.tail.tail⟩
theorem bs_self (s : ByteArray) : bs s.data.toList = s := rfl

abbrev inp : Array Value := #[.agg #[.int .u8 0, .string .empty, .bool false, .slice none 0 0, .string .empty, .string .empty, .bool false, .slice none 0 0]]
theorem reads (os : Os) {H : Type} (enc : TypeId × Value → H) : ∃ places, DataW.whole enc Tryz.prog ((World.laidAll Tryz.prog os Rows.commandBlanksUptoRow.laid).forCall (fun _ _ => 0) ⟨#[], inp, []⟩).memory Tryz.f6.params.toList Rows.commandBlanksSpec.vars false inp.toList 8 = some ([.agg [.lit (.int .u8 0), .lit (.string []), .agg [.lit (.bool false), .nil, .agg [.lit (.string []), .lit (.string []), .lit (.bool false)]], .nil]], [], places) :=
  ⟨[], by kernel_rfl⟩

set_option maxRecDepth 100000 in
theorem contract (H : Type) (enc : TypeId × Value → H) (W : World) (base : Nat) (args : Array Value) (ds gs : List (DataW H)) (before : List MemPlace)
    (hval0 : ∀ (j : Nat) t v, Tryz.f6.params[j]? = some t → args[j]? = some v → Value.okWide Tryz.prog W .any base t v)
    (hW : DataW.Whole enc Tryz.prog Tryz.f6.params.toList Rows.commandBlanksSpec.vars false W args.toList ds gs before) (hk : Rows.uptoSmall H (ds ++ gs) = true) (hL : laidMetH Tryz.prog Rows.commandBlanksUptoRow.laid W) (hS : W.ShapedOpen Tryz.prog) :
    Calls Tryz.prog 6 args W fun e W' => ∃ v, e = .returned v ∧ Rows.commandBlanksSpec.post enc Tryz.prog Tryz.f6 false true false false W args v W' := by
  have hval : ∀ (j : Nat) t v, Tryz.f6.params[j]? = some t → args[j]? = some v → Value.okWide Tryz.prog W .any base t v := hval0
  have hW' := hW
  obtain ⟨p, q, hA0, hV, rfl, _, _⟩ := hW
  have hA : DataW.TrodAll enc Tryz.prog W 0 (fun _ => true) true Tryz.f6.params.toList args.toList ds p := hA0
  rw [Tryz.params6] at hA hval
  obtain ⟨v0, vs0, d0, ds0, p0, q0, hargs, rfl, rfl, h0, r0⟩ := trodAll_cons hA
  obtain ⟨rfl, rfl, rfl⟩ := trodAll_nil r0
  obtain rfl : args = #[v0] := by cases args; simp_all
  obtain ⟨rfl, rfl⟩ := trodVars_none hV
  have k0 := h0
  have lt0 : ∀ x ∈ p0, x.block < W.heap.size := by obtain ⟨m, hm⟩ := k0; exact DataW.trod_lt m _ _ _ hm
  have hb : Rows.uptoBulkAll ([d0] ++ []) ≤ 1048576 := of_decide_eq_true hk
  simp only [List.append_nil, Rows.uptoBulkAll] at hb
  obtain ⟨cs0, rfl, _⟩ := okWide_struct Tryz.underlying29 (hval 0 29 v0 rfl rfl)
  obtain ⟨C0, a0, c0, b0, e0, hcs0, hcv0, hci0, hcf0⟩ : ∃ (C : Cm) (a1 : Option Addr) (c1 : Nat) (a2 : Option Addr) (c2 : Nat), cs0.toList = (cmCells C (.slice a1 C.path.route.length c1) (.slice a2 C.params.length c2)).toList ∧ C.verb ≤ 255 ∧ CmIn W C a1 c1 a2 ∧ CmFits C (Rows.uptoBulk d0) := by
    obtain ⟨fuel, hf⟩ := h0
    exact open_cmdB (show Rows.uptoBulk d0 ≤ 1048576 by omega) hf
  obtain rfl : cs0 = cmCells C0 (.slice a0 C0.path.route.length c0) (.slice b0 C0.params.length e0) := by rw [← Array.toList_inj, hcs0]
  have htz := env_of_laid hL hS
  clear hA0 hval0
  refine (blanks16_any C0 hcv0 a0 b0 c0 e0 (hcf0.mono (by omega)) W hci0 htz).mono fun e W' ⟨he, bel⟩ => ?_
  subst he
  exact ⟨_, rfl, _, _, _, [], _, [], hW', trodAll_mk1 (shut_bool Tryz.underlying4 _), (trodAll_cons_mk (Below.trod laidOut (by kernel_rfl) (of_decide_eq_true (by kernel_rfl)) k0 bel lt0) trodAll_mk0), rfl, bel.frame _, fun h => by cases h⟩

set_option maxRecDepth 100000 in
theorem lifted (os : Os) (started : os.Started) (H : Type) (enc : TypeId × Value → H) (J : Stop.Interp) :
    ReturnsInHanded {} Tryz.checked os 6 .any ((Rows.OpenSpec.upto Rows.commandBlanksSpec).preRow enc Tryz.prog Tryz.f6 Rows.commandBlanksUptoRow.domain false Rows.commandBlanksUptoRow.laid) (((Rows.OpenSpec.upto Rows.commandBlanksSpec).at J).post enc Tryz.prog Tryz.f6 false true false false) := by
  obtain ⟨places, hx⟩ := reads os enc
  have hok : Input.okWideB Tryz.prog ((World.laidAll Tryz.prog os Rows.commandBlanksUptoRow.laid).forCall (fun _ _ => 0) ⟨#[], inp, []⟩) 6 ⟨#[], inp, []⟩ = true := by kernel_rfl
  refine returnsInHanded_of_row (C := Tryz.checked) (s := Rows.OpenSpec.upto Rows.commandBlanksSpec) own started (by kernel_rfl) Tryz.func6
    ⟨World.laidAll Tryz.prog os Rows.commandBlanksUptoRow.laid, fun _ _ => 0, ⟨#[], inp, []⟩, World.laidAll_os _ _ _, World.shaped_of_ZipB (by kernel_rfl) (by kernel_rfl), (Input.okWide_of_okWideB (base := 0) hok).1, (Input.okWide_of_okWideB hok).2,
      OpenSpec.preRow_of_cond 8 hx (by kernel_rfl) (fun k hk => by cases hk; kernel_rfl) (by kernel_rfl) (by rw [MakeChecks.laidMetH_plain _ _ _ (by kernel_rfl)]; exact laidMet_laidAll _ (by kernel_rfl) (by kernel_rfl)), by
        simp only [Assume.holds]
        exact ⟨by simp, by simp, fun _ => Modest.zero, by simp, by simp⟩⟩ ?_
  intro W base args ds gs before hval hW _ hcond _ hL hS _
  exact contract H enc W base args ds gs before hval hW (hcond _ rfl) hL hS

theorem holds : Rows.CommandBlanksUptoSaid :=
  OpenClaim.holds_of_cond 6 Tryz.f6 rfl rfl rfl rfl rfl rfl rfl ⟨rfl, rfl, rfl, rfl, rfl⟩ rfl rfl rfl rfl rfl (by kernel_rfl) Tryz.func6 (by kernel_rfl)
    (of_decide_eq_true (by kernel_rfl)) (by unfold Func.isWrapper; first | (rw [if_pos (by decide +kernel)]; kernel_rfl) | (rw [if_neg (by decide +kernel)]; exact ⟨rfl, rfl⟩))
    (fun os started H enc _ J => by rw [OpenClaim.pre_eq_preRow]; exact lifted os started H enc J)
theorem card_holds : Rows.CommandBlanksUptoCardSaid :=
  Claim7.holds_tied_plain_at .later [] [.data, .data, .data, .data, .sentinel, .sentinel, .data, .pinned] true Rows.commandBlanksUptoCard.stood.harness true holds (fun _ h => by cases h) (by kernel_rfl) (fun _ h => by cases h) commandBlanksUpto_row_tie rfl ⟨rfl, rfl⟩ (by kernel_rfl) rfl
    (fun f fn hf hfn => by
      obtain rfl : f = 6 := Option.some.inj ((show Tryz.prog.funcNamed "franking/frankinglaw16.CommandBlanks" = some 6 by kernel_rfl).symm.trans hf) |>.symm
      obtain rfl : fn = Tryz.f6 := (Option.some.inj (Tryz.func6.symm.trans hfn)).symm
      exact ⟨by kernel_rfl, fun j t ht => by
        rw [Tryz.params6] at ht
        have hm : t ∈ [29] := by simpa using Array.mem_of_getElem? ht
        have hall : ([29].all fun u => !Tryz.prog.wantsStandIn u) = true := by kernel_rfl
        exact (show Tryz.prog.wantsStandIn t = false by simpa using List.all_eq_true.1 hall t hm)⟩)
    (by kernel_rfl)
end Go.Proofs.YtnkepdeegpampaaGreatDoor.commandBlanks
