/-
  The contract of frankinglaw15.awake. Conditions: the library's variable holds some value.
-/
import Derived.Test.YtjgadocojdieeaaGreatDoorPtW
namespace Go.Proofs.YtjgadocojdieeaaGreatDoor
open Go.RowKit Go.Shelf

/-- the chapter's texts that are none -/
def badL : List (List UInt8) := [[60, 97, 64, 98], [60, 97, 46, 46, 98, 64, 99, 62], [60, 97, 64, 45, 98, 62], [60, 97, 64, 98, 95, 62], [60, 97, 64, 91, 49, 46, 50, 46, 51, 93, 62], [60, 32, 97, 64, 98, 62], []]
theorem badL_all : ∀ k, (h : k < badL.length) → parseP badL[k] = (150, {}, 0) ∧ badL[k].length ≤ 1000 := by decide +kernel
def ex1 : List UInt8 := [60, 65, 46, 98, 64, 88, 45, 49, 46, 79, 114, 103, 62]
def ex2 : List UInt8 := [60, 34, 97, 92, 34, 98, 32, 99, 34, 64, 91, 49, 50, 55, 46, 48, 46, 48, 46, 49, 93, 62]
def ex3 : List UInt8 := [60, 64, 97, 46, 98, 44, 64, 67, 58, 100, 64, 101, 62]
def ex5 : List UInt8 := [60, 80, 111, 115, 116, 109, 97, 115, 116, 101, 114, 62]
def pa1 : Pa := { loc := [65, 46, 98], dom := [120, 45, 49, 46, 111, 114, 103] }
def pa2 : Pa := { loc := [97, 34, 98, 32, 99], dom := [49, 50, 55, 46, 48, 46, 48, 46, 49], lit := true }
def pa3 : Pa := { route := [[97, 46, 98], [99]], loc := [100], dom := [101] }
def pa4 : Pa := { null := true }
def pa5 : Pa := { loc := postP }
theorem ex1_told : parseP (ex1 ++ [32, 122]) = (0, pa1, ex1.length) := by decide +kernel
theorem ex2_told : parseP (ex2 ++ [32, 122]) = (0, pa2, ex2.length) := by decide +kernel
theorem ex3_told : parseP (ex3 ++ [32, 122]) = (0, pa3, ex3.length) := by decide +kernel
theorem ex4_told : parseP ([60, 62] ++ [32, 122]) = (0, pa4, 2) := by decide +kernel
theorem ex5_told : parseP (ex5 ++ [32, 122]) = (0, pa5, ex5.length) := by decide +kernel
theorem noTexts (w : World) (a : Option Addr) : TextsAt w a [] := ⟨by simp, fun h => by simp at h⟩
theorem two_texts (w : World) : TextsAt (w.alloc (.cells #[.string ⟨#[97, 46, 98]⟩, .string ⟨#[99]⟩] 9)) (some ⟨w.heap.size, 0, none⟩) pa3.route := by
  refine ⟨by decide, fun _ => ⟨w.heap.size, 0, rfl, by rw [World.size_alloc]; omega, fun j hj => ?_⟩⟩
  rw [Nat.zero_add, (Blk.new w 9 _).cell j]
  match j, hj with
  | 0, _ => rfl
  | 1, _ => rfl
set_option maxRecDepth 100000 in
set_option maxHeartbeats 2000000 in
theorem awake_any (w : World) (he : ErrAt w ∧ ErrG < w.heap.size) : Calls Tryz.prog 5 #[] w (SameOut w true) := by
  have HQ : Hid (∀ w', Below w.heap.size w w' → SameOut w true (.returned (.bool true)) w') := fun w' h => ⟨rfl, h⟩
  generalize SameOut w true = Q at *
  have HE := Lib.hid he
  have HR1 : Hid (∀ (W : World), ErrAt W ∧ ErrG < W.heap.size → Calls Tryz.prog 26 #[.string ⟨#[60, 65, 46, 98, 64, 88, 45, 49, 46, 79, 114, 103, 62]⟩, .agg #[.bool false, .slice none 0 0, .string ⟨#[65, 46, 98]⟩, .string ⟨#[120, 45, 49, 46, 111, 114, 103]⟩, .bool false]] W (SameOut W true)) := fun W hW => reads_yes ex1 (by decide) pa1 ex1_told (by decide) none 0 W hW (noTexts W none)
  have HR2 : Hid (∀ (W : World), ErrAt W ∧ ErrG < W.heap.size → Calls Tryz.prog 26 #[.string ⟨#[60, 34, 97, 92, 34, 98, 32, 99, 34, 64, 91, 49, 50, 55, 46, 48, 46, 48, 46, 49, 93, 62]⟩, .agg #[.bool false, .slice none 0 0, .string ⟨#[97, 34, 98, 32, 99]⟩, .string ⟨#[49, 50, 55, 46, 48, 46, 48, 46, 49]⟩, .bool true]] W (SameOut W true)) := fun W hW => reads_yes ex2 (by decide) pa2 ex2_told (by decide) none 0 W hW (noTexts W none)
  have HR3 : Hid (∀ (W : World) (A : Option Addr), ErrAt W ∧ ErrG < W.heap.size → TextsAt W A pa3.route → Calls Tryz.prog 26 #[.string ⟨#[60, 64, 97, 46, 98, 44, 64, 67, 58, 100, 64, 101, 62]⟩, .agg #[.bool false, .slice A 2 2, .string ⟨#[100]⟩, .string ⟨#[101]⟩, .bool false]] W (SameOut W true)) := fun W A hW hA => reads_yes ex3 (by decide) pa3 ex3_told (by decide) A 2 W hW hA
  have HR4 : Hid (∀ (W : World), ErrAt W ∧ ErrG < W.heap.size → Calls Tryz.prog 26 #[.string ⟨#[60, 62]⟩, .agg #[.bool true, .slice none 0 0, .string ⟨#[]⟩, .string ⟨#[]⟩, .bool false]] W (SameOut W true)) := fun W hW => reads_yes [60, 62] (by decide) pa4 ex4_told (by decide) none 0 W hW (noTexts W none)
  have HR5 : Hid (∀ (W : World), ErrAt W ∧ ErrG < W.heap.size → Calls Tryz.prog 26 #[.string ⟨#[60, 80, 111, 115, 116, 109, 97, 115, 116, 101, 114, 62]⟩, .agg #[.bool false, .slice none 0 0, .string ⟨#[112, 111, 115, 116, 109, 97, 115, 116, 101, 114]⟩, .string ⟨#[]⟩, .bool false]] W (SameOut W true)) := fun W hW => reads_yes ex5 (by decide) pa5 ex5_told (by decide) none 0 W hW (noTexts W none)
  obtain ⟨W1, hW1⟩ : ∃ W1, W1 = w.alloc (.cells (badL.map textV).toArray 9) := ⟨_, rfl⟩
  obtain ⟨g1, hg1⟩ : ∃ g1, g1 = w.heap.size := ⟨_, rfl⟩
  have hb1 : Below w.heap.size w W1 := by rw [hW1]; exact (Below.refl _ w).alloc (Nat.le_refl _) _
  have hk1 : Blk W1 g1 9 (badL.map textV).toArray := by rw [hW1, hg1]; exact Blk.new _ _ _
  have HK1 := Lib.hid hk1
  have HL1 := Lib.hid hb1
  clear he
  go_enter Tryz.func5, Tryz.ntmps5
  go_wp2
  change Code.wp _ _ _ _ (World.alloc w (Obj.cells (badL.map textV).toArray 9))
  rw [← hW1, ← hg1]
  have HLT : Hid (g1 < W1.heap.size) := hk1.lt
  clear hb1 hk1 hW1 hg1
  go_loopw [8] (fun i wr => ∃ k : Nat, k ≤ 7 ∧ i = .int .i64 k ∧ Hid (Below W1.heap.size W1 wr)) (fun i _ => 7 - (intOf i).toNat)
  case atStart => exact ⟨0, by decide, rfl, Below.refl _ _⟩
  case round =>
    obtain ⟨k, hk, rfl, HW⟩ := hrel
    have hk0 : (0 : Int) ≤ (k : Int) := by omega
    have HLW := Lib.hid (low_trans HL1.out HW.out)
    by_cases hlt : k < 7
    · have hkb : k < badL.length := hlt
      obtain ⟨hp, hl⟩ := badL_all k hkb
      have hkz : (k : Int) < 7 := by omega
      have hc : wr.cell? ⟨g1, k, none⟩ = some (.string (bs badL[k])) := by
        rw [(HK1.out.below HW.out HLT.out).cell k, List.getElem?_toArray, List.getElem?_map, List.getElem?_eq_getElem hkb]
        rfl
      generalize badL[k] = s at *
      clear hkb
      have hwe := ErrAt.later HE.out HLW.out
      have HPC := Lib.hid ((parse_fun s (by omega) wr hwe.1 hwe.2).mono (fun e w' h => told_form h (by rw [hp]; decide)))
      simp only [hp] at HPC
      clear hp hl hwe
      generalize bs s = S at *
      go_upto_region 5 with (go_at_call 6; refine HPC.out.mono ?_; rintro e w2 ⟨a2, c2, rfl, ht2, hb2⟩; unfold paV paCells; have HB2 := Lib.hid hb2; clear ht2 hb2)
      obtain ⟨W3, hW3⟩ : ∃ W3, W3 = w2.alloc (.cells #[.bool false, .slice a2 0 c2, .string ⟨#[]⟩, .string ⟨#[]⟩, .bool false] 26) := ⟨_, rfl⟩
      have hb3 : Below w2.heap.size w2 W3 := by rw [hW3]; exact (Below.refl _ w2).alloc (Nat.le_refl _) _
      obtain ⟨g2, hg2⟩ : ∃ g2, g2 = w2.heap.size := ⟨_, rfl⟩
      have hk3 : Blk W3 g2 26 #[.bool false, .slice a2 0 c2, .string ⟨#[]⟩, .string ⟨#[]⟩, .bool false] := by rw [hW3, hg2]; exact Blk.new _ _ _
      change Code.wp _ _ _ _ (World.alloc w2 (Obj.cells #[.bool false, .slice a2 0 c2, .string ⟨#[]⟩, .string ⟨#[]⟩, .bool false] 26))
      rw [← hW3, ← hg2]
      have hlow : Below W1.heap.size W1 W3 := low_trans (low_trans HW.out HB2.out) hb3
      have HLN := Lib.hid hlow
      have HSM : Hid (Calls Tryz.prog 8 #[.agg #[.bool false, .slice a2 0 c2, .string ⟨#[]⟩, .string ⟨#[]⟩, .bool false], .agg #[.bool false, .slice none 0 0, .string ⟨#[]⟩, .string ⟨#[]⟩, .bool false]] W3 (SameOut W3 true)) := same_any {} {} a2 none c2 0 W3 (noTexts _ _) (noTexts _ _)
      have y0 := hk3.cell 0
      have y1 := hk3.cell 1
      have y2 := hk3.cell 2
      have y3 := hk3.cell 3
      have y4 := hk3.cell 4
      simp at y0 y1 y2 y3 y4
      clear hW3 hb3 hg2 hk3 hlow HPC HB2 hc
      go_wp2_with (go_at_call 8; refine HSM.out.mono ?_; rintro e w4 ⟨rfl, hb4⟩; have HB4 := Lib.hid (low_trans HLN.out hb4); clear hb4)
      go_roundw
      case rel => exact ⟨k + 1, by omega, by go_num, HB4.out⟩
      case measure => simp [intOf]; omega
    · have hkz : ¬ (k : Int) < 7 := by omega
      have hk7 : 7 ≤ (k : Int) := by omega
      have HL9 := Lib.hid HLW.out
      clear hk hlt
      go_wp2_with (first | (go_at_call 26; (with_reducible refine (HR1.out _ (ErrAt.later HE.out HL9.out)).mono ?_); rintro e w10 ⟨rfl, hb⟩; have HL10 := Lib.hid (low_trans HL9.out hb); clear hb HR1) | (go_at_call 26; (with_reducible refine (HR2.out _ (ErrAt.later HE.out HL10.out)).mono ?_); rintro e w11 ⟨rfl, hb⟩; have HL11 := Lib.hid (low_trans HL10.out hb); have HLB := Lib.hid (low_trans HL11.out ((Below.refl _ w11).alloc (Nat.le_refl _) (.cells #[.string ⟨#[97, 46, 98]⟩, .string ⟨#[99]⟩] 9))); have HTB : Hid (TextsAt (w11.alloc (.cells #[.string ⟨#[97, 46, 98]⟩, .string ⟨#[99]⟩] 9)) (some ⟨w11.heap.size, 0, none⟩) pa3.route) := two_texts w11; clear hb HR2) | (go_at_call 26; (with_reducible refine (HR3.out _ _ (ErrAt.later HE.out HLB.out) HTB.out).mono ?_); rintro e w12 ⟨rfl, hb⟩; have HL12 := Lib.hid (low_trans HLB.out hb); clear hb HR3) | (go_at_call 26; (with_reducible refine (HR4.out _ (ErrAt.later HE.out HL12.out)).mono ?_); rintro e w13 ⟨rfl, hb⟩; have HL13 := Lib.hid (low_trans HL12.out hb); clear hb HR4) | (go_at_call 26; (with_reducible refine (HR5.out _ (ErrAt.later HE.out HL13.out)).mono ?_); rintro e w14 ⟨rfl, hb⟩; have HL14 := Lib.hid (low_trans HL13.out hb); clear hb HR5))
      exact HQ.out w14 HL14.out
end Go.Proofs.YtjgadocojdieeaaGreatDoor
