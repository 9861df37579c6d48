/-
  The walk of frankinglaw15.PathLimits. Conditions: the library's variable holds some value.
-/
import Derived.Test.YtjgadocojdieeaaDoorPtLa
namespace Go.Proofs.YtjgadocojdieeaaDoor
open Go.RowKit Go.Shelf

set_option maxRecDepth 100000 in
set_option maxHeartbeats 4000000 in
theorem limits_2p (z : Int) (hz : z.tmod 4 = 2) (w : World) (he : ErrAt w ∧ ErrG < w.heap.size) : Calls Tryd.prog 6 #[.int .u8 z, .bool false] w (SameOut w true) := by
  have HE := Lib.hid he
  have HQ : Hid (∀ w', Below w.heap.size w w' → SameOut w true (.returned (.bool true)) w') := fun w' h => ⟨rfl, h⟩
  have HAW := Lib.hid (fun W (hW : Below w.heap.size w W) => awake_any W (ErrAt.later he hW))
  generalize SameOut w true = Q at *
  have hs := lim_short 2 (by decide)
  have hsq := hs.1 false
  have HRA : Hid (∀ W, Calls Tryd.prog 14 #[.string ⟨#[97]⟩, .int .i64 66] W fun e w' => e = .returned (.string (bs (Lib.repeatL [97] 66))) ∧ Below W.heap.size W w') := fun W => Tryd.strings_Repeat ⟨#[97]⟩ 66 W (by omega) (by show 1 * 66 ≤ _; omega)
  have HRL : Hid (∀ W, Calls Tryd.prog 14 #[.string ⟨#[98]⟩, .int .i64 63] W fun e w' => e = .returned (.string (bs (limLabel))) ∧ Below W.heap.size W w') := fun W => Tryd.strings_Repeat ⟨#[98]⟩ 63 W (by omega) (by show 1 * 63 ≤ _; omega)
  have HRB : Hid (∀ W, Calls Tryd.prog 14 #[.string ⟨#[98]⟩, .int .i64 2] W fun e w' => e = .returned (.string (bs (Lib.repeatL [98] 2))) ∧ Below W.heap.size W w') := fun W => Tryd.strings_Repeat ⟨#[98]⟩ 2 W (by omega) (by show 1 * 2 ≤ _; omega)
  have HRD : Hid (∀ W, Calls Tryd.prog 14 #[.string ⟨#[46]⟩, .int .i64 (min 2 1)] W fun e w' => e = .returned (.string (bs (Lib.repeatL [46] 1))) ∧ Below W.heap.size W w') := fun W => Tryd.strings_Repeat ⟨#[46]⟩ 1 W (by omega) (by show 1 * 1 ≤ _; omega)
  have HRC : Hid (∀ W, Calls Tryd.prog 14 #[.string ⟨#[99]⟩, .int .i64 (max 1 0)] W fun e w' => e = .returned (.string (bs (Lib.repeatL [99] 1))) ∧ Below W.heap.size W w') := fun W => Tryd.strings_Repeat ⟨#[99]⟩ 1 W (by omega) (by show 1 * 1 ≤ _; omega)
  have HRR : Hid (∀ W, Calls Tryd.prog 14 #[.string ⟨#[44, 64, 120]⟩, .int .i64 21] W fun e w' => e = .returned (.string (bs (Lib.repeatL [44, 64, 120] 21))) ∧ Below W.heap.size W w') := fun W => Tryd.strings_Repeat ⟨#[44, 64, 120]⟩ 21 W (by omega) (by show 3 * 21 ≤ _; omega)
  have hat : bs (Lib.repeatL [97] 66) = bs (limText 2 false) := rfl
  have han : bs (limText 2 false) = bs (limName 2 false) := rfl
  have ha3 : ∀ W, (Op.stringOp .add (bs (limText 2 false)) ⟨#[64, 98]⟩).run Tryd.prog W = .ok (.string (bs (limText 2 false ++ [64, 98]))) W := fun W => by rw [run_string_add_sum W _ _ (by decide +kernel)]; rfl
  have ha4 : ∀ W, (Op.stringOp .add (bs limLabel) (bs (Lib.repeatL [98] 2))).run Tryd.prog W = .ok (.string (bs (limLabel ++ Lib.repeatL [98] 2))) W := fun W => by rw [run_string_add_sum W _ _ (by decide +kernel)]; rfl
  have hb1 : ∀ W, (Op.stringOp .add (bs limLabel) ⟨#[46]⟩).run Tryd.prog W = .ok (.string (bs (limLabel ++ [46]))) W := fun W => by rw [run_string_add_sum W _ _ (by decide +kernel)]; rfl
  have hb2 : ∀ W, (Op.stringOp .add (bs (limLabel ++ [46])) (bs limLabel)).run Tryd.prog W = .ok (.string (bs (limLabel ++ [46] ++ limLabel))) W := fun W => by rw [run_string_add_sum W _ _ (by decide +kernel)]; rfl
  have hb3 : ∀ W, (Op.stringOp .add (bs (limLabel ++ [46] ++ limLabel)) ⟨#[46]⟩).run Tryd.prog W = .ok (.string (bs (limLabel ++ [46] ++ limLabel ++ [46]))) W := fun W => by rw [run_string_add_sum W _ _ (by decide +kernel)]; rfl
  have hb4 : ∀ W, (Op.stringOp .add (bs (limLabel ++ [46] ++ limLabel ++ [46])) (bs limLabel)).run Tryd.prog W = .ok (.string (bs (limLabel ++ [46] ++ limLabel ++ [46] ++ limLabel))) W := fun W => by rw [run_string_add_sum W _ _ (by decide +kernel)]; rfl
  have hb5 : ∀ W, (Op.stringOp .add (bs (limLabel ++ [46] ++ limLabel ++ [46] ++ limLabel)) ⟨#[46]⟩).run Tryd.prog W = .ok (.string (bs (limLabel ++ [46] ++ limLabel ++ [46] ++ limLabel ++ [46]))) W := fun W => by rw [run_string_add_sum W _ _ (by decide +kernel)]; rfl
  have hb6 : ∀ W, (Op.stringOp .add (bs (limLabel ++ [46] ++ limLabel ++ [46] ++ limLabel ++ [46])) (bs limLabel)).run Tryd.prog W = .ok (.string (bs (limLabel ++ [46] ++ limLabel ++ [46] ++ limLabel ++ [46] ++ limLabel))) W := fun W => by rw [run_string_add_sum W _ _ (by decide +kernel)]; rfl
  have hb7 : ∀ W, (Op.stringOp .add (bs (limLabel ++ [46] ++ limLabel ++ [46] ++ limLabel ++ [46] ++ limLabel)) (bs (Lib.repeatL [46] 1))).run Tryd.prog W = .ok (.string (bs (limLabel ++ [46] ++ limLabel ++ [46] ++ limLabel ++ [46] ++ limLabel ++ Lib.repeatL [46] 1))) W := fun W => by rw [run_string_add_sum W _ _ (by decide +kernel)]; rfl
  have hb8 : ∀ W, (Op.stringOp .add (bs (limLabel ++ [46] ++ limLabel ++ [46] ++ limLabel ++ [46] ++ limLabel ++ Lib.repeatL [46] 1)) (bs (Lib.repeatL [99] 1))).run Tryd.prog W = .ok (.string (bs (limLong 2))) W := fun W => by rw [run_string_add_sum W _ _ (by decide +kernel)]; rfl
  have hc1 : ∀ W, (Op.stringOp .add ⟨#[97, 64]⟩ (bs (limLong 2))).run Tryd.prog W = .ok (.string (bs ([97, 64] ++ limLong 2))) W := fun W => by rw [run_string_add_sum W _ _ (by decide +kernel)]; rfl
  have hd1 : ∀ W, (Op.stringOp .add ⟨#[60, 64, 120]⟩ (bs (Lib.repeatL [44, 64, 120] 21))).run Tryd.prog W = .ok (.string (bs ([60, 64, 120] ++ Lib.repeatL [44, 64, 120] 21))) W := fun W => by rw [run_string_add_sum W _ _ (by decide +kernel)]; rfl
  have hd2 : ∀ W, (Op.stringOp .add (bs ([60, 64, 120] ++ Lib.repeatL [44, 64, 120] 21)) ⟨#[58, 97, 64, 98, 62]⟩).run Tryd.prog W = .ok (.string (bs (limRoute 2))) W := fun W => by rw [run_string_add_sum W _ _ (by decide +kernel)]; rfl
  have hw0 : ∀ W, Below w.heap.size w W → ErrAt W ∧ ErrG < W.heap.size := fun W hW => ErrAt.later he hW
  have HM1 : Hid (∀ W, Below w.heap.size w W → Calls Tryd.prog 12 #[.string (bs (limText 2 false ++ [64, 98]))] W fun e w' => e = .returned (.tuple #[.agg #[.string (bs ([])), .string (bs ([])), .bool false], .int .i64 3]) ∧ Below W.heap.size W w') := fun W hW => by
    have h := mailbox_fun (limText 2 false ++ [64, 98]) (by rw [List.length_append]; simp only [List.length_cons, List.length_nil]; omega) W (hw0 W hW).1 (hw0 W hW).2
    unfold MailOut boxCells at h
    rw [lim_box 2 (by decide) false] at h
    exact h
  have HD1 : Hid (∀ W, Below w.heap.size w W → Calls Tryd.prog 15 #[.string (bs (limLabel ++ Lib.repeatL [98] 2))] W fun e w' => e = .returned (.bool false) ∧ Below W.heap.size W w') := fun W hW => by
    have h := domain_fun (limLabel ++ Lib.repeatL [98] 2) (by omega) W (hw0 W hW).1 (hw0 W hW).2
    rw [lim_label 2 (by decide)] at h
    exact h
  have HD2 : Hid (∀ W, Below w.heap.size w W → Calls Tryd.prog 15 #[.string (bs (limLong 2))] W fun e w' => e = .returned (.bool false) ∧ Below W.heap.size W w') := fun W hW => by
    have h := domain_fun (limLong 2) (by omega) W (hw0 W hW).1 (hw0 W hW).2
    rw [lim_dom 2 (by decide)] at h
    exact h
  obtain ⟨ml, md, mb, HM2⟩ : ∃ l d b, ∀ W, Below w.heap.size w W → Calls Tryd.prog 12 #[.string (bs ([97, 64] ++ limLong 2))] W fun e w' => e = .returned (.tuple #[.agg #[.string (bs l), .string (bs d), .bool b], .int .i64 3]) ∧ Below W.heap.size W w' := ⟨_, _, _, fun W hW => by
    have h := mailbox_fun ([97, 64] ++ limLong 2) (by rw [List.length_append]; simp only [List.length_cons, List.length_nil]; omega) W (hw0 W hW).1 (hw0 W hW).2
    unfold MailOut boxCells at h
    rw [lim_long 2 (by decide)] at h
    exact h⟩
  have HM2 := Lib.hid HM2
  obtain ⟨p, pn, HP⟩ : ∃ (p : Pa) (n : Int), ∀ W, Below w.heap.size w W → Calls Tryd.prog 10 #[.string (bs (limRoute 2))] W fun e w' => ∃ a c, e = .returned (.tuple #[.agg #[.bool p.null, .slice a 0 c, .string (bs p.loc), .string (bs p.dom), .bool p.lit], .int .i64 n, .int .i64 3]) ∧ Below W.heap.size W w' := ⟨(parseP (limRoute 2)).2.1, _, fun W hW => by
    have h := parse_told (limRoute 2) (by omega) W (hw0 W hW)
    unfold paV paCells at h
    rw [(lim_route 2 (by decide)).1, (lim_route 2 (by decide)).2] at h
    exact h.mono fun e w' ⟨a, c, h1, _, h2⟩ => ⟨a, c, h1, h2⟩⟩
  have HP := Lib.hid HP
  clear hs hsq he hw0
  rw [hat, han] at HRA
  rw [han] at ha3
  clear hat han
  generalize bs (limText 2 false ++ [64, 98]) = t4 at *
  generalize bs (limName 2 false) = t5 at *
  generalize bs (limLabel ++ Lib.repeatL [98] 2) = t6 at *
  generalize bs (Lib.repeatL [98] 2) = t7 at *
  generalize bs (limLong 2) = t8 at *
  generalize bs (limLabel ++ [46] ++ limLabel ++ [46] ++ limLabel ++ [46] ++ limLabel ++ Lib.repeatL [46] 1) = t9 at *
  generalize bs (limLabel ++ [46] ++ limLabel ++ [46] ++ limLabel ++ [46] ++ limLabel) = t10 at *
  generalize bs (limLabel ++ [46] ++ limLabel ++ [46] ++ limLabel ++ [46]) = t11 at *
  generalize bs (limLabel ++ [46] ++ limLabel ++ [46] ++ limLabel) = t12 at *
  generalize bs (limLabel ++ [46] ++ limLabel ++ [46]) = t13 at *
  generalize bs (limLabel ++ [46] ++ limLabel) = t14 at *
  generalize bs (limLabel ++ [46]) = t15 at *
  generalize bs limLabel = t16 at *
  generalize bs (Lib.repeatL [46] 1) = t17 at *
  generalize bs (Lib.repeatL [99] 1) = t18 at *
  generalize bs ([97, 64] ++ limLong 2) = t19 at *
  generalize bs ([60, 64, 120] ++ Lib.repeatL [44, 64, 120] 21) = t20 at *
  generalize bs (Lib.repeatL [44, 64, 120] 21) = t21 at *
  generalize bs (limRoute 2) = t22 at *
  generalize bs p.loc = t23 at *
  generalize bs p.dom = t24 at *
  generalize p.null = t25 at *
  generalize p.lit = t26 at *
  generalize bs ml = t27 at *
  generalize bs md = t28 at *
  have HL0 : Hid (Below w.heap.size w w) := Below.refl _ w
  go_enter Tryd.func6, Tryd.ntmps6
  go_upto_region 7 with (first | (go_at_call 14; (with_reducible refine (HRA.out _).mono ?_); rintro e w1 ⟨rfl, hb⟩; have HL1 := Lib.hid (low_trans HL0.out hb); clear hb HRA) | (go_at_call 12; (with_reducible refine (HM1.out _ HL1.out).mono ?_); rintro e w2 ⟨rfl, hb⟩; have HL2 := Lib.hid (low_trans HL1.out hb); clear hb HM1))
  obtain ⟨W2, hW2⟩ : ∃ W, W = w2.alloc (.cells #[.string (bs []), .string (bs []), .bool false] 24) := ⟨_, rfl⟩
  obtain ⟨g2, hg2⟩ : ∃ g, g = w2.heap.size := ⟨_, rfl⟩
  have HK2 : Hid (Blk W2 g2 24 #[.string (bs []), .string (bs []), .bool false]) := by rw [hW2, hg2]; exact Blk.new _ _ _
  have HL3 : Hid (Below w.heap.size w W2) := low_trans HL2.out (by rw [hW2]; exact (Below.refl _ w2).alloc (Nat.le_refl _) _)
  change Code.wp _ _ _ _ (World.alloc w2 (Obj.cells #[.string (bs []), .string (bs []), .bool false] 24))
  rw [← hW2, ← hg2]
  clear hW2 hg2
  have x2 := HK2.out.cell 0
  simp at x2
  go_upto_region 12 with (first | (go_at_call 14; (with_reducible refine (HRL.out _).mono ?_); rintro e w4 ⟨rfl, hb⟩; have HL4 := Lib.hid (low_trans HL3.out hb); clear hb HRL) | (go_at_call 14; (with_reducible refine (HRB.out _).mono ?_); rintro e w5 ⟨rfl, hb⟩; have HL5 := Lib.hid (low_trans HL4.out hb); clear hb HRB) | (go_at_call 15; (with_reducible refine (HD1.out _ HL5.out).mono ?_); rintro e w6 ⟨rfl, hb⟩; have HL6 := Lib.hid (low_trans HL5.out hb); clear hb HD1))
  go_upto_region 14 with (first | (go_at_call 14; (with_reducible refine (HRD.out _).mono ?_); rintro e w7 ⟨rfl, hb⟩; have HL7 := Lib.hid (low_trans HL6.out hb); clear hb HRD) | (go_at_call 14; (with_reducible refine (HRC.out _).mono ?_); rintro e w8 ⟨rfl, hb⟩; have HL8 := Lib.hid (low_trans HL7.out hb); clear hb HRC) | (go_at_call 12; (with_reducible refine (HM2.out _ HL8.out).mono ?_); rintro e w9 ⟨rfl, hb⟩; have HL9 := Lib.hid (low_trans HL8.out hb); clear hb HM2))
  obtain ⟨W9, hW9⟩ : ∃ W, W = w9.alloc (.cells #[.string t27, .string t28, .bool mb] 24) := ⟨_, rfl⟩
  obtain ⟨g9, hg9⟩ : ∃ g, g = w9.heap.size := ⟨_, rfl⟩
  have HK9 : Hid (Blk W9 g9 24 #[.string t27, .string t28, .bool mb]) := by rw [hW9, hg9]; exact Blk.new _ _ _
  have HL10 : Hid (Below w.heap.size w W9) := low_trans HL9.out (by rw [hW9]; exact (Below.refl _ w9).alloc (Nat.le_refl _) _)
  change Code.wp _ _ _ _ (World.alloc w9 (Obj.cells #[.string t27, .string t28, .bool mb] 24))
  rw [← hW9, ← hg9]
  clear hW9 hg9
  have x9 := HK9.out.cell 0
  simp at x9
  clear x9 HK9
  go_upto_region 15 with (fail)
  obtain ⟨W11, hW11⟩ : ∃ W, W = W9.alloc (.cells #[.int .i64 0, .int .i64 150, .int .i64 3, .int .i64 3] 27) := ⟨_, rfl⟩
  have HL11 : Hid (Below w.heap.size w W11) := low_trans HL10.out (by rw [hW11]; exact (Below.refl _ W9).alloc (Nat.le_refl _) _)
  change Code.wp _ _ _ _ (World.alloc W9 (Obj.cells #[.int .i64 0, .int .i64 150, .int .i64 3, .int .i64 3] 27))
  rw [← hW11]
  clear hW11
  go_upto_region 18 with (first | (go_at_call 15; (with_reducible refine (HD2.out _ HL11.out).mono ?_); rintro e w12 ⟨rfl, hb⟩; have HL12 := Lib.hid (low_trans HL11.out hb); clear hb HD2) | (go_at_call 14; (with_reducible refine (HRR.out _).mono ?_); rintro e w13 ⟨rfl, hb⟩; have HL13 := Lib.hid (low_trans HL12.out hb); clear hb HRR) | (go_at_call 10; (with_reducible refine (HP.out _ HL13.out).mono ?_); rintro e w14 ⟨pa, pc, rfl, hb⟩; have HL14 := Lib.hid (low_trans HL13.out hb); clear hb HP))
  obtain ⟨W14, hW14⟩ : ∃ W, W = w14.alloc (.cells #[.bool t25, .slice pa 0 pc, .string t23, .string t24, .bool t26] 26) := ⟨_, rfl⟩
  obtain ⟨g14, hg14⟩ : ∃ g, g = w14.heap.size := ⟨_, rfl⟩
  have HK14 : Hid (Blk W14 g14 26 #[.bool t25, .slice pa 0 pc, .string t23, .string t24, .bool t26]) := by rw [hW14, hg14]; exact Blk.new _ _ _
  have HL15 : Hid (Below w.heap.size w W14) := low_trans HL14.out (by rw [hW14]; exact (Below.refl _ w14).alloc (Nat.le_refl _) _)
  change Code.wp _ _ _ _ (World.alloc w14 (Obj.cells #[.bool t25, .slice pa 0 pc, .string t23, .string t24, .bool t26] 26))
  rw [← hW14, ← hg14]
  clear hW14 hg14
  have x14 := HK14.out.cell 1
  simp at x14
  go_wp2_with (go_at_call 13; (with_reducible refine (HAW.out _ HL15.out).mono ?_); rintro e wz ⟨rfl, hb⟩; have HLZ := Lib.hid (low_trans HL15.out hb); clear hb)
  exact HQ.out wz HLZ.out

set_option maxRecDepth 100000 in
set_option maxHeartbeats 4000000 in
theorem limits_2q (z : Int) (hz : z.tmod 4 = 2) (w : World) (he : ErrAt w ∧ ErrG < w.heap.size) : Calls Tryd.prog 6 #[.int .u8 z, .bool true] w (SameOut w true) := by
  have HE := Lib.hid he
  have HQ : Hid (∀ w', Below w.heap.size w w' → SameOut w true (.returned (.bool true)) w') := fun w' h => ⟨rfl, h⟩
  have HAW := Lib.hid (fun W (hW : Below w.heap.size w W) => awake_any W (ErrAt.later he hW))
  generalize SameOut w true = Q at *
  have hs := lim_short 2 (by decide)
  have hsq := hs.1 true
  have HRA : Hid (∀ W, Calls Tryd.prog 14 #[.string ⟨#[97]⟩, .int .i64 66] W fun e w' => e = .returned (.string (bs (Lib.repeatL [97] 66))) ∧ Below W.heap.size W w') := fun W => Tryd.strings_Repeat ⟨#[97]⟩ 66 W (by omega) (by show 1 * 66 ≤ _; omega)
  have HRQ : Hid (∀ W, Calls Tryd.prog 14 #[.string ⟨#[34]⟩, .int .i64 66] W fun e w' => e = .returned (.string (bs (limName 2 true))) ∧ Below W.heap.size W w') := fun W => Tryd.strings_Repeat ⟨#[34]⟩ 66 W (by omega) (by show 1 * 66 ≤ _; omega)
  have HRS : Hid (∀ W, Calls Tryd.prog 14 #[.string ⟨#[92, 34]⟩, .int .i64 66] W fun e w' => e = .returned (.string (bs (Lib.repeatL [92, 34] 66))) ∧ Below W.heap.size W w') := fun W => Tryd.strings_Repeat ⟨#[92, 34]⟩ 66 W (by omega) (by show 2 * 66 ≤ _; omega)
  have HRL : Hid (∀ W, Calls Tryd.prog 14 #[.string ⟨#[98]⟩, .int .i64 63] W fun e w' => e = .returned (.string (bs (limLabel))) ∧ Below W.heap.size W w') := fun W => Tryd.strings_Repeat ⟨#[98]⟩ 63 W (by omega) (by show 1 * 63 ≤ _; omega)
  have HRB : Hid (∀ W, Calls Tryd.prog 14 #[.string ⟨#[98]⟩, .int .i64 2] W fun e w' => e = .returned (.string (bs (Lib.repeatL [98] 2))) ∧ Below W.heap.size W w') := fun W => Tryd.strings_Repeat ⟨#[98]⟩ 2 W (by omega) (by show 1 * 2 ≤ _; omega)
  have HRD : Hid (∀ W, Calls Tryd.prog 14 #[.string ⟨#[46]⟩, .int .i64 (min 2 1)] W fun e w' => e = .returned (.string (bs (Lib.repeatL [46] 1))) ∧ Below W.heap.size W w') := fun W => Tryd.strings_Repeat ⟨#[46]⟩ 1 W (by omega) (by show 1 * 1 ≤ _; omega)
  have HRC : Hid (∀ W, Calls Tryd.prog 14 #[.string ⟨#[99]⟩, .int .i64 (max 1 0)] W fun e w' => e = .returned (.string (bs (Lib.repeatL [99] 1))) ∧ Below W.heap.size W w') := fun W => Tryd.strings_Repeat ⟨#[99]⟩ 1 W (by omega) (by show 1 * 1 ≤ _; omega)
  have HRR : Hid (∀ W, Calls Tryd.prog 14 #[.string ⟨#[44, 64, 120]⟩, .int .i64 21] W fun e w' => e = .returned (.string (bs (Lib.repeatL [44, 64, 120] 21))) ∧ Below W.heap.size W w') := fun W => Tryd.strings_Repeat ⟨#[44, 64, 120]⟩ 21 W (by omega) (by show 3 * 21 ≤ _; omega)
  have ha1 : ∀ W, (Op.stringOp .add ⟨#[34]⟩ (bs (Lib.repeatL [92, 34] 66))).run Tryd.prog W = .ok (.string (bs ([34] ++ Lib.repeatL [92, 34] 66))) W := fun W => by rw [run_string_add_sum W _ _ (by decide +kernel)]; rfl
  have ha2 : ∀ W, (Op.stringOp .add (bs ([34] ++ Lib.repeatL [92, 34] 66)) ⟨#[34]⟩).run Tryd.prog W = .ok (.string (bs (limText 2 true))) W := fun W => by rw [run_string_add_sum W _ _ (by decide +kernel)]; rfl
  have ha3 : ∀ W, (Op.stringOp .add (bs (limText 2 true)) ⟨#[64, 98]⟩).run Tryd.prog W = .ok (.string (bs (limText 2 true ++ [64, 98]))) W := fun W => by rw [run_string_add_sum W _ _ (by decide +kernel)]; rfl
  have ha4 : ∀ W, (Op.stringOp .add (bs limLabel) (bs (Lib.repeatL [98] 2))).run Tryd.prog W = .ok (.string (bs (limLabel ++ Lib.repeatL [98] 2))) W := fun W => by rw [run_string_add_sum W _ _ (by decide +kernel)]; rfl
  have hb1 : ∀ W, (Op.stringOp .add (bs limLabel) ⟨#[46]⟩).run Tryd.prog W = .ok (.string (bs (limLabel ++ [46]))) W := fun W => by rw [run_string_add_sum W _ _ (by decide +kernel)]; rfl
  have hb2 : ∀ W, (Op.stringOp .add (bs (limLabel ++ [46])) (bs limLabel)).run Tryd.prog W = .ok (.string (bs (limLabel ++ [46] ++ limLabel))) W := fun W => by rw [run_string_add_sum W _ _ (by decide +kernel)]; rfl
  have hb3 : ∀ W, (Op.stringOp .add (bs (limLabel ++ [46] ++ limLabel)) ⟨#[46]⟩).run Tryd.prog W = .ok (.string (bs (limLabel ++ [46] ++ limLabel ++ [46]))) W := fun W => by rw [run_string_add_sum W _ _ (by decide +kernel)]; rfl
  have hb4 : ∀ W, (Op.stringOp .add (bs (limLabel ++ [46] ++ limLabel ++ [46])) (bs limLabel)).run Tryd.prog W = .ok (.string (bs (limLabel ++ [46] ++ limLabel ++ [46] ++ limLabel))) W := fun W => by rw [run_string_add_sum W _ _ (by decide +kernel)]; rfl
  have hb5 : ∀ W, (Op.stringOp .add (bs (limLabel ++ [46] ++ limLabel ++ [46] ++ limLabel)) ⟨#[46]⟩).run Tryd.prog W = .ok (.string (bs (limLabel ++ [46] ++ limLabel ++ [46] ++ limLabel ++ [46]))) W := fun W => by rw [run_string_add_sum W _ _ (by decide +kernel)]; rfl
  have hb6 : ∀ W, (Op.stringOp .add (bs (limLabel ++ [46] ++ limLabel ++ [46] ++ limLabel ++ [46])) (bs limLabel)).run Tryd.prog W = .ok (.string (bs (limLabel ++ [46] ++ limLabel ++ [46] ++ limLabel ++ [46] ++ limLabel))) W := fun W => by rw [run_string_add_sum W _ _ (by decide +kernel)]; rfl
  have hb7 : ∀ W, (Op.stringOp .add (bs (limLabel ++ [46] ++ limLabel ++ [46] ++ limLabel ++ [46] ++ limLabel)) (bs (Lib.repeatL [46] 1))).run Tryd.prog W = .ok (.string (bs (limLabel ++ [46] ++ limLabel ++ [46] ++ limLabel ++ [46] ++ limLabel ++ Lib.repeatL [46] 1))) W := fun W => by rw [run_string_add_sum W _ _ (by decide +kernel)]; rfl
  have hb8 : ∀ W, (Op.stringOp .add (bs (limLabel ++ [46] ++ limLabel ++ [46] ++ limLabel ++ [46] ++ limLabel ++ Lib.repeatL [46] 1)) (bs (Lib.repeatL [99] 1))).run Tryd.prog W = .ok (.string (bs (limLong 2))) W := fun W => by rw [run_string_add_sum W _ _ (by decide +kernel)]; rfl
  have hc1 : ∀ W, (Op.stringOp .add ⟨#[97, 64]⟩ (bs (limLong 2))).run Tryd.prog W = .ok (.string (bs ([97, 64] ++ limLong 2))) W := fun W => by rw [run_string_add_sum W _ _ (by decide +kernel)]; rfl
  have hd1 : ∀ W, (Op.stringOp .add ⟨#[60, 64, 120]⟩ (bs (Lib.repeatL [44, 64, 120] 21))).run Tryd.prog W = .ok (.string (bs ([60, 64, 120] ++ Lib.repeatL [44, 64, 120] 21))) W := fun W => by rw [run_string_add_sum W _ _ (by decide +kernel)]; rfl
  have hd2 : ∀ W, (Op.stringOp .add (bs ([60, 64, 120] ++ Lib.repeatL [44, 64, 120] 21)) ⟨#[58, 97, 64, 98, 62]⟩).run Tryd.prog W = .ok (.string (bs (limRoute 2))) W := fun W => by rw [run_string_add_sum W _ _ (by decide +kernel)]; rfl
  have hw0 : ∀ W, Below w.heap.size w W → ErrAt W ∧ ErrG < W.heap.size := fun W hW => ErrAt.later he hW
  have HM1 : Hid (∀ W, Below w.heap.size w W → Calls Tryd.prog 12 #[.string (bs (limText 2 true ++ [64, 98]))] W fun e w' => e = .returned (.tuple #[.agg #[.string (bs ([])), .string (bs ([])), .bool false], .int .i64 3]) ∧ Below W.heap.size W w') := fun W hW => by
    have h := mailbox_fun (limText 2 true ++ [64, 98]) (by rw [List.length_append]; simp only [List.length_cons, List.length_nil]; omega) W (hw0 W hW).1 (hw0 W hW).2
    unfold MailOut boxCells at h
    rw [lim_box 2 (by decide) true] at h
    exact h
  have HD1 : Hid (∀ W, Below w.heap.size w W → Calls Tryd.prog 15 #[.string (bs (limLabel ++ Lib.repeatL [98] 2))] W fun e w' => e = .returned (.bool false) ∧ Below W.heap.size W w') := fun W hW => by
    have h := domain_fun (limLabel ++ Lib.repeatL [98] 2) (by omega) W (hw0 W hW).1 (hw0 W hW).2
    rw [lim_label 2 (by decide)] at h
    exact h
  have HD2 : Hid (∀ W, Below w.heap.size w W → Calls Tryd.prog 15 #[.string (bs (limLong 2))] W fun e w' => e = .returned (.bool false) ∧ Below W.heap.size W w') := fun W hW => by
    have h := domain_fun (limLong 2) (by omega) W (hw0 W hW).1 (hw0 W hW).2
    rw [lim_dom 2 (by decide)] at h
    exact h
  obtain ⟨ml, md, mb, HM2⟩ : ∃ l d b, ∀ W, Below w.heap.size w W → Calls Tryd.prog 12 #[.string (bs ([97, 64] ++ limLong 2))] W fun e w' => e = .returned (.tuple #[.agg #[.string (bs l), .string (bs d), .bool b], .int .i64 3]) ∧ Below W.heap.size W w' := ⟨_, _, _, fun W hW => by
    have h := mailbox_fun ([97, 64] ++ limLong 2) (by rw [List.length_append]; simp only [List.length_cons, List.length_nil]; omega) W (hw0 W hW).1 (hw0 W hW).2
    unfold MailOut boxCells at h
    rw [lim_long 2 (by decide)] at h
    exact h⟩
  have HM2 := Lib.hid HM2
  obtain ⟨p, pn, HP⟩ : ∃ (p : Pa) (n : Int), ∀ W, Below w.heap.size w W → Calls Tryd.prog 10 #[.string (bs (limRoute 2))] W fun e w' => ∃ a c, e = .returned (.tuple #[.agg #[.bool p.null, .slice a 0 c, .string (bs p.loc), .string (bs p.dom), .bool p.lit], .int .i64 n, .int .i64 3]) ∧ Below W.heap.size W w' := ⟨(parseP (limRoute 2)).2.1, _, fun W hW => by
    have h := parse_told (limRoute 2) (by omega) W (hw0 W hW)
    unfold paV paCells at h
    rw [(lim_route 2 (by decide)).1, (lim_route 2 (by decide)).2] at h
    exact h.mono fun e w' ⟨a, c, h1, _, h2⟩ => ⟨a, c, h1, h2⟩⟩
  have HP := Lib.hid HP
  clear hs hsq he hw0
  generalize bs (Lib.repeatL [97] 66) = t0 at *
  generalize bs ([34] ++ Lib.repeatL [92, 34] 66) = t1 at *
  generalize bs (Lib.repeatL [92, 34] 66) = t2 at *
  generalize bs (limText 2 true ++ [64, 98]) = t4 at *
  generalize bs (limText 2 true) = t3 at *
  generalize bs (limName 2 true) = t5 at *
  generalize bs (limLabel ++ Lib.repeatL [98] 2) = t6 at *
  generalize bs (Lib.repeatL [98] 2) = t7 at *
  generalize bs (limLong 2) = t8 at *
  generalize bs (limLabel ++ [46] ++ limLabel ++ [46] ++ limLabel ++ [46] ++ limLabel ++ Lib.repeatL [46] 1) = t9 at *
  generalize bs (limLabel ++ [46] ++ limLabel ++ [46] ++ limLabel ++ [46] ++ limLabel) = t10 at *
  generalize bs (limLabel ++ [46] ++ limLabel ++ [46] ++ limLabel ++ [46]) = t11 at *
  generalize bs (limLabel ++ [46] ++ limLabel ++ [46] ++ limLabel) = t12 at *
  generalize bs (limLabel ++ [46] ++ limLabel ++ [46]) = t13 at *
  generalize bs (limLabel ++ [46] ++ limLabel) = t14 at *
  generalize bs (limLabel ++ [46]) = t15 at *
  generalize bs limLabel = t16 at *
  generalize bs (Lib.repeatL [46] 1) = t17 at *
  generalize bs (Lib.repeatL [99] 1) = t18 at *
  generalize bs ([97, 64] ++ limLong 2) = t19 at *
  generalize bs ([60, 64, 120] ++ Lib.repeatL [44, 64, 120] 21) = t20 at *
  generalize bs (Lib.repeatL [44, 64, 120] 21) = t21 at *
  generalize bs (limRoute 2) = t22 at *
  generalize bs p.loc = t23 at *
  generalize bs p.dom = t24 at *
  generalize p.null = t25 at *
  generalize p.lit = t26 at *
  generalize bs ml = t27 at *
  generalize bs md = t28 at *
  have HL0 : Hid (Below w.heap.size w w) := Below.refl _ w
  go_enter Tryd.func6, Tryd.ntmps6
  go_upto_region 7 with (first | (go_at_call 14; (with_reducible refine (HRA.out _).mono ?_); rintro e w1 ⟨rfl, hb⟩; have HL1 := Lib.hid (low_trans HL0.out hb); clear hb HRA) | (go_at_call 14; (with_reducible refine (HRQ.out _).mono ?_); rintro e w2 ⟨rfl, hb⟩; have HL2 := Lib.hid (low_trans HL1.out hb); clear hb HRQ) | (go_at_call 14; (with_reducible refine (HRS.out _).mono ?_); rintro e w3 ⟨rfl, hb⟩; have HL3 := Lib.hid (low_trans HL2.out hb); clear hb HRS) | (go_at_call 12; (with_reducible refine (HM1.out _ HL3.out).mono ?_); rintro e w4 ⟨rfl, hb⟩; have HL4 := Lib.hid (low_trans HL3.out hb); clear hb HM1))
  obtain ⟨W4, hW4⟩ : ∃ W, W = w4.alloc (.cells #[.string (bs []), .string (bs []), .bool false] 24) := ⟨_, rfl⟩
  obtain ⟨g4, hg4⟩ : ∃ g, g = w4.heap.size := ⟨_, rfl⟩
  have HK4 : Hid (Blk W4 g4 24 #[.string (bs []), .string (bs []), .bool false]) := by rw [hW4, hg4]; exact Blk.new _ _ _
  have HL5 : Hid (Below w.heap.size w W4) := low_trans HL4.out (by rw [hW4]; exact (Below.refl _ w4).alloc (Nat.le_refl _) _)
  change Code.wp _ _ _ _ (World.alloc w4 (Obj.cells #[.string (bs []), .string (bs []), .bool false] 24))
  rw [← hW4, ← hg4]
  clear hW4 hg4
  have x4 := HK4.out.cell 0
  simp at x4
  go_upto_region 12 with (first | (go_at_call 14; (with_reducible refine (HRL.out _).mono ?_); rintro e w6 ⟨rfl, hb⟩; have HL6 := Lib.hid (low_trans HL5.out hb); clear hb HRL) | (go_at_call 14; (with_reducible refine (HRB.out _).mono ?_); rintro e w7 ⟨rfl, hb⟩; have HL7 := Lib.hid (low_trans HL6.out hb); clear hb HRB) | (go_at_call 15; (with_reducible refine (HD1.out _ HL7.out).mono ?_); rintro e w8 ⟨rfl, hb⟩; have HL8 := Lib.hid (low_trans HL7.out hb); clear hb HD1))
  go_upto_region 14 with (first | (go_at_call 14; (with_reducible refine (HRD.out _).mono ?_); rintro e w9 ⟨rfl, hb⟩; have HL9 := Lib.hid (low_trans HL8.out hb); clear hb HRD) | (go_at_call 14; (with_reducible refine (HRC.out _).mono ?_); rintro e w10 ⟨rfl, hb⟩; have HL10 := Lib.hid (low_trans HL9.out hb); clear hb HRC) | (go_at_call 12; (with_reducible refine (HM2.out _ HL10.out).mono ?_); rintro e w11 ⟨rfl, hb⟩; have HL11 := Lib.hid (low_trans HL10.out hb); clear hb HM2))
  obtain ⟨W11, hW11⟩ : ∃ W, W = w11.alloc (.cells #[.string t27, .string t28, .bool mb] 24) := ⟨_, rfl⟩
  obtain ⟨g11, hg11⟩ : ∃ g, g = w11.heap.size := ⟨_, rfl⟩
  have HK11 : Hid (Blk W11 g11 24 #[.string t27, .string t28, .bool mb]) := by rw [hW11, hg11]; exact Blk.new _ _ _
  have HL12 : Hid (Below w.heap.size w W11) := low_trans HL11.out (by rw [hW11]; exact (Below.refl _ w11).alloc (Nat.le_refl _) _)
  change Code.wp _ _ _ _ (World.alloc w11 (Obj.cells #[.string t27, .string t28, .bool mb] 24))
  rw [← hW11, ← hg11]
  clear hW11 hg11
  have x11 := HK11.out.cell 0
  simp at x11
  clear x11 HK11
  go_upto_region 15 with (fail)
  obtain ⟨W13, hW13⟩ : ∃ W, W = W11.alloc (.cells #[.int .i64 0, .int .i64 150, .int .i64 3, .int .i64 3] 27) := ⟨_, rfl⟩
  have HL13 : Hid (Below w.heap.size w W13) := low_trans HL12.out (by rw [hW13]; exact (Below.refl _ W11).alloc (Nat.le_refl _) _)
  change Code.wp _ _ _ _ (World.alloc W11 (Obj.cells #[.int .i64 0, .int .i64 150, .int .i64 3, .int .i64 3] 27))
  rw [← hW13]
  clear hW13
  go_upto_region 18 with (first | (go_at_call 15; (with_reducible refine (HD2.out _ HL13.out).mono ?_); rintro e w14 ⟨rfl, hb⟩; have HL14 := Lib.hid (low_trans HL13.out hb); clear hb HD2) | (go_at_call 14; (with_reducible refine (HRR.out _).mono ?_); rintro e w15 ⟨rfl, hb⟩; have HL15 := Lib.hid (low_trans HL14.out hb); clear hb HRR) | (go_at_call 10; (with_reducible refine (HP.out _ HL15.out).mono ?_); rintro e w16 ⟨pa, pc, rfl, hb⟩; have HL16 := Lib.hid (low_trans HL15.out hb); clear hb HP))
  obtain ⟨W16, hW16⟩ : ∃ W, W = w16.alloc (.cells #[.bool t25, .slice pa 0 pc, .string t23, .string t24, .bool t26] 26) := ⟨_, rfl⟩
  obtain ⟨g16, hg16⟩ : ∃ g, g = w16.heap.size := ⟨_, rfl⟩
  have HK16 : Hid (Blk W16 g16 26 #[.bool t25, .slice pa 0 pc, .string t23, .string t24, .bool t26]) := by rw [hW16, hg16]; exact Blk.new _ _ _
  have HL17 : Hid (Below w.heap.size w W16) := low_trans HL16.out (by rw [hW16]; exact (Below.refl _ w16).alloc (Nat.le_refl _) _)
  change Code.wp _ _ _ _ (World.alloc w16 (Obj.cells #[.bool t25, .slice pa 0 pc, .string t23, .string t24, .bool t26] 26))
  rw [← hW16, ← hg16]
  clear hW16 hg16
  have x16 := HK16.out.cell 1
  simp at x16
  go_wp2_with (go_at_call 13; (with_reducible refine (HAW.out _ HL17.out).mono ?_); rintro e wz ⟨rfl, hb⟩; have HLZ := Lib.hid (low_trans HL17.out hb); clear hb)
  exact HQ.out wz HLZ.out

set_option maxRecDepth 100000 in
set_option maxHeartbeats 4000000 in
theorem limits_3p (z : Int) (hz : z.tmod 4 = 3) (w : World) (he : ErrAt w ∧ ErrG < w.heap.size) : Calls Tryd.prog 6 #[.int .u8 z, .bool false] w (SameOut w true) := by
  have HE := Lib.hid he
  have HQ : Hid (∀ w', Below w.heap.size w w' → SameOut w true (.returned (.bool true)) w') := fun w' h => ⟨rfl, h⟩
  have HAW := Lib.hid (fun W (hW : Below w.heap.size w W) => awake_any W (ErrAt.later he hW))
  generalize SameOut w true = Q at *
  have hs := lim_short 3 (by decide)
  have hsq := hs.1 false
  have HRA : Hid (∀ W, Calls Tryd.prog 14 #[.string ⟨#[97]⟩, .int .i64 67] W fun e w' => e = .returned (.string (bs (Lib.repeatL [97] 67))) ∧ Below W.heap.size W w') := fun W => Tryd.strings_Repeat ⟨#[97]⟩ 67 W (by omega) (by show 1 * 67 ≤ _; omega)
  have HRL : Hid (∀ W, Calls Tryd.prog 14 #[.string ⟨#[98]⟩, .int .i64 63] W fun e w' => e = .returned (.string (bs (limLabel))) ∧ Below W.heap.size W w') := fun W => Tryd.strings_Repeat ⟨#[98]⟩ 63 W (by omega) (by show 1 * 63 ≤ _; omega)
  have HRB : Hid (∀ W, Calls Tryd.prog 14 #[.string ⟨#[98]⟩, .int .i64 3] W fun e w' => e = .returned (.string (bs (Lib.repeatL [98] 3))) ∧ Below W.heap.size W w') := fun W => Tryd.strings_Repeat ⟨#[98]⟩ 3 W (by omega) (by show 1 * 3 ≤ _; omega)
  have HRD : Hid (∀ W, Calls Tryd.prog 14 #[.string ⟨#[46]⟩, .int .i64 (min 3 1)] W fun e w' => e = .returned (.string (bs (Lib.repeatL [46] 1))) ∧ Below W.heap.size W w') := fun W => Tryd.strings_Repeat ⟨#[46]⟩ 1 W (by omega) (by show 1 * 1 ≤ _; omega)
  have HRC : Hid (∀ W, Calls Tryd.prog 14 #[.string ⟨#[99]⟩, .int .i64 (max 2 0)] W fun e w' => e = .returned (.string (bs (Lib.repeatL [99] 2))) ∧ Below W.heap.size W w') := fun W => Tryd.strings_Repeat ⟨#[99]⟩ 2 W (by omega) (by show 1 * 2 ≤ _; omega)
  have HRR : Hid (∀ W, Calls Tryd.prog 14 #[.string ⟨#[44, 64, 120]⟩, .int .i64 22] W fun e w' => e = .returned (.string (bs (Lib.repeatL [44, 64, 120] 22))) ∧ Below W.heap.size W w') := fun W => Tryd.strings_Repeat ⟨#[44, 64, 120]⟩ 22 W (by omega) (by show 3 * 22 ≤ _; omega)
  have hat : bs (Lib.repeatL [97] 67) = bs (limText 3 false) := rfl
  have han : bs (limText 3 false) = bs (limName 3 false) := rfl
  have ha3 : ∀ W, (Op.stringOp .add (bs (limText 3 false)) ⟨#[64, 98]⟩).run Tryd.prog W = .ok (.string (bs (limText 3 false ++ [64, 98]))) W := fun W => by rw [run_string_add_sum W _ _ (by decide +kernel)]; rfl
  have ha4 : ∀ W, (Op.stringOp .add (bs limLabel) (bs (Lib.repeatL [98] 3))).run Tryd.prog W = .ok (.string (bs (limLabel ++ Lib.repeatL [98] 3))) W := fun W => by rw [run_string_add_sum W _ _ (by decide +kernel)]; rfl
  have hb1 : ∀ W, (Op.stringOp .add (bs limLabel) ⟨#[46]⟩).run Tryd.prog W = .ok (.string (bs (limLabel ++ [46]))) W := fun W => by rw [run_string_add_sum W _ _ (by decide +kernel)]; rfl
  have hb2 : ∀ W, (Op.stringOp .add (bs (limLabel ++ [46])) (bs limLabel)).run Tryd.prog W = .ok (.string (bs (limLabel ++ [46] ++ limLabel))) W := fun W => by rw [run_string_add_sum W _ _ (by decide +kernel)]; rfl
  have hb3 : ∀ W, (Op.stringOp .add (bs (limLabel ++ [46] ++ limLabel)) ⟨#[46]⟩).run Tryd.prog W = .ok (.string (bs (limLabel ++ [46] ++ limLabel ++ [46]))) W := fun W => by rw [run_string_add_sum W _ _ (by decide +kernel)]; rfl
  have hb4 : ∀ W, (Op.stringOp .add (bs (limLabel ++ [46] ++ limLabel ++ [46])) (bs limLabel)).run Tryd.prog W = .ok (.string (bs (limLabel ++ [46] ++ limLabel ++ [46] ++ limLabel))) W := fun W => by rw [run_string_add_sum W _ _ (by decide +kernel)]; rfl
  have hb5 : ∀ W, (Op.stringOp .add (bs (limLabel ++ [46] ++ limLabel ++ [46] ++ limLabel)) ⟨#[46]⟩).run Tryd.prog W = .ok (.string (bs (limLabel ++ [46] ++ limLabel ++ [46] ++ limLabel ++ [46]))) W := fun W => by rw [run_string_add_sum W _ _ (by decide +kernel)]; rfl
  have hb6 : ∀ W, (Op.stringOp .add (bs (limLabel ++ [46] ++ limLabel ++ [46] ++ limLabel ++ [46])) (bs limLabel)).run Tryd.prog W = .ok (.string (bs (limLabel ++ [46] ++ limLabel ++ [46] ++ limLabel ++ [46] ++ limLabel))) W := fun W => by rw [run_string_add_sum W _ _ (by decide +kernel)]; rfl
  have hb7 : ∀ W, (Op.stringOp .add (bs (limLabel ++ [46] ++ limLabel ++ [46] ++ limLabel ++ [46] ++ limLabel)) (bs (Lib.repeatL [46] 1))).run Tryd.prog W = .ok (.string (bs (limLabel ++ [46] ++ limLabel ++ [46] ++ limLabel ++ [46] ++ limLabel ++ Lib.repeatL [46] 1))) W := fun W => by rw [run_string_add_sum W _ _ (by decide +kernel)]; rfl
  have hb8 : ∀ W, (Op.stringOp .add (bs (limLabel ++ [46] ++ limLabel ++ [46] ++ limLabel ++ [46] ++ limLabel ++ Lib.repeatL [46] 1)) (bs (Lib.repeatL [99] 2))).run Tryd.prog W = .ok (.string (bs (limLong 3))) W := fun W => by rw [run_string_add_sum W _ _ (by decide +kernel)]; rfl
  have hc1 : ∀ W, (Op.stringOp .add ⟨#[97, 64]⟩ (bs (limLong 3))).run Tryd.prog W = .ok (.string (bs ([97, 64] ++ limLong 3))) W := fun W => by rw [run_string_add_sum W _ _ (by decide +kernel)]; rfl
  have hd1 : ∀ W, (Op.stringOp .add ⟨#[60, 64, 120]⟩ (bs (Lib.repeatL [44, 64, 120] 22))).run Tryd.prog W = .ok (.string (bs ([60, 64, 120] ++ Lib.repeatL [44, 64, 120] 22))) W := fun W => by rw [run_string_add_sum W _ _ (by decide +kernel)]; rfl
  have hd2 : ∀ W, (Op.stringOp .add (bs ([60, 64, 120] ++ Lib.repeatL [44, 64, 120] 22)) ⟨#[58, 97, 64, 98, 62]⟩).run Tryd.prog W = .ok (.string (bs (limRoute 3))) W := fun W => by rw [run_string_add_sum W _ _ (by decide +kernel)]; rfl
  have hw0 : ∀ W, Below w.heap.size w W → ErrAt W ∧ ErrG < W.heap.size := fun W hW => ErrAt.later he hW
  have HM1 : Hid (∀ W, Below w.heap.size w W → Calls Tryd.prog 12 #[.string (bs (limText 3 false ++ [64, 98]))] W fun e w' => e = .returned (.tuple #[.agg #[.string (bs ([])), .string (bs ([])), .bool false], .int .i64 3]) ∧ Below W.heap.size W w') := fun W hW => by
    have h := mailbox_fun (limText 3 false ++ [64, 98]) (by rw [List.length_append]; simp only [List.length_cons, List.length_nil]; omega) W (hw0 W hW).1 (hw0 W hW).2
    unfold MailOut boxCells at h
    rw [lim_box 3 (by decide) false] at h
    exact h
  have HD1 : Hid (∀ W, Below w.heap.size w W → Calls Tryd.prog 15 #[.string (bs (limLabel ++ Lib.repeatL [98] 3))] W fun e w' => e = .returned (.bool false) ∧ Below W.heap.size W w') := fun W hW => by
    have h := domain_fun (limLabel ++ Lib.repeatL [98] 3) (by omega) W (hw0 W hW).1 (hw0 W hW).2
    rw [lim_label 3 (by decide)] at h
    exact h
  have HD2 : Hid (∀ W, Below w.heap.size w W → Calls Tryd.prog 15 #[.string (bs (limLong 3))] W fun e w' => e = .returned (.bool false) ∧ Below W.heap.size W w') := fun W hW => by
    have h := domain_fun (limLong 3) (by omega) W (hw0 W hW).1 (hw0 W hW).2
    rw [lim_dom 3 (by decide)] at h
    exact h
  obtain ⟨ml, md, mb, HM2⟩ : ∃ l d b, ∀ W, Below w.heap.size w W → Calls Tryd.prog 12 #[.string (bs ([97, 64] ++ limLong 3))] W fun e w' => e = .returned (.tuple #[.agg #[.string (bs l), .string (bs d), .bool b], .int .i64 3]) ∧ Below W.heap.size W w' := ⟨_, _, _, fun W hW => by
    have h := mailbox_fun ([97, 64] ++ limLong 3) (by rw [List.length_append]; simp only [List.length_cons, List.length_nil]; omega) W (hw0 W hW).1 (hw0 W hW).2
    unfold MailOut boxCells at h
    rw [lim_long 3 (by decide)] at h
    exact h⟩
  have HM2 := Lib.hid HM2
  obtain ⟨p, pn, HP⟩ : ∃ (p : Pa) (n : Int), ∀ W, Below w.heap.size w W → Calls Tryd.prog 10 #[.string (bs (limRoute 3))] W fun e w' => ∃ a c, e = .returned (.tuple #[.agg #[.bool p.null, .slice a 0 c, .string (bs p.loc), .string (bs p.dom), .bool p.lit], .int .i64 n, .int .i64 3]) ∧ Below W.heap.size W w' := ⟨(parseP (limRoute 3)).2.1, _, fun W hW => by
    have h := parse_told (limRoute 3) (by omega) W (hw0 W hW)
    unfold paV paCells at h
    rw [(lim_route 3 (by decide)).1, (lim_route 3 (by decide)).2] at h
    exact h.mono fun e w' ⟨a, c, h1, _, h2⟩ => ⟨a, c, h1, h2⟩⟩
  have HP := Lib.hid HP
  clear hs hsq he hw0
  rw [hat, han] at HRA
  rw [han] at ha3
  clear hat han
  generalize bs (limText 3 false ++ [64, 98]) = t4 at *
  generalize bs (limName 3 false) = t5 at *
  generalize bs (limLabel ++ Lib.repeatL [98] 3) = t6 at *
  generalize bs (Lib.repeatL [98] 3) = t7 at *
  generalize bs (limLong 3) = t8 at *
  generalize bs (limLabel ++ [46] ++ limLabel ++ [46] ++ limLabel ++ [46] ++ limLabel ++ Lib.repeatL [46] 1) = t9 at *
  generalize bs (limLabel ++ [46] ++ limLabel ++ [46] ++ limLabel ++ [46] ++ limLabel) = t10 at *
  generalize bs (limLabel ++ [46] ++ limLabel ++ [46] ++ limLabel ++ [46]) = t11 at *
  generalize bs (limLabel ++ [46] ++ limLabel ++ [46] ++ limLabel) = t12 at *
  generalize bs (limLabel ++ [46] ++ limLabel ++ [46]) = t13 at *
  generalize bs (limLabel ++ [46] ++ limLabel) = t14 at *
  generalize bs (limLabel ++ [46]) = t15 at *
  generalize bs limLabel = t16 at *
  generalize bs (Lib.repeatL [46] 1) = t17 at *
  generalize bs (Lib.repeatL [99] 2) = t18 at *
  generalize bs ([97, 64] ++ limLong 3) = t19 at *
  generalize bs ([60, 64, 120] ++ Lib.repeatL [44, 64, 120] 22) = t20 at *
  generalize bs (Lib.repeatL [44, 64, 120] 22) = t21 at *
  generalize bs (limRoute 3) = t22 at *
  generalize bs p.loc = t23 at *
  generalize bs p.dom = t24 at *
  generalize p.null = t25 at *
  generalize p.lit = t26 at *
  generalize bs ml = t27 at *
  generalize bs md = t28 at *
  have HL0 : Hid (Below w.heap.size w w) := Below.refl _ w
  go_enter Tryd.func6, Tryd.ntmps6
  go_upto_region 7 with (first | (go_at_call 14; (with_reducible refine (HRA.out _).mono ?_); rintro e w1 ⟨rfl, hb⟩; have HL1 := Lib.hid (low_trans HL0.out hb); clear hb HRA) | (go_at_call 12; (with_reducible refine (HM1.out _ HL1.out).mono ?_); rintro e w2 ⟨rfl, hb⟩; have HL2 := Lib.hid (low_trans HL1.out hb); clear hb HM1))
  obtain ⟨W2, hW2⟩ : ∃ W, W = w2.alloc (.cells #[.string (bs []), .string (bs []), .bool false] 24) := ⟨_, rfl⟩
  obtain ⟨g2, hg2⟩ : ∃ g, g = w2.heap.size := ⟨_, rfl⟩
  have HK2 : Hid (Blk W2 g2 24 #[.string (bs []), .string (bs []), .bool false]) := by rw [hW2, hg2]; exact Blk.new _ _ _
  have HL3 : Hid (Below w.heap.size w W2) := low_trans HL2.out (by rw [hW2]; exact (Below.refl _ w2).alloc (Nat.le_refl _) _)
  change Code.wp _ _ _ _ (World.alloc w2 (Obj.cells #[.string (bs []), .string (bs []), .bool false] 24))
  rw [← hW2, ← hg2]
  clear hW2 hg2
  have x2 := HK2.out.cell 0
  simp at x2
  go_upto_region 12 with (first | (go_at_call 14; (with_reducible refine (HRL.out _).mono ?_); rintro e w4 ⟨rfl, hb⟩; have HL4 := Lib.hid (low_trans HL3.out hb); clear hb HRL) | (go_at_call 14; (with_reducible refine (HRB.out _).mono ?_); rintro e w5 ⟨rfl, hb⟩; have HL5 := Lib.hid (low_trans HL4.out hb); clear hb HRB) | (go_at_call 15; (with_reducible refine (HD1.out _ HL5.out).mono ?_); rintro e w6 ⟨rfl, hb⟩; have HL6 := Lib.hid (low_trans HL5.out hb); clear hb HD1))
  go_upto_region 14 with (first | (go_at_call 14; (with_reducible refine (HRD.out _).mono ?_); rintro e w7 ⟨rfl, hb⟩; have HL7 := Lib.hid (low_trans HL6.out hb); clear hb HRD) | (go_at_call 14; (with_reducible refine (HRC.out _).mono ?_); rintro e w8 ⟨rfl, hb⟩; have HL8 := Lib.hid (low_trans HL7.out hb); clear hb HRC) | (go_at_call 12; (with_reducible refine (HM2.out _ HL8.out).mono ?_); rintro e w9 ⟨rfl, hb⟩; have HL9 := Lib.hid (low_trans HL8.out hb); clear hb HM2))
  obtain ⟨W9, hW9⟩ : ∃ W, W = w9.alloc (.cells #[.string t27, .string t28, .bool mb] 24) := ⟨_, rfl⟩
  obtain ⟨g9, hg9⟩ : ∃ g, g = w9.heap.size := ⟨_, rfl⟩
  have HK9 : Hid (Blk W9 g9 24 #[.string t27, .string t28, .bool mb]) := by rw [hW9, hg9]; exact Blk.new _ _ _
  have HL10 : Hid (Below w.heap.size w W9) := low_trans HL9.out (by rw [hW9]; exact (Below.refl _ w9).alloc (Nat.le_refl _) _)
  change Code.wp _ _ _ _ (World.alloc w9 (Obj.cells #[.string t27, .string t28, .bool mb] 24))
  rw [← hW9, ← hg9]
  clear hW9 hg9
  have x9 := HK9.out.cell 0
  simp at x9
  clear x9 HK9
  go_upto_region 15 with (fail)
  obtain ⟨W11, hW11⟩ : ∃ W, W = W9.alloc (.cells #[.int .i64 0, .int .i64 150, .int .i64 3, .int .i64 3] 27) := ⟨_, rfl⟩
  have HL11 : Hid (Below w.heap.size w W11) := low_trans HL10.out (by rw [hW11]; exact (Below.refl _ W9).alloc (Nat.le_refl _) _)
  change Code.wp _ _ _ _ (World.alloc W9 (Obj.cells #[.int .i64 0, .int .i64 150, .int .i64 3, .int .i64 3] 27))
  rw [← hW11]
  clear hW11
  go_upto_region 18 with (first | (go_at_call 15; (with_reducible refine (HD2.out _ HL11.out).mono ?_); rintro e w12 ⟨rfl, hb⟩; have HL12 := Lib.hid (low_trans HL11.out hb); clear hb HD2) | (go_at_call 14; (with_reducible refine (HRR.out _).mono ?_); rintro e w13 ⟨rfl, hb⟩; have HL13 := Lib.hid (low_trans HL12.out hb); clear hb HRR) | (go_at_call 10; (with_reducible refine (HP.out _ HL13.out).mono ?_); rintro e w14 ⟨pa, pc, rfl, hb⟩; have HL14 := Lib.hid (low_trans HL13.out hb); clear hb HP))
  obtain ⟨W14, hW14⟩ : ∃ W, W = w14.alloc (.cells #[.bool t25, .slice pa 0 pc, .string t23, .string t24, .bool t26] 26) := ⟨_, rfl⟩
  obtain ⟨g14, hg14⟩ : ∃ g, g = w14.heap.size := ⟨_, rfl⟩
  have HK14 : Hid (Blk W14 g14 26 #[.bool t25, .slice pa 0 pc, .string t23, .string t24, .bool t26]) := by rw [hW14, hg14]; exact Blk.new _ _ _
  have HL15 : Hid (Below w.heap.size w W14) := low_trans HL14.out (by rw [hW14]; exact (Below.refl _ w14).alloc (Nat.le_refl _) _)
  change Code.wp _ _ _ _ (World.alloc w14 (Obj.cells #[.bool t25, .slice pa 0 pc, .string t23, .string t24, .bool t26] 26))
  rw [← hW14, ← hg14]
  clear hW14 hg14
  have x14 := HK14.out.cell 1
  simp at x14
  go_wp2_with (go_at_call 13; (with_reducible refine (HAW.out _ HL15.out).mono ?_); rintro e wz ⟨rfl, hb⟩; have HLZ := Lib.hid (low_trans HL15.out hb); clear hb)
  exact HQ.out wz HLZ.out

set_option maxRecDepth 100000 in
set_option maxHeartbeats 4000000 in
theorem limits_3q (z : Int) (hz : z.tmod 4 = 3) (w : World) (he : ErrAt w ∧ ErrG < w.heap.size) : Calls Tryd.prog 6 #[.int .u8 z, .bool true] w (SameOut w true) := by
  have HE := Lib.hid he
  have HQ : Hid (∀ w', Below w.heap.size w w' → SameOut w true (.returned (.bool true)) w') := fun w' h => ⟨rfl, h⟩
  have HAW := Lib.hid (fun W (hW : Below w.heap.size w W) => awake_any W (ErrAt.later he hW))
  generalize SameOut w true = Q at *
  have hs := lim_short 3 (by decide)
  have hsq := hs.1 true
  have HRA : Hid (∀ W, Calls Tryd.prog 14 #[.string ⟨#[97]⟩, .int .i64 67] W fun e w' => e = .returned (.string (bs (Lib.repeatL [97] 67))) ∧ Below W.heap.size W w') := fun W => Tryd.strings_Repeat ⟨#[97]⟩ 67 W (by omega) (by show 1 * 67 ≤ _; omega)
  have HRQ : Hid (∀ W, Calls Tryd.prog 14 #[.string ⟨#[34]⟩, .int .i64 67] W fun e w' => e = .returned (.string (bs (limName 3 true))) ∧ Below W.heap.size W w') := fun W => Tryd.strings_Repeat ⟨#[34]⟩ 67 W (by omega) (by show 1 * 67 ≤ _; omega)
  have HRS : Hid (∀ W, Calls Tryd.prog 14 #[.string ⟨#[92, 34]⟩, .int .i64 67] W fun e w' => e = .returned (.string (bs (Lib.repeatL [92, 34] 67))) ∧ Below W.heap.size W w') := fun W => Tryd.strings_Repeat ⟨#[92, 34]⟩ 67 W (by omega) (by show 2 * 67 ≤ _; omega)
  have HRL : Hid (∀ W, Calls Tryd.prog 14 #[.string ⟨#[98]⟩, .int .i64 63] W fun e w' => e = .returned (.string (bs (limLabel))) ∧ Below W.heap.size W w') := fun W => Tryd.strings_Repeat ⟨#[98]⟩ 63 W (by omega) (by show 1 * 63 ≤ _; omega)
  have HRB : Hid (∀ W, Calls Tryd.prog 14 #[.string ⟨#[98]⟩, .int .i64 3] W fun e w' => e = .returned (.string (bs (Lib.repeatL [98] 3))) ∧ Below W.heap.size W w') := fun W => Tryd.strings_Repeat ⟨#[98]⟩ 3 W (by omega) (by show 1 * 3 ≤ _; omega)
  have HRD : Hid (∀ W, Calls Tryd.prog 14 #[.string ⟨#[46]⟩, .int .i64 (min 3 1)] W fun e w' => e = .returned (.string (bs (Lib.repeatL [46] 1))) ∧ Below W.heap.size W w') := fun W => Tryd.strings_Repeat ⟨#[46]⟩ 1 W (by omega) (by show 1 * 1 ≤ _; omega)
  have HRC : Hid (∀ W, Calls Tryd.prog 14 #[.string ⟨#[99]⟩, .int .i64 (max 2 0)] W fun e w' => e = .returned (.string (bs (Lib.repeatL [99] 2))) ∧ Below W.heap.size W w') := fun W => Tryd.strings_Repeat ⟨#[99]⟩ 2 W (by omega) (by show 1 * 2 ≤ _; omega)
  have HRR : Hid (∀ W, Calls Tryd.prog 14 #[.string ⟨#[44, 64, 120]⟩, .int .i64 22] W fun e w' => e = .returned (.string (bs (Lib.repeatL [44, 64, 120] 22))) ∧ Below W.heap.size W w') := fun W => Tryd.strings_Repeat ⟨#[44, 64, 120]⟩ 22 W (by omega) (by show 3 * 22 ≤ _; omega)
  have ha1 : ∀ W, (Op.stringOp .add ⟨#[34]⟩ (bs (Lib.repeatL [92, 34] 67))).run Tryd.prog W = .ok (.string (bs ([34] ++ Lib.repeatL [92, 34] 67))) W := fun W => by rw [run_string_add_sum W _ _ (by decide +kernel)]; rfl
  have ha2 : ∀ W, (Op.stringOp .add (bs ([34] ++ Lib.repeatL [92, 34] 67)) ⟨#[34]⟩).run Tryd.prog W = .ok (.string (bs (limText 3 true))) W := fun W => by rw [run_string_add_sum W _ _ (by decide +kernel)]; rfl
  have ha3 : ∀ W, (Op.stringOp .add (bs (limText 3 true)) ⟨#[64, 98]⟩).run Tryd.prog W = .ok (.string (bs (limText 3 true ++ [64, 98]))) W := fun W => by rw [run_string_add_sum W _ _ (by decide +kernel)]; rfl
  have ha4 : ∀ W, (Op.stringOp .add (bs limLabel) (bs (Lib.repeatL [98] 3))).run Tryd.prog W = .ok (.string (bs (limLabel ++ Lib.repeatL [98] 3))) W := fun W => by rw [run_string_add_sum W _ _ (by decide +kernel)]; rfl
  have hb1 : ∀ W, (Op.stringOp .add (bs limLabel) ⟨#[46]⟩).run Tryd.prog W = .ok (.string (bs (limLabel ++ [46]))) W := fun W => by rw [run_string_add_sum W _ _ (by decide +kernel)]; rfl
  have hb2 : ∀ W, (Op.stringOp .add (bs (limLabel ++ [46])) (bs limLabel)).run Tryd.prog W = .ok (.string (bs (limLabel ++ [46] ++ limLabel))) W := fun W => by rw [run_string_add_sum W _ _ (by decide +kernel)]; rfl
  have hb3 : ∀ W, (Op.stringOp .add (bs (limLabel ++ [46] ++ limLabel)) ⟨#[46]⟩).run Tryd.prog W = .ok (.string (bs (limLabel ++ [46] ++ limLabel ++ [46]))) W := fun W => by rw [run_string_add_sum W _ _ (by decide +kernel)]; rfl
  have hb4 : ∀ W, (Op.stringOp .add (bs (limLabel ++ [46] ++ limLabel ++ [46])) (bs limLabel)).run Tryd.prog W = .ok (.string (bs (limLabel ++ [46] ++ limLabel ++ [46] ++ limLabel))) W := fun W => by rw [run_string_add_sum W _ _ (by decide +kernel)]; rfl
  have hb5 : ∀ W, (Op.stringOp .add (bs (limLabel ++ [46] ++ limLabel ++ [46] ++ limLabel)) ⟨#[46]⟩).run Tryd.prog W = .ok (.string (bs (limLabel ++ [46] ++ limLabel ++ [46] ++ limLabel ++ [46]))) W := fun W => by rw [run_string_add_sum W _ _ (by decide +kernel)]; rfl
  have hb6 : ∀ W, (Op.stringOp .add (bs (limLabel ++ [46] ++ limLabel ++ [46] ++ limLabel ++ [46])) (bs limLabel)).run Tryd.prog W = .ok (.string (bs (limLabel ++ [46] ++ limLabel ++ [46] ++ limLabel ++ [46] ++ limLabel))) W := fun W => by rw [run_string_add_sum W _ _ (by decide +kernel)]; rfl
  have hb7 : ∀ W, (Op.stringOp .add (bs (limLabel ++ [46] ++ limLabel ++ [46] ++ limLabel ++ [46] ++ limLabel)) (bs (Lib.repeatL [46] 1))).run Tryd.prog W = .ok (.string (bs (limLabel ++ [46] ++ limLabel ++ [46] ++ limLabel ++ [46] ++ limLabel ++ Lib.repeatL [46] 1))) W := fun W => by rw [run_string_add_sum W _ _ (by decide +kernel)]; rfl
  have hb8 : ∀ W, (Op.stringOp .add (bs (limLabel ++ [46] ++ limLabel ++ [46] ++ limLabel ++ [46] ++ limLabel ++ Lib.repeatL [46] 1)) (bs (Lib.repeatL [99] 2))).run Tryd.prog W = .ok (.string (bs (limLong 3))) W := fun W => by rw [run_string_add_sum W _ _ (by decide +kernel)]; rfl
  have hc1 : ∀ W, (Op.stringOp .add ⟨#[97, 64]⟩ (bs (limLong 3))).run Tryd.prog W = .ok (.string (bs ([97, 64] ++ limLong 3))) W := fun W => by rw [run_string_add_sum W _ _ (by decide +kernel)]; rfl
  have hd1 : ∀ W, (Op.stringOp .add ⟨#[60, 64, 120]⟩ (bs (Lib.repeatL [44, 64, 120] 22))).run Tryd.prog W = .ok (.string (bs ([60, 64, 120] ++ Lib.repeatL [44, 64, 120] 22))) W := fun W => by rw [run_string_add_sum W _ _ (by decide +kernel)]; rfl
  have hd2 : ∀ W, (Op.stringOp .add (bs ([60, 64, 120] ++ Lib.repeatL [44, 64, 120] 22)) ⟨#[58, 97, 64, 98, 62]⟩).run Tryd.prog W = .ok (.string (bs (limRoute 3))) W := fun W => by rw [run_string_add_sum W _ _ (by decide +kernel)]; rfl
  have hw0 : ∀ W, Below w.heap.size w W → ErrAt W ∧ ErrG < W.heap.size := fun W hW => ErrAt.later he hW
  have HM1 : Hid (∀ W, Below w.heap.size w W → Calls Tryd.prog 12 #[.string (bs (limText 3 true ++ [64, 98]))] W fun e w' => e = .returned (.tuple #[.agg #[.string (bs ([])), .string (bs ([])), .bool false], .int .i64 3]) ∧ Below W.heap.size W w') := fun W hW => by
    have h := mailbox_fun (limText 3 true ++ [64, 98]) (by rw [List.length_append]; simp only [List.length_cons, List.length_nil]; omega) W (hw0 W hW).1 (hw0 W hW).2
    unfold MailOut boxCells at h
    rw [lim_box 3 (by decide) true] at h
    exact h
  have HD1 : Hid (∀ W, Below w.heap.size w W → Calls Tryd.prog 15 #[.string (bs (limLabel ++ Lib.repeatL [98] 3))] W fun e w' => e = .returned (.bool false) ∧ Below W.heap.size W w') := fun W hW => by
    have h := domain_fun (limLabel ++ Lib.repeatL [98] 3) (by omega) W (hw0 W hW).1 (hw0 W hW).2
    rw [lim_label 3 (by decide)] at h
    exact h
  have HD2 : Hid (∀ W, Below w.heap.size w W → Calls Tryd.prog 15 #[.string (bs (limLong 3))] W fun e w' => e = .returned (.bool false) ∧ Below W.heap.size W w') := fun W hW => by
    have h := domain_fun (limLong 3) (by omega) W (hw0 W hW).1 (hw0 W hW).2
    rw [lim_dom 3 (by decide)] at h
    exact h
  obtain ⟨ml, md, mb, HM2⟩ : ∃ l d b, ∀ W, Below w.heap.size w W → Calls Tryd.prog 12 #[.string (bs ([97, 64] ++ limLong 3))] W fun e w' => e = .returned (.tuple #[.agg #[.string (bs l), .string (bs d), .bool b], .int .i64 3]) ∧ Below W.heap.size W w' := ⟨_, _, _, fun W hW => by
    have h := mailbox_fun ([97, 64] ++ limLong 3) (by rw [List.length_append]; simp only [List.length_cons, List.length_nil]; omega) W (hw0 W hW).1 (hw0 W hW).2
    unfold MailOut boxCells at h
    rw [lim_long 3 (by decide)] at h
    exact h⟩
  have HM2 := Lib.hid HM2
  obtain ⟨p, pn, HP⟩ : ∃ (p : Pa) (n : Int), ∀ W, Below w.heap.size w W → Calls Tryd.prog 10 #[.string (bs (limRoute 3))] W fun e w' => ∃ a c, e = .returned (.tuple #[.agg #[.bool p.null, .slice a 0 c, .string (bs p.loc), .string (bs p.dom), .bool p.lit], .int .i64 n, .int .i64 3]) ∧ Below W.heap.size W w' := ⟨(parseP (limRoute 3)).2.1, _, fun W hW => by
    have h := parse_told (limRoute 3) (by omega) W (hw0 W hW)
    unfold paV paCells at h
    rw [(lim_route 3 (by decide)).1, (lim_route 3 (by decide)).2] at h
    exact h.mono fun e w' ⟨a, c, h1, _, h2⟩ => ⟨a, c, h1, h2⟩⟩
  have HP := Lib.hid HP
  clear hs hsq he hw0
  generalize bs (Lib.repeatL [97] 67) = t0 at *
  generalize bs ([34] ++ Lib.repeatL [92, 34] 67) = t1 at *
  generalize bs (Lib.repeatL [92, 34] 67) = t2 at *
  generalize bs (limText 3 true ++ [64, 98]) = t4 at *
  generalize bs (limText 3 true) = t3 at *
  generalize bs (limName 3 true) = t5 at *
  generalize bs (limLabel ++ Lib.repeatL [98] 3) = t6 at *
  generalize bs (Lib.repeatL [98] 3) = t7 at *
  generalize bs (limLong 3) = t8 at *
  generalize bs (limLabel ++ [46] ++ limLabel ++ [46] ++ limLabel ++ [46] ++ limLabel ++ Lib.repeatL [46] 1) = t9 at *
  generalize bs (limLabel ++ [46] ++ limLabel ++ [46] ++ limLabel ++ [46] ++ limLabel) = t10 at *
  generalize bs (limLabel ++ [46] ++ limLabel ++ [46] ++ limLabel ++ [46]) = t11 at *
  generalize bs (limLabel ++ [46] ++ limLabel ++ [46] ++ limLabel) = t12 at *
  generalize bs (limLabel ++ [46] ++ limLabel ++ [46]) = t13 at *
  generalize bs (limLabel ++ [46] ++ limLabel) = t14 at *
  generalize bs (limLabel ++ [46]) = t15 at *
  generalize bs limLabel = t16 at *
  generalize bs (Lib.repeatL [46] 1) = t17 at *
  generalize bs (Lib.repeatL [99] 2) = t18 at *
  generalize bs ([97, 64] ++ limLong 3) = t19 at *
  generalize bs ([60, 64, 120] ++ Lib.repeatL [44, 64, 120] 22) = t20 at *
  generalize bs (Lib.repeatL [44, 64, 120] 22) = t21 at *
  generalize bs (limRoute 3) = t22 at *
  generalize bs p.loc = t23 at *
  generalize bs p.dom = t24 at *
  generalize p.null = t25 at *
  generalize p.lit = t26 at *
  generalize bs ml = t27 at *
  generalize bs md = t28 at *
  have HL0 : Hid (Below w.heap.size w w) := Below.refl _ w
  go_enter Tryd.func6, Tryd.ntmps6
  go_upto_region 7 with (first | (go_at_call 14; (with_reducible refine (HRA.out _).mono ?_); rintro e w1 ⟨rfl, hb⟩; have HL1 := Lib.hid (low_trans HL0.out hb); clear hb HRA) | (go_at_call 14; (with_reducible refine (HRQ.out _).mono ?_); rintro e w2 ⟨rfl, hb⟩; have HL2 := Lib.hid (low_trans HL1.out hb); clear hb HRQ) | (go_at_call 14; (with_reducible refine (HRS.out _).mono ?_); rintro e w3 ⟨rfl, hb⟩; have HL3 := Lib.hid (low_trans HL2.out hb); clear hb HRS) | (go_at_call 12; (with_reducible refine (HM1.out _ HL3.out).mono ?_); rintro e w4 ⟨rfl, hb⟩; have HL4 := Lib.hid (low_trans HL3.out hb); clear hb HM1))
  obtain ⟨W4, hW4⟩ : ∃ W, W = w4.alloc (.cells #[.string (bs []), .string (bs []), .bool false] 24) := ⟨_, rfl⟩
  obtain ⟨g4, hg4⟩ : ∃ g, g = w4.heap.size := ⟨_, rfl⟩
  have HK4 : Hid (Blk W4 g4 24 #[.string (bs []), .string (bs []), .bool false]) := by rw [hW4, hg4]; exact Blk.new _ _ _
  have HL5 : Hid (Below w.heap.size w W4) := low_trans HL4.out (by rw [hW4]; exact (Below.refl _ w4).alloc (Nat.le_refl _) _)
  change Code.wp _ _ _ _ (World.alloc w4 (Obj.cells #[.string (bs []), .string (bs []), .bool false] 24))
  rw [← hW4, ← hg4]
  clear hW4 hg4
  have x4 := HK4.out.cell 0
  simp at x4
  go_upto_region 12 with (first | (go_at_call 14; (with_reducible refine (HRL.out _).mono ?_); rintro e w6 ⟨rfl, hb⟩; have HL6 := Lib.hid (low_trans HL5.out hb); clear hb HRL) | (go_at_call 14; (with_reducible refine (HRB.out _).mono ?_); rintro e w7 ⟨rfl, hb⟩; have HL7 := Lib.hid (low_trans HL6.out hb); clear hb HRB) | (go_at_call 15; (with_reducible refine (HD1.out _ HL7.out).mono ?_); rintro e w8 ⟨rfl, hb⟩; have HL8 := Lib.hid (low_trans HL7.out hb); clear hb HD1))
  go_upto_region 14 with (first | (go_at_call 14; (with_reducible refine (HRD.out _).mono ?_); rintro e w9 ⟨rfl, hb⟩; have HL9 := Lib.hid (low_trans HL8.out hb); clear hb HRD) | (go_at_call 14; (with_reducible refine (HRC.out _).mono ?_); rintro e w10 ⟨rfl, hb⟩; have HL10 := Lib.hid (low_trans HL9.out hb); clear hb HRC) | (go_at_call 12; (with_reducible refine (HM2.out _ HL10.out).mono ?_); rintro e w11 ⟨rfl, hb⟩; have HL11 := Lib.hid (low_trans HL10.out hb); clear hb HM2))
  obtain ⟨W11, hW11⟩ : ∃ W, W = w11.alloc (.cells #[.string t27, .string t28, .bool mb] 24) := ⟨_, rfl⟩
  obtain ⟨g11, hg11⟩ : ∃ g, g = w11.heap.size := ⟨_, rfl⟩
  have HK11 : Hid (Blk W11 g11 24 #[.string t27, .string t28, .bool mb]) := by rw [hW11, hg11]; exact Blk.new _ _ _
  have HL12 : Hid (Below w.heap.size w W11) := low_trans HL11.out (by rw [hW11]; exact (Below.refl _ w11).alloc (Nat.le_refl _) _)
  change Code.wp _ _ _ _ (World.alloc w11 (Obj.cells #[.string t27, .string t28, .bool mb] 24))
  rw [← hW11, ← hg11]
  clear hW11 hg11
  have x11 := HK11.out.cell 0
  simp at x11
  clear x11 HK11
  go_upto_region 15 with (fail)
  obtain ⟨W13, hW13⟩ : ∃ W, W = W11.alloc (.cells #[.int .i64 0, .int .i64 150, .int .i64 3, .int .i64 3] 27) := ⟨_, rfl⟩
  have HL13 : Hid (Below w.heap.size w W13) := low_trans HL12.out (by rw [hW13]; exact (Below.refl _ W11).alloc (Nat.le_refl _) _)
  change Code.wp _ _ _ _ (World.alloc W11 (Obj.cells #[.int .i64 0, .int .i64 150, .int .i64 3, .int .i64 3] 27))
  rw [← hW13]
  clear hW13
  go_upto_region 18 with (first | (go_at_call 15; (with_reducible refine (HD2.out _ HL13.out).mono ?_); rintro e w14 ⟨rfl, hb⟩; have HL14 := Lib.hid (low_trans HL13.out hb); clear hb HD2) | (go_at_call 14; (with_reducible refine (HRR.out _).mono ?_); rintro e w15 ⟨rfl, hb⟩; have HL15 := Lib.hid (low_trans HL14.out hb); clear hb HRR) | (go_at_call 10; (with_reducible refine (HP.out _ HL15.out).mono ?_); rintro e w16 ⟨pa, pc, rfl, hb⟩; have HL16 := Lib.hid (low_trans HL15.out hb); clear hb HP))
  obtain ⟨W16, hW16⟩ : ∃ W, W = w16.alloc (.cells #[.bool t25, .slice pa 0 pc, .string t23, .string t24, .bool t26] 26) := ⟨_, rfl⟩
  obtain ⟨g16, hg16⟩ : ∃ g, g = w16.heap.size := ⟨_, rfl⟩
  have HK16 : Hid (Blk W16 g16 26 #[.bool t25, .slice pa 0 pc, .string t23, .string t24, .bool t26]) := by rw [hW16, hg16]; exact Blk.new _ _ _
  have HL17 : Hid (Below w.heap.size w W16) := low_trans HL16.out (by rw [hW16]; exact (Below.refl _ w16).alloc (Nat.le_refl _) _)
  change Code.wp _ _ _ _ (World.alloc w16 (Obj.cells #[.bool t25, .slice pa 0 pc, .string t23, .string t24, .bool t26] 26))
  rw [← hW16, ← hg16]
  clear hW16 hg16
  have x16 := HK16.out.cell 1
  simp at x16
  go_wp2_with (go_at_call 13; (with_reducible refine (HAW.out _ HL17.out).mono ?_); rintro e wz ⟨rfl, hb⟩; have HLZ := Lib.hid (low_trans HL17.out hb); clear hb)
  exact HQ.out wz HLZ.out

end Go.Proofs.YtjgadocojdieeaaDoor
