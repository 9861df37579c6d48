/-
  The walk of frankinglaw15.PathLimits. Conditions: the library's variable holds some value.
-/
import Derived.Test.YtjgadocojdieeaaDoorPtLa
namespace Go.Proofs.YtjgadocojdieeaaDoor
open Go.RowKit Go.Shelf

set_option maxRecDepth 100000 in
set_option maxHeartbeats 4000000 in
theorem limits_0p (z : Int) (hz : z.tmod 4 = 0) (w : World) (he : ErrAt w ∧ ErrG < w.heap.size) : Calls Tryd.prog 6 #[.int .u8 z, .bool false] w (SameOut w true) := by
  have HE := Lib.hid he
  have HQ : Hid (∀ w', Below w.heap.size w w' → SameOut w true (.returned (.bool true)) w') := fun w' h => ⟨rfl, h⟩
  have HAW := Lib.hid (fun W (hW : Below w.heap.size w W) => awake_any W (ErrAt.later he hW))
  generalize SameOut w true = Q at *
  have hs := lim_short 0 (by decide)
  have hsq := hs.1 false
  have HRA : Hid (∀ W, Calls Tryd.prog 14 #[.string ⟨#[97]⟩, .int .i64 64] W fun e w' => e = .returned (.string (bs (Lib.repeatL [97] 64))) ∧ Below W.heap.size W w') := fun W => Tryd.strings_Repeat ⟨#[97]⟩ 64 W (by omega) (by show 1 * 64 ≤ _; omega)
  have HRL : Hid (∀ W, Calls Tryd.prog 14 #[.string ⟨#[98]⟩, .int .i64 63] W fun e w' => e = .returned (.string (bs (limLabel))) ∧ Below W.heap.size W w') := fun W => Tryd.strings_Repeat ⟨#[98]⟩ 63 W (by omega) (by show 1 * 63 ≤ _; omega)
  have HRB : Hid (∀ W, Calls Tryd.prog 14 #[.string ⟨#[98]⟩, .int .i64 0] W fun e w' => e = .returned (.string (bs (Lib.repeatL [98] 0))) ∧ Below W.heap.size W w') := fun W => Tryd.strings_Repeat ⟨#[98]⟩ 0 W (by omega) (by show 1 * 0 ≤ _; omega)
  have HRD : Hid (∀ W, Calls Tryd.prog 14 #[.string ⟨#[46]⟩, .int .i64 (min 0 1)] W fun e w' => e = .returned (.string (bs (Lib.repeatL [46] 0))) ∧ Below W.heap.size W w') := fun W => Tryd.strings_Repeat ⟨#[46]⟩ 0 W (by omega) (by show 1 * 0 ≤ _; omega)
  have HRC : Hid (∀ W, Calls Tryd.prog 14 #[.string ⟨#[99]⟩, .int .i64 (max (-1) 0)] W fun e w' => e = .returned (.string (bs (Lib.repeatL [99] 0))) ∧ Below W.heap.size W w') := fun W => Tryd.strings_Repeat ⟨#[99]⟩ 0 W (by omega) (by show 1 * 0 ≤ _; omega)
  have HRR : Hid (∀ W, Calls Tryd.prog 14 #[.string ⟨#[44, 64, 120]⟩, .int .i64 19] W fun e w' => e = .returned (.string (bs (Lib.repeatL [44, 64, 120] 19))) ∧ Below W.heap.size W w') := fun W => Tryd.strings_Repeat ⟨#[44, 64, 120]⟩ 19 W (by omega) (by show 3 * 19 ≤ _; omega)
  have hat : bs (Lib.repeatL [97] 64) = bs (limText 0 false) := rfl
  have han : bs (limText 0 false) = bs (limName 0 false) := rfl
  have ha3 : ∀ W, (Op.stringOp .add (bs (limText 0 false)) ⟨#[64, 98]⟩).run Tryd.prog W = .ok (.string (bs (limText 0 false ++ [64, 98]))) W := fun W => by rw [run_string_add_sum W _ _ (by decide +kernel)]; rfl
  have ha4 : ∀ W, (Op.stringOp .add (bs limLabel) (bs (Lib.repeatL [98] 0))).run Tryd.prog W = .ok (.string (bs (limLabel ++ Lib.repeatL [98] 0))) W := fun W => by rw [run_string_add_sum W _ _ (by decide +kernel)]; rfl
  have hb1 : ∀ W, (Op.stringOp .add (bs limLabel) ⟨#[46]⟩).run Tryd.prog W = .ok (.string (bs (limLabel ++ [46]))) W := fun W => by rw [run_string_add_sum W _ _ (by decide +kernel)]; rfl
  have hb2 : ∀ W, (Op.stringOp .add (bs (limLabel ++ [46])) (bs limLabel)).run Tryd.prog W = .ok (.string (bs (limLabel ++ [46] ++ limLabel))) W := fun W => by rw [run_string_add_sum W _ _ (by decide +kernel)]; rfl
  have hb3 : ∀ W, (Op.stringOp .add (bs (limLabel ++ [46] ++ limLabel)) ⟨#[46]⟩).run Tryd.prog W = .ok (.string (bs (limLabel ++ [46] ++ limLabel ++ [46]))) W := fun W => by rw [run_string_add_sum W _ _ (by decide +kernel)]; rfl
  have hb4 : ∀ W, (Op.stringOp .add (bs (limLabel ++ [46] ++ limLabel ++ [46])) (bs limLabel)).run Tryd.prog W = .ok (.string (bs (limLabel ++ [46] ++ limLabel ++ [46] ++ limLabel))) W := fun W => by rw [run_string_add_sum W _ _ (by decide +kernel)]; rfl
  have hb5 : ∀ W, (Op.stringOp .add (bs (limLabel ++ [46] ++ limLabel ++ [46] ++ limLabel)) ⟨#[46]⟩).run Tryd.prog W = .ok (.string (bs (limLabel ++ [46] ++ limLabel ++ [46] ++ limLabel ++ [46]))) W := fun W => by rw [run_string_add_sum W _ _ (by decide +kernel)]; rfl
  have hb6 : ∀ W, (Op.stringOp .add (bs (limLabel ++ [46] ++ limLabel ++ [46] ++ limLabel ++ [46])) (bs limLabel)).run Tryd.prog W = .ok (.string (bs (limLabel ++ [46] ++ limLabel ++ [46] ++ limLabel ++ [46] ++ limLabel))) W := fun W => by rw [run_string_add_sum W _ _ (by decide +kernel)]; rfl
  have hb7 : ∀ W, (Op.stringOp .add (bs (limLabel ++ [46] ++ limLabel ++ [46] ++ limLabel ++ [46] ++ limLabel)) (bs (Lib.repeatL [46] 0))).run Tryd.prog W = .ok (.string (bs (limLabel ++ [46] ++ limLabel ++ [46] ++ limLabel ++ [46] ++ limLabel ++ Lib.repeatL [46] 0))) W := fun W => by rw [run_string_add_sum W _ _ (by decide +kernel)]; rfl
  have hb8 : ∀ W, (Op.stringOp .add (bs (limLabel ++ [46] ++ limLabel ++ [46] ++ limLabel ++ [46] ++ limLabel ++ Lib.repeatL [46] 0)) (bs (Lib.repeatL [99] 0))).run Tryd.prog W = .ok (.string (bs (limLong 0))) W := fun W => by rw [run_string_add_sum W _ _ (by decide +kernel)]; rfl
  have hc1 : ∀ W, (Op.stringOp .add ⟨#[97, 64]⟩ (bs (limLong 0))).run Tryd.prog W = .ok (.string (bs ([97, 64] ++ limLong 0))) W := fun W => by rw [run_string_add_sum W _ _ (by decide +kernel)]; rfl
  have hd1 : ∀ W, (Op.stringOp .add ⟨#[60, 64, 120]⟩ (bs (Lib.repeatL [44, 64, 120] 19))).run Tryd.prog W = .ok (.string (bs ([60, 64, 120] ++ Lib.repeatL [44, 64, 120] 19))) W := fun W => by rw [run_string_add_sum W _ _ (by decide +kernel)]; rfl
  have hd2 : ∀ W, (Op.stringOp .add (bs ([60, 64, 120] ++ Lib.repeatL [44, 64, 120] 19)) ⟨#[58, 97, 64, 98, 62]⟩).run Tryd.prog W = .ok (.string (bs (limRoute 0))) W := fun W => by rw [run_string_add_sum W _ _ (by decide +kernel)]; rfl
  have hw0 : ∀ W, Below w.heap.size w W → ErrAt W ∧ ErrG < W.heap.size := fun W hW => ErrAt.later he hW
  have HM1 : Hid (∀ W, Below w.heap.size w W → Calls Tryd.prog 12 #[.string (bs (limText 0 false ++ [64, 98]))] W fun e w' => e = .returned (.tuple #[.agg #[.string (bs (limName 0 false)), .string (bs ([98])), .bool false], .int .i64 0]) ∧ Below W.heap.size W w') := fun W hW => by
    have h := mailbox_fun (limText 0 false ++ [64, 98]) (by rw [List.length_append]; simp only [List.length_cons, List.length_nil]; omega) W (hw0 W hW).1 (hw0 W hW).2
    unfold MailOut boxCells at h
    rw [lim_box 0 (by decide) false] at h
    exact h
  have HD1 : Hid (∀ W, Below w.heap.size w W → Calls Tryd.prog 15 #[.string (bs (limLabel ++ Lib.repeatL [98] 0))] W fun e w' => e = .returned (.bool true) ∧ Below W.heap.size W w') := fun W hW => by
    have h := domain_fun (limLabel ++ Lib.repeatL [98] 0) (by omega) W (hw0 W hW).1 (hw0 W hW).2
    rw [lim_label 0 (by decide)] at h
    exact h
  have HD2 : Hid (∀ W, Below w.heap.size w W → Calls Tryd.prog 15 #[.string (bs (limLong 0))] W fun e w' => e = .returned (.bool true) ∧ Below W.heap.size W w') := fun W hW => by
    have h := domain_fun (limLong 0) (by omega) W (hw0 W hW).1 (hw0 W hW).2
    rw [lim_dom 0 (by decide)] at h
    exact h
  obtain ⟨ml, md, mb, HM2⟩ : ∃ l d b, ∀ W, Below w.heap.size w W → Calls Tryd.prog 12 #[.string (bs ([97, 64] ++ limLong 0))] W fun e w' => e = .returned (.tuple #[.agg #[.string (bs l), .string (bs d), .bool b], .int .i64 0]) ∧ Below W.heap.size W w' := ⟨_, _, _, fun W hW => by
    have h := mailbox_fun ([97, 64] ++ limLong 0) (by rw [List.length_append]; simp only [List.length_cons, List.length_nil]; omega) W (hw0 W hW).1 (hw0 W hW).2
    unfold MailOut boxCells at h
    rw [lim_long 0 (by decide)] at h
    exact h⟩
  have HM2 := Lib.hid HM2
  obtain ⟨p, pn, HP⟩ : ∃ (p : Pa) (n : Int), ∀ W, Below w.heap.size w W → Calls Tryd.prog 10 #[.string (bs (limRoute 0))] W fun e w' => ∃ a c, e = .returned (.tuple #[.agg #[.bool p.null, .slice a 20 c, .string (bs p.loc), .string (bs p.dom), .bool p.lit], .int .i64 n, .int .i64 0]) ∧ Below W.heap.size W w' := ⟨(parseP (limRoute 0)).2.1, _, fun W hW => by
    have h := parse_told (limRoute 0) (by omega) W (hw0 W hW)
    unfold paV paCells at h
    rw [(lim_route 0 (by decide)).1, (lim_route 0 (by decide)).2] at h
    exact h.mono fun e w' ⟨a, c, h1, _, h2⟩ => ⟨a, c, h1, h2⟩⟩
  have HP := Lib.hid HP
  clear hs hsq he hw0
  rw [hat, han] at HRA
  rw [han] at ha3
  clear hat han
  generalize bs (limText 0 false ++ [64, 98]) = t4 at *
  generalize bs (limName 0 false) = t5 at *
  generalize bs (limLabel ++ Lib.repeatL [98] 0) = t6 at *
  generalize bs (Lib.repeatL [98] 0) = t7 at *
  generalize bs (limLong 0) = t8 at *
  generalize bs (limLabel ++ [46] ++ limLabel ++ [46] ++ limLabel ++ [46] ++ limLabel ++ Lib.repeatL [46] 0) = t9 at *
  generalize bs (limLabel ++ [46] ++ limLabel ++ [46] ++ limLabel ++ [46] ++ limLabel) = t10 at *
  generalize bs (limLabel ++ [46] ++ limLabel ++ [46] ++ limLabel ++ [46]) = t11 at *
  generalize bs (limLabel ++ [46] ++ limLabel ++ [46] ++ limLabel) = t12 at *
  generalize bs (limLabel ++ [46] ++ limLabel ++ [46]) = t13 at *
  generalize bs (limLabel ++ [46] ++ limLabel) = t14 at *
  generalize bs (limLabel ++ [46]) = t15 at *
  generalize bs limLabel = t16 at *
  generalize bs (Lib.repeatL [46] 0) = t17 at *
  generalize bs (Lib.repeatL [99] 0) = t18 at *
  generalize bs ([97, 64] ++ limLong 0) = t19 at *
  generalize bs ([60, 64, 120] ++ Lib.repeatL [44, 64, 120] 19) = t20 at *
  generalize bs (Lib.repeatL [44, 64, 120] 19) = t21 at *
  generalize bs (limRoute 0) = t22 at *
  generalize bs p.loc = t23 at *
  generalize bs p.dom = t24 at *
  generalize p.null = t25 at *
  generalize p.lit = t26 at *
  generalize bs ml = t27 at *
  generalize bs md = t28 at *
  have HL0 : Hid (Below w.heap.size w w) := Below.refl _ w
  go_enter Tryd.func6, Tryd.ntmps6
  go_upto_region 7 with (first | (go_at_call 14; (with_reducible refine (HRA.out _).mono ?_); rintro e w1 ⟨rfl, hb⟩; have HL1 := Lib.hid (low_trans HL0.out hb); clear hb HRA) | (go_at_call 12; (with_reducible refine (HM1.out _ HL1.out).mono ?_); rintro e w2 ⟨rfl, hb⟩; have HL2 := Lib.hid (low_trans HL1.out hb); clear hb HM1))
  obtain ⟨W2, hW2⟩ : ∃ W, W = w2.alloc (.cells #[.string t5, .string (bs [98]), .bool false] 24) := ⟨_, rfl⟩
  obtain ⟨g2, hg2⟩ : ∃ g, g = w2.heap.size := ⟨_, rfl⟩
  have HK2 : Hid (Blk W2 g2 24 #[.string t5, .string (bs [98]), .bool false]) := by rw [hW2, hg2]; exact Blk.new _ _ _
  have HL3 : Hid (Below w.heap.size w W2) := low_trans HL2.out (by rw [hW2]; exact (Below.refl _ w2).alloc (Nat.le_refl _) _)
  change Code.wp _ _ _ _ (World.alloc w2 (Obj.cells #[.string t5, .string (bs [98]), .bool false] 24))
  rw [← hW2, ← hg2]
  clear hW2 hg2
  have x2 := HK2.out.cell 0
  simp at x2
  go_upto_region 12 with (first | (go_at_call 14; (with_reducible refine (HRL.out _).mono ?_); rintro e w4 ⟨rfl, hb⟩; have HL4 := Lib.hid (low_trans HL3.out hb); clear hb HRL) | (go_at_call 14; (with_reducible refine (HRB.out _).mono ?_); rintro e w5 ⟨rfl, hb⟩; have HL5 := Lib.hid (low_trans HL4.out hb); clear hb HRB) | (go_at_call 15; (with_reducible refine (HD1.out _ HL5.out).mono ?_); rintro e w6 ⟨rfl, hb⟩; have HL6 := Lib.hid (low_trans HL5.out hb); clear hb HD1))
  go_upto_region 14 with (first | (go_at_call 14; (with_reducible refine (HRD.out _).mono ?_); rintro e w7 ⟨rfl, hb⟩; have HL7 := Lib.hid (low_trans HL6.out hb); clear hb HRD) | (go_at_call 14; (with_reducible refine (HRC.out _).mono ?_); rintro e w8 ⟨rfl, hb⟩; have HL8 := Lib.hid (low_trans HL7.out hb); clear hb HRC) | (go_at_call 12; (with_reducible refine (HM2.out _ HL8.out).mono ?_); rintro e w9 ⟨rfl, hb⟩; have HL9 := Lib.hid (low_trans HL8.out hb); clear hb HM2))
  obtain ⟨W9, hW9⟩ : ∃ W, W = w9.alloc (.cells #[.string t27, .string t28, .bool mb] 24) := ⟨_, rfl⟩
  obtain ⟨g9, hg9⟩ : ∃ g, g = w9.heap.size := ⟨_, rfl⟩
  have HK9 : Hid (Blk W9 g9 24 #[.string t27, .string t28, .bool mb]) := by rw [hW9, hg9]; exact Blk.new _ _ _
  have HL10 : Hid (Below w.heap.size w W9) := low_trans HL9.out (by rw [hW9]; exact (Below.refl _ w9).alloc (Nat.le_refl _) _)
  change Code.wp _ _ _ _ (World.alloc w9 (Obj.cells #[.string t27, .string t28, .bool mb] 24))
  rw [← hW9, ← hg9]
  clear hW9 hg9
  have x9 := HK9.out.cell 0
  simp at x9
  clear x9 HK9
  go_upto_region 15 with (fail)
  obtain ⟨W11, hW11⟩ : ∃ W, W = W9.alloc (.cells #[.int .i64 0, .int .i64 150, .int .i64 3, .int .i64 3] 27) := ⟨_, rfl⟩
  have HL11 : Hid (Below w.heap.size w W11) := low_trans HL10.out (by rw [hW11]; exact (Below.refl _ W9).alloc (Nat.le_refl _) _)
  change Code.wp _ _ _ _ (World.alloc W9 (Obj.cells #[.int .i64 0, .int .i64 150, .int .i64 3, .int .i64 3] 27))
  rw [← hW11]
  clear hW11
  go_upto_region 18 with (first | (go_at_call 15; (with_reducible refine (HD2.out _ HL11.out).mono ?_); rintro e w12 ⟨rfl, hb⟩; have HL12 := Lib.hid (low_trans HL11.out hb); clear hb HD2) | (go_at_call 14; (with_reducible refine (HRR.out _).mono ?_); rintro e w13 ⟨rfl, hb⟩; have HL13 := Lib.hid (low_trans HL12.out hb); clear hb HRR) | (go_at_call 10; (with_reducible refine (HP.out _ HL13.out).mono ?_); rintro e w14 ⟨pa, pc, rfl, hb⟩; have HL14 := Lib.hid (low_trans HL13.out hb); clear hb HP))
  obtain ⟨W14, hW14⟩ : ∃ W, W = w14.alloc (.cells #[.bool t25, .slice pa 20 pc, .string t23, .string t24, .bool t26] 26) := ⟨_, rfl⟩
  obtain ⟨g14, hg14⟩ : ∃ g, g = w14.heap.size := ⟨_, rfl⟩
  have HK14 : Hid (Blk W14 g14 26 #[.bool t25, .slice pa 20 pc, .string t23, .string t24, .bool t26]) := by rw [hW14, hg14]; exact Blk.new _ _ _
  have HL15 : Hid (Below w.heap.size w W14) := low_trans HL14.out (by rw [hW14]; exact (Below.refl _ w14).alloc (Nat.le_refl _) _)
  change Code.wp _ _ _ _ (World.alloc w14 (Obj.cells #[.bool t25, .slice pa 20 pc, .string t23, .string t24, .bool t26] 26))
  rw [← hW14, ← hg14]
  clear hW14 hg14
  have x14 := HK14.out.cell 1
  simp at x14
  go_wp2_with (go_at_call 13; (with_reducible refine (HAW.out _ HL15.out).mono ?_); rintro e wz ⟨rfl, hb⟩; have HLZ := Lib.hid (low_trans HL15.out hb); clear hb)
  exact HQ.out wz HLZ.out

set_option maxRecDepth 100000 in
set_option maxHeartbeats 4000000 in
theorem limits_0q (z : Int) (hz : z.tmod 4 = 0) (w : World) (he : ErrAt w ∧ ErrG < w.heap.size) : Calls Tryd.prog 6 #[.int .u8 z, .bool true] w (SameOut w true) := by
  have HE := Lib.hid he
  have HQ : Hid (∀ w', Below w.heap.size w w' → SameOut w true (.returned (.bool true)) w') := fun w' h => ⟨rfl, h⟩
  have HAW := Lib.hid (fun W (hW : Below w.heap.size w W) => awake_any W (ErrAt.later he hW))
  generalize SameOut w true = Q at *
  have hs := lim_short 0 (by decide)
  have hsq := hs.1 true
  have HRA : Hid (∀ W, Calls Tryd.prog 14 #[.string ⟨#[97]⟩, .int .i64 64] W fun e w' => e = .returned (.string (bs (Lib.repeatL [97] 64))) ∧ Below W.heap.size W w') := fun W => Tryd.strings_Repeat ⟨#[97]⟩ 64 W (by omega) (by show 1 * 64 ≤ _; omega)
  have HRQ : Hid (∀ W, Calls Tryd.prog 14 #[.string ⟨#[34]⟩, .int .i64 64] W fun e w' => e = .returned (.string (bs (limName 0 true))) ∧ Below W.heap.size W w') := fun W => Tryd.strings_Repeat ⟨#[34]⟩ 64 W (by omega) (by show 1 * 64 ≤ _; omega)
  have HRS : Hid (∀ W, Calls Tryd.prog 14 #[.string ⟨#[92, 34]⟩, .int .i64 64] W fun e w' => e = .returned (.string (bs (Lib.repeatL [92, 34] 64))) ∧ Below W.heap.size W w') := fun W => Tryd.strings_Repeat ⟨#[92, 34]⟩ 64 W (by omega) (by show 2 * 64 ≤ _; omega)
  have HRL : Hid (∀ W, Calls Tryd.prog 14 #[.string ⟨#[98]⟩, .int .i64 63] W fun e w' => e = .returned (.string (bs (limLabel))) ∧ Below W.heap.size W w') := fun W => Tryd.strings_Repeat ⟨#[98]⟩ 63 W (by omega) (by show 1 * 63 ≤ _; omega)
  have HRB : Hid (∀ W, Calls Tryd.prog 14 #[.string ⟨#[98]⟩, .int .i64 0] W fun e w' => e = .returned (.string (bs (Lib.repeatL [98] 0))) ∧ Below W.heap.size W w') := fun W => Tryd.strings_Repeat ⟨#[98]⟩ 0 W (by omega) (by show 1 * 0 ≤ _; omega)
  have HRD : Hid (∀ W, Calls Tryd.prog 14 #[.string ⟨#[46]⟩, .int .i64 (min 0 1)] W fun e w' => e = .returned (.string (bs (Lib.repeatL [46] 0))) ∧ Below W.heap.size W w') := fun W => Tryd.strings_Repeat ⟨#[46]⟩ 0 W (by omega) (by show 1 * 0 ≤ _; omega)
  have HRC : Hid (∀ W, Calls Tryd.prog 14 #[.string ⟨#[99]⟩, .int .i64 (max (-1) 0)] W fun e w' => e = .returned (.string (bs (Lib.repeatL [99] 0))) ∧ Below W.heap.size W w') := fun W => Tryd.strings_Repeat ⟨#[99]⟩ 0 W (by omega) (by show 1 * 0 ≤ _; omega)
  have HRR : Hid (∀ W, Calls Tryd.prog 14 #[.string ⟨#[44, 64, 120]⟩, .int .i64 19] W fun e w' => e = .returned (.string (bs (Lib.repeatL [44, 64, 120] 19))) ∧ Below W.heap.size W w') := fun W => Tryd.strings_Repeat ⟨#[44, 64, 120]⟩ 19 W (by omega) (by show 3 * 19 ≤ _; omega)
  have ha1 : ∀ W, (Op.stringOp .add ⟨#[34]⟩ (bs (Lib.repeatL [92, 34] 64))).run Tryd.prog W = .ok (.string (bs ([34] ++ Lib.repeatL [92, 34] 64))) W := fun W => by rw [run_string_add_sum W _ _ (by decide +kernel)]; rfl
  have ha2 : ∀ W, (Op.stringOp .add (bs ([34] ++ Lib.repeatL [92, 34] 64)) ⟨#[34]⟩).run Tryd.prog W = .ok (.string (bs (limText 0 true))) W := fun W => by rw [run_string_add_sum W _ _ (by decide +kernel)]; rfl
  have ha3 : ∀ W, (Op.stringOp .add (bs (limText 0 true)) ⟨#[64, 98]⟩).run Tryd.prog W = .ok (.string (bs (limText 0 true ++ [64, 98]))) W := fun W => by rw [run_string_add_sum W _ _ (by decide +kernel)]; rfl
  have ha4 : ∀ W, (Op.stringOp .add (bs limLabel) (bs (Lib.repeatL [98] 0))).run Tryd.prog W = .ok (.string (bs (limLabel ++ Lib.repeatL [98] 0))) W := fun W => by rw [run_string_add_sum W _ _ (by decide +kernel)]; rfl
  have hb1 : ∀ W, (Op.stringOp .add (bs limLabel) ⟨#[46]⟩).run Tryd.prog W = .ok (.string (bs (limLabel ++ [46]))) W := fun W => by rw [run_string_add_sum W _ _ (by decide +kernel)]; rfl
  have hb2 : ∀ W, (Op.stringOp .add (bs (limLabel ++ [46])) (bs limLabel)).run Tryd.prog W = .ok (.string (bs (limLabel ++ [46] ++ limLabel))) W := fun W => by rw [run_string_add_sum W _ _ (by decide +kernel)]; rfl
  have hb3 : ∀ W, (Op.stringOp .add (bs (limLabel ++ [46] ++ limLabel)) ⟨#[46]⟩).run Tryd.prog W = .ok (.string (bs (limLabel ++ [46] ++ limLabel ++ [46]))) W := fun W => by rw [run_string_add_sum W _ _ (by decide +kernel)]; rfl
  have hb4 : ∀ W, (Op.stringOp .add (bs (limLabel ++ [46] ++ limLabel ++ [46])) (bs limLabel)).run Tryd.prog W = .ok (.string (bs (limLabel ++ [46] ++ limLabel ++ [46] ++ limLabel))) W := fun W => by rw [run_string_add_sum W _ _ (by decide +kernel)]; rfl
  have hb5 : ∀ W, (Op.stringOp .add (bs (limLabel ++ [46] ++ limLabel ++ [46] ++ limLabel)) ⟨#[46]⟩).run Tryd.prog W = .ok (.string (bs (limLabel ++ [46] ++ limLabel ++ [46] ++ limLabel ++ [46]))) W := fun W => by rw [run_string_add_sum W _ _ (by decide +kernel)]; rfl
  have hb6 : ∀ W, (Op.stringOp .add (bs (limLabel ++ [46] ++ limLabel ++ [46] ++ limLabel ++ [46])) (bs limLabel)).run Tryd.prog W = .ok (.string (bs (limLabel ++ [46] ++ limLabel ++ [46] ++ limLabel ++ [46] ++ limLabel))) W := fun W => by rw [run_string_add_sum W _ _ (by decide +kernel)]; rfl
  have hb7 : ∀ W, (Op.stringOp .add (bs (limLabel ++ [46] ++ limLabel ++ [46] ++ limLabel ++ [46] ++ limLabel)) (bs (Lib.repeatL [46] 0))).run Tryd.prog W = .ok (.string (bs (limLabel ++ [46] ++ limLabel ++ [46] ++ limLabel ++ [46] ++ limLabel ++ Lib.repeatL [46] 0))) W := fun W => by rw [run_string_add_sum W _ _ (by decide +kernel)]; rfl
  have hb8 : ∀ W, (Op.stringOp .add (bs (limLabel ++ [46] ++ limLabel ++ [46] ++ limLabel ++ [46] ++ limLabel ++ Lib.repeatL [46] 0)) (bs (Lib.repeatL [99] 0))).run Tryd.prog W = .ok (.string (bs (limLong 0))) W := fun W => by rw [run_string_add_sum W _ _ (by decide +kernel)]; rfl
  have hc1 : ∀ W, (Op.stringOp .add ⟨#[97, 64]⟩ (bs (limLong 0))).run Tryd.prog W = .ok (.string (bs ([97, 64] ++ limLong 0))) W := fun W => by rw [run_string_add_sum W _ _ (by decide +kernel)]; rfl
  have hd1 : ∀ W, (Op.stringOp .add ⟨#[60, 64, 120]⟩ (bs (Lib.repeatL [44, 64, 120] 19))).run Tryd.prog W = .ok (.string (bs ([60, 64, 120] ++ Lib.repeatL [44, 64, 120] 19))) W := fun W => by rw [run_string_add_sum W _ _ (by decide +kernel)]; rfl
  have hd2 : ∀ W, (Op.stringOp .add (bs ([60, 64, 120] ++ Lib.repeatL [44, 64, 120] 19)) ⟨#[58, 97, 64, 98, 62]⟩).run Tryd.prog W = .ok (.string (bs (limRoute 0))) W := fun W => by rw [run_string_add_sum W _ _ (by decide +kernel)]; rfl
  have hw0 : ∀ W, Below w.heap.size w W → ErrAt W ∧ ErrG < W.heap.size := fun W hW => ErrAt.later he hW
  have HM1 : Hid (∀ W, Below w.heap.size w W → Calls Tryd.prog 12 #[.string (bs (limText 0 true ++ [64, 98]))] W fun e w' => e = .returned (.tuple #[.agg #[.string (bs (limName 0 true)), .string (bs ([98])), .bool false], .int .i64 0]) ∧ Below W.heap.size W w') := fun W hW => by
    have h := mailbox_fun (limText 0 true ++ [64, 98]) (by rw [List.length_append]; simp only [List.length_cons, List.length_nil]; omega) W (hw0 W hW).1 (hw0 W hW).2
    unfold MailOut boxCells at h
    rw [lim_box 0 (by decide) true] at h
    exact h
  have HD1 : Hid (∀ W, Below w.heap.size w W → Calls Tryd.prog 15 #[.string (bs (limLabel ++ Lib.repeatL [98] 0))] W fun e w' => e = .returned (.bool true) ∧ Below W.heap.size W w') := fun W hW => by
    have h := domain_fun (limLabel ++ Lib.repeatL [98] 0) (by omega) W (hw0 W hW).1 (hw0 W hW).2
    rw [lim_label 0 (by decide)] at h
    exact h
  have HD2 : Hid (∀ W, Below w.heap.size w W → Calls Tryd.prog 15 #[.string (bs (limLong 0))] W fun e w' => e = .returned (.bool true) ∧ Below W.heap.size W w') := fun W hW => by
    have h := domain_fun (limLong 0) (by omega) W (hw0 W hW).1 (hw0 W hW).2
    rw [lim_dom 0 (by decide)] at h
    exact h
  obtain ⟨ml, md, mb, HM2⟩ : ∃ l d b, ∀ W, Below w.heap.size w W → Calls Tryd.prog 12 #[.string (bs ([97, 64] ++ limLong 0))] W fun e w' => e = .returned (.tuple #[.agg #[.string (bs l), .string (bs d), .bool b], .int .i64 0]) ∧ Below W.heap.size W w' := ⟨_, _, _, fun W hW => by
    have h := mailbox_fun ([97, 64] ++ limLong 0) (by rw [List.length_append]; simp only [List.length_cons, List.length_nil]; omega) W (hw0 W hW).1 (hw0 W hW).2
    unfold MailOut boxCells at h
    rw [lim_long 0 (by decide)] at h
    exact h⟩
  have HM2 := Lib.hid HM2
  obtain ⟨p, pn, HP⟩ : ∃ (p : Pa) (n : Int), ∀ W, Below w.heap.size w W → Calls Tryd.prog 10 #[.string (bs (limRoute 0))] W fun e w' => ∃ a c, e = .returned (.tuple #[.agg #[.bool p.null, .slice a 20 c, .string (bs p.loc), .string (bs p.dom), .bool p.lit], .int .i64 n, .int .i64 0]) ∧ Below W.heap.size W w' := ⟨(parseP (limRoute 0)).2.1, _, fun W hW => by
    have h := parse_told (limRoute 0) (by omega) W (hw0 W hW)
    unfold paV paCells at h
    rw [(lim_route 0 (by decide)).1, (lim_route 0 (by decide)).2] at h
    exact h.mono fun e w' ⟨a, c, h1, _, h2⟩ => ⟨a, c, h1, h2⟩⟩
  have HP := Lib.hid HP
  clear hs hsq he hw0
  generalize bs (Lib.repeatL [97] 64) = t0 at *
  generalize bs ([34] ++ Lib.repeatL [92, 34] 64) = t1 at *
  generalize bs (Lib.repeatL [92, 34] 64) = t2 at *
  generalize bs (limText 0 true ++ [64, 98]) = t4 at *
  generalize bs (limText 0 true) = t3 at *
  generalize bs (limName 0 true) = t5 at *
  generalize bs (limLabel ++ Lib.repeatL [98] 0) = t6 at *
  generalize bs (Lib.repeatL [98] 0) = t7 at *
  generalize bs (limLong 0) = t8 at *
  generalize bs (limLabel ++ [46] ++ limLabel ++ [46] ++ limLabel ++ [46] ++ limLabel ++ Lib.repeatL [46] 0) = t9 at *
  generalize bs (limLabel ++ [46] ++ limLabel ++ [46] ++ limLabel ++ [46] ++ limLabel) = t10 at *
  generalize bs (limLabel ++ [46] ++ limLabel ++ [46] ++ limLabel ++ [46]) = t11 at *
  generalize bs (limLabel ++ [46] ++ limLabel ++ [46] ++ limLabel) = t12 at *
  generalize bs (limLabel ++ [46] ++ limLabel ++ [46]) = t13 at *
  generalize bs (limLabel ++ [46] ++ limLabel) = t14 at *
  generalize bs (limLabel ++ [46]) = t15 at *
  generalize bs limLabel = t16 at *
  generalize bs (Lib.repeatL [46] 0) = t17 at *
  generalize bs (Lib.repeatL [99] 0) = t18 at *
  generalize bs ([97, 64] ++ limLong 0) = t19 at *
  generalize bs ([60, 64, 120] ++ Lib.repeatL [44, 64, 120] 19) = t20 at *
  generalize bs (Lib.repeatL [44, 64, 120] 19) = t21 at *
  generalize bs (limRoute 0) = t22 at *
  generalize bs p.loc = t23 at *
  generalize bs p.dom = t24 at *
  generalize p.null = t25 at *
  generalize p.lit = t26 at *
  generalize bs ml = t27 at *
  generalize bs md = t28 at *
  have HL0 : Hid (Below w.heap.size w w) := Below.refl _ w
  go_enter Tryd.func6, Tryd.ntmps6
  go_upto_region 7 with (first | (go_at_call 14; (with_reducible refine (HRA.out _).mono ?_); rintro e w1 ⟨rfl, hb⟩; have HL1 := Lib.hid (low_trans HL0.out hb); clear hb HRA) | (go_at_call 14; (with_reducible refine (HRQ.out _).mono ?_); rintro e w2 ⟨rfl, hb⟩; have HL2 := Lib.hid (low_trans HL1.out hb); clear hb HRQ) | (go_at_call 14; (with_reducible refine (HRS.out _).mono ?_); rintro e w3 ⟨rfl, hb⟩; have HL3 := Lib.hid (low_trans HL2.out hb); clear hb HRS) | (go_at_call 12; (with_reducible refine (HM1.out _ HL3.out).mono ?_); rintro e w4 ⟨rfl, hb⟩; have HL4 := Lib.hid (low_trans HL3.out hb); clear hb HM1))
  obtain ⟨W4, hW4⟩ : ∃ W, W = w4.alloc (.cells #[.string t5, .string (bs [98]), .bool false] 24) := ⟨_, rfl⟩
  obtain ⟨g4, hg4⟩ : ∃ g, g = w4.heap.size := ⟨_, rfl⟩
  have HK4 : Hid (Blk W4 g4 24 #[.string t5, .string (bs [98]), .bool false]) := by rw [hW4, hg4]; exact Blk.new _ _ _
  have HL5 : Hid (Below w.heap.size w W4) := low_trans HL4.out (by rw [hW4]; exact (Below.refl _ w4).alloc (Nat.le_refl _) _)
  change Code.wp _ _ _ _ (World.alloc w4 (Obj.cells #[.string t5, .string (bs [98]), .bool false] 24))
  rw [← hW4, ← hg4]
  clear hW4 hg4
  have x4 := HK4.out.cell 0
  simp at x4
  go_upto_region 12 with (first | (go_at_call 14; (with_reducible refine (HRL.out _).mono ?_); rintro e w6 ⟨rfl, hb⟩; have HL6 := Lib.hid (low_trans HL5.out hb); clear hb HRL) | (go_at_call 14; (with_reducible refine (HRB.out _).mono ?_); rintro e w7 ⟨rfl, hb⟩; have HL7 := Lib.hid (low_trans HL6.out hb); clear hb HRB) | (go_at_call 15; (with_reducible refine (HD1.out _ HL7.out).mono ?_); rintro e w8 ⟨rfl, hb⟩; have HL8 := Lib.hid (low_trans HL7.out hb); clear hb HD1))
  go_upto_region 14 with (first | (go_at_call 14; (with_reducible refine (HRD.out _).mono ?_); rintro e w9 ⟨rfl, hb⟩; have HL9 := Lib.hid (low_trans HL8.out hb); clear hb HRD) | (go_at_call 14; (with_reducible refine (HRC.out _).mono ?_); rintro e w10 ⟨rfl, hb⟩; have HL10 := Lib.hid (low_trans HL9.out hb); clear hb HRC) | (go_at_call 12; (with_reducible refine (HM2.out _ HL10.out).mono ?_); rintro e w11 ⟨rfl, hb⟩; have HL11 := Lib.hid (low_trans HL10.out hb); clear hb HM2))
  obtain ⟨W11, hW11⟩ : ∃ W, W = w11.alloc (.cells #[.string t27, .string t28, .bool mb] 24) := ⟨_, rfl⟩
  obtain ⟨g11, hg11⟩ : ∃ g, g = w11.heap.size := ⟨_, rfl⟩
  have HK11 : Hid (Blk W11 g11 24 #[.string t27, .string t28, .bool mb]) := by rw [hW11, hg11]; exact Blk.new _ _ _
  have HL12 : Hid (Below w.heap.size w W11) := low_trans HL11.out (by rw [hW11]; exact (Below.refl _ w11).alloc (Nat.le_refl _) _)
  change Code.wp _ _ _ _ (World.alloc w11 (Obj.cells #[.string t27, .string t28, .bool mb] 24))
  rw [← hW11, ← hg11]
  clear hW11 hg11
  have x11 := HK11.out.cell 0
  simp at x11
  clear x11 HK11
  go_upto_region 15 with (fail)
  obtain ⟨W13, hW13⟩ : ∃ W, W = W11.alloc (.cells #[.int .i64 0, .int .i64 150, .int .i64 3, .int .i64 3] 27) := ⟨_, rfl⟩
  have HL13 : Hid (Below w.heap.size w W13) := low_trans HL12.out (by rw [hW13]; exact (Below.refl _ W11).alloc (Nat.le_refl _) _)
  change Code.wp _ _ _ _ (World.alloc W11 (Obj.cells #[.int .i64 0, .int .i64 150, .int .i64 3, .int .i64 3] 27))
  rw [← hW13]
  clear hW13
  go_upto_region 18 with (first | (go_at_call 15; (with_reducible refine (HD2.out _ HL13.out).mono ?_); rintro e w14 ⟨rfl, hb⟩; have HL14 := Lib.hid (low_trans HL13.out hb); clear hb HD2) | (go_at_call 14; (with_reducible refine (HRR.out _).mono ?_); rintro e w15 ⟨rfl, hb⟩; have HL15 := Lib.hid (low_trans HL14.out hb); clear hb HRR) | (go_at_call 10; (with_reducible refine (HP.out _ HL15.out).mono ?_); rintro e w16 ⟨pa, pc, rfl, hb⟩; have HL16 := Lib.hid (low_trans HL15.out hb); clear hb HP))
  obtain ⟨W16, hW16⟩ : ∃ W, W = w16.alloc (.cells #[.bool t25, .slice pa 20 pc, .string t23, .string t24, .bool t26] 26) := ⟨_, rfl⟩
  obtain ⟨g16, hg16⟩ : ∃ g, g = w16.heap.size := ⟨_, rfl⟩
  have HK16 : Hid (Blk W16 g16 26 #[.bool t25, .slice pa 20 pc, .string t23, .string t24, .bool t26]) := by rw [hW16, hg16]; exact Blk.new _ _ _
  have HL17 : Hid (Below w.heap.size w W16) := low_trans HL16.out (by rw [hW16]; exact (Below.refl _ w16).alloc (Nat.le_refl _) _)
  change Code.wp _ _ _ _ (World.alloc w16 (Obj.cells #[.bool t25, .slice pa 20 pc, .string t23, .string t24, .bool t26] 26))
  rw [← hW16, ← hg16]
  clear hW16 hg16
  have x16 := HK16.out.cell 1
  simp at x16
  go_wp2_with (go_at_call 13; (with_reducible refine (HAW.out _ HL17.out).mono ?_); rintro e wz ⟨rfl, hb⟩; have HLZ := Lib.hid (low_trans HL17.out hb); clear hb)
  exact HQ.out wz HLZ.out

set_option maxRecDepth 100000 in
set_option maxHeartbeats 4000000 in
theorem limits_1p (z : Int) (hz : z.tmod 4 = 1) (w : World) (he : ErrAt w ∧ ErrG < w.heap.size) : Calls Tryd.prog 6 #[.int .u8 z, .bool false] w (SameOut w true) := by
  have HE := Lib.hid he
  have HQ : Hid (∀ w', Below w.heap.size w w' → SameOut w true (.returned (.bool true)) w') := fun w' h => ⟨rfl, h⟩
  have HAW := Lib.hid (fun W (hW : Below w.heap.size w W) => awake_any W (ErrAt.later he hW))
  generalize SameOut w true = Q at *
  have hs := lim_short 1 (by decide)
  have hsq := hs.1 false
  have HRA : Hid (∀ W, Calls Tryd.prog 14 #[.string ⟨#[97]⟩, .int .i64 65] W fun e w' => e = .returned (.string (bs (Lib.repeatL [97] 65))) ∧ Below W.heap.size W w') := fun W => Tryd.strings_Repeat ⟨#[97]⟩ 65 W (by omega) (by show 1 * 65 ≤ _; omega)
  have HRL : Hid (∀ W, Calls Tryd.prog 14 #[.string ⟨#[98]⟩, .int .i64 63] W fun e w' => e = .returned (.string (bs (limLabel))) ∧ Below W.heap.size W w') := fun W => Tryd.strings_Repeat ⟨#[98]⟩ 63 W (by omega) (by show 1 * 63 ≤ _; omega)
  have HRB : Hid (∀ W, Calls Tryd.prog 14 #[.string ⟨#[98]⟩, .int .i64 1] W fun e w' => e = .returned (.string (bs (Lib.repeatL [98] 1))) ∧ Below W.heap.size W w') := fun W => Tryd.strings_Repeat ⟨#[98]⟩ 1 W (by omega) (by show 1 * 1 ≤ _; omega)
  have HRD : Hid (∀ W, Calls Tryd.prog 14 #[.string ⟨#[46]⟩, .int .i64 1] W fun e w' => e = .returned (.string (bs (Lib.repeatL [46] 1))) ∧ Below W.heap.size W w') := fun W => Tryd.strings_Repeat ⟨#[46]⟩ 1 W (by omega) (by show 1 * 1 ≤ _; omega)
  have HRC : Hid (∀ W, Calls Tryd.prog 14 #[.string ⟨#[99]⟩, .int .i64 0] W fun e w' => e = .returned (.string (bs (Lib.repeatL [99] 0))) ∧ Below W.heap.size W w') := fun W => Tryd.strings_Repeat ⟨#[99]⟩ 0 W (by omega) (by show 1 * 0 ≤ _; omega)
  have HRR : Hid (∀ W, Calls Tryd.prog 14 #[.string ⟨#[44, 64, 120]⟩, .int .i64 20] W fun e w' => e = .returned (.string (bs (Lib.repeatL [44, 64, 120] 20))) ∧ Below W.heap.size W w') := fun W => Tryd.strings_Repeat ⟨#[44, 64, 120]⟩ 20 W (by omega) (by show 3 * 20 ≤ _; omega)
  have hat : bs (Lib.repeatL [97] 65) = bs (limText 1 false) := rfl
  have han : bs (limText 1 false) = bs (limName 1 false) := rfl
  have ha3 : ∀ W, (Op.stringOp .add (bs (limText 1 false)) ⟨#[64, 98]⟩).run Tryd.prog W = .ok (.string (bs (limText 1 false ++ [64, 98]))) W := fun W => by rw [run_string_add_sum W _ _ (by decide +kernel)]; rfl
  have ha4 : ∀ W, (Op.stringOp .add (bs limLabel) (bs (Lib.repeatL [98] 1))).run Tryd.prog W = .ok (.string (bs (limLabel ++ Lib.repeatL [98] 1))) W := fun W => by rw [run_string_add_sum W _ _ (by decide +kernel)]; rfl
  have hb1 : ∀ W, (Op.stringOp .add (bs limLabel) ⟨#[46]⟩).run Tryd.prog W = .ok (.string (bs (limLabel ++ [46]))) W := fun W => by rw [run_string_add_sum W _ _ (by decide +kernel)]; rfl
  have hb2 : ∀ W, (Op.stringOp .add (bs (limLabel ++ [46])) (bs limLabel)).run Tryd.prog W = .ok (.string (bs (limLabel ++ [46] ++ limLabel))) W := fun W => by rw [run_string_add_sum W _ _ (by decide +kernel)]; rfl
  have hb3 : ∀ W, (Op.stringOp .add (bs (limLabel ++ [46] ++ limLabel)) ⟨#[46]⟩).run Tryd.prog W = .ok (.string (bs (limLabel ++ [46] ++ limLabel ++ [46]))) W := fun W => by rw [run_string_add_sum W _ _ (by decide +kernel)]; rfl
  have hb4 : ∀ W, (Op.stringOp .add (bs (limLabel ++ [46] ++ limLabel ++ [46])) (bs limLabel)).run Tryd.prog W = .ok (.string (bs (limLabel ++ [46] ++ limLabel ++ [46] ++ limLabel))) W := fun W => by rw [run_string_add_sum W _ _ (by decide +kernel)]; rfl
  have hb5 : ∀ W, (Op.stringOp .add (bs (limLabel ++ [46] ++ limLabel ++ [46] ++ limLabel)) ⟨#[46]⟩).run Tryd.prog W = .ok (.string (bs (limLabel ++ [46] ++ limLabel ++ [46] ++ limLabel ++ [46]))) W := fun W => by rw [run_string_add_sum W _ _ (by decide +kernel)]; rfl
  have hb6 : ∀ W, (Op.stringOp .add (bs (limLabel ++ [46] ++ limLabel ++ [46] ++ limLabel ++ [46])) (bs limLabel)).run Tryd.prog W = .ok (.string (bs (limLabel ++ [46] ++ limLabel ++ [46] ++ limLabel ++ [46] ++ limLabel))) W := fun W => by rw [run_string_add_sum W _ _ (by decide +kernel)]; rfl
  have hb7 : ∀ W, (Op.stringOp .add (bs (limLabel ++ [46] ++ limLabel ++ [46] ++ limLabel ++ [46] ++ limLabel)) (bs (Lib.repeatL [46] 1))).run Tryd.prog W = .ok (.string (bs (limLabel ++ [46] ++ limLabel ++ [46] ++ limLabel ++ [46] ++ limLabel ++ Lib.repeatL [46] 1))) W := fun W => by rw [run_string_add_sum W _ _ (by decide +kernel)]; rfl
  have hb8 : ∀ W, (Op.stringOp .add (bs (limLabel ++ [46] ++ limLabel ++ [46] ++ limLabel ++ [46] ++ limLabel ++ Lib.repeatL [46] 1)) (bs (Lib.repeatL [99] 0))).run Tryd.prog W = .ok (.string (bs (limLong 1))) W := fun W => by rw [run_string_add_sum W _ _ (by decide +kernel)]; rfl
  have hc1 : ∀ W, (Op.stringOp .add ⟨#[97, 64]⟩ (bs (limLong 1))).run Tryd.prog W = .ok (.string (bs ([97, 64] ++ limLong 1))) W := fun W => by rw [run_string_add_sum W _ _ (by decide +kernel)]; rfl
  have hd1 : ∀ W, (Op.stringOp .add ⟨#[60, 64, 120]⟩ (bs (Lib.repeatL [44, 64, 120] 20))).run Tryd.prog W = .ok (.string (bs ([60, 64, 120] ++ Lib.repeatL [44, 64, 120] 20))) W := fun W => by rw [run_string_add_sum W _ _ (by decide +kernel)]; rfl
  have hd2 : ∀ W, (Op.stringOp .add (bs ([60, 64, 120] ++ Lib.repeatL [44, 64, 120] 20)) ⟨#[58, 97, 64, 98, 62]⟩).run Tryd.prog W = .ok (.string (bs (limRoute 1))) W := fun W => by rw [run_string_add_sum W _ _ (by decide +kernel)]; rfl
  have hw0 : ∀ W, Below w.heap.size w W → ErrAt W ∧ ErrG < W.heap.size := fun W hW => ErrAt.later he hW
  have HM1 : Hid (∀ W, Below w.heap.size w W → Calls Tryd.prog 12 #[.string (bs (limText 1 false ++ [64, 98]))] W fun e w' => e = .returned (.tuple #[.agg #[.string (bs ([])), .string (bs ([])), .bool false], .int .i64 3]) ∧ Below W.heap.size W w') := fun W hW => by
    have h := mailbox_fun (limText 1 false ++ [64, 98]) (by rw [List.length_append]; simp only [List.length_cons, List.length_nil]; omega) W (hw0 W hW).1 (hw0 W hW).2
    unfold MailOut boxCells at h
    rw [lim_box 1 (by decide) false] at h
    exact h
  have HD1 : Hid (∀ W, Below w.heap.size w W → Calls Tryd.prog 15 #[.string (bs (limLabel ++ Lib.repeatL [98] 1))] W fun e w' => e = .returned (.bool false) ∧ Below W.heap.size W w') := fun W hW => by
    have h := domain_fun (limLabel ++ Lib.repeatL [98] 1) (by omega) W (hw0 W hW).1 (hw0 W hW).2
    rw [lim_label 1 (by decide)] at h
    exact h
  have HD2 : Hid (∀ W, Below w.heap.size w W → Calls Tryd.prog 15 #[.string (bs (limLong 1))] W fun e w' => e = .returned (.bool false) ∧ Below W.heap.size W w') := fun W hW => by
    have h := domain_fun (limLong 1) (by omega) W (hw0 W hW).1 (hw0 W hW).2
    rw [lim_dom 1 (by decide)] at h
    exact h
  obtain ⟨ml, md, mb, HM2⟩ : ∃ l d b, ∀ W, Below w.heap.size w W → Calls Tryd.prog 12 #[.string (bs ([97, 64] ++ limLong 1))] W fun e w' => e = .returned (.tuple #[.agg #[.string (bs l), .string (bs d), .bool b], .int .i64 150]) ∧ Below W.heap.size W w' := ⟨_, _, _, fun W hW => by
    have h := mailbox_fun ([97, 64] ++ limLong 1) (by rw [List.length_append]; simp only [List.length_cons, List.length_nil]; omega) W (hw0 W hW).1 (hw0 W hW).2
    unfold MailOut boxCells at h
    rw [lim_long 1 (by decide)] at h
    exact h⟩
  have HM2 := Lib.hid HM2
  obtain ⟨p, pn, HP⟩ : ∃ (p : Pa) (n : Int), ∀ W, Below w.heap.size w W → Calls Tryd.prog 10 #[.string (bs (limRoute 1))] W fun e w' => ∃ a c, e = .returned (.tuple #[.agg #[.bool p.null, .slice a 0 c, .string (bs p.loc), .string (bs p.dom), .bool p.lit], .int .i64 n, .int .i64 3]) ∧ Below W.heap.size W w' := ⟨(parseP (limRoute 1)).2.1, _, fun W hW => by
    have h := parse_told (limRoute 1) (by omega) W (hw0 W hW)
    unfold paV paCells at h
    rw [(lim_route 1 (by decide)).1, (lim_route 1 (by decide)).2] at h
    exact h.mono fun e w' ⟨a, c, h1, _, h2⟩ => ⟨a, c, h1, h2⟩⟩
  have HP := Lib.hid HP
  clear hs hsq he hw0
  rw [hat, han] at HRA
  rw [han] at ha3
  clear hat han
  generalize bs (limText 1 false ++ [64, 98]) = t4 at *
  generalize bs (limName 1 false) = t5 at *
  generalize bs (limLabel ++ Lib.repeatL [98] 1) = t6 at *
  generalize bs (Lib.repeatL [98] 1) = t7 at *
  generalize bs (limLong 1) = t8 at *
  generalize bs (limLabel ++ [46] ++ limLabel ++ [46] ++ limLabel ++ [46] ++ limLabel ++ Lib.repeatL [46] 1) = t9 at *
  generalize bs (limLabel ++ [46] ++ limLabel ++ [46] ++ limLabel ++ [46] ++ limLabel) = t10 at *
  generalize bs (limLabel ++ [46] ++ limLabel ++ [46] ++ limLabel ++ [46]) = t11 at *
  generalize bs (limLabel ++ [46] ++ limLabel ++ [46] ++ limLabel) = t12 at *
  generalize bs (limLabel ++ [46] ++ limLabel ++ [46]) = t13 at *
  generalize bs (limLabel ++ [46] ++ limLabel) = t14 at *
  generalize bs (limLabel ++ [46]) = t15 at *
  generalize bs limLabel = t16 at *
  generalize bs (Lib.repeatL [46] 1) = t17 at *
  generalize bs (Lib.repeatL [99] 0) = t18 at *
  generalize bs ([97, 64] ++ limLong 1) = t19 at *
  generalize bs ([60, 64, 120] ++ Lib.repeatL [44, 64, 120] 20) = t20 at *
  generalize bs (Lib.repeatL [44, 64, 120] 20) = t21 at *
  generalize bs (limRoute 1) = t22 at *
  generalize bs p.loc = t23 at *
  generalize bs p.dom = t24 at *
  generalize p.null = t25 at *
  generalize p.lit = t26 at *
  generalize bs ml = t27 at *
  generalize bs md = t28 at *
  have HL0 : Hid (Below w.heap.size w w) := Below.refl _ w
  go_enter Tryd.func6, Tryd.ntmps6
  go_upto_region 7 with (first | (go_at_call 14; (with_reducible refine (HRA.out _).mono ?_); rintro e w1 ⟨rfl, hb⟩; have HL1 := Lib.hid (low_trans HL0.out hb); clear hb HRA) | (go_at_call 12; (with_reducible refine (HM1.out _ HL1.out).mono ?_); rintro e w2 ⟨rfl, hb⟩; have HL2 := Lib.hid (low_trans HL1.out hb); clear hb HM1))
  obtain ⟨W2, hW2⟩ : ∃ W, W = w2.alloc (.cells #[.string (bs []), .string (bs []), .bool false] 24) := ⟨_, rfl⟩
  obtain ⟨g2, hg2⟩ : ∃ g, g = w2.heap.size := ⟨_, rfl⟩
  have HK2 : Hid (Blk W2 g2 24 #[.string (bs []), .string (bs []), .bool false]) := by rw [hW2, hg2]; exact Blk.new _ _ _
  have HL3 : Hid (Below w.heap.size w W2) := low_trans HL2.out (by rw [hW2]; exact (Below.refl _ w2).alloc (Nat.le_refl _) _)
  change Code.wp _ _ _ _ (World.alloc w2 (Obj.cells #[.string (bs []), .string (bs []), .bool false] 24))
  rw [← hW2, ← hg2]
  clear hW2 hg2
  have x2 := HK2.out.cell 0
  simp at x2
  go_upto_region 12 with (first | (go_at_call 14; (with_reducible refine (HRL.out _).mono ?_); rintro e w4 ⟨rfl, hb⟩; have HL4 := Lib.hid (low_trans HL3.out hb); clear hb HRL) | (go_at_call 14; (with_reducible refine (HRB.out _).mono ?_); rintro e w5 ⟨rfl, hb⟩; have HL5 := Lib.hid (low_trans HL4.out hb); clear hb HRB) | (go_at_call 15; (with_reducible refine (HD1.out _ HL5.out).mono ?_); rintro e w6 ⟨rfl, hb⟩; have HL6 := Lib.hid (low_trans HL5.out hb); clear hb HD1))
  go_upto_region 14 with (first | (go_at_call 14; (with_reducible refine (HRD.out _).mono ?_); rintro e w7 ⟨rfl, hb⟩; have HL7 := Lib.hid (low_trans HL6.out hb); clear hb HRD) | (go_at_call 14; (with_reducible refine (HRC.out _).mono ?_); rintro e w8 ⟨rfl, hb⟩; have HL8 := Lib.hid (low_trans HL7.out hb); clear hb HRC) | (go_at_call 12; (with_reducible refine (HM2.out _ HL8.out).mono ?_); rintro e w9 ⟨rfl, hb⟩; have HL9 := Lib.hid (low_trans HL8.out hb); clear hb HM2))
  obtain ⟨W9, hW9⟩ : ∃ W, W = w9.alloc (.cells #[.string t27, .string t28, .bool mb] 24) := ⟨_, rfl⟩
  obtain ⟨g9, hg9⟩ : ∃ g, g = w9.heap.size := ⟨_, rfl⟩
  have HK9 : Hid (Blk W9 g9 24 #[.string t27, .string t28, .bool mb]) := by rw [hW9, hg9]; exact Blk.new _ _ _
  have HL10 : Hid (Below w.heap.size w W9) := low_trans HL9.out (by rw [hW9]; exact (Below.refl _ w9).alloc (Nat.le_refl _) _)
  change Code.wp _ _ _ _ (World.alloc w9 (Obj.cells #[.string t27, .string t28, .bool mb] 24))
  rw [← hW9, ← hg9]
  clear hW9 hg9
  have x9 := HK9.out.cell 0
  simp at x9
  clear x9 HK9
  go_upto_region 15 with (fail)
  obtain ⟨W11, hW11⟩ : ∃ W, W = W9.alloc (.cells #[.int .i64 0, .int .i64 150, .int .i64 3, .int .i64 3] 27) := ⟨_, rfl⟩
  have HL11 : Hid (Below w.heap.size w W11) := low_trans HL10.out (by rw [hW11]; exact (Below.refl _ W9).alloc (Nat.le_refl _) _)
  change Code.wp _ _ _ _ (World.alloc W9 (Obj.cells #[.int .i64 0, .int .i64 150, .int .i64 3, .int .i64 3] 27))
  rw [← hW11]
  clear hW11
  go_upto_region 18 with (first | (go_at_call 15; (with_reducible refine (HD2.out _ HL11.out).mono ?_); rintro e w12 ⟨rfl, hb⟩; have HL12 := Lib.hid (low_trans HL11.out hb); clear hb HD2) | (go_at_call 14; (with_reducible refine (HRR.out _).mono ?_); rintro e w13 ⟨rfl, hb⟩; have HL13 := Lib.hid (low_trans HL12.out hb); clear hb HRR) | (go_at_call 10; (with_reducible refine (HP.out _ HL13.out).mono ?_); rintro e w14 ⟨pa, pc, rfl, hb⟩; have HL14 := Lib.hid (low_trans HL13.out hb); clear hb HP))
  obtain ⟨W14, hW14⟩ : ∃ W, W = w14.alloc (.cells #[.bool t25, .slice pa 0 pc, .string t23, .string t24, .bool t26] 26) := ⟨_, rfl⟩
  obtain ⟨g14, hg14⟩ : ∃ g, g = w14.heap.size := ⟨_, rfl⟩
  have HK14 : Hid (Blk W14 g14 26 #[.bool t25, .slice pa 0 pc, .string t23, .string t24, .bool t26]) := by rw [hW14, hg14]; exact Blk.new _ _ _
  have HL15 : Hid (Below w.heap.size w W14) := low_trans HL14.out (by rw [hW14]; exact (Below.refl _ w14).alloc (Nat.le_refl _) _)
  change Code.wp _ _ _ _ (World.alloc w14 (Obj.cells #[.bool t25, .slice pa 0 pc, .string t23, .string t24, .bool t26] 26))
  rw [← hW14, ← hg14]
  clear hW14 hg14
  have x14 := HK14.out.cell 1
  simp at x14
  go_wp2_with (go_at_call 13; (with_reducible refine (HAW.out _ HL15.out).mono ?_); rintro e wz ⟨rfl, hb⟩; have HLZ := Lib.hid (low_trans HL15.out hb); clear hb)
  exact HQ.out wz HLZ.out

set_option maxRecDepth 100000 in
set_option maxHeartbeats 4000000 in
theorem limits_1q (z : Int) (hz : z.tmod 4 = 1) (w : World) (he : ErrAt w ∧ ErrG < w.heap.size) : Calls Tryd.prog 6 #[.int .u8 z, .bool true] w (SameOut w true) := by
  have HE := Lib.hid he
  have HQ : Hid (∀ w', Below w.heap.size w w' → SameOut w true (.returned (.bool true)) w') := fun w' h => ⟨rfl, h⟩
  have HAW := Lib.hid (fun W (hW : Below w.heap.size w W) => awake_any W (ErrAt.later he hW))
  generalize SameOut w true = Q at *
  have hs := lim_short 1 (by decide)
  have hsq := hs.1 true
  have HRA : Hid (∀ W, Calls Tryd.prog 14 #[.string ⟨#[97]⟩, .int .i64 65] W fun e w' => e = .returned (.string (bs (Lib.repeatL [97] 65))) ∧ Below W.heap.size W w') := fun W => Tryd.strings_Repeat ⟨#[97]⟩ 65 W (by omega) (by show 1 * 65 ≤ _; omega)
  have HRQ : Hid (∀ W, Calls Tryd.prog 14 #[.string ⟨#[34]⟩, .int .i64 65] W fun e w' => e = .returned (.string (bs (limName 1 true))) ∧ Below W.heap.size W w') := fun W => Tryd.strings_Repeat ⟨#[34]⟩ 65 W (by omega) (by show 1 * 65 ≤ _; omega)
  have HRS : Hid (∀ W, Calls Tryd.prog 14 #[.string ⟨#[92, 34]⟩, .int .i64 65] W fun e w' => e = .returned (.string (bs (Lib.repeatL [92, 34] 65))) ∧ Below W.heap.size W w') := fun W => Tryd.strings_Repeat ⟨#[92, 34]⟩ 65 W (by omega) (by show 2 * 65 ≤ _; omega)
  have HRL : Hid (∀ W, Calls Tryd.prog 14 #[.string ⟨#[98]⟩, .int .i64 63] W fun e w' => e = .returned (.string (bs (limLabel))) ∧ Below W.heap.size W w') := fun W => Tryd.strings_Repeat ⟨#[98]⟩ 63 W (by omega) (by show 1 * 63 ≤ _; omega)
  have HRB : Hid (∀ W, Calls Tryd.prog 14 #[.string ⟨#[98]⟩, .int .i64 1] W fun e w' => e = .returned (.string (bs (Lib.repeatL [98] 1))) ∧ Below W.heap.size W w') := fun W => Tryd.strings_Repeat ⟨#[98]⟩ 1 W (by omega) (by show 1 * 1 ≤ _; omega)
  have HRD : Hid (∀ W, Calls Tryd.prog 14 #[.string ⟨#[46]⟩, .int .i64 1] W fun e w' => e = .returned (.string (bs (Lib.repeatL [46] 1))) ∧ Below W.heap.size W w') := fun W => Tryd.strings_Repeat ⟨#[46]⟩ 1 W (by omega) (by show 1 * 1 ≤ _; omega)
  have HRC : Hid (∀ W, Calls Tryd.prog 14 #[.string ⟨#[99]⟩, .int .i64 0] W fun e w' => e = .returned (.string (bs (Lib.repeatL [99] 0))) ∧ Below W.heap.size W w') := fun W => Tryd.strings_Repeat ⟨#[99]⟩ 0 W (by omega) (by show 1 * 0 ≤ _; omega)
  have HRR : Hid (∀ W, Calls Tryd.prog 14 #[.string ⟨#[44, 64, 120]⟩, .int .i64 20] W fun e w' => e = .returned (.string (bs (Lib.repeatL [44, 64, 120] 20))) ∧ Below W.heap.size W w') := fun W => Tryd.strings_Repeat ⟨#[44, 64, 120]⟩ 20 W (by omega) (by show 3 * 20 ≤ _; omega)
  have ha1 : ∀ W, (Op.stringOp .add ⟨#[34]⟩ (bs (Lib.repeatL [92, 34] 65))).run Tryd.prog W = .ok (.string (bs ([34] ++ Lib.repeatL [92, 34] 65))) W := fun W => by rw [run_string_add_sum W _ _ (by decide +kernel)]; rfl
  have ha2 : ∀ W, (Op.stringOp .add (bs ([34] ++ Lib.repeatL [92, 34] 65)) ⟨#[34]⟩).run Tryd.prog W = .ok (.string (bs (limText 1 true))) W := fun W => by rw [run_string_add_sum W _ _ (by decide +kernel)]; rfl
  have ha3 : ∀ W, (Op.stringOp .add (bs (limText 1 true)) ⟨#[64, 98]⟩).run Tryd.prog W = .ok (.string (bs (limText 1 true ++ [64, 98]))) W := fun W => by rw [run_string_add_sum W _ _ (by decide +kernel)]; rfl
  have ha4 : ∀ W, (Op.stringOp .add (bs limLabel) (bs (Lib.repeatL [98] 1))).run Tryd.prog W = .ok (.string (bs (limLabel ++ Lib.repeatL [98] 1))) W := fun W => by rw [run_string_add_sum W _ _ (by decide +kernel)]; rfl
  have hb1 : ∀ W, (Op.stringOp .add (bs limLabel) ⟨#[46]⟩).run Tryd.prog W = .ok (.string (bs (limLabel ++ [46]))) W := fun W => by rw [run_string_add_sum W _ _ (by decide +kernel)]; rfl
  have hb2 : ∀ W, (Op.stringOp .add (bs (limLabel ++ [46])) (bs limLabel)).run Tryd.prog W = .ok (.string (bs (limLabel ++ [46] ++ limLabel))) W := fun W => by rw [run_string_add_sum W _ _ (by decide +kernel)]; rfl
  have hb3 : ∀ W, (Op.stringOp .add (bs (limLabel ++ [46] ++ limLabel)) ⟨#[46]⟩).run Tryd.prog W = .ok (.string (bs (limLabel ++ [46] ++ limLabel ++ [46]))) W := fun W => by rw [run_string_add_sum W _ _ (by decide +kernel)]; rfl
  have hb4 : ∀ W, (Op.stringOp .add (bs (limLabel ++ [46] ++ limLabel ++ [46])) (bs limLabel)).run Tryd.prog W = .ok (.string (bs (limLabel ++ [46] ++ limLabel ++ [46] ++ limLabel))) W := fun W => by rw [run_string_add_sum W _ _ (by decide +kernel)]; rfl
  have hb5 : ∀ W, (Op.stringOp .add (bs (limLabel ++ [46] ++ limLabel ++ [46] ++ limLabel)) ⟨#[46]⟩).run Tryd.prog W = .ok (.string (bs (limLabel ++ [46] ++ limLabel ++ [46] ++ limLabel ++ [46]))) W := fun W => by rw [run_string_add_sum W _ _ (by decide +kernel)]; rfl
  have hb6 : ∀ W, (Op.stringOp .add (bs (limLabel ++ [46] ++ limLabel ++ [46] ++ limLabel ++ [46])) (bs limLabel)).run Tryd.prog W = .ok (.string (bs (limLabel ++ [46] ++ limLabel ++ [46] ++ limLabel ++ [46] ++ limLabel))) W := fun W => by rw [run_string_add_sum W _ _ (by decide +kernel)]; rfl
  have hb7 : ∀ W, (Op.stringOp .add (bs (limLabel ++ [46] ++ limLabel ++ [46] ++ limLabel ++ [46] ++ limLabel)) (bs (Lib.repeatL [46] 1))).run Tryd.prog W = .ok (.string (bs (limLabel ++ [46] ++ limLabel ++ [46] ++ limLabel ++ [46] ++ limLabel ++ Lib.repeatL [46] 1))) W := fun W => by rw [run_string_add_sum W _ _ (by decide +kernel)]; rfl
  have hb8 : ∀ W, (Op.stringOp .add (bs (limLabel ++ [46] ++ limLabel ++ [46] ++ limLabel ++ [46] ++ limLabel ++ Lib.repeatL [46] 1)) (bs (Lib.repeatL [99] 0))).run Tryd.prog W = .ok (.string (bs (limLong 1))) W := fun W => by rw [run_string_add_sum W _ _ (by decide +kernel)]; rfl
  have hc1 : ∀ W, (Op.stringOp .add ⟨#[97, 64]⟩ (bs (limLong 1))).run Tryd.prog W = .ok (.string (bs ([97, 64] ++ limLong 1))) W := fun W => by rw [run_string_add_sum W _ _ (by decide +kernel)]; rfl
  have hd1 : ∀ W, (Op.stringOp .add ⟨#[60, 64, 120]⟩ (bs (Lib.repeatL [44, 64, 120] 20))).run Tryd.prog W = .ok (.string (bs ([60, 64, 120] ++ Lib.repeatL [44, 64, 120] 20))) W := fun W => by rw [run_string_add_sum W _ _ (by decide +kernel)]; rfl
  have hd2 : ∀ W, (Op.stringOp .add (bs ([60, 64, 120] ++ Lib.repeatL [44, 64, 120] 20)) ⟨#[58, 97, 64, 98, 62]⟩).run Tryd.prog W = .ok (.string (bs (limRoute 1))) W := fun W => by rw [run_string_add_sum W _ _ (by decide +kernel)]; rfl
  have hw0 : ∀ W, Below w.heap.size w W → ErrAt W ∧ ErrG < W.heap.size := fun W hW => ErrAt.later he hW
  have HM1 : Hid (∀ W, Below w.heap.size w W → Calls Tryd.prog 12 #[.string (bs (limText 1 true ++ [64, 98]))] W fun e w' => e = .returned (.tuple #[.agg #[.string (bs ([])), .string (bs ([])), .bool false], .int .i64 3]) ∧ Below W.heap.size W w') := fun W hW => by
    have h := mailbox_fun (limText 1 true ++ [64, 98]) (by rw [List.length_append]; simp only [List.length_cons, List.length_nil]; omega) W (hw0 W hW).1 (hw0 W hW).2
    unfold MailOut boxCells at h
    rw [lim_box 1 (by decide) true] at h
    exact h
  have HD1 : Hid (∀ W, Below w.heap.size w W → Calls Tryd.prog 15 #[.string (bs (limLabel ++ Lib.repeatL [98] 1))] W fun e w' => e = .returned (.bool false) ∧ Below W.heap.size W w') := fun W hW => by
    have h := domain_fun (limLabel ++ Lib.repeatL [98] 1) (by omega) W (hw0 W hW).1 (hw0 W hW).2
    rw [lim_label 1 (by decide)] at h
    exact h
  have HD2 : Hid (∀ W, Below w.heap.size w W → Calls Tryd.prog 15 #[.string (bs (limLong 1))] W fun e w' => e = .returned (.bool false) ∧ Below W.heap.size W w') := fun W hW => by
    have h := domain_fun (limLong 1) (by omega) W (hw0 W hW).1 (hw0 W hW).2
    rw [lim_dom 1 (by decide)] at h
    exact h
  obtain ⟨ml, md, mb, HM2⟩ : ∃ l d b, ∀ W, Below w.heap.size w W → Calls Tryd.prog 12 #[.string (bs ([97, 64] ++ limLong 1))] W fun e w' => e = .returned (.tuple #[.agg #[.string (bs l), .string (bs d), .bool b], .int .i64 150]) ∧ Below W.heap.size W w' := ⟨_, _, _, fun W hW => by
    have h := mailbox_fun ([97, 64] ++ limLong 1) (by rw [List.length_append]; simp only [List.length_cons, List.length_nil]; omega) W (hw0 W hW).1 (hw0 W hW).2
    unfold MailOut boxCells at h
    rw [lim_long 1 (by decide)] at h
    exact h⟩
  have HM2 := Lib.hid HM2
  obtain ⟨p, pn, HP⟩ : ∃ (p : Pa) (n : Int), ∀ W, Below w.heap.size w W → Calls Tryd.prog 10 #[.string (bs (limRoute 1))] W fun e w' => ∃ a c, e = .returned (.tuple #[.agg #[.bool p.null, .slice a 0 c, .string (bs p.loc), .string (bs p.dom), .bool p.lit], .int .i64 n, .int .i64 3]) ∧ Below W.heap.size W w' := ⟨(parseP (limRoute 1)).2.1, _, fun W hW => by
    have h := parse_told (limRoute 1) (by omega) W (hw0 W hW)
    unfold paV paCells at h
    rw [(lim_route 1 (by decide)).1, (lim_route 1 (by decide)).2] at h
    exact h.mono fun e w' ⟨a, c, h1, _, h2⟩ => ⟨a, c, h1, h2⟩⟩
  have HP := Lib.hid HP
  clear hs hsq he hw0
  generalize bs (Lib.repeatL [97] 65) = t0 at *
  generalize bs ([34] ++ Lib.repeatL [92, 34] 65) = t1 at *
  generalize bs (Lib.repeatL [92, 34] 65) = t2 at *
  generalize bs (limText 1 true ++ [64, 98]) = t4 at *
  generalize bs (limText 1 true) = t3 at *
  generalize bs (limName 1 true) = t5 at *
  generalize bs (limLabel ++ Lib.repeatL [98] 1) = t6 at *
  generalize bs (Lib.repeatL [98] 1) = t7 at *
  generalize bs (limLong 1) = t8 at *
  generalize bs (limLabel ++ [46] ++ limLabel ++ [46] ++ limLabel ++ [46] ++ limLabel ++ Lib.repeatL [46] 1) = t9 at *
  generalize bs (limLabel ++ [46] ++ limLabel ++ [46] ++ limLabel ++ [46] ++ limLabel) = t10 at *
  generalize bs (limLabel ++ [46] ++ limLabel ++ [46] ++ limLabel ++ [46]) = t11 at *
  generalize bs (limLabel ++ [46] ++ limLabel ++ [46] ++ limLabel) = t12 at *
  generalize bs (limLabel ++ [46] ++ limLabel ++ [46]) = t13 at *
  generalize bs (limLabel ++ [46] ++ limLabel) = t14 at *
  generalize bs (limLabel ++ [46]) = t15 at *
  generalize bs limLabel = t16 at *
  generalize bs (Lib.repeatL [46] 1) = t17 at *
  generalize bs (Lib.repeatL [99] 0) = t18 at *
  generalize bs ([97, 64] ++ limLong 1) = t19 at *
  generalize bs ([60, 64, 120] ++ Lib.repeatL [44, 64, 120] 20) = t20 at *
  generalize bs (Lib.repeatL [44, 64, 120] 20) = t21 at *
  generalize bs (limRoute 1) = t22 at *
  generalize bs p.loc = t23 at *
  generalize bs p.dom = t24 at *
  generalize p.null = t25 at *
  generalize p.lit = t26 at *
  generalize bs ml = t27 at *
  generalize bs md = t28 at *
  have HL0 : Hid (Below w.heap.size w w) := Below.refl _ w
  go_enter Tryd.func6, Tryd.ntmps6
  go_upto_region 7 with (first | (go_at_call 14; (with_reducible refine (HRA.out _).mono ?_); rintro e w1 ⟨rfl, hb⟩; have HL1 := Lib.hid (low_trans HL0.out hb); clear hb HRA) | (go_at_call 14; (with_reducible refine (HRQ.out _).mono ?_); rintro e w2 ⟨rfl, hb⟩; have HL2 := Lib.hid (low_trans HL1.out hb); clear hb HRQ) | (go_at_call 14; (with_reducible refine (HRS.out _).mono ?_); rintro e w3 ⟨rfl, hb⟩; have HL3 := Lib.hid (low_trans HL2.out hb); clear hb HRS) | (go_at_call 12; (with_reducible refine (HM1.out _ HL3.out).mono ?_); rintro e w4 ⟨rfl, hb⟩; have HL4 := Lib.hid (low_trans HL3.out hb); clear hb HM1))
  obtain ⟨W4, hW4⟩ : ∃ W, W = w4.alloc (.cells #[.string (bs []), .string (bs []), .bool false] 24) := ⟨_, rfl⟩
  obtain ⟨g4, hg4⟩ : ∃ g, g = w4.heap.size := ⟨_, rfl⟩
  have HK4 : Hid (Blk W4 g4 24 #[.string (bs []), .string (bs []), .bool false]) := by rw [hW4, hg4]; exact Blk.new _ _ _
  have HL5 : Hid (Below w.heap.size w W4) := low_trans HL4.out (by rw [hW4]; exact (Below.refl _ w4).alloc (Nat.le_refl _) _)
  change Code.wp _ _ _ _ (World.alloc w4 (Obj.cells #[.string (bs []), .string (bs []), .bool false] 24))
  rw [← hW4, ← hg4]
  clear hW4 hg4
  have x4 := HK4.out.cell 0
  simp at x4
  go_upto_region 12 with (first | (go_at_call 14; (with_reducible refine (HRL.out _).mono ?_); rintro e w6 ⟨rfl, hb⟩; have HL6 := Lib.hid (low_trans HL5.out hb); clear hb HRL) | (go_at_call 14; (with_reducible refine (HRB.out _).mono ?_); rintro e w7 ⟨rfl, hb⟩; have HL7 := Lib.hid (low_trans HL6.out hb); clear hb HRB) | (go_at_call 15; (with_reducible refine (HD1.out _ HL7.out).mono ?_); rintro e w8 ⟨rfl, hb⟩; have HL8 := Lib.hid (low_trans HL7.out hb); clear hb HD1))
  go_upto_region 14 with (first | (go_at_call 14; (with_reducible refine (HRD.out _).mono ?_); rintro e w9 ⟨rfl, hb⟩; have HL9 := Lib.hid (low_trans HL8.out hb); clear hb HRD) | (go_at_call 14; (with_reducible refine (HRC.out _).mono ?_); rintro e w10 ⟨rfl, hb⟩; have HL10 := Lib.hid (low_trans HL9.out hb); clear hb HRC) | (go_at_call 12; (with_reducible refine (HM2.out _ HL10.out).mono ?_); rintro e w11 ⟨rfl, hb⟩; have HL11 := Lib.hid (low_trans HL10.out hb); clear hb HM2))
  obtain ⟨W11, hW11⟩ : ∃ W, W = w11.alloc (.cells #[.string t27, .string t28, .bool mb] 24) := ⟨_, rfl⟩
  obtain ⟨g11, hg11⟩ : ∃ g, g = w11.heap.size := ⟨_, rfl⟩
  have HK11 : Hid (Blk W11 g11 24 #[.string t27, .string t28, .bool mb]) := by rw [hW11, hg11]; exact Blk.new _ _ _
  have HL12 : Hid (Below w.heap.size w W11) := low_trans HL11.out (by rw [hW11]; exact (Below.refl _ w11).alloc (Nat.le_refl _) _)
  change Code.wp _ _ _ _ (World.alloc w11 (Obj.cells #[.string t27, .string t28, .bool mb] 24))
  rw [← hW11, ← hg11]
  clear hW11 hg11
  have x11 := HK11.out.cell 0
  simp at x11
  clear x11 HK11
  go_upto_region 15 with (fail)
  obtain ⟨W13, hW13⟩ : ∃ W, W = W11.alloc (.cells #[.int .i64 0, .int .i64 150, .int .i64 3, .int .i64 3] 27) := ⟨_, rfl⟩
  have HL13 : Hid (Below w.heap.size w W13) := low_trans HL12.out (by rw [hW13]; exact (Below.refl _ W11).alloc (Nat.le_refl _) _)
  change Code.wp _ _ _ _ (World.alloc W11 (Obj.cells #[.int .i64 0, .int .i64 150, .int .i64 3, .int .i64 3] 27))
  rw [← hW13]
  clear hW13
  go_upto_region 18 with (first | (go_at_call 15; (with_reducible refine (HD2.out _ HL13.out).mono ?_); rintro e w14 ⟨rfl, hb⟩; have HL14 := Lib.hid (low_trans HL13.out hb); clear hb HD2) | (go_at_call 14; (with_reducible refine (HRR.out _).mono ?_); rintro e w15 ⟨rfl, hb⟩; have HL15 := Lib.hid (low_trans HL14.out hb); clear hb HRR) | (go_at_call 10; (with_reducible refine (HP.out _ HL15.out).mono ?_); rintro e w16 ⟨pa, pc, rfl, hb⟩; have HL16 := Lib.hid (low_trans HL15.out hb); clear hb HP))
  obtain ⟨W16, hW16⟩ : ∃ W, W = w16.alloc (.cells #[.bool t25, .slice pa 0 pc, .string t23, .string t24, .bool t26] 26) := ⟨_, rfl⟩
  obtain ⟨g16, hg16⟩ : ∃ g, g = w16.heap.size := ⟨_, rfl⟩
  have HK16 : Hid (Blk W16 g16 26 #[.bool t25, .slice pa 0 pc, .string t23, .string t24, .bool t26]) := by rw [hW16, hg16]; exact Blk.new _ _ _
  have HL17 : Hid (Below w.heap.size w W16) := low_trans HL16.out (by rw [hW16]; exact (Below.refl _ w16).alloc (Nat.le_refl _) _)
  change Code.wp _ _ _ _ (World.alloc w16 (Obj.cells #[.bool t25, .slice pa 0 pc, .string t23, .string t24, .bool t26] 26))
  rw [← hW16, ← hg16]
  clear hW16 hg16
  have x16 := HK16.out.cell 1
  simp at x16
  go_wp2_with (go_at_call 13; (with_reducible refine (HAW.out _ HL17.out).mono ?_); rintro e wz ⟨rfl, hb⟩; have HLZ := Lib.hid (low_trans HL17.out hb); clear hb)
  exact HQ.out wz HLZ.out

end Go.Proofs.YtjgadocojdieeaaDoor
