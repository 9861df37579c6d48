/-
  The contract of frankinglaw15.PathBack. Conditions: texts of at most 1048576 bytes; the route lies in memory; the library's variable holds some value.
-/
import Derived.Test.YtjgadocojdieeaaDoorPtZh
namespace Go.Proofs.YtjgadocojdieeaaDoor
open Go.RowKit Go.Shelf

theorem print_most {p : Pa} (h : rightD p = true) : (printD p).length ≤ 10000 := by
  obtain ⟨h1, h2, h3, h4⟩ := right_lens h
  unfold printD
  split
  · simp
  · split
    · decide
    · have hb := boxD_most p.loc p.dom p.lit
      have hr : (routeD p.route).length ≤ 6000 := by
        cases hro : p.route with
        | nil => simp [routeD]
        | cons d L =>
          rw [hro] at h3 h4
          have e1 := h4 d (by simp)
          have e2 := hops_most L 255 (fun e he => h4 e (by simp [he]))
          have e3 : L.length ≤ 19 := by simp at h3; omega
          have e4 : L.length * (255 + 2) ≤ 19 * (255 + 2) := Nat.mul_le_mul_right _ e3
          unfold routeD
          simp only [List.length_cons, List.length_append, List.length_nil]
          omega
      simp only [List.length_cons, List.length_append, List.length_nil]
      omega
theorem PaFits.mono {p : Pa} {n m : Nat} (h : PaFits p n) (hm : n ≤ m) : PaFits p m := ⟨Nat.le_trans h.loc hm, Nat.le_trans h.dom hm, fun d hd => Nat.le_trans (h.hops d hd) hm⟩
theorem domB_nil : dB [] = false := by decide +kernel
theorem wordB_nil : wB [] = false := by decide +kernel
theorem box_dom {loc d : List UInt8} {lit : Bool} (h : rightBoxD loc d lit = true) : d ≠ [] := by
  rintro rfl
  unfold rightBoxD toldB fineB at h
  rw [domB_nil, wordB_nil] at h
  simp at h
theorem right_dom {p : Pa} (h : rightD p = true) : decide (p.dom = []) = !rightBoxD p.loc p.dom p.lit := by
  cases hb : rightBoxD p.loc p.dom p.lit with
  | true => rw [decide_eq_false (box_dom hb)]; rfl
  | false =>
    have hd : p.dom = [] := by
      unfold rightD at h
      split at h
      · simp only [Bool.and_eq_true, decide_eq_true_eq] at h
        exact h.2.1.2
      · split at h
        · rename_i _ ha
          unfold aloneB at ha
          simp only [Bool.and_eq_true, decide_eq_true_eq] at ha
          exact ha.1.2
        · simp only [Bool.and_eq_true] at h
          rw [hb] at h
          exact absurd h.2 (by decide)
    rw [decide_eq_true hd]
    rfl
/-- a mailbox that is right is read again as it was printed -/
theorem mailbox_print {loc d : List UInt8} {lit : Bool} (h : rightBoxD loc d lit = true) : mailboxP (boxD loc d lit) = (0, loc, d, lit) := by
  have h1 := box_all (x := []) (box_print h) (stop_nil _) (st0 (boxD loc d lit)) rfl (by rw [List.append_nil]; rfl)
  unfold mailboxP wholeR
  rw [h1]
  rfl
set_option maxRecDepth 100000 in
set_option maxHeartbeats 8000000 in
theorem back_any (p : Pa) (a : Option Addr) (c : Nat) (more : List UInt8) (hc : p.route.length ≤ c) (w : World) (ht : TextsAt w a p.route) (hp : PaFits p 1048576) (hmo : more.length ≤ 1048576) (he : ErrAt w ∧ ErrG < w.heap.size) :
    Calls Tryd.prog 3 #[paV p a c, .string (bs more)] w (SameOut w true) := by
  have hfit : PaFits p 1099511627776 := ⟨by have := hp.loc; omega, by have := hp.dom; omega, fun d hd => by have := hp.hops d hd; omega⟩
  obtain ⟨W1, hW1⟩ : ∃ W1, W1 = w.alloc (.cells (paCells p (.slice a p.route.length c)) 26) := ⟨_, rfl⟩
  obtain ⟨g1, hg1⟩ : ∃ g1, g1 = w.heap.size := ⟨_, rfl⟩
  have hb1 : Below w.heap.size w W1 := by rw [hW1]; exact (Below.refl _ w).alloc (Nat.le_refl _) _
  have hk1 : Blk W1 g1 26 (paCells p (.slice a p.route.length c)) := by rw [hW1, hg1]; exact Blk.new _ _ _
  have HL1 := Lib.hid hb1
  have HT1 : Hid (TextsAt W1 a p.route) := RowAt.below ht hb1
  have HQ : Hid (∀ w', Below w.heap.size w w' → SameOut w true (.returned (.bool true)) w') := fun w' h => ⟨rfl, h⟩
  have HAW := Lib.hid (fun W (hW : Below W1.heap.size W1 W) => awake_any W (ErrAt.later he (low_trans hb1 hW)))
  have HY : Hid (∀ W, Below W1.heap.size W1 W → W.cell? ⟨g1, 0, none⟩ = some (.bool p.null) ∧ W.cell? ⟨g1, 1, none⟩ = some (.slice a p.route.length c) ∧ W.cell? ⟨g1, 2, none⟩ = some (.string (bs p.loc)) ∧ W.cell? ⟨g1, 3, none⟩ = some (.string (bs p.dom)) ∧ W.cell? ⟨g1, 4, none⟩ = some (.bool p.lit)) := fun W hW => by
    have h := hk1.below hW hk1.lt
    exact ⟨h.cell 0, h.cell 1, h.cell 2, h.cell 3, h.cell 4⟩
  obtain ⟨x0, x1, x2, x3, x4⟩ := HY.out W1 (Below.refl _ _)
  generalize SameOut w true = Q at *
  have HRI := Lib.hid (fun W (hW : Below W1.heap.size W1 W) => right_any p a c W (RowAt.below HT1.out hW) hfit (ErrAt.later he (low_trans hb1 hW)))
  have HPR := Lib.hid (fun W (hW : Below W1.heap.size W1 W) => print_any p a c W hc (RowAt.below HT1.out hW) hfit (ErrAt.later he (low_trans hb1 hW)))
  have HPB := Lib.hid (fun W (hW : Below W1.heap.size W1 W) => printBox_any p.loc p.dom p.lit hfit.loc hfit.dom W (ErrAt.later he (low_trans hb1 hW)))
  have HSS := Lib.hid (fun W a6 c6 (hW : Below W1.heap.size W1 W) (h6 : TextsAt W a6 p.route) => same_any p p a a6 c c6 W (RowAt.below HT1.out hW) h6)
  rw [decide_eq_true rfl] at HSS
  unfold PrOut at HPR HPB
  unfold printP at HPR
  unfold printBoxP at HPB
  unfold boxCells at HPB
  unfold paV paCells at HRI HPR HSS ⊢
  unfold paCells at hW1
  have HW1 := Lib.hid hW1
  have HG1 := Lib.hid hg1
  have en : bs [] = (⟨#[]⟩ : ByteArray) := rfl
  have hd0 := toL_eq p.dom []
  have hd1 : (bs p.dom).toList.isEmpty = decide (p.dom = []) := by rw [bs_toL]; cases p.dom <;> rfl
  have HRD : Hid (rightD p = true → decide (p.dom = []) = !rightBoxD p.loc p.dom p.lit) := right_dom
  have HPP : Hid (rightD p = true → ∀ W, Below W1.heap.size W1 W → Calls Tryd.prog 10 #[.string (bs (printD p ++ more))] W fun e w' => ∃ a6 c6, e = .returned (.tuple #[paV p a6 c6, .int .i64 (((printD p).length : Nat) : Int), .int .i64 0]) ∧ TextsAt w' a6 p.route ∧ Below W.heap.size W w') := fun hr W hW => by
    have hm := print_most hr
    have h := parse_told (printD p ++ more) (by rw [List.length_append]; omega) W (ErrAt.later he (low_trans hb1 hW))
    rw [parseP_all (print_path hr) more] at h
    exact h
  have HMB : Hid (rightBoxD p.loc p.dom p.lit = true → ∀ W, Below W1.heap.size W1 W → Calls Tryd.prog 12 #[.string (bs (boxD p.loc p.dom p.lit))] W fun e w' => e = .returned (.tuple #[.agg #[.string (bs p.loc), .string (bs p.dom), .bool p.lit], .int .i64 0]) ∧ Below W.heap.size W w') := fun hr W hW => by
    have hm := boxD_most p.loc p.dom p.lit
    have h1 := hp.loc
    have h2 := hp.dom
    have he2 := ErrAt.later he (low_trans hb1 hW)
    have h := mailbox_fun (boxD p.loc p.dom p.lit) (by omega) W he2.1 he2.2
    unfold MailOut boxCells at h
    rw [mailbox_print hr] at h
    exact h
  have HAD : Hid (rightD p = true → ∀ W, (Op.stringOp .add (bs (printD p)) (bs more)).run Tryd.prog W = .ok (.string (bs (printD p ++ more))) W) := fun hr => by
    have hm := print_most hr
    exact add_bs (printD p) more (by omega)
  unfold paV paCells at HPP
  have hsz : ((bs (printD p)).size : Int) = ((printD p).length : Int) := rfl
  clear hb1 hk1 ht he hp hc hmo hfit hW1 hg1
  cases hr : rightD p with
  | true =>
    rw [hr] at HRI HPR
    rw [if_pos rfl] at HPR
    have HPP := Lib.hid (HPP.out hr)
    have hds := HRD.out hr
    have hadd := HAD.out hr
    clear HRD HAD
    obtain ⟨m, hm⟩ : ∃ m, m = (printD p).length := ⟨_, rfl⟩
    rw [← hm] at HPP hsz
    clear hm
    cases hrb : rightBoxD p.loc p.dom p.lit with
    | true =>
      rw [hrb] at HPB
      rw [if_pos rfl] at HPB
      have HMB := Lib.hid (HMB.out hrb)
      rw [hrb] at hds
      rw [hds] at hd0 hd1
      simp only [Bool.not_true] at hd0 hd1
      clear hrb hr en hds
      generalize bs (printD p ++ more) = TM at *
      generalize bs (printD p) = T at *
      generalize bs (boxD p.loc p.dom p.lit) = TB at *
      generalize bs more = tm at *
      have HB0 : Hid (Below W1.heap.size W1 W1) := Below.refl _ _
      go_enter Tryd.func3, Tryd.ntmps3
      go_upto_region 1 with (fail)
      rw [← HW1.out, ← HG1.out]
      go_upto_region 7 with (first | (go_at_call 7; (with_reducible refine (HPR.out _ HB0.out).mono ?_); rintro e w1 ⟨rfl, hb⟩; have HB1 := Lib.hid (low_trans HB0.out hb); obtain ⟨y1_0, y1_1, y1_2, y1_3, y1_4⟩ := HY.out w1 HB1.out; clear hb HPR x0 x1 x2 x3 x4) | (go_at_call 8; (with_reducible refine (HPB.out _ HB1.out).mono ?_); rintro e w2 ⟨rfl, hb⟩; have HB2 := Lib.hid (low_trans HB1.out hb); obtain ⟨y2_0, y2_1, y2_2, y2_3, y2_4⟩ := HY.out w2 HB2.out; clear hb HPB y1_0 y1_1 y1_2 y1_3 y1_4) | (go_at_call 9; (with_reducible refine (HRI.out _ HB2.out).mono ?_); rintro e w3 ⟨rfl, hb⟩; have HB3 := Lib.hid (low_trans HB2.out hb); obtain ⟨y3_0, y3_1, y3_2, y3_3, y3_4⟩ := HY.out w3 HB3.out; clear hb HRI y2_0 y2_1 y2_2 y2_3 y2_4) | (go_at_call 10; (with_reducible refine (HPP.out _ HB3.out).mono ?_); rintro e w4 ⟨a6, c6, rfl, ht6, hb⟩; have HT6 := Lib.hid ht6; have HB4 := Lib.hid (low_trans HB3.out hb); obtain ⟨y4_0, y4_1, y4_2, y4_3, y4_4⟩ := HY.out w4 HB4.out; clear hb ht6 HPP y3_0 y3_1 y3_2 y3_3 y3_4))
      obtain ⟨W4c, hW⟩ : ∃ W, W = w4.alloc (.cells #[.bool p.null, .slice a6 p.route.length c6, .string (bs p.loc), .string (bs p.dom), .bool p.lit] 26) := ⟨_, rfl⟩
      obtain ⟨G4, hG⟩ : ∃ g, g = w4.heap.size := ⟨_, rfl⟩
      have HK4 : Hid (Blk W4c G4 26 #[.bool p.null, .slice a6 p.route.length c6, .string (bs p.loc), .string (bs p.dom), .bool p.lit]) := by rw [hW, hG]; exact Blk.new _ _ _
      have HA4 : Hid (Below w4.heap.size w4 W4c) := by rw [hW]; exact (Below.refl _ w4).alloc (Nat.le_refl _) _
      have HB5 : Hid (Below W1.heap.size W1 W4c) := low_trans HB4.out HA4.out
      change Code.wp _ _ _ _ (World.alloc w4 (Obj.cells #[.bool p.null, .slice a6 p.route.length c6, .string (bs p.loc), .string (bs p.dom), .bool p.lit] 26))
      rw [← hW, ← hG]
      clear hW hG y4_0 y4_1 y4_2 y4_3 y4_4
      obtain ⟨y5_0, y5_1, y5_2, y5_3, y5_4⟩ := HY.out W4c HB5.out
      have HSM := Lib.hid (HSS.out W4c a6 c6 HB5.out (RowAt.below HT6.out HA4.out))
      have z0 := HK4.out.cell 0
      have z1 := HK4.out.cell 1
      have z2 := HK4.out.cell 2
      have z3 := HK4.out.cell 3
      have z4 := HK4.out.cell 4
      simp at z0 z1 z2 z3 z4
      clear HSS HT6
      go_upto_region 11 with (first | (go_at_call 11; (with_reducible refine HSM.out.mono ?_); rintro e w6 ⟨rfl, hb⟩; have HB6 := Lib.hid (low_trans HB5.out hb); obtain ⟨y6_0, y6_1, y6_2, y6_3, y6_4⟩ := HY.out w6 HB6.out; clear hb HSM z0 z1 z2 z3 z4 y5_0 y5_1 y5_2 y5_3 y5_4) | (go_at_call 12; (with_reducible refine (HMB.out _ HB6.out).mono ?_); rintro e w7 ⟨rfl, hb⟩; have HB7 := Lib.hid (low_trans HB6.out hb); obtain ⟨y7_0, y7_1, y7_2, y7_3, y7_4⟩ := HY.out w7 HB7.out; clear hb HMB y6_0 y6_1 y6_2 y6_3 y6_4))
      obtain ⟨W7c, hW⟩ : ∃ W, W = w7.alloc (.cells #[.string (bs p.loc), .string (bs p.dom), .bool p.lit] 24) := ⟨_, rfl⟩
      obtain ⟨G7, hG⟩ : ∃ g, g = w7.heap.size := ⟨_, rfl⟩
      have HK7 : Hid (Blk W7c G7 24 #[.string (bs p.loc), .string (bs p.dom), .bool p.lit]) := by rw [hW, hG]; exact Blk.new _ _ _
      have HA7 : Hid (Below w7.heap.size w7 W7c) := by rw [hW]; exact (Below.refl _ w7).alloc (Nat.le_refl _) _
      have HB8 : Hid (Below W1.heap.size W1 W7c) := low_trans HB7.out HA7.out
      change Code.wp _ _ _ _ (World.alloc w7 (Obj.cells #[.string (bs p.loc), .string (bs p.dom), .bool p.lit] 24))
      rw [← hW, ← hG]
      clear hW hG y7_0 y7_1 y7_2 y7_3 y7_4
      obtain ⟨y8_0, y8_1, y8_2, y8_3, y8_4⟩ := HY.out W7c HB8.out
      have v0 := HK7.out.cell 0
      have v1 := HK7.out.cell 1
      have v2 := HK7.out.cell 2
      simp at v0 v1 v2
      go_wp2_with (first | (go_at_call 13; (with_reducible refine (HAW.out _ HB8.out).mono ?_); rintro e wz ⟨rfl, hb⟩; have HBZ := Lib.hid (low_trans HB8.out hb); clear hb))
      exact HQ.out _ (low_trans HL1.out HBZ.out)
    | false =>
      rw [hrb] at HPB
      rw [if_neg (by decide), en] at HPB
      clear HMB
      rw [hrb] at hds
      rw [hds] at hd0 hd1
      simp only [Bool.not_false] at hd0 hd1
      clear hrb hr en hds
      generalize bs (printD p ++ more) = TM at *
      generalize bs (printD p) = T at *
      generalize bs more = tm at *
      have HB0 : Hid (Below W1.heap.size W1 W1) := Below.refl _ _
      go_enter Tryd.func3, Tryd.ntmps3
      go_upto_region 1 with (fail)
      rw [← HW1.out, ← HG1.out]
      go_upto_region 7 with (first | (go_at_call 7; (with_reducible refine (HPR.out _ HB0.out).mono ?_); rintro e w1 ⟨rfl, hb⟩; have HB1 := Lib.hid (low_trans HB0.out hb); obtain ⟨y1_0, y1_1, y1_2, y1_3, y1_4⟩ := HY.out w1 HB1.out; clear hb HPR x0 x1 x2 x3 x4) | (go_at_call 8; (with_reducible refine (HPB.out _ HB1.out).mono ?_); rintro e w2 ⟨rfl, hb⟩; have HB2 := Lib.hid (low_trans HB1.out hb); obtain ⟨y2_0, y2_1, y2_2, y2_3, y2_4⟩ := HY.out w2 HB2.out; clear hb HPB y1_0 y1_1 y1_2 y1_3 y1_4) | (go_at_call 9; (with_reducible refine (HRI.out _ HB2.out).mono ?_); rintro e w3 ⟨rfl, hb⟩; have HB3 := Lib.hid (low_trans HB2.out hb); obtain ⟨y3_0, y3_1, y3_2, y3_3, y3_4⟩ := HY.out w3 HB3.out; clear hb HRI y2_0 y2_1 y2_2 y2_3 y2_4) | (go_at_call 10; (with_reducible refine (HPP.out _ HB3.out).mono ?_); rintro e w4 ⟨a6, c6, rfl, ht6, hb⟩; have HT6 := Lib.hid ht6; have HB4 := Lib.hid (low_trans HB3.out hb); obtain ⟨y4_0, y4_1, y4_2, y4_3, y4_4⟩ := HY.out w4 HB4.out; clear hb ht6 HPP y3_0 y3_1 y3_2 y3_3 y3_4))
      obtain ⟨W4c, hW⟩ : ∃ W, W = w4.alloc (.cells #[.bool p.null, .slice a6 p.route.length c6, .string (bs p.loc), .string (bs p.dom), .bool p.lit] 26) := ⟨_, rfl⟩
      obtain ⟨G4, hG⟩ : ∃ g, g = w4.heap.size := ⟨_, rfl⟩
      have HK4 : Hid (Blk W4c G4 26 #[.bool p.null, .slice a6 p.route.length c6, .string (bs p.loc), .string (bs p.dom), .bool p.lit]) := by rw [hW, hG]; exact Blk.new _ _ _
      have HA4 : Hid (Below w4.heap.size w4 W4c) := by rw [hW]; exact (Below.refl _ w4).alloc (Nat.le_refl _) _
      have HB5 : Hid (Below W1.heap.size W1 W4c) := low_trans HB4.out HA4.out
      change Code.wp _ _ _ _ (World.alloc w4 (Obj.cells #[.bool p.null, .slice a6 p.route.length c6, .string (bs p.loc), .string (bs p.dom), .bool p.lit] 26))
      rw [← hW, ← hG]
      clear hW hG y4_0 y4_1 y4_2 y4_3 y4_4
      obtain ⟨y5_0, y5_1, y5_2, y5_3, y5_4⟩ := HY.out W4c HB5.out
      have HSM := Lib.hid (HSS.out W4c a6 c6 HB5.out (RowAt.below HT6.out HA4.out))
      have z0 := HK4.out.cell 0
      have z1 := HK4.out.cell 1
      have z2 := HK4.out.cell 2
      have z3 := HK4.out.cell 3
      have z4 := HK4.out.cell 4
      simp at z0 z1 z2 z3 z4
      clear HSS HT6
      go_wp2_with (first | (go_at_call 11; (with_reducible refine HSM.out.mono ?_); rintro e w6 ⟨rfl, hb⟩; have HB6 := Lib.hid (low_trans HB5.out hb); obtain ⟨y6_0, y6_1, y6_2, y6_3, y6_4⟩ := HY.out w6 HB6.out; clear hb HSM z0 z1 z2 z3 z4 y5_0 y5_1 y5_2 y5_3 y5_4) | (go_at_call 13; (with_reducible refine (HAW.out _ HB6.out).mono ?_); rintro e wz ⟨rfl, hb⟩; have HBZ := Lib.hid (low_trans HB6.out hb); clear hb))
      exact HQ.out _ (low_trans HL1.out HBZ.out)
  | false =>
    rw [hr] at HRI HPR
    rw [if_neg (by decide)] at HPR
    rw [en] at HPR
    clear HPP HRD HAD hsz HSS
    cases hrb : rightBoxD p.loc p.dom p.lit with
    | true =>
      rw [hrb] at HPB
      rw [if_pos rfl] at HPB
      have HMB := Lib.hid (HMB.out hrb)
      clear hrb hr en hd0 hd1
      generalize bs (boxD p.loc p.dom p.lit) = TB at *
      generalize bs more = tm at *
      have HB0 : Hid (Below W1.heap.size W1 W1) := Below.refl _ _
      go_enter Tryd.func3, Tryd.ntmps3
      go_upto_region 1 with (fail)
      rw [← HW1.out, ← HG1.out]
      go_upto_region 11 with (first | (go_at_call 7; (with_reducible refine (HPR.out _ HB0.out).mono ?_); rintro e w1 ⟨rfl, hb⟩; have HB1 := Lib.hid (low_trans HB0.out hb); obtain ⟨y1_0, y1_1, y1_2, y1_3, y1_4⟩ := HY.out w1 HB1.out; clear hb HPR x0 x1 x2 x3 x4) | (go_at_call 8; (with_reducible refine (HPB.out _ HB1.out).mono ?_); rintro e w2 ⟨rfl, hb⟩; have HB2 := Lib.hid (low_trans HB1.out hb); obtain ⟨y2_0, y2_1, y2_2, y2_3, y2_4⟩ := HY.out w2 HB2.out; clear hb HPB y1_0 y1_1 y1_2 y1_3 y1_4) | (go_at_call 9; (with_reducible refine (HRI.out _ HB2.out).mono ?_); rintro e w3 ⟨rfl, hb⟩; have HB3 := Lib.hid (low_trans HB2.out hb); obtain ⟨y3_0, y3_1, y3_2, y3_3, y3_4⟩ := HY.out w3 HB3.out; clear hb HRI y2_0 y2_1 y2_2 y2_3 y2_4) | (go_at_call 12; (with_reducible refine (HMB.out _ HB3.out).mono ?_); rintro e w4 ⟨rfl, hb⟩; have HB4 := Lib.hid (low_trans HB3.out hb); obtain ⟨y4_0, y4_1, y4_2, y4_3, y4_4⟩ := HY.out w4 HB4.out; clear hb HMB y3_0 y3_1 y3_2 y3_3 y3_4))
      obtain ⟨W4c, hW⟩ : ∃ W, W = w4.alloc (.cells #[.string (bs p.loc), .string (bs p.dom), .bool p.lit] 24) := ⟨_, rfl⟩
      obtain ⟨G4, hG⟩ : ∃ g, g = w4.heap.size := ⟨_, rfl⟩
      have HK4 : Hid (Blk W4c G4 24 #[.string (bs p.loc), .string (bs p.dom), .bool p.lit]) := by rw [hW, hG]; exact Blk.new _ _ _
      have HA4 : Hid (Below w4.heap.size w4 W4c) := by rw [hW]; exact (Below.refl _ w4).alloc (Nat.le_refl _) _
      have HB5 : Hid (Below W1.heap.size W1 W4c) := low_trans HB4.out HA4.out
      change Code.wp _ _ _ _ (World.alloc w4 (Obj.cells #[.string (bs p.loc), .string (bs p.dom), .bool p.lit] 24))
      rw [← hW, ← hG]
      clear hW hG y4_0 y4_1 y4_2 y4_3 y4_4
      obtain ⟨y5_0, y5_1, y5_2, y5_3, y5_4⟩ := HY.out W4c HB5.out
      have v0 := HK4.out.cell 0
      have v1 := HK4.out.cell 1
      have v2 := HK4.out.cell 2
      simp at v0 v1 v2
      go_wp2_with (first | (go_at_call 13; (with_reducible refine (HAW.out _ HB5.out).mono ?_); rintro e wz ⟨rfl, hb⟩; have HBZ := Lib.hid (low_trans HB5.out hb); clear hb))
      exact HQ.out _ (low_trans HL1.out HBZ.out)
    | false =>
      rw [hrb] at HPB
      rw [if_neg (by decide), en] at HPB
      clear HMB
      clear hrb hr en hd0 hd1
      generalize bs more = tm at *
      have HB0 : Hid (Below W1.heap.size W1 W1) := Below.refl _ _
      go_enter Tryd.func3, Tryd.ntmps3
      go_upto_region 1 with (fail)
      rw [← HW1.out, ← HG1.out]
      go_wp2_with (first | (go_at_call 7; (with_reducible refine (HPR.out _ HB0.out).mono ?_); rintro e w1 ⟨rfl, hb⟩; have HB1 := Lib.hid (low_trans HB0.out hb); obtain ⟨y1_0, y1_1, y1_2, y1_3, y1_4⟩ := HY.out w1 HB1.out; clear hb HPR x0 x1 x2 x3 x4) | (go_at_call 8; (with_reducible refine (HPB.out _ HB1.out).mono ?_); rintro e w2 ⟨rfl, hb⟩; have HB2 := Lib.hid (low_trans HB1.out hb); obtain ⟨y2_0, y2_1, y2_2, y2_3, y2_4⟩ := HY.out w2 HB2.out; clear hb HPB y1_0 y1_1 y1_2 y1_3 y1_4) | (go_at_call 9; (with_reducible refine (HRI.out _ HB2.out).mono ?_); rintro e w3 ⟨rfl, hb⟩; have HB3 := Lib.hid (low_trans HB2.out hb); obtain ⟨y3_0, y3_1, y3_2, y3_3, y3_4⟩ := HY.out w3 HB3.out; clear hb HRI y2_0 y2_1 y2_2 y2_3 y2_4) | (go_at_call 13; (with_reducible refine (HAW.out _ HB3.out).mono ?_); rintro e wz ⟨rfl, hb⟩; have HBZ := Lib.hid (low_trans HB3.out hb); clear hb))
      exact HQ.out _ (low_trans HL1.out HBZ.out)
end Go.Proofs.YtjgadocojdieeaaDoor
