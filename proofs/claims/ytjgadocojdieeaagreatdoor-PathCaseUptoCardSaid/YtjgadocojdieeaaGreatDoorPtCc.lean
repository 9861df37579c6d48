/-
  The contract of frankinglaw15.PathCase. Conditions: texts of at most 1048576 bytes; the route and the numbers lie in memory; the library's variable holds some value.
-/
import Derived.Test.YtjgadocojdieeaaGreatDoorPtCb
namespace Go.Proofs.YtjgadocojdieeaaGreatDoor
open Go.RowKit Go.Shelf

theorem str_from (s : List UInt8) (j : Nat) (hj : j ≤ s.length) (W : World) : (Instr.slice 9 (.string (bs s)) (some (.int .i64 (j : Int))) none none).run Tryz.prog W = .ok (.string (bs (s.drop j))) W := by
  rw [run_slice_string_l W 9 (bs s) Tryz.underlying9 .i64 (j : Int) (by omega) (by rw [bs_size]; omega)]
  congr 2
  simp only [Int.toNat_natCast]
  have : ((bs s).extract j (bs s).size).data = (bs (s.drop j)).data := by
    rw [ByteArray.data_extract, bs_size]
    apply Array.toList_inj.1
    simp [bs, List.extract_eq_take_drop]
    exact List.take_of_length_le (by simp)
  cases h1 : (bs s).extract j (bs s).size
  rw [h1] at this
  cases h2 : bs (s.drop j)
  rw [h2] at this
  simp only at this
  rw [this]
theorem str_mid (s : List UInt8) (i j : Nat) (hi : i ≤ j) (hj : j ≤ s.length) (W : World) : (Instr.slice 9 (.string (bs s)) (some (.int .i64 (i : Int))) (some (.int .i64 (j : Int))) none).run Tryz.prog W = .ok (.string (bs ((s.take j).drop i))) W := by
  rw [run_slice_string W 9 (bs s) .i64 .i64 (i : Int) (j : Int) Tryz.underlying9 (by omega) (by omega) (by rw [bs_size]; omega)]
  congr 2
  simp only [Int.toNat_natCast]
  have : ((bs s).extract i j).data = (bs ((s.take j).drop i)).data := by
    rw [ByteArray.data_extract]
    apply Array.toList_inj.1
    simp [bs, List.extract_eq_take_drop, List.drop_take]
  cases h1 : (bs s).extract i j
  rw [h1] at this
  cases h2 : bs ((s.take j).drop i)
  rw [h2] at this
  simp only at this
  rw [this]
theorem below_drew {B : Nat} {a w : World} (h : Below B a w) : Below B a w.drew := ⟨h.os, h.tape, h.output, h.size, h.block⟩
theorem notB_ascii : ∀ c, notB c = false → c.toNat < 128 := all_u8 (by decide +kernel)
theorem right_ascii {p : Pa} (h : rightD p = true) (hn : p.null = false) : ∀ c ∈ p.loc, c.toNat < 128 := by
  cases ha : aloneB p with
  | true =>
    unfold aloneB at ha
    simp only [Bool.and_eq_true, decide_eq_true_eq] at ha
    rw [ha.1.1]
    decide
  | false =>
    have hb := (right_short h hn ha).2
    unfold rightBoxD at hb
    simp only [Bool.and_eq_true, Bool.not_eq_true'] at hb
    have h2 := hb.1.2
    rw [List.any_eq_false] at h2
    exact fun c hc => notB_ascii c (by simpa using h2 c hc)
theorem print_ne {p : Pa} (h : rightD p = true) : (printD p).isEmpty = false := by
  obtain ⟨m, e⟩ := path_ends (print_path h)
  rw [e]
  rfl
theorem turn_gt (bl u : List UInt8) : turnD bl (u ++ [62]) = turnD bl u ++ [62] := by
  unfold turnD
  rw [List.mapIdx_append]
  congr 1
/-- the text of a path that has a domain, in its pieces -/
theorem print_parts {p : Pa} (hn : p.null = false) (ha : aloneB p = false) : printD p = 60 :: (routeD p.route ++ locD p.loc) ++ 64 :: (domD p.dom p.lit ++ [62]) := by
  unfold printD boxD
  rw [if_neg (by rw [hn]; decide), if_neg (by rw [ha]; decide)]
  simp
set_option maxRecDepth 100000 in
set_option maxHeartbeats 8000000 in
theorem case_any (p : Pa) (a : Option Addr) (c : Nat) (bl : List UInt8) (ab : Option Addr) (cb : Nat) (hc : p.route.length ≤ c) (w : World) (ht : TextsAt w a p.route) (hbl : BytesAt w ab bl) (hp : PaFits p 1048576) (he : ErrAt w ∧ ErrG < w.heap.size) :
    Calls Tryz.prog 4 #[paV p a c, .slice ab bl.length cb] w (SameOut w true) := by
  have hfit : PaFits p 1099511627776 := hp.mono (by omega)
  obtain ⟨W1, hW1⟩ : ∃ W1, W1 = w.alloc (.cells (paCells p (.slice a p.route.length c)) 26) := ⟨_, rfl⟩
  obtain ⟨g1, hg1⟩ : ∃ g1, g1 = w.heap.size := ⟨_, rfl⟩
  have hb1 : Below w.heap.size w W1 := by rw [hW1]; exact (Below.refl _ w).alloc (Nat.le_refl _) _
  have hk1 : Blk W1 g1 26 (paCells p (.slice a p.route.length c)) := by rw [hW1, hg1]; exact Blk.new _ _ _
  have HL1 := Lib.hid hb1
  have HT1 : Hid (TextsAt W1 a p.route) := RowAt.below ht hb1
  have HBL : Hid (BytesAt W1 ab bl) := RowAt.below hbl hb1
  have HQ : Hid (∀ w', Below w.heap.size w w' → SameOut w true (.returned (.bool true)) w') := fun w' h => ⟨rfl, h⟩
  have HAW := Lib.hid (fun W (hW : Below W1.heap.size W1 W) => awake_any W (ErrAt.later he (low_trans hb1 hW)))
  have HY : Hid (∀ W, Below W1.heap.size W1 W → W.cell? ⟨g1, 0, none⟩ = some (.bool p.null) ∧ W.cell? ⟨g1, 1, none⟩ = some (.slice a p.route.length c) ∧ W.cell? ⟨g1, 2, none⟩ = some (.string (bs p.loc)) ∧ W.cell? ⟨g1, 3, none⟩ = some (.string (bs p.dom)) ∧ W.cell? ⟨g1, 4, none⟩ = some (.bool p.lit)) := fun W hW => by
    have h := hk1.below hW hk1.lt
    exact ⟨h.cell 0, h.cell 1, h.cell 2, h.cell 3, h.cell 4⟩
  obtain ⟨x0, x1, x2, x3, x4⟩ := HY.out W1 (Below.refl _ _)
  generalize SameOut w true = Q at *
  have HPR := Lib.hid (fun W (hW : Below W1.heap.size W1 W) => print_any p a c W hc (RowAt.below HT1.out hW) hfit (ErrAt.later he (low_trans hb1 hW)))
  have HSS := Lib.hid (fun W a6 c6 (hW : Below W1.heap.size W1 W) (h6 : TextsAt W a6 p.route) => same_any p p a a6 c c6 W (RowAt.below HT1.out hW) h6)
  rw [decide_eq_true rfl] at HSS
  have HTU := Lib.hid (fun l (hl : l.length ≤ 1099511627776) W (hW : Below W1.heap.size W1 W) => turned_any bl l hl ab cb W (RowAt.below HBL.out hW))
  have HLO := Lib.hid (fun (h : rightBoxD p.loc p.dom p.lit = true) W (hW : Below W1.heap.size W1 W) => locOf_any p a c h W (ErrAt.later he (low_trans hb1 hW)))
  have HEE := Lib.hid (fun W (hW : Below W1.heap.size W1 W) => ErrAt.later he (low_trans hb1 hW))
  unfold PrOut at HPR
  unfold printP at HPR
  unfold paV paCells at HPR HSS HLO ⊢
  unfold paCells at hW1
  have HW1 := Lib.hid hW1
  have HG1 := Lib.hid hg1
  have en : bs [] = (⟨#[]⟩ : ByteArray) := rfl
  have HB0 : Hid (Below W1.heap.size W1 W1) := Below.refl _ _
  clear hb1 hk1 ht hbl he hW1 hg1
  obtain ⟨nb, hnb⟩ : ∃ nb, nb = bl.length := ⟨_, rfl⟩
  rw [← hnb] at HTU ⊢
  clear hnb
  cases hr : rightD p with
  | false =>
    rw [hr] at HPR
    rw [if_neg (by decide), en] at HPR
    clear hr hc hp hfit HTU HLO HSS HT1 HBL HEE
    go_enter Tryz.func4, Tryz.ntmps4
    go_upto_region 1 with (fail)
    rw [← HW1.out, ← HG1.out]
    go_wp2_with (first | (go_at_call 17; (with_reducible refine (HPR.out _ HB0.out).mono ?_); rintro e w1 ⟨rfl, hb⟩; have HB1 := Lib.hid (low_trans HB0.out hb); clear hb HPR) | (go_at_call 5; (with_reducible refine (HAW.out _ HB1.out).mono ?_); rintro e wz ⟨rfl, hb⟩; have HBZ := Lib.hid (low_trans HB1.out hb); clear hb))
    exact HQ.out _ (low_trans HL1.out HBZ.out)
  | true =>
    rw [hr] at HPR
    rw [if_pos rfl] at HPR
    cases hn : p.null with
    | true =>
      rw [hn] at HPR HY x0
      have HW1' := HW1.out
      rw [hn] at HW1'
      have HW1 := Lib.hid HW1'
      clear HW1' hr hc hp hfit HTU HLO HSS HT1 HBL HEE
      generalize bs (printD p) = T at *
      go_enter Tryz.func4, Tryz.ntmps4
      go_upto_region 1 with (fail)
      rw [← HW1.out, ← HG1.out]
      go_wp2_with (first | (go_at_call 17; (with_reducible refine (HPR.out _ HB0.out).mono ?_); rintro e w1 ⟨rfl, hb⟩; have HB1 := Lib.hid (low_trans HB0.out hb); obtain ⟨y0, y1, y2, y3, y4⟩ := HY.out w1 HB1.out; clear hb HPR x0 x1 x2 x3 x4) | (go_at_call 5; (with_reducible refine (HAW.out _ HB1.out).mono ?_); rintro e wz ⟨rfl, hb⟩; have HBZ := Lib.hid (low_trans HB1.out hb); clear hb))
      exact HQ.out _ (low_trans HL1.out HBZ.out)
    | false =>
      rw [hn] at HPR HY x0 HSS HLO
      have HW1' := HW1.out
      rw [hn] at HW1'
      have HW1 := Lib.hid HW1'
      clear HW1'
      obtain ⟨l1, l2, l3, l4⟩ := right_lens hr
      have hpm := print_most hr
      obtain ⟨U, hU⟩ : ∃ U, U = Lib.toUpperA p.loc := ⟨_, rfl⟩
      have hUl : U.length = p.loc.length := by rw [hU]; exact upper_len _
      have HUP : Hid (∀ W, Calls Tryz.prog 25 #[.string (bs p.loc)] W fun e w' => e = .returned (.string (bs U)) ∧ Below W.heap.size W w') := fun W => by rw [hU]; exact upper_any p.loc (by omega) (right_ascii hr hn) W
      obtain ⟨G, hG⟩ : ∃ G : Pa, G = { p with loc := U } := ⟨_, rfl⟩
      have hGf : PaFits G 1099511627776 := by rw [hG]; exact ⟨by show U.length ≤ _; omega, hfit.dom, hfit.hops⟩
      have hGr : G.route = p.route := by rw [hG]
      have hGn : G.null = false := by rw [hG]; exact hn
      have hGl : G.loc = U := by rw [hG]
      have hGd : G.dom = p.dom := by rw [hG]
      have hGi : G.lit = p.lit := by rw [hG]
      have HPG := Lib.hid (fun W (hW : Below W1.heap.size W1 W) => print_any G a c W (by rw [hGr]; exact hc) (by rw [hGr]; exact RowAt.below HT1.out hW) hGf (HEE.out W hW))
      unfold PrOut paV paCells at HPG
      rw [hGr, hGn, hGl, hGd, hGi] at HPG
      unfold printP at HPG
      have HWAY : Hid ((U = p.loc ∧ rightD G = true ∧ printD G = printD p) ∨ (U ≠ p.loc ∧ rightD G = false) ∨ (U ≠ p.loc ∧ rightD G = true ∧ printD G ≠ printD p)) := by
        show _ ∨ _
        by_cases hu : U = p.loc
        · have e : G = p := by rw [hG, hu]
          exact .inl ⟨hu, by rw [e]; exact hr, by rw [e]⟩
        · cases hgr : rightD G with
          | false => exact .inr (.inl ⟨hu, rfl⟩)
          | true => exact .inr (.inr ⟨hu, rfl, fun e => hu (by rw [← hGl, print_inj hgr hr e])⟩)
      clear hU hUl hG hGf hGr hGn hGl hGd hGi
      obtain ⟨T, hT⟩ : ∃ T, T = bs (printD p) := ⟨_, rfl⟩
      have HTT := Lib.hid hT
      have hsz : T.size = (printD p).length := by rw [hT]; rfl
      have hne : T.toList.isEmpty = false := by rw [hT, bs_toL]; exact print_ne hr
      have hne2 : (T.toList == (⟨#[]⟩ : ByteArray).toList) = false := by rw [hT]; exact (toL_eq (printD p) []).trans (decide_eq_false (fun e => by have := print_ne hr; rw [e] at this; cases this))
      rw [← hT] at HPR
      cases hal : aloneB p with
      | true =>
        have hpl : printD p = aloneT := by unfold printD; rw [if_neg (by rw [hn]; decide), if_pos hal]
        have hpe : p = { loc := postP } := by
          refine pa_alone hn hal ?_
          unfold rightD at hr
          rw [if_neg (by rw [hn]; decide), if_pos hal] at hr
          simpa using hr
        have HLI : Hid (∀ W, Calls Tryz.prog 21 #[.string T, .string ⟨#[64]⟩] W fun e w' => e = .returned (.int .i64 (-1)) ∧ w' = W) := fun W => by
          have h := last_any (printD p) (by omega) W
          rw [last_none (printD p) (by rw [hpl]; decide), ← hT] at h
          exact h
        have hs1 : ∀ W, (Instr.slice 9 (.string T) (some (.int .i64 1)) none none).run Tryz.prog W = .ok (.string (bs ((printD p).drop 1))) W := fun W => by
          rw [hT]
          exact str_from (printD p) 1 (by rw [hpl]; decide) W
        have HU1 : Hid (∀ W, Below W1.heap.size W1 W → Calls Tryz.prog 22 #[.string (bs ((printD p).drop 1)), .slice ab nb cb] W fun e w' => e = .returned (.string (bs (turnD bl ((printD p).drop 1)))) ∧ Below W.heap.size W w') := HTU.out _ (by rw [List.length_drop]; omega)
        have ha1 : ∀ W, (Op.stringOp .add ⟨#[60]⟩ (bs (turnD bl ((printD p).drop 1)))).run Tryz.prog W = .ok (.string (bs ([60] ++ turnD bl ((printD p).drop 1)))) W := add_bs [60] _ (by rw [turn_len, List.length_drop]; simp; omega)
        have hlow : low ([60] ++ turnD bl ((printD p).drop 1)) = aloneT := by
          rw [low_app, turn_low, hpl]
          decide
        have HPP : Hid (∀ W, Below W1.heap.size W1 W → Calls Tryz.prog 6 #[.string (bs ([60] ++ turnD bl ((printD p).drop 1)))] W fun e w' => ∃ a6 c6, e = .returned (.tuple #[.agg #[.bool false, .slice a6 p.route.length c6, .string (bs p.loc), .string (bs p.dom), .bool p.lit], .int .i64 (((printD p).length : Nat) : Int), .int .i64 0]) ∧ TextsAt w' a6 p.route ∧ Below W.heap.size W w') := fun W hW => by
          have hlen : ([60] ++ turnD bl ((printD p).drop 1)).length = (printD p).length := by rw [List.length_append, turn_len, hpl]; decide
          have h := parse_told ([60] ++ turnD bl ((printD p).drop 1)) (by omega) W (HEE.out W hW)
          have e := parseP_all (.inr (.inl ⟨hlow, hpe, rfl⟩) : PathT ([60] ++ turnD bl ((printD p).drop 1)) p false) []
          rw [List.append_nil] at e
          rw [e] at h
          unfold paV paCells at h
          rw [hn, hlen] at h
          exact h
        have hmz : (((printD p).length : Nat) : Int) ≤ 10000 := by omega
        clear hr hn hc hp hfit HTU HLO HT1 HBL HEE l1 l2 l3 l4 hpm hT hpl hpe hlow hal
        generalize bs ([60] ++ turnD bl ((printD p).drop 1)) = T3 at *
        generalize bs (turnD bl ((printD p).drop 1)) = T2 at *
        generalize bs ((printD p).drop 1) = T1 at *
        generalize hmm : (printD p).length = m at *
        clear hmm
        go_enter Tryz.func4, Tryz.ntmps4
        go_upto_region 1 with (fail)
        rw [← HW1.out, ← HG1.out]
        go_upto_region 12 with (first | (go_at_call 17; (with_reducible refine (HPR.out _ HB0.out).mono ?_); rintro e w1 ⟨rfl, hb⟩; have HB1 := Lib.hid (low_trans HB0.out hb); obtain ⟨y1_0, y1_1, y1_2, y1_3, y1_4⟩ := HY.out w1 HB1.out; clear hb HPR x0 x1 x2 x3 x4) | (go_at_call 21; (with_reducible refine (HLI.out _).mono ?_); rintro e wq ⟨rfl, rfl⟩; clear HLI) | (go_at_call 22; (with_reducible refine (HU1.out _ HB1.out).mono ?_); rintro e w2 ⟨rfl, hb⟩; have HB2 := Lib.hid (low_trans HB1.out hb); obtain ⟨y2_0, y2_1, y2_2, y2_3, y2_4⟩ := HY.out w2 HB2.out; clear hb HU1 y1_0 y1_1 y1_2 y1_3 y1_4) | (go_at_call 6; (with_reducible refine (HPP.out _ HB2.out).mono ?_); rintro e w3 ⟨a6, c6, rfl, ht6, hb⟩; have HB3 := Lib.hid (low_trans HB2.out hb); obtain ⟨y3_0, y3_1, y3_2, y3_3, y3_4⟩ := HY.out w3 HB3.out; have HT6 := Lib.hid ht6; clear ht6; clear hb HPP y2_0 y2_1 y2_2 y2_3 y2_4))
        obtain ⟨W3c, hW⟩ : ∃ W, W = w3.alloc (.cells #[.bool false, .slice a6 p.route.length c6, .string (bs p.loc), .string (bs p.dom), .bool p.lit] 26) := ⟨_, rfl⟩
        obtain ⟨G3, hG⟩ : ∃ g, g = w3.heap.size := ⟨_, rfl⟩
        have HK3 : Hid (Blk W3c G3 26 #[.bool false, .slice a6 p.route.length c6, .string (bs p.loc), .string (bs p.dom), .bool p.lit]) := by rw [hW, hG]; exact Blk.new _ _ _
        have HA3 : Hid (Below w3.heap.size w3 W3c) := by rw [hW]; exact (Below.refl _ w3).alloc (Nat.le_refl _) _
        have HGE3 : Hid (W1.heap.size ≤ G3) := by rw [hG]; exact HB3.out.size
        have HB4 : Hid (Below W1.heap.size W1 W3c) := low_trans HB3.out HA3.out
        change Code.wp _ _ _ _ (World.alloc w3 (Obj.cells #[.bool false, .slice a6 p.route.length c6, .string (bs p.loc), .string (bs p.dom), .bool p.lit] 26))
        rw [← hW, ← hG]
        clear hW hG y3_0 y3_1 y3_2 y3_3 y3_4
        obtain ⟨y4_0, y4_1, y4_2, y4_3, y4_4⟩ := HY.out W3c HB4.out
        have HSM := Lib.hid (HSS.out W3c a6 c6 HB4.out (RowAt.below HT6.out HA3.out))
        have z0 := HK3.out.cell 0
        have z1 := HK3.out.cell 1
        have z2 := HK3.out.cell 2
        have z3 := HK3.out.cell 3
        have z4 := HK3.out.cell 4
        simp at z0 z1 z2 z3 z4
        clear HSS HT6
        go_upto_region 15 with (first | (go_at_call 8; (with_reducible refine (HSM.out).mono ?_); rintro e w5 ⟨rfl, hb⟩; have HB5 := Lib.hid (low_trans HB4.out hb); obtain ⟨y5_0, y5_1, y5_2, y5_3, y5_4⟩ := HY.out w5 HB5.out; clear hb HSM z0 z1 z2 z3 z4 y4_0 y4_1 y4_2 y4_3 y4_4))
        obtain ⟨W5c, hW⟩ : ∃ W, W = w5.alloc (.cells #[.bool false, .slice a p.route.length c, .string (bs p.loc), .string (bs p.dom), .bool p.lit] 26) := ⟨_, rfl⟩
        obtain ⟨G5, hG⟩ : ∃ g, g = w5.heap.size := ⟨_, rfl⟩
        have HK5 : Hid (Blk W5c G5 26 #[.bool false, .slice a p.route.length c, .string (bs p.loc), .string (bs p.dom), .bool p.lit]) := by rw [hW, hG]; exact Blk.new _ _ _
        have HA5 : Hid (Below w5.heap.size w5 W5c) := by rw [hW]; exact (Below.refl _ w5).alloc (Nat.le_refl _) _
        have HGE5 : Hid (W1.heap.size ≤ G5) := by rw [hG]; exact HB5.out.size
        have HB6 : Hid (Below W1.heap.size W1 W5c) := low_trans HB5.out HA5.out
        change Code.wp _ _ _ _ (World.alloc w5 (Obj.cells #[.bool false, .slice a p.route.length c, .string (bs p.loc), .string (bs p.dom), .bool p.lit] 26))
        rw [← hW, ← hG]
        clear hW hG y5_0 y5_1 y5_2 y5_3 y5_4
        obtain ⟨y6_0, y6_1, y6_2, y6_3, y6_4⟩ := HY.out W5c HB6.out
        go_upto_region 16 with (go_at_call 25; refine (HUP.out _).mono ?_; rintro e w7 ⟨rfl, hb⟩; have HK7 := Lib.hid (HK5.out.below hb HK5.out.lt); have HB7 := Lib.hid (low_trans HB6.out hb); obtain ⟨y7_0, y7_1, y7_2, y7_3, y7_4⟩ := HY.out w7 HB7.out; have fz := HK7.out.frozen 2; have cz := HK7.out.cell 2; simp at cz; clear hb HUP y6_0 y6_1 y6_2 y6_3 y6_4)
        obtain ⟨WS, hWS⟩ : ∃ W, W = w7.setCell ⟨G5, 2, none⟩ (.string (bs U)) := ⟨_, rfl⟩
        have HKS : Hid (Blk WS G5 26 #[.bool false, .slice a p.route.length c, .string (bs U), .string (bs p.dom), .bool p.lit]) := by rw [hWS]; exact HK7.out.set_ 2 _
        have HBS : Hid (Below W1.heap.size W1 WS) := by rw [hWS]; exact HB7.out.setCell (p := ⟨G5, 2, none⟩) HGE5.out _
        rw [← hWS]
        clear hWS fz cz y7_0 y7_1 y7_2 y7_3 y7_4
        obtain ⟨s0, s1, s2, s3, s4⟩ := HY.out WS HBS.out
        have HZ : Hid (∀ W, Below WS.heap.size WS W → W.cell? ⟨G5, 2, none⟩ = some (.string (bs U))) := fun W hW => by rw [(HKS.out.below hW HKS.out.lt).cell 2]; rfl
        have v0 := HKS.out.cell 0
        have v1 := HKS.out.cell 1
        have v2 := HKS.out.cell 2
        have v3 := HKS.out.cell 3
        have v4 := HKS.out.cell 4
        simp at v0 v1 v2 v3 v4
        have hxu := toL_eq U p.loc
        rcases HWAY.out with ⟨k1, k2, k3⟩ | ⟨k1, k2⟩ | ⟨k1, k2, k3⟩
        · rw [if_pos k2, k3, ← HTT.out] at HPG
          rw [decide_eq_true k1] at hxu
          clear k1 k2 k3
          generalize bs U = TU at *
          generalize bs p.loc = TP at *
          go_wp2_with (first | (go_at_call 17; (with_reducible refine (HPG.out _ HBS.out).mono ?_); rintro e wp ⟨rfl, hb⟩; have HBP := Lib.hid (low_trans HBS.out hb); obtain ⟨t0, t1, t2, t3, t4⟩ := HY.out wp HBP.out; have u2 := HZ.out wp hb; clear hb HPG v0 v1 v2 v3 v4 s0 s1 s2 s3 s4) | (go_at_call 5; (with_reducible refine (HAW.out _ HBP.out).mono ?_); rintro e wz ⟨rfl, hb⟩; have HBZ := Lib.hid (low_trans HBP.out hb); clear hb))
          exact HQ.out _ (low_trans HL1.out HBZ.out)
        · rw [if_neg (by rw [k2]; decide), en] at HPG
          rw [decide_eq_false k1] at hxu
          clear k1 k2
          generalize bs U = TU at *
          generalize bs p.loc = TP at *
          go_wp2_with (first | (go_at_call 17; (with_reducible refine (HPG.out _ HBS.out).mono ?_); rintro e wp ⟨rfl, hb⟩; have HBP := Lib.hid (low_trans HBS.out hb); obtain ⟨t0, t1, t2, t3, t4⟩ := HY.out wp HBP.out; have u2 := HZ.out wp hb; clear hb HPG v0 v1 v2 v3 v4 s0 s1 s2 s3 s4) | (go_at_call 5; (with_reducible refine (HAW.out _ HBP.out).mono ?_); rintro e wz ⟨rfl, hb⟩; have HBZ := Lib.hid (low_trans HBP.out hb); clear hb))
          exact HQ.out _ (low_trans HL1.out HBZ.out)
        · rw [if_pos k2] at HPG
          rw [decide_eq_false k1] at hxu
          have hxt := toL_eq (printD G) (printD p)
          rw [decide_eq_false k3, ← HTT.out] at hxt
          clear k1 k2 k3
          generalize bs (printD G) = TG at *
          generalize bs U = TU at *
          generalize bs p.loc = TP at *
          go_wp2_with (first | (go_at_call 17; (with_reducible refine (HPG.out _ HBS.out).mono ?_); rintro e wp ⟨rfl, hb⟩; have HBP := Lib.hid (low_trans HBS.out hb); obtain ⟨t0, t1, t2, t3, t4⟩ := HY.out wp HBP.out; have u2 := HZ.out wp hb; clear hb HPG v0 v1 v2 v3 v4 s0 s1 s2 s3 s4) | (go_at_call 5; (with_reducible refine (HAW.out _ HBP.out).mono ?_); rintro e wz ⟨rfl, hb⟩; have HBZ := Lib.hid (low_trans HBP.out hb); clear hb))
          exact HQ.out _ (low_trans HL1.out HBZ.out)
      | false =>
        obtain ⟨l, hl⟩ : ∃ l, l = locD p.loc := ⟨_, rfl⟩
        obtain ⟨rt, hrt⟩ : ∃ rt, rt = routeD p.route := ⟨_, rfl⟩
        obtain ⟨u, hu⟩ : ∃ u, u = domD p.dom p.lit := ⟨_, rfl⟩
        have hrb := (right_short hr hn hal).2
        have hparts : printD p = 60 :: (rt ++ l) ++ 64 :: (u ++ [62]) := by rw [hl, hrt, hu]; exact print_parts hn hal
        have hnu : ∀ c ∈ u ++ [62], c ≠ 64 := fun c hc => by
          rcases List.mem_append.1 hc with hc | hc
          · rw [hu] at hc; exact noat_domD (dom_print hrb).2 c hc
          · have : c = 62 := by simpa using hc
            rw [this]; decide
        obtain ⟨A, hA⟩ : ∃ A, A = (60 :: (rt ++ l)).length := ⟨_, rfl⟩
        have hpl : (printD p).length = A + (u.length + 2) := by rw [hparts, List.length_append, ← hA]; simp
        have HLI : Hid (∀ W, Calls Tryz.prog 21 #[.string T, .string ⟨#[64]⟩] W fun e w' => e = .returned (.int .i64 (A : Int)) ∧ w' = W) := fun W => by
          have h := last_any (printD p) (by omega) W
          rw [← hT, hT, hparts, last_at (60 :: (rt ++ l)) (u ++ [62]) hnu, ← hparts, ← hT, ← hA] at h
          exact h
        have hs1 : ∀ W, (Instr.slice 9 (.string T) (some (.int .i64 1)) none none).run Tryz.prog W = .ok (.string (bs ((printD p).drop 1))) W := fun W => by
          rw [hT]
          exact str_from (printD p) 1 (by omega) W
        have HU1 : Hid (∀ W, Below W1.heap.size W1 W → Calls Tryz.prog 22 #[.string (bs ((printD p).drop 1)), .slice ab nb cb] W fun e w' => e = .returned (.string (bs (turnD bl ((printD p).drop 1)))) ∧ Below W.heap.size W w') := HTU.out _ (by rw [List.length_drop]; omega)
        have ha1 : ∀ W, (Op.stringOp .add ⟨#[60]⟩ (bs (turnD bl ((printD p).drop 1)))).run Tryz.prog W = .ok (.string (bs ([60] ++ turnD bl ((printD p).drop 1)))) W := add_bs [60] _ (by rw [turn_len, List.length_drop]; simp; omega)
        have hs2 : ∀ W, (Instr.slice 9 (.string T) (some (.int .i64 1)) (some (.int .i64 (A : Int))) none).run Tryz.prog W = .ok (.string (bs (rt ++ l))) W := fun W => by
          rw [hT]
          have h := str_mid (printD p) 1 A (by rw [hA]; simp) (by omega) W
          rw [hparts, hA, List.take_left, ← hA] at h
          rw [hparts]
          exact h
        have hs3 : ∀ W, (Instr.slice 9 (.string T) (some (.int .i64 ((A : Int) + 1))) none none).run Tryz.prog W = .ok (.string (bs (u ++ [62]))) W := fun W => by
          rw [hT]
          have h := str_from (printD p) (A + 1) (by omega) W
          have e : (printD p).drop (A + 1) = u ++ [62] := by rw [hparts, hA, ← List.drop_drop, List.drop_left]; rfl
          rw [e] at h
          exact h
        have hrl : (rt ++ l).length ≤ 10000 := by
          have : (rt ++ l).length + 1 = A := by rw [hA]; rfl
          omega
        have HTS : Hid (∀ W, Calls Tryz.prog 23 #[.string (bs (rt ++ l)), .string (bs l)] W fun e w' => e = .returned (.string (bs rt)) ∧ w' = W) := fun W => by
          have h := suffix_any (rt ++ l) l (by omega) W
          rw [trim_suffix] at h
          exact h
        have HLO := Lib.hid (HLO.out hrb)
        rw [← hl] at HLO
        have hAl : rt.length + l.length + 1 = A := by rw [hA]; simp
        have HU2 : Hid (∀ W, Below W1.heap.size W1 W → Calls Tryz.prog 22 #[.string (bs rt), .slice ab nb cb] W fun e w' => e = .returned (.string (bs (turnD bl rt))) ∧ Below W.heap.size W w') := HTU.out _ (by omega)
        have HU3 : Hid (∀ W, Below W1.heap.size W1 W → Calls Tryz.prog 22 #[.string (bs (u ++ [62])), .slice ab nb cb] W fun e w' => e = .returned (.string (bs (turnD bl u ++ [62]))) ∧ Below W.heap.size W w') := fun W hW => by
          have h := HTU.out (u ++ [62]) (by rw [List.length_append, List.length_singleton]; omega) W hW
          rw [turn_gt] at h
          exact h
        have ha2 : ∀ W, (Op.stringOp .add ⟨#[60]⟩ (bs (turnD bl rt))).run Tryz.prog W = .ok (.string (bs ([60] ++ turnD bl rt))) W := add_bs [60] _ (by rw [turn_len]; simp; omega)
        have ha3 : ∀ W, (Op.stringOp .add (bs ([60] ++ turnD bl rt)) (bs l)).run Tryz.prog W = .ok (.string (bs ([60] ++ turnD bl rt ++ l))) W := add_bs _ l (by rw [List.length_append, turn_len]; simp; omega)
        have ha4 : ∀ W, (Op.stringOp .add (bs ([60] ++ turnD bl rt ++ l)) ⟨#[64]⟩).run Tryz.prog W = .ok (.string (bs ([60] ++ turnD bl rt ++ l ++ [64]))) W := add_bs _ [64] (by rw [List.length_append, List.length_append, turn_len]; simp; omega)
        have ha5 : ∀ W, (Op.stringOp .add (bs ([60] ++ turnD bl rt ++ l ++ [64])) (bs (turnD bl u ++ [62]))).run Tryz.prog W = .ok (.string (bs ([60] ++ turnD bl rt ++ l ++ [64] ++ (turnD bl u ++ [62])))) W := add_bs _ _ (by simp only [List.length_append, turn_len, List.length_singleton]; omega)
        obtain ⟨X, hX⟩ : ∃ X, X = [60] ++ turnD bl rt ++ l ++ [64] ++ (turnD bl u ++ [62]) := ⟨_, rfl⟩
        have HPP : Hid (∀ W, Below W1.heap.size W1 W → Calls Tryz.prog 6 #[.string (bs X)] W fun e w' => ∃ a6 c6, e = .returned (.tuple #[.agg #[.bool false, .slice a6 p.route.length c6, .string (bs p.loc), .string (bs p.dom), .bool p.lit], .int .i64 (((printD p).length : Nat) : Int), .int .i64 0]) ∧ TextsAt w' a6 p.route ∧ Below W.heap.size W w') := fun W hW => by
          have hlen : X.length = (printD p).length := by
            rw [hX, hpl]
            simp only [List.length_append, turn_len, List.length_singleton]
            omega
          have h := parse_told X (by omega) W (HEE.out W hW)
          have hpt := path_turned hr hn hal (rt := turnD bl rt) (u := turnD bl u) (by rw [turn_low, hrt]) (by rw [turn_low, hu])
          have e := parseP_all hpt []
          have hXe : 60 :: (turnD bl rt ++ ((locD p.loc ++ 64 :: turnD bl u) ++ [62])) = X := by rw [hX, hl]; simp
          rw [List.append_nil, hXe] at e
          rw [e] at h
          unfold paV paCells at h
          rw [hn, hlen] at h
          exact h
        rw [← hX] at ha5
        have hmz : (((printD p).length : Nat) : Int) ≤ 10000 := by omega
        have hAz : (0 : Int) ≤ (A : Int) := by omega
        have hAm : (A : Int) ≤ 10000 := by omega
        have hwA : IntKind.i64.wrap ((A : Int) + 1) = (A : Int) + 1 := Go.IntWalk.i64_in _ (by omega)
        clear hr hn hc hp hfit HTU HT1 HBL HEE l1 l2 l3 l4 hpm hT hpl hal hX hAl hnu hparts hrb hA hrl
        generalize bs X = TX at *
        generalize bs ([60] ++ turnD bl rt ++ l ++ [64]) = T8 at *
        generalize bs ([60] ++ turnD bl rt ++ l) = T7 at *
        generalize bs ([60] ++ turnD bl rt) = T6 at *
        generalize bs (turnD bl rt) = T5 at *
        generalize bs (turnD bl u ++ [62]) = T10 at *
        generalize bs (u ++ [62]) = T9 at *
        generalize bs (rt ++ l) = T4 at *
        generalize bs rt = TR at *
        generalize bs l = TL at *
        generalize bs ([60] ++ turnD bl ((printD p).drop 1)) = T3 at *
        generalize bs (turnD bl ((printD p).drop 1)) = T2 at *
        generalize bs ((printD p).drop 1) = T1 at *
        generalize hmm : (printD p).length = m at *
        clear hmm hl hrt hu
        go_enter Tryz.func4, Tryz.ntmps4
        go_upto_region 1 with (fail)
        rw [← HW1.out, ← HG1.out]
        go_upto_region 9 with (first | (go_at_call 17; (with_reducible refine (HPR.out _ HB0.out).mono ?_); rintro e w1 ⟨rfl, hb⟩; have HB1 := Lib.hid (low_trans HB0.out hb); obtain ⟨y1_0, y1_1, y1_2, y1_3, y1_4⟩ := HY.out w1 HB1.out; clear hb HPR x0 x1 x2 x3 x4) | (go_at_call 21; (with_reducible refine (HLI.out _).mono ?_); rintro e wq ⟨rfl, rfl⟩; clear HLI) | (go_at_call 22; (with_reducible refine (HU1.out _ HB1.out).mono ?_); rintro e w2 ⟨rfl, hb⟩; have HB2 := Lib.hid (low_trans HB1.out hb); obtain ⟨y2_0, y2_1, y2_2, y2_3, y2_4⟩ := HY.out w2 HB2.out; clear hb HU1 y1_0 y1_1 y1_2 y1_3 y1_4))
        go_region_law (first | (go_simp; go_at_call 24; refine (HLO.out _ (below_drew HB2.out)).mono ?_; rintro e w3 ⟨rfl, hb⟩; have HB3 := Lib.hid (low_trans (below_drew HB2.out) hb); obtain ⟨y3_0, y3_1, y3_2, y3_3, y3_4⟩ := HY.out w3 HB3.out; clear hb y2_0 y2_1 y2_2 y2_3 y2_4) | (go_simp; go_at_call 23; refine (HTS.out _).mono ?_; rintro e wq ⟨rfl, rfl⟩; clear HTS))
        go_upto_region 10 with (fail)
        go_region_law (first | (go_simp; go_at_call 22; refine (HU2.out _ (below_drew HB3.out)).mono ?_; rintro e w4 ⟨rfl, hb⟩; have HB4 := Lib.hid (low_trans (below_drew HB3.out) hb); obtain ⟨y4_0, y4_1, y4_2, y4_3, y4_4⟩ := HY.out w4 HB4.out; clear hb HU2 y3_0 y3_1 y3_2 y3_3 y3_4) | (go_simp; go_at_call 24; refine (HLO.out _ HB4.out).mono ?_; rintro e w5 ⟨rfl, hb⟩; have HB5 := Lib.hid (low_trans HB4.out hb); obtain ⟨y5_0, y5_1, y5_2, y5_3, y5_4⟩ := HY.out w5 HB5.out; clear hb HLO y4_0 y4_1 y4_2 y4_3 y4_4) | (go_simp; go_at_call 22; refine (HU3.out _ HB5.out).mono ?_; rintro e w6 ⟨rfl, hb⟩; have HB6 := Lib.hid (low_trans HB5.out hb); obtain ⟨y6_0, y6_1, y6_2, y6_3, y6_4⟩ := HY.out w6 HB6.out; clear hb HU3 y5_0 y5_1 y5_2 y5_3 y5_4))
        all_goals
          go_upto_region 12 with (first | (go_at_call 6; (with_reducible refine (HPP.out _ HB6.out).mono ?_); rintro e w7 ⟨a6, c6, rfl, ht6, hb⟩; have HB7 := Lib.hid (low_trans HB6.out hb); obtain ⟨y7_0, y7_1, y7_2, y7_3, y7_4⟩ := HY.out w7 HB7.out; have HT6 := Lib.hid ht6; clear ht6; clear hb HPP y6_0 y6_1 y6_2 y6_3 y6_4))
          obtain ⟨W7c, hW⟩ : ∃ W, W = w7.alloc (.cells #[.bool false, .slice a6 p.route.length c6, .string (bs p.loc), .string (bs p.dom), .bool p.lit] 26) := ⟨_, rfl⟩
          obtain ⟨G7, hG⟩ : ∃ g, g = w7.heap.size := ⟨_, rfl⟩
          have HK7 : Hid (Blk W7c G7 26 #[.bool false, .slice a6 p.route.length c6, .string (bs p.loc), .string (bs p.dom), .bool p.lit]) := by rw [hW, hG]; exact Blk.new _ _ _
          have HA7 : Hid (Below w7.heap.size w7 W7c) := by rw [hW]; exact (Below.refl _ w7).alloc (Nat.le_refl _) _
          have HGE7 : Hid (W1.heap.size ≤ G7) := by rw [hG]; exact HB7.out.size
          have HB8 : Hid (Below W1.heap.size W1 W7c) := low_trans HB7.out HA7.out
          change Code.wp _ _ _ _ (World.alloc w7 (Obj.cells #[.bool false, .slice a6 p.route.length c6, .string (bs p.loc), .string (bs p.dom), .bool p.lit] 26))
          rw [← hW, ← hG]
          clear hW hG y7_0 y7_1 y7_2 y7_3 y7_4
          obtain ⟨y8_0, y8_1, y8_2, y8_3, y8_4⟩ := HY.out W7c HB8.out
          have HSM := Lib.hid (HSS.out W7c a6 c6 HB8.out (RowAt.below HT6.out HA7.out))
          have z0 := HK7.out.cell 0
          have z1 := HK7.out.cell 1
          have z2 := HK7.out.cell 2
          have z3 := HK7.out.cell 3
          have z4 := HK7.out.cell 4
          simp at z0 z1 z2 z3 z4
          clear HSS HT6
          go_upto_region 15 with (first | (go_at_call 8; (with_reducible refine (HSM.out).mono ?_); rintro e w9 ⟨rfl, hb⟩; have HB9 := Lib.hid (low_trans HB8.out hb); obtain ⟨y9_0, y9_1, y9_2, y9_3, y9_4⟩ := HY.out w9 HB9.out; clear hb HSM z0 z1 z2 z3 z4 y8_0 y8_1 y8_2 y8_3 y8_4))
          obtain ⟨W9c, hW⟩ : ∃ W, W = w9.alloc (.cells #[.bool false, .slice a p.route.length c, .string (bs p.loc), .string (bs p.dom), .bool p.lit] 26) := ⟨_, rfl⟩
          obtain ⟨G9, hG⟩ : ∃ g, g = w9.heap.size := ⟨_, rfl⟩
          have HK9 : Hid (Blk W9c G9 26 #[.bool false, .slice a p.route.length c, .string (bs p.loc), .string (bs p.dom), .bool p.lit]) := by rw [hW, hG]; exact Blk.new _ _ _
          have HA9 : Hid (Below w9.heap.size w9 W9c) := by rw [hW]; exact (Below.refl _ w9).alloc (Nat.le_refl _) _
          have HGE9 : Hid (W1.heap.size ≤ G9) := by rw [hG]; exact HB9.out.size
          have HB10 : Hid (Below W1.heap.size W1 W9c) := low_trans HB9.out HA9.out
          change Code.wp _ _ _ _ (World.alloc w9 (Obj.cells #[.bool false, .slice a p.route.length c, .string (bs p.loc), .string (bs p.dom), .bool p.lit] 26))
          rw [← hW, ← hG]
          clear hW hG y9_0 y9_1 y9_2 y9_3 y9_4
          obtain ⟨y10_0, y10_1, y10_2, y10_3, y10_4⟩ := HY.out W9c HB10.out
          go_upto_region 16 with (go_at_call 25; refine (HUP.out _).mono ?_; rintro e w11 ⟨rfl, hb⟩; have HK11 := Lib.hid (HK9.out.below hb HK9.out.lt); have HB11 := Lib.hid (low_trans HB10.out hb); obtain ⟨y11_0, y11_1, y11_2, y11_3, y11_4⟩ := HY.out w11 HB11.out; have fz := HK11.out.frozen 2; have cz := HK11.out.cell 2; simp at cz; clear hb HUP y10_0 y10_1 y10_2 y10_3 y10_4)
          obtain ⟨WS, hWS⟩ : ∃ W, W = w11.setCell ⟨G9, 2, none⟩ (.string (bs U)) := ⟨_, rfl⟩
          have HKS : Hid (Blk WS G9 26 #[.bool false, .slice a p.route.length c, .string (bs U), .string (bs p.dom), .bool p.lit]) := by rw [hWS]; exact HK11.out.set_ 2 _
          have HBS : Hid (Below W1.heap.size W1 WS) := by rw [hWS]; exact HB11.out.setCell (p := ⟨G9, 2, none⟩) HGE9.out _
          rw [← hWS]
          clear hWS fz cz y11_0 y11_1 y11_2 y11_3 y11_4
          obtain ⟨s0, s1, s2, s3, s4⟩ := HY.out WS HBS.out
          have HZ : Hid (∀ W, Below WS.heap.size WS W → W.cell? ⟨G9, 2, none⟩ = some (.string (bs U))) := fun W hW => by rw [(HKS.out.below hW HKS.out.lt).cell 2]; rfl
          have v0 := HKS.out.cell 0
          have v1 := HKS.out.cell 1
          have v2 := HKS.out.cell 2
          have v3 := HKS.out.cell 3
          have v4 := HKS.out.cell 4
          simp at v0 v1 v2 v3 v4
          have hxu := toL_eq U p.loc
          rcases HWAY.out with ⟨k1, k2, k3⟩ | ⟨k1, k2⟩ | ⟨k1, k2, k3⟩
          · rw [if_pos k2, k3, ← HTT.out] at HPG
            rw [decide_eq_true k1] at hxu
            clear k1 k2 k3
            generalize bs U = TU at *
            generalize bs p.loc = TP at *
            go_wp2_with (first | (go_at_call 17; (with_reducible refine (HPG.out _ HBS.out).mono ?_); rintro e wp ⟨rfl, hb⟩; have HBP := Lib.hid (low_trans HBS.out hb); obtain ⟨t0, t1, t2, t3, t4⟩ := HY.out wp HBP.out; have u2 := HZ.out wp hb; clear hb HPG v0 v1 v2 v3 v4 s0 s1 s2 s3 s4) | (go_at_call 5; (with_reducible refine (HAW.out _ HBP.out).mono ?_); rintro e wz ⟨rfl, hb⟩; have HBZ := Lib.hid (low_trans HBP.out hb); clear hb))
            exact HQ.out _ (low_trans HL1.out HBZ.out)
          · rw [if_neg (by rw [k2]; decide), en] at HPG
            rw [decide_eq_false k1] at hxu
            clear k1 k2
            generalize bs U = TU at *
            generalize bs p.loc = TP at *
            go_wp2_with (first | (go_at_call 17; (with_reducible refine (HPG.out _ HBS.out).mono ?_); rintro e wp ⟨rfl, hb⟩; have HBP := Lib.hid (low_trans HBS.out hb); obtain ⟨t0, t1, t2, t3, t4⟩ := HY.out wp HBP.out; have u2 := HZ.out wp hb; clear hb HPG v0 v1 v2 v3 v4 s0 s1 s2 s3 s4) | (go_at_call 5; (with_reducible refine (HAW.out _ HBP.out).mono ?_); rintro e wz ⟨rfl, hb⟩; have HBZ := Lib.hid (low_trans HBP.out hb); clear hb))
            exact HQ.out _ (low_trans HL1.out HBZ.out)
          · rw [if_pos k2] at HPG
            rw [decide_eq_false k1] at hxu
            have hxt := toL_eq (printD G) (printD p)
            rw [decide_eq_false k3, ← HTT.out] at hxt
            clear k1 k2 k3
            generalize bs (printD G) = TG at *
            generalize bs U = TU at *
            generalize bs p.loc = TP at *
            go_wp2_with (first | (go_at_call 17; (with_reducible refine (HPG.out _ HBS.out).mono ?_); rintro e wp ⟨rfl, hb⟩; have HBP := Lib.hid (low_trans HBS.out hb); obtain ⟨t0, t1, t2, t3, t4⟩ := HY.out wp HBP.out; have u2 := HZ.out wp hb; clear hb HPG v0 v1 v2 v3 v4 s0 s1 s2 s3 s4) | (go_at_call 5; (with_reducible refine (HAW.out _ HBP.out).mono ?_); rintro e wz ⟨rfl, hb⟩; have HBZ := Lib.hid (low_trans HBP.out hb); clear hb))
            exact HQ.out _ (low_trans HL1.out HBZ.out)
end Go.Proofs.YtjgadocojdieeaaGreatDoor
