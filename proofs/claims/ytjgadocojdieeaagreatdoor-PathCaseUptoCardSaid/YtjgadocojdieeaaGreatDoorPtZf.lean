/-
  The contract of path.Print. Conditions: texts of at most 2^40 bytes; the route lies in memory; the library's variable holds some value.
-/
import Derived.Test.YtjgadocojdieeaaGreatDoorPtZe
namespace Go.Proofs.YtjgadocojdieeaaGreatDoor
open Go.RowKit Go.Shelf

theorem right_short {p : Pa} (h : rightD p = true) (hn : p.null = false) (ha : aloneB p = false) : p.route.length ≤ 20 ∧ rightBoxD p.loc p.dom p.lit = true := by
  unfold rightD at h
  rw [if_neg (by rw [hn]; decide), if_neg (by rw [ha]; decide)] at h
  simp only [Bool.and_eq_true, decide_eq_true_eq] at h
  exact ⟨h.1.1, h.2⟩
set_option maxRecDepth 100000 in
set_option maxHeartbeats 2000000 in
theorem print_any (p : Pa) (a : Option Addr) (c : Nat) (w : World) (hc : p.route.length ≤ c) (ht : TextsAt w a p.route) (hp : PaFits p 1099511627776) (he : ErrAt w ∧ ErrG < w.heap.size) : Calls Tryz.prog 17 #[paV p a c] w (PrOut w (printP p)) := by
  obtain ⟨W1, hW1⟩ : ∃ W1, W1 = w.alloc (.cells (paCells p (.slice a p.route.length c)) 26) := ⟨_, rfl⟩
  obtain ⟨g1, hg1⟩ : ∃ g1, g1 = w.heap.size := ⟨_, rfl⟩
  have hb1 : Below w.heap.size w W1 := by rw [hW1]; exact (Below.refl _ w).alloc (Nat.le_refl _) _
  have hk1 : Blk W1 g1 26 (paCells p (.slice a p.route.length c)) := by rw [hW1, hg1]; exact Blk.new _ _ _
  have ht1 : TextsAt W1 a p.route := RowAt.below ht hb1
  have HR := Lib.hid (right_any p a c W1 ht1 hp (ErrAt.later he hb1))
  have HL1 := Lib.hid hb1
  have HT1 := Lib.hid ht1
  have HQ : Hid (∀ w', Below w.heap.size w w' → PrOut w (printP p) (.returned (.tuple #[.string (bs (printP p).1), .int .i64 (printP p).2])) w') := fun w' h => ⟨rfl, h⟩
  generalize PrOut w (printP p) = Q at *
  have HIA := Lib.hid (fun W => isAlone_any p.loc p.dom p.lit W)
  have HAL : Hid (aloneB p = (decide (p.loc = postP) && decide (p.dom = []) && !p.lit)) := rfl
  rw [← HAL.out] at HIA
  have HBT := Lib.hid (fun (h : rightBoxD p.loc p.dom p.lit = true) W (hW : Below w.heap.size w W) => boxText_any p.loc p.dom p.lit (by have := rightBox_loc h; omega) hp.dom W (ErrAt.later he hW))
  unfold boxCells at HIA HBT
  have HK2 : Hid (∀ w2, Below W1.heap.size W1 w2 → w2.cell? ⟨g1, 0, none⟩ = some (.bool p.null) ∧ w2.cell? ⟨g1, 1, none⟩ = some (.slice a p.route.length c) ∧ w2.cell? ⟨g1, 2, none⟩ = some (.string (bs p.loc)) ∧ w2.cell? ⟨g1, 3, none⟩ = some (.string (bs p.dom)) ∧ w2.cell? ⟨g1, 4, none⟩ = some (.bool p.lit)) := fun w2 h2 => by
    have h := hk1.below h2 hk1.lt
    exact ⟨h.cell 0, h.cell 1, h.cell 2, h.cell 3, h.cell 4⟩
  obtain ⟨x0, x1, x2, x3, x4⟩ := HK2.out W1 (Below.refl _ _)
  unfold paV paCells at HR
  unfold paCells at hW1
  unfold paV paCells
  unfold printP at HQ
  have HW1 := Lib.hid hW1
  have HG1 := Lib.hid hg1
  clear hW1 hg1 hb1 hk1 ht1 ht
  cases hr : rightD p with
  | false =>
    rw [hr] at HR
    rw [if_neg (by rw [hr]; decide)] at HQ
    clear hr he hp hc HT1 HIA HBT
    go_enter Tryz.func17, Tryz.ntmps17
    go_upto_region 1 with (fail)
    rw [← HW1.out, ← HG1.out]
    go_wp2_with (go_at_call 15; refine HR.out.mono ?_; rintro e w2 ⟨rfl, hb⟩; have HL2 := Lib.hid (low_trans HL1.out hb); clear hb HR)
    exact HQ.out _ HL2.out
  | true =>
    rw [hr] at HR
    rw [if_pos hr] at HQ
    unfold printD at HQ
    cases hn : p.null with
    | true =>
      rw [if_pos hn] at HQ
      rw [hn] at HR HK2 x0
      have HW1' := HW1.out
      rw [hn] at HW1'
      have HW1 := Lib.hid HW1'
      clear HW1' hr he hp hc HT1 HIA HBT
      go_enter Tryz.func17, Tryz.ntmps17
      go_upto_region 1 with (fail)
      rw [← HW1.out, ← HG1.out]
      go_wp2_with (go_at_call 15; refine HR.out.mono ?_; rintro e w2 ⟨rfl, hb⟩; have HL2 := Lib.hid (low_trans HL1.out hb); obtain ⟨y0, y1, y2, y3, y4⟩ := HK2.out w2 hb; clear hb HR x0 x1 x2 x3 x4)
      exact HQ.out _ HL2.out
    | false =>
      rw [if_neg (by rw [hn]; decide)] at HQ
      have hsh := right_short hr hn
      rw [hn] at HR HK2 x0
      have HW1' := HW1.out
      rw [hn] at HW1'
      have HW1 := Lib.hid HW1'
      clear HW1' hr
      cases hal : aloneB p with
      | true =>
        rw [if_pos hal] at HQ
        rw [hal] at HIA
        clear hal hsh he hp hc HT1 HBT
        go_enter Tryz.func17, Tryz.ntmps17
        go_upto_region 1 with (fail)
        rw [← HW1.out, ← HG1.out]
        go_wp2_with (first | (go_at_call 15; refine HR.out.mono ?_; rintro e w2 ⟨rfl, hb⟩; have HL2 := Lib.hid (low_trans HL1.out hb); obtain ⟨y0, y1, y2, y3, y4⟩ := HK2.out w2 hb; clear hb HR x0 x1 x2 x3 x4) | (go_at_call 45; refine (HIA.out _).mono ?_; rintro e w3 ⟨rfl, hb⟩; have HL3 := Lib.hid (low_trans HL2.out hb); clear hb HIA))
        exact HQ.out _ HL3.out
      | false =>
        rw [if_neg (by rw [hal]; decide)] at HQ
        rw [hal] at HIA
        obtain ⟨h20, hrb⟩ := hsh hal
        have HB := Lib.hid (HBT.out hrb)
        have hll := rightBox_loc hrb
        have hbm := boxD_most p.loc p.dom p.lit
        have hdm := hp.dom
        clear hal hsh HBT hrb hn
        cases hro : p.route with
        | nil =>
          rw [hro] at HQ
          have a1 := add_bs [60] [] (by simp)
          have a2 := add_bs ([60] ++ []) (boxD p.loc p.dom p.lit) (by simp; omega)
          have a3 := add_bs ([60] ++ [] ++ boxD p.loc p.dom p.lit) [62] (by simp; omega)
          have e3 : [60] ++ [] ++ boxD p.loc p.dom p.lit ++ [62] = 60 :: (routeD [] ++ (boxD p.loc p.dom p.lit ++ [62])) := by simp [routeD]
          rw [e3] at a3
          have e60 : (⟨#[60]⟩ : ByteArray) = bs [60] := rfl
          have e0 : (⟨#[]⟩ : ByteArray) = bs [] := rfl
          have e62 : (⟨#[62]⟩ : ByteArray) = bs [62] := rfl
          rw [← e60, ← e0] at a1
          rw [← e62] at a3
          rw [hro] at HR HK2 x1
          have HW1' := HW1.out
          rw [hro] at HW1'
          simp only [List.length_nil] at HW1' HR HK2 x1 ⊢
          have HW1 := Lib.hid HW1'
          clear HW1' e3 e60 e0 e62 hro he hp hc HT1 hll hbm hdm h20
          generalize bs (60 :: (routeD [] ++ (boxD p.loc p.dom p.lit ++ [62]))) = t1 at *
          generalize bs ([60] ++ [] ++ boxD p.loc p.dom p.lit) = t2 at *
          generalize bs ([60] ++ []) = t3 at *
          generalize bs (boxD p.loc p.dom p.lit) = t4 at *
          generalize bs p.loc = t5 at *
          generalize bs p.dom = t6 at *
          go_enter Tryz.func17, Tryz.ntmps17
          go_upto_region 1 with (fail)
          rw [← HW1.out, ← HG1.out]
          go_wp2_with (first | (go_at_call 15; refine HR.out.mono ?_; rintro e w2 ⟨rfl, hb⟩; have HL2 := Lib.hid (low_trans HL1.out hb); have HB2 := Lib.hid hb; obtain ⟨y0, y1, y2, y3, y4⟩ := HK2.out w2 hb; clear hb HR x0 x1 x2 x3 x4) | (go_at_call 45; refine (HIA.out _).mono ?_; rintro e w3 ⟨rfl, hb⟩; have HL3 := Lib.hid (low_trans HL2.out hb); obtain ⟨z0, z1, z2, z3, z4⟩ := HK2.out w3 (low_trans HB2.out hb); clear hb HIA y0 y1 y2 y3 y4) | (go_at_call 51; refine (HB.out _ HL3.out).mono ?_; rintro e w4 ⟨rfl, hb⟩; have HL4 := Lib.hid (low_trans HL3.out hb); clear hb HB))
          exact HQ.out _ HL4.out
        | cons d L =>
          have hops := hp.hops
          rw [hro] at HQ h20 hc HT1 hops
          have HJ := Lib.hid (fun W (hW : Below W1.heap.size W1 W) => join_any d L h20 hops a c hc W (RowAt.below HT1.out hW))
          have hmost := hops_most L 1099511627776 (fun e he => hops e (by simp [he]))
          have hdd := hops d (by simp)
          have hL19 : L.length ≤ 19 := by simp at h20; omega
          have hmul : L.length * (1099511627776 + 2) ≤ 19 * (1099511627776 + 2) := Nat.mul_le_mul_right _ hL19
          obtain ⟨J, hJ⟩ : ∃ J, J = d ++ hopsT L := ⟨_, rfl⟩
          have hJl : J.length ≤ 32985348833280 := by rw [hJ, List.length_append]; omega
          rw [← hJ] at HJ
          have a1 := add_bs [64] J (by simp; omega)
          have a2 := add_bs ([64] ++ J) [58] (by simp; omega)
          have a3 := add_bs [60] ([64] ++ J ++ [58]) (by simp; omega)
          have a4 := add_bs ([60] ++ ([64] ++ J ++ [58])) (boxD p.loc p.dom p.lit) (by simp; omega)
          have a5 := add_bs ([60] ++ ([64] ++ J ++ [58]) ++ boxD p.loc p.dom p.lit) [62] (by simp; omega)
          have e5 : [60] ++ ([64] ++ J ++ [58]) ++ boxD p.loc p.dom p.lit ++ [62] = 60 :: (routeD (d :: L) ++ (boxD p.loc p.dom p.lit ++ [62])) := by rw [hJ]; simp [routeD]
          rw [e5] at a5
          have e60 : (⟨#[60]⟩ : ByteArray) = bs [60] := rfl
          have e64 : (⟨#[64]⟩ : ByteArray) = bs [64] := rfl
          have e58 : (⟨#[58]⟩ : ByteArray) = bs [58] := rfl
          have e62 : (⟨#[62]⟩ : ByteArray) = bs [62] := rfl
          have e44 : (⟨#[44, 64]⟩ : ByteArray) = bs [44, 64] := rfl
          rw [← e64] at a1
          rw [← e58] at a2
          rw [← e60] at a3
          rw [← e62] at a5
          rw [← e44] at HJ
          rw [hro] at HR HK2 x1
          have HW1' := HW1.out
          rw [hro] at HW1'
          have HW1 := Lib.hid HW1'
          have hpos : (0 : Int) < (((d :: L).length : Nat) : Int) := by rw [List.length_cons]; omega
          have hpd : decide ((0 : Int) < (((d :: L).length : Nat) : Int)) = true := decide_eq_true hpos
          have hlm : (((d :: L).length : Nat) : Int) ≤ 20 := by omega
          clear HW1' e5 e60 e64 e58 e62 e44 hro he hp hc HT1 hll hbm hdm hJ hJl hmost hmul hdd hops hL19 h20
          generalize bs (60 :: (routeD (d :: L) ++ (boxD p.loc p.dom p.lit ++ [62]))) = t1 at *
          generalize bs ([60] ++ ([64] ++ J ++ [58]) ++ boxD p.loc p.dom p.lit) = t2 at *
          generalize bs ([60] ++ ([64] ++ J ++ [58])) = t3 at *
          generalize bs ([64] ++ J ++ [58]) = t7 at *
          generalize bs ([64] ++ J) = t8 at *
          generalize bs J = t9 at *
          generalize bs (boxD p.loc p.dom p.lit) = t4 at *
          generalize bs p.loc = t5 at *
          generalize bs p.dom = t6 at *
          generalize (d :: L).length = n at *
          go_enter Tryz.func17, Tryz.ntmps17
          go_upto_region 1 with (fail)
          rw [← HW1.out, ← HG1.out]
          go_wp2_with (first | (go_at_call 15; refine HR.out.mono ?_; rintro e w2 ⟨rfl, hb⟩; have HB2 := Lib.hid hb; obtain ⟨y0, y1, y2, y3, y4⟩ := HK2.out w2 hb; clear hb HR x0 x1 x2 x3 x4) | (go_at_call 45; refine (HIA.out _).mono ?_; rintro e w3 ⟨rfl, hb⟩; have HB3 := Lib.hid (low_trans HB2.out hb); obtain ⟨z0, z1, z2, z3, z4⟩ := HK2.out w3 HB3.out; clear hb HIA y0 y1 y2 y3 y4) | (go_at_call 50; refine (HJ.out _ HB3.out).mono ?_; rintro e w5 ⟨rfl, hb⟩; have HB5 := Lib.hid (low_trans HB3.out hb); obtain ⟨u0, u1, u2, u3, u4⟩ := HK2.out w5 HB5.out; clear hb HJ z0 z1 z2 z3 z4) | (go_at_call 51; refine (HB.out _ (low_trans HL1.out HB5.out)).mono ?_; rintro e w4 ⟨rfl, hb⟩; have HL4 := Lib.hid (low_trans (low_trans HL1.out HB5.out) hb); clear hb HB))
          exact HQ.out _ HL4.out
end Go.Proofs.YtjgadocojdieeaaGreatDoor
