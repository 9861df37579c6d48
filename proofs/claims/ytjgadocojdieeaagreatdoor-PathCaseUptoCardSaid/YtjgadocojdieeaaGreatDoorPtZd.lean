/-
  The contracts of path.boxText, path.Right. Conditions: texts of at most 2^40 bytes; the library's variable holds some value.
-/
import Derived.Test.YtjgadocojdieeaaGreatDoorPtZc
namespace Go.Proofs.YtjgadocojdieeaaGreatDoor
open Go.RowKit Go.Shelf

theorem add_bs (a b : List UInt8) (h : a.length + b.length ≤ 70368744177664) : ∀ W, (Op.stringOp .add (bs a) (bs b)).run Tryz.prog W = .ok (.string (bs (a ++ b))) W := fun W => by
  rw [run_string_add_sum W (bs a) (bs b) (by rw [bs_size, bs_size]; omega), bs_app]
theorem loc_most (l : List UInt8) : (locD l).length ≤ 2 * l.length + 2 := by
  unfold locD
  have := quote_most l
  split
  · omega
  · simp; omega
theorem boxD_most (loc d : List UInt8) (lit : Bool) : (boxD loc d lit).length ≤ 2 * loc.length + d.length + 5 := by
  unfold boxD domD
  have := loc_most loc
  rw [List.length_append, List.length_cons]
  split <;> simp <;> omega
set_option maxRecDepth 100000 in
set_option maxHeartbeats 1000000 in
theorem boxText_any (loc d : List UInt8) (lit : Bool) (hl : loc.length ≤ 1000) (hd : d.length ≤ 1099511627776) (w : World) (he : ErrAt w ∧ ErrG < w.heap.size) : Calls Tryz.prog 51 #[.agg (boxCells loc d lit)] w fun e w' => e = .returned (.string (bs (boxD loc d lit))) ∧ Below w.heap.size w w' := by
  obtain ⟨W1, hW1⟩ : ∃ W1, W1 = w.alloc (.cells (boxCells loc d lit) 24) := ⟨_, rfl⟩
  obtain ⟨g1, hg1⟩ : ∃ g1, g1 = w.heap.size := ⟨_, rfl⟩
  have hb1 : Below w.heap.size w W1 := by rw [hW1]; exact (Below.refl _ w).alloc (Nat.le_refl _) _
  have hk1 : Blk W1 g1 24 (boxCells loc d lit) := by rw [hW1, hg1]; exact Blk.new _ _ _
  have HLT := Lib.hid (local_any loc hl W1 (ErrAt.later he hb1))
  have HQ : Hid (∀ w', Below W1.heap.size W1 w' → Below w.heap.size w w') := fun w' h => low_trans hb1 h
  have hlo := loc_most loc
  have a3 := add_bs (locD loc) [64] (by simp; omega)
  have a1 := add_bs [91] d (by simp; omega)
  have a2 := add_bs ([91] ++ d) [93] (by simp; omega)
  have a4 := add_bs (locD loc ++ [64]) ([91] ++ d ++ [93]) (by simp; omega)
  have a5 := add_bs (locD loc ++ [64]) d (by simp; omega)
  have HT1 : Hid (locD loc ++ [64] ++ ([91] ++ d ++ [93]) = boxD loc d true) := by show _ = _; simp [boxD, domD]
  have HT2 : Hid (locD loc ++ [64] ++ d = boxD loc d false) := by show _ = _; simp [boxD, domD]
  obtain ⟨x0, x1, x2⟩ : W1.cell? ⟨g1, 0, none⟩ = some (.string (bs loc)) ∧ W1.cell? ⟨g1, 1, none⟩ = some (.string (bs d)) ∧ W1.cell? ⟨g1, 2, none⟩ = some (.bool lit) := ⟨hk1.cell 0, hk1.cell 1, hk1.cell 2⟩
  unfold boxCells at hW1 ⊢
  have HW1 := Lib.hid hW1
  have HG1 := Lib.hid hg1
  clear hW1 hg1 hb1 hk1 he hl hd hlo
  have e64 : (⟨#[64]⟩ : ByteArray) = bs [64] := rfl
  have e91 : (⟨#[91]⟩ : ByteArray) = bs [91] := rfl
  have e93 : (⟨#[93]⟩ : ByteArray) = bs [93] := rfl
  rw [← e64] at a3
  rw [← e91] at a1
  rw [← e93] at a2
  clear e64 e91 e93
  cases lit with
  | true =>
    rw [HT1.out] at a4
    clear a5
    generalize bs (boxD loc d true) = t1 at *
    generalize bs (locD loc ++ [64]) = t2 at *
    generalize bs ([91] ++ d ++ [93]) = t3 at *
    generalize bs ([91] ++ d) = t4 at *
    generalize bs d = t5 at *
    generalize bs (locD loc) = t6 at *
    generalize bs loc = t7 at *
    go_enter Tryz.func51, Tryz.ntmps51
    go_upto_region 1 with (fail)
    rw [← HW1.out, ← HG1.out]
    go_wp2_with (go_at_call 82; refine HLT.out.mono ?_; rintro e w2 ⟨rfl, hb⟩; have HB := Lib.hid hb; clear hb)
    go_ret
    exact ⟨rfl, HQ.out _ HB.out⟩
  | false =>
    rw [HT2.out] at a5
    clear a4 a1 a2
    generalize bs (boxD loc d false) = t1 at *
    generalize bs (locD loc ++ [64]) = t2 at *
    generalize bs d = t5 at *
    generalize bs (locD loc) = t6 at *
    generalize bs loc = t7 at *
    go_enter Tryz.func51, Tryz.ntmps51
    go_upto_region 1 with (fail)
    rw [← HW1.out, ← HG1.out]
    go_wp2_with (go_at_call 82; refine HLT.out.mono ?_; rintro e w2 ⟨rfl, hb⟩; have HB := Lib.hid hb; clear hb)
    go_ret
    exact ⟨rfl, HQ.out _ HB.out⟩
/-- what is known of a path that is handed about: its texts are no longer than n -/
structure PaFits (p : Pa) (n : Nat) : Prop where
  loc : p.loc.length ≤ n
  dom : p.dom.length ≤ n
  hops : ∀ d ∈ p.route, d.length ≤ n
set_option maxRecDepth 100000 in
set_option maxHeartbeats 2000000 in
theorem right_any (p : Pa) (a : Option Addr) (c : Nat) (w : World) (ht : TextsAt w a p.route) (hp : PaFits p 1099511627776) (he : ErrAt w ∧ ErrG < w.heap.size) : Calls Tryz.prog 15 #[paV p a c] w (SameOut w (rightD p)) := by
  obtain ⟨W1, hW1⟩ : ∃ W1, W1 = w.alloc (.cells (paCells p (.slice a p.route.length c)) 26) := ⟨_, rfl⟩
  obtain ⟨g1, hg1⟩ : ∃ g1, g1 = w.heap.size := ⟨_, rfl⟩
  have hb1 : Below w.heap.size w W1 := by rw [hW1]; exact (Below.refl _ w).alloc (Nat.le_refl _) _
  have hk1 : Blk W1 g1 26 (paCells p (.slice a p.route.length c)) := by rw [hW1, hg1]; exact Blk.new _ _ _
  have ht1 : TextsAt W1 a p.route := RowAt.below ht hb1
  have HE := Lib.hid (fun W (hW : Below w.heap.size w W) => ErrAt.later he hW)
  have HL1 := Lib.hid hb1
  have HK1 := Lib.hid hk1
  have HT1 := Lib.hid ht1
  have HQ : Hid (∀ b w', b = rightD p → Below w.heap.size w w' → SameOut w (rightD p) (.returned (.bool b)) w') := fun b w' hb h => by subst hb; exact ⟨rfl, h⟩
  generalize SameOut w (rightD p) = Q at *
  have hd0 := toL_eq p.dom []
  have hl0 := toL_eq p.loc []
  have HIA := Lib.hid (fun W => isAlone_any p.loc p.dom p.lit W)
  have HRB := Lib.hid (fun W (hW : Below w.heap.size w W) => rightBox_any p.loc p.dom p.lit (by have := hp.loc; omega) (by have := hp.dom; omega) W (ErrAt.later he hW))
  have HTD := Lib.hid (fun d (hd : d ∈ p.route) W (hW : Below w.heap.size w W) => isTold_any domain_is ent_domain d (by have := hp.hops d hd; omega) (Nat.le_refl _) W (ErrAt.later he hW))
  have hmx := ht.len
  have HAL : Hid (aloneB p = (decide (p.loc = postP) && decide (p.dom = []) && !p.lit)) := rfl
  rw [← HAL.out] at HIA
  unfold boxCells at HIA HRB
  unfold rightD at HQ
  unfold paV
  unfold paCells at hW1 hk1 HK1 ⊢
  have HW1 := Lib.hid hW1
  have HG1 := Lib.hid hg1
  have c0 := hk1.cell 0
  have c1 := hk1.cell 1
  have c2 := hk1.cell 2
  have c3 := hk1.cell 3
  have c4 := hk1.cell 4
  simp at c0 c1 c2 c3 c4
  clear hW1 hg1 hb1 hk1 ht1 ht he hp
  obtain ⟨n, hn⟩ : ∃ n, n = p.route.length := ⟨_, rfl⟩
  rw [← hn] at HQ hmx c1 HW1 HK1 ⊢
  have HN := Lib.hid hn
  clear hn
  cases hnul : p.null with
  | true =>
    rw [if_pos hnul] at HQ
    rw [hnul] at c0
    have HW1' := HW1.out
    rw [hnul] at HW1'
    have HW1 := Lib.hid HW1'
    clear HW1' HIA HRB HTD HT1 HK1 hmx
    go_enter Tryz.func15, Tryz.ntmps15
    go_upto_region 1 with (fail)
    rw [← HW1.out, ← HG1.out]
    go_wp2
    all_goals refine HQ.out _ _ ?_ HL1.out
    all_goals simp only [bs_toL] at *
    all_goals simp_all
  | false =>
    rw [if_neg (by rw [hnul]; decide)] at HQ
    rw [hnul] at c0
    have HW1' := HW1.out
    rw [hnul] at HW1'
    have HW1 := Lib.hid HW1'
    clear HW1' hd0 hl0
    cases hal : aloneB p with
    | true =>
      rw [if_pos hal] at HQ
      rw [hal] at HIA
      have hz : ((n : Int) == 0) = decide (n = 0) := by cases n with
        | zero => rfl
        | succ m => rw [decide_eq_false (by omega), beq_eq_false_iff_ne]; omega
      clear hal HRB HTD HT1
      go_enter Tryz.func15, Tryz.ntmps15
      go_upto_region 1 with (fail)
      rw [← HW1.out, ← HG1.out]
      have HK2 : Hid (∀ w2, Below W1.heap.size W1 w2 → w2.cell? ⟨g1, 1, none⟩ = some (.slice a n c)) := fun w2 h2 => by rw [(HK1.out.below h2 HK1.out.lt).cell 1]; rfl
      go_wp2_with (go_at_call 45; refine (HIA.out W1).mono ?_; rintro e w2 ⟨rfl, hb⟩; have HL2 := Lib.hid (low_trans HL1.out hb); have y1 := HK2.out w2 hb; clear hb c0 c1 c2 c3 c4)
      refine HQ.out _ _ ?_ HL2.out
      first | exact hz | rfl | simp
    | false =>
      rw [if_neg (by rw [hal]; decide)] at HQ
      rw [hal] at HIA
      clear hal
      have HK2 : Hid (∀ w2, Below W1.heap.size W1 w2 → w2.cell? ⟨g1, 1, none⟩ = some (.slice a n c) ∧ w2.cell? ⟨g1, 2, none⟩ = some (.string (bs p.loc)) ∧ w2.cell? ⟨g1, 3, none⟩ = some (.string (bs p.dom)) ∧ w2.cell? ⟨g1, 4, none⟩ = some (.bool p.lit)) := fun w2 h2 => by
        have h := HK1.out.below h2 HK1.out.lt
        exact ⟨h.cell 1, h.cell 2, h.cell 3, h.cell 4⟩
      by_cases hlen : n ≤ 20
      · have hlz : ¬ (20 : Int) < (n : Int) := by omega
        have hld : decide ((20 : Int) < (n : Int)) = false := decide_eq_false hlz
        have hn20 : (n : Int) ≤ 20 := by omega
        rw [decide_eq_true hlen, Bool.true_and] at HQ
        go_enter Tryz.func15, Tryz.ntmps15
        go_upto_region 1 with (fail)
        rw [← HW1.out, ← HG1.out]
        go_wp2_with (go_at_call 45; refine (HIA.out W1).mono ?_; rintro e w2 ⟨rfl, hb⟩; have HB2 := Lib.hid hb; obtain ⟨y1, y2, y3, y4⟩ := HK2.out w2 hb; clear hb c0 c1 c2 c3 c4 HIA)
        go_loopw [34] (fun i wr => ∃ k : Nat, k ≤ n ∧ i = .int .i64 k ∧ Hid ((p.route.take k).all (toldB fineB) = true) ∧ Hid (Below W1.heap.size W1 wr)) (fun i _ => n - (intOf i).toNat)
        case atStart => exact ⟨0, Nat.zero_le _, rfl, rfl, HB2.out⟩
        case round =>
          obtain ⟨k, hk, rfl, HA, HB⟩ := hrel
          have hk0 : (0 : Int) ≤ (k : Int) := by omega
          clear y1 y2 y3 y4
          by_cases hlt : k < n
          · have hkl : k < p.route.length := by rw [← HN.out]; exact hlt
            have hkz : (k : Int) < (n : Int) := by omega
            obtain ⟨b, o, rfl, hcell⟩ := TextsAt.at_ (RowAt.below HT1.out HB.out) hkl
            have HTK := Lib.hid (HTD.out p.route[k] (List.getElem_mem hkl) wr (low_trans HL1.out HB.out))
            have HNX : Hid (toldB fineB p.route[k] = true → (p.route.take (k + 1)).all (toldB fineB) = true) := fun h => by
              rw [List.take_succ_eq_append_getElem hkl, List.all_append, HA.out]
              simp [h]
            have HNO : Hid (toldB fineB p.route[k] = false → (p.route.all (toldB fineB) && rightBoxD p.loc p.dom p.lit) = false) := fun h => by
              rw [show p.route.all (toldB fineB) = false from by
                rw [List.all_eq_false]
                exact ⟨_, List.getElem_mem hkl, by rw [h]; decide⟩]
              rfl
            generalize p.route[k] = u at *
            clear hkl HTD
            cases hu : toldB fineB u with
            | true =>
              have HNX2 := Lib.hid (HNX.out hu)
              rw [hu] at HTK
              clear hu HNX HNO
              generalize bs u = su at *
              go_wp2_with (go_at_call 46; refine HTK.out.mono ?_; rintro e w3 ⟨rfl, hb⟩; have HB3 := Lib.hid (low_trans HB.out hb); clear hb HTK)
              go_roundw
              case rel => exact ⟨k + 1, by omega, by go_num, HNX2.out, HB3.out⟩
              case measure => simp [intOf]; omega
            | false =>
              have HNO2 := Lib.hid (HNO.out hu)
              rw [hu] at HTK
              clear hu HNX HNO
              generalize bs u = su at *
              go_wp2_with (go_at_call 46; refine HTK.out.mono ?_; rintro e w3 ⟨rfl, hb⟩; have HB3 := Lib.hid (low_trans HB.out hb); clear hb HTK)
              exact HQ.out _ _ HNO2.out.symm (low_trans HL1.out HB3.out)
          · have hke : k = n := by omega
            have hkz : ¬ (k : Int) < (n : Int) := by omega
            have hall := HA.out
            rw [hke, HN.out, List.take_length] at hall
            rw [hall, Bool.true_and] at HQ
            obtain ⟨y1, y2, y3, y4⟩ := HK2.out wr HB.out
            have HRW := Lib.hid (HRB.out wr (low_trans HL1.out HB.out))
            clear hall hke HA HTD HRB
            go_wp2_with (go_at_call 47; refine HRW.out.mono ?_; rintro e w3 ⟨rfl, hb⟩; have HB3 := Lib.hid (low_trans HB.out hb); clear hb HRW)
            exact HQ.out _ _ rfl (low_trans HL1.out HB3.out)
      · have hlz : (20 : Int) < (n : Int) := by omega
        have hld : decide ((20 : Int) < (n : Int)) = true := decide_eq_true hlz
        rw [decide_eq_false hlen] at HQ
        clear HTD HRB HT1
        go_enter Tryz.func15, Tryz.ntmps15
        go_upto_region 1 with (fail)
        rw [← HW1.out, ← HG1.out]
        go_wp2_with (go_at_call 45; refine (HIA.out W1).mono ?_; rintro e w2 ⟨rfl, hb⟩; have HL2 := Lib.hid (low_trans HL1.out hb); obtain ⟨y1, y2, y3, y4⟩ := HK2.out w2 hb; clear hb c0 c1 c2 c3 c4 HIA)
        exact HQ.out _ _ (by rfl) HL2.out
end Go.Proofs.YtjgadocojdieeaaGreatDoor
