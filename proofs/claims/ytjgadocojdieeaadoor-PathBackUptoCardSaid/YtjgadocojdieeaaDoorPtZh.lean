/-
  The contract of frankinglaw15.PathAgain. Conditions: the text is of at most 2^39 bytes; the library's variable holds some value.
-/
import Derived.Test.YtjgadocojdieeaaDoorPtZg
namespace Go.Proofs.YtjgadocojdieeaaDoor
open Go.RowKit Go.Shelf

theorem own_cap {w : World} {B n : Nat} {e : TypeId} {a : Option Addr} {c : Nat} {xs : List Value} (h : w.ownsRow B e 1 (.slice a n c) n xs) : n ≤ c := by
  rcases h.2 with ⟨e1, h0⟩ | ⟨g, cap, cur, e1, _, _, h3, _⟩
  · omega
  · injection e1 with e1 e2 e3
    omega
/-- what Parse tells: its route, and room for it -/
theorem parse_room (s : List UInt8) (hs : s.length ≤ 1099511627776) (w : World) (he : ErrAt w ∧ ErrG < w.heap.size) : Calls Tryd.prog 10 #[.string (bs s)] w fun e w' => ∃ a c, e = .returned (.tuple #[paV (parseP s).2.1 a c, .int .i64 (((parseP s).2.2 : Nat) : Int), .int .i64 (parseP s).1]) ∧ TextsAt w' a (parseP s).2.1.route ∧ (parseP s).2.1.route.length ≤ c ∧ Below w.heap.size w w' :=
  (parse_fun s hs w he.1 he.2).mono fun e w' h => by
    obtain ⟨v, h1, h2, h3⟩ := h
    have hl : (parseP s).2.1.route.length ≤ maxLen := by have := parseP_route s; unfold maxLen; omega
    obtain ⟨a, c, rfl, h4⟩ := own_slice h2 (by rw [List.length_map]; exact hl)
    exact ⟨a, c, h1, h4, own_cap h2, h3⟩
theorem fits_right {p : Pa} (h : rightD p = true) : PaFits p 1099511627776 := by
  obtain ⟨h1, h2, _, h3⟩ := right_lens h
  exact ⟨by omega, by omega, fun d hd => by have := h3 d hd; omega⟩
set_option maxRecDepth 100000 in
set_option maxHeartbeats 4000000 in
theorem again_any (s : List UInt8) (hs : s.length ≤ 549755813888) (w : World) (he : ErrAt w ∧ ErrG < w.heap.size) :
    Calls Tryd.prog 4 #[.string (bs s)] w (SameOut w true) := by
  have HE := Lib.hid he
  have HP := Lib.hid (parse_room s (by omega) w he)
  have HQ : Hid (∀ w', Below w.heap.size w w' → SameOut w true (.returned (.bool true)) w') := fun w' h => ⟨rfl, h⟩
  have HAW := Lib.hid (fun W (hW : Below w.heap.size w W) => awake_any W (ErrAt.later he hW))
  have hsz : (bs s).size = s.length := rfl
  generalize SameOut w true = Q at *
  by_cases h0 : (parseP s).1 = 0
  · obtain ⟨hr, hn2, hnl, hs0, hs1, hpp, hpl⟩ := parseP_print h0
    obtain ⟨l1, l2, l3, l4⟩ := right_lens hr
    have hfit := fits_right hr
    obtain ⟨n, hn⟩ : ∃ n, n = (parseP s).2.2 := ⟨_, rfl⟩
    obtain ⟨p, hp⟩ : ∃ p, p = (parseP s).2.1 := ⟨_, rfl⟩
    rw [h0, ← hn, ← hp] at HP
    rw [← hp] at hr hpp hpl l1 l2 l3 hfit
    rw [← hn] at hn2 hnl hs1 hpl
    have HRI := Lib.hid (fun W a c (ht : TextsAt W a p.route) (hW : Below w.heap.size w W) => right_any p a c W ht hfit (ErrAt.later he hW))
    have HPR := Lib.hid (fun W a c (hc : p.route.length ≤ c) (ht : TextsAt W a p.route) (hW : Below w.heap.size w W) => print_any p a c W hc ht hfit (ErrAt.later he hW))
    have hpr : printP p = (printD p, 0) := by unfold printP; rw [if_pos hr]
    rw [hr] at HRI
    rw [hpr] at HPR
    unfold PrOut at HPR
    unfold paV paCells at HRI HPR
    have HPM := Lib.hid (fun W (hW : Below w.heap.size w W) => parse_told (printD p) (by omega) W (ErrAt.later he hW))
    simp only [hpp] at HPM
    obtain ⟨i0, e0⟩ := List.getElem?_eq_some_iff.1 hs0
    obtain ⟨i1, e1⟩ := List.getElem?_eq_some_iff.1 hs1
    have hx0 : ∀ W, (Instr.index 9 (.string (bs s)) (.int .i64 0)).run Tryd.prog W = .ok (.int .u8 60) W := fun W => by have := str_at s 0 i0 W; rw [e0] at this; exact this
    have hx1 : ∀ W, (Instr.index 9 (.string (bs s)) (.int .i64 ((n : Int) - 1))).run Tryd.prog W = .ok (.int .u8 62) W := fun W => by
      have := str_at s (n - 1) i1 W
      rw [e1, show (((n - 1 : Nat) : Nat) : Int) = (n : Int) - 1 by omega] at this
      exact this
    have hpz : (2 : Int) ≤ (n : Int) := by omega
    have hpd : decide ((n : Int) < 2) = false := by simp; omega
    have hlz : n ≤ s.length := by omega
    have hld : decide (s.length < n) = false := by simp; omega
    have hnm : (n : Int) ≤ 549755813888 := by omega
    have q1 : decide ((64 : Int) < (p.loc.length : Int)) = false := by simp; omega
    have q2 : decide ((255 : Int) < (p.dom.length : Int)) = false := by simp; omega
    have q3 : decide ((20 : Int) < (p.route.length : Int)) = false := by simp; omega
    have z1 : ((bs p.loc).size : Int) = (p.loc.length : Int) := rfl
    have z2 : ((bs p.dom).size : Int) = (p.dom.length : Int) := rfl
    have HSS := Lib.hid (fun W a2 c2 a6 c6 (h2 : TextsAt W a2 p.route) (h6 : TextsAt W a6 p.route) => same_any p p a2 a6 c2 c6 W h2 h6)
    rw [decide_eq_true rfl] at HSS
    unfold paV paCells at HSS
    have z3 : (bs (printD p)).size = (printD p).length := rfl
    have q4 : (printD p).length ≤ n := hpl
    obtain ⟨T, hT⟩ : ∃ T, T = bs (printD p) := ⟨_, rfl⟩
    obtain ⟨m, hm⟩ : ∃ m, m = (printD p).length := ⟨_, rfl⟩
    rw [← hT] at HPM HPR z3
    rw [← hm] at HPM z3 q4
    clear h0 hn hp hr hpp hpl hn2 hnl hs0 hs1 hfit hpr l1 l2 l3 l4 i0 i1 e0 e1 he hT hm
    go_enter Tryd.func4, Tryd.ntmps4
    go_upto_region 2 with (go_at_call 10; refine HP.out.mono ?_; rintro e w2 ⟨a2, c2, rfl, ht2, hc2, hb2⟩; unfold paV paCells; have HT2 := Lib.hid ht2; have HC2 := Lib.hid hc2; have HB2 := Lib.hid hb2; clear ht2 hc2 hb2 HP)
    obtain ⟨W3, hW3⟩ : ∃ W, W = w2.alloc (.cells #[.bool p.null, .slice a2 p.route.length c2, .string (bs p.loc), .string (bs p.dom), .bool p.lit] 26) := ⟨_, rfl⟩
    obtain ⟨g3, hg3⟩ : ∃ g, g = w2.heap.size := ⟨_, rfl⟩
    have HK3 : Hid (Blk W3 g3 26 #[.bool p.null, .slice a2 p.route.length c2, .string (bs p.loc), .string (bs p.dom), .bool p.lit]) := by rw [hW3, hg3]; exact Blk.new _ _ _
    have HA3 : Hid (Below w2.heap.size w2 W3) := by rw [hW3]; exact (Below.refl _ w2).alloc (Nat.le_refl _) _
    have HL3 : Hid (Below w.heap.size w W3) := low_trans HB2.out HA3.out
    have HT3 : Hid (TextsAt W3 a2 p.route) := RowAt.below HT2.out HA3.out
    change Code.wp _ _ _ _ (World.alloc w2 (Obj.cells #[.bool p.null, .slice a2 p.route.length c2, .string (bs p.loc), .string (bs p.dom), .bool p.lit] 26))
    rw [← hW3, ← hg3]
    clear hW3 hg3
    have HY : Hid (∀ W, Below W3.heap.size W3 W → W.cell? ⟨g3, 0, none⟩ = some (.bool p.null) ∧ W.cell? ⟨g3, 1, none⟩ = some (.slice a2 p.route.length c2) ∧ W.cell? ⟨g3, 2, none⟩ = some (.string (bs p.loc)) ∧ W.cell? ⟨g3, 3, none⟩ = some (.string (bs p.dom)) ∧ W.cell? ⟨g3, 4, none⟩ = some (.bool p.lit)) := fun W hW => by
      have h := HK3.out.below hW HK3.out.lt
      exact ⟨h.cell 0, h.cell 1, h.cell 2, h.cell 3, h.cell 4⟩
    obtain ⟨x0, x1, x2, x3, x4⟩ := HY.out W3 (Below.refl _ _)
    go_upto_region 6 with (go_at_call 9; refine (HRI.out _ _ _ HT3.out HL3.out).mono ?_; rintro e w4 ⟨rfl, hb⟩; have HB4 := Lib.hid hb; obtain ⟨y0, y1, y2, y3, y4⟩ := HY.out w4 hb; clear hb HRI x0 x1 x2 x3 x4)
    go_upto_region 7 with (go_at_call 7; refine (HPR.out _ _ _ HC2.out (RowAt.below HT3.out HB4.out) (low_trans HL3.out HB4.out)).mono ?_; rintro e w5 ⟨rfl, hb⟩; have HB5 := Lib.hid (low_trans HB4.out hb); obtain ⟨u0, u1, u2, u3, u4⟩ := HY.out w5 HB5.out; clear hb HPR y0 y1 y2 y3 y4)
    go_upto_region 8 with (go_at_call 10; refine (HPM.out _ (low_trans HL3.out HB5.out)).mono ?_; rintro e w6 ⟨a6, c6, rfl, ht6, hb6⟩; unfold paV paCells; have HT6 := Lib.hid ht6; have HB6 := Lib.hid (low_trans HB5.out hb6); clear ht6 hb6 u0 u1 u2 u3 u4)
    obtain ⟨W7, hW7⟩ : ∃ W, W = w6.alloc (.cells #[.bool p.null, .slice a6 p.route.length c6, .string (bs p.loc), .string (bs p.dom), .bool p.lit] 26) := ⟨_, rfl⟩
    obtain ⟨g7, hg7⟩ : ∃ g, g = w6.heap.size := ⟨_, rfl⟩
    have HK7 : Hid (Blk W7 g7 26 #[.bool p.null, .slice a6 p.route.length c6, .string (bs p.loc), .string (bs p.dom), .bool p.lit]) := by rw [hW7, hg7]; exact Blk.new _ _ _
    have HA7 : Hid (Below w6.heap.size w6 W7) := by rw [hW7]; exact (Below.refl _ w6).alloc (Nat.le_refl _) _
    have HB7 : Hid (Below W3.heap.size W3 W7) := low_trans HB6.out HA7.out
    change Code.wp _ _ _ _ (World.alloc w6 (Obj.cells #[.bool p.null, .slice a6 p.route.length c6, .string (bs p.loc), .string (bs p.dom), .bool p.lit] 26))
    rw [← hW7, ← hg7]
    clear hW7 hg7
    have HSM := Lib.hid (HSS.out W7 a2 c2 a6 c6 (RowAt.below HT3.out HB7.out) (RowAt.below HT6.out HA7.out))
    obtain ⟨v0, v1, v2, v3, v4⟩ := HY.out W7 HB7.out
    have y0 := HK7.out.cell 0
    have y1 := HK7.out.cell 1
    have y2 := HK7.out.cell 2
    have y3 := HK7.out.cell 3
    have y4 := HK7.out.cell 4
    simp at y0 y1 y2 y3 y4
    clear HPM hx0 hx1 HSS
    go_wp2_with (first | (go_at_call 11; refine HSM.out.mono ?_; rintro e w8 ⟨rfl, hb8⟩; have HL8 := Lib.hid (low_trans (low_trans HL3.out HB7.out) hb8); clear hb8) | (go_at_call 13; refine (HAW.out _ HL8.out).mono ?_; rintro e w9 ⟨rfl, hb9⟩; have HL9 := Lib.hid (low_trans HL8.out hb9); clear hb9))
    exact HQ.out w9 HL9.out
  · obtain ⟨hz, hn, hp⟩ := parseP_bad h0
    rw [hn, hp] at HP
    unfold paV paCells at HP
    clear hn hp h0 he
    have HSS := Lib.hid (fun W a2 c2 => same_any {} {} a2 none c2 0 W (noTexts W a2) (noTexts W none))
    rw [decide_eq_true rfl] at HSS
    unfold paV paCells at HSS
    generalize (parseP s).1 = z at *
    rcases hz with rfl | rfl
    all_goals
      go_enter Tryd.func4, Tryd.ntmps4
      go_upto_region 2 with (go_at_call 10; refine HP.out.mono ?_; rintro e w2 ⟨a2, c2, rfl, ht2, hc2, hb2⟩; have HB2 := Lib.hid hb2; clear ht2 hb2 hc2 HP)
      obtain ⟨W3, hW3⟩ : ∃ W, W = w2.alloc (.cells #[.bool false, .slice a2 0 c2, .string ⟨#[]⟩, .string ⟨#[]⟩, .bool false] 26) := ⟨_, rfl⟩
      obtain ⟨g3, hg3⟩ : ∃ g, g = w2.heap.size := ⟨_, rfl⟩
      have HK3 : Hid (Blk W3 g3 26 #[.bool false, .slice a2 0 c2, .string ⟨#[]⟩, .string ⟨#[]⟩, .bool false]) := by rw [hW3, hg3]; exact Blk.new _ _ _
      have HA3 : Hid (Below w2.heap.size w2 W3) := by rw [hW3]; exact (Below.refl _ w2).alloc (Nat.le_refl _) _
      have HL3 : Hid (Below w.heap.size w W3) := low_trans HB2.out HA3.out
      change Code.wp _ _ _ _ (World.alloc w2 (Obj.cells #[.bool false, .slice a2 0 c2, .string ⟨#[]⟩, .string ⟨#[]⟩, .bool false] 26))
      rw [← hW3, ← hg3]
      clear hW3 hg3
      have HSM : Hid (Calls Tryd.prog 11 #[.agg #[.bool false, .slice a2 0 c2, .string ⟨#[]⟩, .string ⟨#[]⟩, .bool false], .agg #[.bool false, .slice none 0 0, .string ⟨#[]⟩, .string ⟨#[]⟩, .bool false]] W3 (SameOut W3 true)) := HSS.out W3 a2 c2
      have y0 := HK3.out.cell 0
      have y1 := HK3.out.cell 1
      have y2 := HK3.out.cell 2
      have y3 := HK3.out.cell 3
      have y4 := HK3.out.cell 4
      simp at y0 y1 y2 y3 y4
      go_wp2_with (first | (go_at_call 11; refine HSM.out.mono ?_; rintro e w8 ⟨rfl, hb8⟩; have HL8 := Lib.hid (low_trans HL3.out hb8); clear hb8) | (go_at_call 13; refine (HAW.out _ HL8.out).mono ?_; rintro e w9 ⟨rfl, hb9⟩; have HL9 := Lib.hid (low_trans HL8.out hb9); clear hb9))
      exact HQ.out w9 HL9.out
end Go.Proofs.YtjgadocojdieeaaDoor
