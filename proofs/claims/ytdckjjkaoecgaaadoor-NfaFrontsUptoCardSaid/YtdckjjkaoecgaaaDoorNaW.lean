/-
  The contract of frankinglaw07.awake: it answers true. Conditions: the library's table.
-/
import Derived.Test.YtdckjjkaoecgaaaDoorNaU
import Derived.Test.YtdckjjkaoecgaaaDoorNaS
import Derived.Test.YtdckjjkaoecgaaaDoorNbX
import Derived.Deep.DeepCutAuto
namespace Go.Proofs.YtdckjjkaoecgaaaDoor
open Go.RowKit Go.Shelf

def raW : Ry := Ry.mk 1 0 8589934592 0 0 none 0 []
def rbW : Ry := Ry.mk 1 0 17179869184 0 0 none 0 []
def rsW (g : Nat) : Ry := Ry.mk 4 0 0 0 0 (some ⟨g, 0, none⟩) 1 [raW]
theorem wake_built (g : Nat) : buildP [rbW, rsW g] 6 = (5, wakeN, 0) := by
  rfl
theorem wake_less (g : Nat) : buildP [rbW, rsW g] 5 = (0, [], 40) := by
  rfl
theorem wake_right : nRightB 5 wakeN = true := by decide +kernel
theorem wake_fit : NsFit wakeN := by
  intro s hs
  simp only [wakeN, List.mem_cons, List.not_mem_nil, or_false] at hs
  rcases hs with rfl | rfl | rfl | rfl | rfl | rfl <;> decide
theorem raOk : ryOk raW := ⟨(by show 1 < 256; decide), (by show 0 < 18446744073709551616; decide), (by show 8589934592 < 18446744073709551616; decide), (by show 0 < 18446744073709551616; decide), (by show 0 < 18446744073709551616; decide)⟩
theorem rbOk : ryOk rbW := ⟨(by show 1 < 256; decide), (by show 0 < 18446744073709551616; decide), (by show 17179869184 < 18446744073709551616; decide), (by show 0 < 18446744073709551616; decide), (by show 0 < 18446744073709551616; decide)⟩
theorem rsOk (g : Nat) : ryOk (rsW g) := ⟨(by show 4 < 256; decide), (by show 0 < 18446744073709551616; decide), (by show 0 < 18446744073709551616; decide), (by show 0 < 18446744073709551616; decide), (by show 0 < 18446744073709551616; decide)⟩
theorem wake_ry (W3 : World) : RyIn ((W3.alloc (.cells #[.int .u8 1, .int .u64 0, .int .u64 8589934592, .int .u64 0, .int .u64 0, .slice none 0 0] 46)).alloc (.cells #[.int .u8 1, .int .u64 0, .int .u64 17179869184, .int .u64 0, .int .u64 0, .slice none 0 0, .int .u8 4, .int .u64 0, .int .u64 0, .int .u64 0, .int .u64 0, .slice (some ⟨W3.heap.size, 0, none⟩) 1 1] 46)) (fun b => b < ((W3.alloc (.cells #[.int .u8 1, .int .u64 0, .int .u64 8589934592, .int .u64 0, .int .u64 0, .slice none 0 0] 46)).alloc (.cells #[.int .u8 1, .int .u64 0, .int .u64 17179869184, .int .u64 0, .int .u64 0, .slice none 0 0, .int .u8 4, .int .u64 0, .int .u64 0, .int .u64 0, .int .u64 0, .slice (some ⟨W3.heap.size, 0, none⟩) 1 1] 46)).heap.size) (some ⟨W3.heap.size + 1, 0, none⟩) 2 [rbW, rsW W3.heap.size] := by
  have hb1 := (Blk.new W3 46 #[.int .u8 1, .int .u64 0, .int .u64 8589934592, .int .u64 0, .int .u64 0, .slice none 0 0]).alloc (.cells #[.int .u8 1, .int .u64 0, .int .u64 17179869184, .int .u64 0, .int .u64 0, .slice none 0 0, .int .u8 4, .int .u64 0, .int .u64 0, .int .u64 0, .int .u64 0, .slice (some ⟨W3.heap.size, 0, none⟩) 1 1] 46)
  have hb2 := Blk.new_at (W3.alloc (.cells #[.int .u8 1, .int .u64 0, .int .u64 8589934592, .int .u64 0, .int .u64 0, .slice none 0 0] 46)) 46 #[.int .u8 1, .int .u64 0, .int .u64 17179869184, .int .u64 0, .int .u64 0, .slice none 0 0, .int .u8 4, .int .u64 0, .int .u64 0, .int .u64 0, .int .u64 0, .slice (some ⟨W3.heap.size, 0, none⟩) 1 1] (W3.heap.size + 1) (by rw [World.size_alloc])
  have hl1 := hb1.lt
  have hl2 := hb2.lt
  generalize ((W3.alloc (.cells #[.int .u8 1, .int .u64 0, .int .u64 8589934592, .int .u64 0, .int .u64 0, .slice none 0 0] 46)).alloc (.cells #[.int .u8 1, .int .u64 0, .int .u64 17179869184, .int .u64 0, .int .u64 0, .slice none 0 0, .int .u8 4, .int .u64 0, .int .u64 0, .int .u64 0, .int .u64 0, .slice (some ⟨W3.heap.size, 0, none⟩) 1 1] 46)) = W at *
  refine .row _ _ _ _ hl2 hl2 (by show 0 < 2; decide) (by show 2 ≤ 2; decide) (by show 2 ≤ maxLen; decide) (fun i h => ?_) (fun i h j u hu => ?_) (fun i h => ?_)
  · match i, h with
    | 0, _ => exact rbOk
    | 1, _ => exact rsOk _
  · rw [hb2.cell, Nat.zero_add]
    match i, h with
    | 0, _ =>
      match j, hu with
      | 0, hu => exact hu
      | 1, hu => exact hu
      | 2, hu => exact hu
      | 3, hu => exact hu
      | 4, hu => exact hu
      | 5, hu => exact hu
      | j + 6, hu => cases hu
    | 1, _ =>
      match j, hu with
      | 0, hu => exact hu
      | 1, hu => exact hu
      | 2, hu => exact hu
      | 3, hu => exact hu
      | 4, hu => exact hu
      | 5, hu => exact hu
      | j + 6, hu => cases hu
  · match i, h with
    | 0, _ => exact .nil _ _
    | 1, _ =>
      refine .row [raW] W3.heap.size 0 1 hl1 hl1 (by decide) (by decide) (by decide) (fun i h => ?_) (fun i h j u hu => ?_) (fun i h => ?_)
      · match i, h with
        | 0, _ => exact raOk
      · rw [hb1.cell, Nat.zero_add]
        match i, h with
        | 0, _ =>
          match j, hu with
          | 0, hu => exact hu
          | 1, hu => exact hu
          | 2, hu => exact hu
          | 3, hu => exact hu
          | 4, hu => exact hu
          | 5, hu => exact hu
          | j + 6, hu => cases hu
      · match i, h with
        | 0, _ => exact .nil _ _
theorem nsIn_own {W : World} {B n : Nat} {v : Value} {st : List NS} (h : W.ownsRow B 56 8 v n (st.flatMap nsCells)) (hn : st.length = n) (hm : n ≤ 100000) : ∃ a c, v = .slice a n c ∧ NsIn W W.heap.size a st := by
  obtain ⟨a, c, e, hr⟩ := own_slice h (by rw [nsFlat_len]; unfold maxLen; omega)
  refine ⟨a, c, e, fun k s hk => ?_⟩
  obtain ⟨hk1, hk2⟩ := List.getElem?_eq_some_iff.1 hk
  obtain ⟨b, off, h1, h2, h3⟩ := hr.row (by rw [nsFlat_len]; omega)
  refine ⟨b, off, h1, h2, fun j u hj => ?_⟩
  have hj8 : j < 8 := (List.getElem?_eq_some_iff.1 hj).1
  rw [Nat.add_assoc, h3 (k * 8 + j) (by rw [nsFlat_len]; omega), ← List.getElem?_eq_getElem, nsFlat_at st k hk1 j hj8, hk2]
  exact hj
theorem wake_b6 (W : World) (g : Nat) (h : RyIn W (· < W.heap.size) (some ⟨g + 1, 0, none⟩) 2 [rbW, rsW g]) : Calls Tryd.prog 12 #[.slice (some ⟨g + 1, 0, none⟩) 2 2, .int .i64 6] W fun e w' => ∃ a c, e = .returned (.tuple #[.agg #[.int .i64 5, .slice a 6 c], .int .i64 0]) ∧ Below W.heap.size W w' ∧ NsIn w' w'.heap.size a wakeN := by
  refine (build_any (some ⟨g + 1, 0, none⟩) 2 [rbW, rsW g] 6 W h (by show 3 ≤ 100000; decide)).mono ?_
  rintro e w' ⟨v, he, hl, ho⟩
  rw [wake_built] at he ho
  obtain ⟨a, c, rfl, hn⟩ := nsIn_own ho rfl (by decide)
  exact ⟨a, c, he, hl, hn⟩
theorem wake_b5 (W : World) (g : Nat) (h : RyIn W (· < W.heap.size) (some ⟨g + 1, 0, none⟩) 2 [rbW, rsW g]) : Calls Tryd.prog 12 #[.slice (some ⟨g + 1, 0, none⟩) 2 2, .int .i64 5] W fun e w' => ∃ a c, e = .returned (.tuple #[.agg #[.int .i64 0, .slice a 0 c], .int .i64 40]) ∧ Below W.heap.size W w' := by
  refine (build_any (some ⟨g + 1, 0, none⟩) 2 [rbW, rsW g] 5 W h (by show 3 ≤ 100000; decide)).mono ?_
  rintro e w' ⟨v, he, hl, ho⟩
  rw [wake_less] at he ho
  obtain ⟨a, c, rfl, _⟩ := nsIn_own (st := []) ho rfl (by decide)
  exact ⟨a, c, he, hl⟩
set_option maxRecDepth 100000 in
set_option maxHeartbeats 8000000 in
theorem awake7_any (w : World) (hT : TzAt w) (htb : 0 < w.heap.size) : Calls Tryd.prog 10 #[] w fun e w' => e = .returned (.bool true) ∧ Below w.heap.size w w' := by
  have HT := Lib.hid hT
  have HTB : Hid (0 < w.heap.size) := htb
  clear hT htb
  go_enter Tryd.func10, Tryd.ntmps10
  go_upto_region 2 with (first
    | (go_at_call 27; with_reducible refine (set_a _).mono ?_; rintro e w1 ⟨rfl, hl1⟩; have HL1 := Lib.hid hl1; clear hl1)
    | (go_at_call 27; with_reducible refine (set_b _).mono ?_; rintro e w2 ⟨rfl, hl2⟩; have HL2 := Lib.hid (HL1.out.trans (hl2.mono HL1.out.size)); clear hl2))
  obtain ⟨W3, hW3⟩ : ∃ W3, W3 = (w2.alloc (.cells #[.int .u8 1, .int .u64 0, .int .u64 8589934592, .int .u64 0, .int .u64 0, .slice none 0 0] 46)).alloc (.cells #[.int .u8 1, .int .u64 0, .int .u64 17179869184, .int .u64 0, .int .u64 0, .slice none 0 0] 46) := ⟨_, rfl⟩
  have HL3 : Hid (Below w.heap.size w W3) := by rw [hW3]; exact (HL2.out.alloc HL2.out.size _).alloc (by have := HL2.out.size; rw [World.size_alloc]; omega) _
  have HA3 : Hid (Blk W3 w2.heap.size 46 #[.int .u8 1, .int .u64 0, .int .u64 8589934592, .int .u64 0, .int .u64 0, .slice none 0 0]) := by rw [hW3]; exact (Blk.new _ _ _).alloc _
  have HB3 : Hid (Blk W3 (w2.heap.size + 1) 46 #[.int .u8 1, .int .u64 0, .int .u64 17179869184, .int .u64 0, .int .u64 0, .slice none 0 0]) := by rw [hW3]; exact Blk.new_at _ _ _ _ (by simp)
  rw [← hW3]
  clear hW3
  obtain ⟨ga, hga⟩ : ∃ ga, ga = w2.heap.size := ⟨_, rfl⟩
  rw [← hga] at HA3 HB3 ⊢
  clear hga
  obtain ⟨gb, hgb⟩ : ∃ gb, gb = ga + 1 := ⟨_, rfl⟩
  rw [← hgb] at HB3 ⊢
  clear hgb
  have c0 := HA3.out.cell 0
  have c1 := HA3.out.cell 1
  have c2 := HA3.out.cell 2
  have c3 := HA3.out.cell 3
  have c4 := HA3.out.cell 4
  have c5 := HA3.out.cell 5
  have d0 := HB3.out.cell 0
  have d1 := HB3.out.cell 1
  have d2 := HB3.out.cell 2
  have d3 := HB3.out.cell 3
  have d4 := HB3.out.cell 4
  have d5 := HB3.out.cell 5
  simp at c0 c1 c2 c3 c4 c5 d0 d1 d2 d3 d4 d5
  have HRY := Lib.hid (wake_ry W3)
  have HLY : Hid (Below w.heap.size w ((W3.alloc (.cells #[.int .u8 1, .int .u64 0, .int .u64 8589934592, .int .u64 0, .int .u64 0, .slice none 0 0] 46)).alloc (.cells #[.int .u8 1, .int .u64 0, .int .u64 17179869184, .int .u64 0, .int .u64 0, .slice none 0 0, .int .u8 4, .int .u64 0, .int .u64 0, .int .u64 0, .int .u64 0, .slice (some ⟨W3.heap.size, 0, none⟩) 1 1] 46))) := (HL3.out.alloc HL3.out.size _).alloc (by have := HL3.out.size; rw [World.size_alloc]; omega) _
  have HLY3 : Hid (Below W3.heap.size W3 ((W3.alloc (.cells #[.int .u8 1, .int .u64 0, .int .u64 8589934592, .int .u64 0, .int .u64 0, .slice none 0 0] 46)).alloc (.cells #[.int .u8 1, .int .u64 0, .int .u64 17179869184, .int .u64 0, .int .u64 0, .slice none 0 0, .int .u8 4, .int .u64 0, .int .u64 0, .int .u64 0, .int .u64 0, .slice (some ⟨W3.heap.size, 0, none⟩) 1 1] 46))) := ((Below.refl _ _).alloc (Nat.le_refl _) _).alloc (by rw [World.size_alloc]; omega) _
  go_upto_region 3 with (go_at_call 12; refine (wake_b6 _ _ HRY.out).mono ?_; rintro e w4 ⟨a4, c4', rfl, hl4, hns4⟩; have HL4 := Lib.hid (HLY.out.trans (hl4.mono HLY.out.size)); have HN4 := Lib.hid hns4; have HL34 := Lib.hid (HLY3.out.trans (hl4.mono HLY3.out.size)); clear hl4 hns4)
  have HAB : Hid (∀ W, Below W3.heap.size W3 W → Blk W ga 46 #[.int .u8 1, .int .u64 0, .int .u64 8589934592, .int .u64 0, .int .u64 0, .slice none 0 0] ∧ Blk W gb 46 #[.int .u8 1, .int .u64 0, .int .u64 17179869184, .int .u64 0, .int .u64 0, .slice none 0 0]) := fun W hl => ⟨HA3.out.below hl HA3.out.lt, HB3.out.below hl HB3.out.lt⟩
  obtain ⟨W5, hW5⟩ : ∃ W5, W5 = w4.alloc (.cells #[.int .i64 5, .slice a4 6 c4'] 25) := ⟨_, rfl⟩
  have HL5 : Hid (Below w.heap.size w W5) := by rw [hW5]; exact HL4.out.alloc HL4.out.size _
  have HL35 : Hid (Below W3.heap.size W3 W5) := by rw [hW5]; exact HL34.out.alloc HL34.out.size _
  have HX5 : Hid (Blk W5 w4.heap.size 25 #[.int .i64 5, .slice a4 6 c4']) := by rw [hW5]; exact Blk.new _ _ _
  have HN5 : Hid (NsIn W5 W5.heap.size a4 wakeN) := by rw [hW5]; exact (HN4.out.below ((Below.refl _ _).alloc (Nat.le_refl _) _)).mono (by rw [World.size_alloc]; omega)
  rw [← hW5]
  clear hW5 c0 c1 c2 c3 c4 c5 d0 d1 d2 d3 d4 d5
  obtain ⟨gn, hgn⟩ : ∃ gn, gn = w4.heap.size := ⟨_, rfl⟩
  rw [← hgn] at HX5 ⊢
  clear hgn HRY HLY HN4
  have c0 := (HAB.out W5 HL35.out).1.cell 0
  have c1 := (HAB.out W5 HL35.out).1.cell 1
  have c2 := (HAB.out W5 HL35.out).1.cell 2
  have c3 := (HAB.out W5 HL35.out).1.cell 3
  have c4 := (HAB.out W5 HL35.out).1.cell 4
  have c5 := (HAB.out W5 HL35.out).1.cell 5
  have d0 := (HAB.out W5 HL35.out).2.cell 0
  have d1 := (HAB.out W5 HL35.out).2.cell 1
  have d2 := (HAB.out W5 HL35.out).2.cell 2
  have d3 := (HAB.out W5 HL35.out).2.cell 3
  have d4 := (HAB.out W5 HL35.out).2.cell 4
  have d5 := (HAB.out W5 HL35.out).2.cell 5
  simp at c0 c1 c2 c3 c4 c5 d0 d1 d2 d3 d4 d5
  have HRY := Lib.hid (wake_ry W5)
  have HLY : Hid (Below W5.heap.size W5 ((W5.alloc (.cells #[.int .u8 1, .int .u64 0, .int .u64 8589934592, .int .u64 0, .int .u64 0, .slice none 0 0] 46)).alloc (.cells #[.int .u8 1, .int .u64 0, .int .u64 17179869184, .int .u64 0, .int .u64 0, .slice none 0 0, .int .u8 4, .int .u64 0, .int .u64 0, .int .u64 0, .int .u64 0, .slice (some ⟨W5.heap.size, 0, none⟩) 1 1] 46))) := ((Below.refl _ _).alloc (Nat.le_refl _) _).alloc (by rw [World.size_alloc]; omega) _
  go_upto_region 4 with (go_at_call 12; refine (wake_b5 _ _ HRY.out).mono ?_; rintro e w6 ⟨a6, c6', rfl, hl6⟩; have HL56 := Lib.hid (HLY.out.trans (hl6.mono HLY.out.size)); clear hl6)
  obtain ⟨W7, hW7⟩ : ∃ W7, W7 = w6.alloc (.cells #[.int .i64 0, .slice a6 0 c6'] 25) := ⟨_, rfl⟩
  have HL57 : Hid (Below W5.heap.size W5 W7) := by rw [hW7]; exact HL56.out.alloc HL56.out.size _
  rw [← hW7]
  clear hW7 c0 c1 c2 c3 c4 c5 d0 d1 d2 d3 d4 d5 HRY HLY
  have HL37 : Hid (Below W3.heap.size W3 W7) := HL35.out.trans (HL57.out.mono HL35.out.size)
  have c1 := (HAB.out W7 HL37.out).1.cell 1
  have c2 := (HAB.out W7 HL37.out).1.cell 2
  have c3 := (HAB.out W7 HL37.out).1.cell 3
  have c4 := (HAB.out W7 HL37.out).1.cell 4
  have d1 := (HAB.out W7 HL37.out).2.cell 1
  have d2 := (HAB.out W7 HL37.out).2.cell 2
  have d3 := (HAB.out W7 HL37.out).2.cell 3
  have d4 := (HAB.out W7 HL37.out).2.cell 4
  simp at c1 c2 c3 c4 d1 d2 d3 d4
  go_upto_region 5 with fail
  obtain ⟨W9, hW9⟩ : ∃ W9, W9 = ((W7.alloc (.cells #[.int .u8 0, .int .u64 0, .int .u64 0, .int .u64 0, .int .u64 0, .int .i64 0, .int .i64 0, .int .i64 0, .int .u8 1, .int .u64 0, .int .u64 17179869184, .int .u64 0, .int .u64 0, .int .i64 0, .int .i64 0, .int .i64 0, .int .u8 0, .int .u64 0, .int .u64 0, .int .u64 0, .int .u64 0, .int .i64 0, .int .i64 0, .int .i64 1, .int .u8 2, .int .u64 0, .int .u64 0, .int .u64 0, .int .u64 0, .int .i64 4, .int .i64 2, .int .i64 0, .int .u8 1, .int .u64 0, .int .u64 8589934592, .int .u64 0, .int .u64 0, .int .i64 3, .int .i64 0, .int .i64 0, .int .u8 2, .int .u64 0, .int .u64 0, .int .u64 0, .int .u64 0, .int .i64 1, .int .i64 3, .int .i64 0] 56)).alloc (.cells #[.int .i64 5, .slice (some ⟨W7.heap.size, 0, none⟩) 6 6] 25)) := ⟨_, rfl⟩
  have HBN : Hid (Blk W9 W7.heap.size 56 (wakeN.flatMap nsCells).toArray) := by rw [hW9]; exact (Blk.new W7 56 (wakeN.flatMap nsCells).toArray).alloc _
  have HBW : Hid (Blk W9 (W7.heap.size + 1) 25 #[.int .i64 5, .slice (some ⟨W7.heap.size, 0, none⟩) 6 6]) := by rw [hW9]; exact Blk.new_at _ _ _ _ (by rw [World.size_alloc])
  have HL79 : Hid (Below W7.heap.size W7 W9) := by rw [hW9]; exact ((Below.refl _ _).alloc (Nat.le_refl _) _).alloc (by rw [World.size_alloc]; omega) _
  have HL59 : Hid (Below W5.heap.size W5 W9) := HL57.out.trans (HL79.out.mono HL57.out.size)
  have HL9 : Hid (Below w.heap.size w W9) := HL5.out.trans (HL59.out.mono HL5.out.size)
  have HX9 := Lib.hid (HX5.out.below HL59.out HX5.out.lt)
  have HN9 : Hid (NsIn W9 W9.heap.size a4 wakeN) := (HN5.out.below HL59.out).mono HL59.out.size
  have HW9 : Hid (NsIn W9 W9.heap.size (some ⟨W7.heap.size, 0, none⟩) wakeN) := fun k t hk => by
    obtain ⟨hk1, hk2⟩ := List.getElem?_eq_some_iff.1 hk
    refine ⟨W7.heap.size, 0, rfl, HBN.out.lt, fun j u hj => ?_⟩
    have hj8 : j < 8 := (List.getElem?_eq_some_iff.1 hj).1
    rw [HBN.out.cell, Nat.zero_add, List.getElem?_toArray, nsFlat_at wakeN k hk1 j hj8, hk2]
    exact hj
  rw [← hW9]
  clear hW9 c1 c2 c3 c4 d1 d2 d3 d4 HBN HN5 HX5 HL37 HL57 HL79 HL59 HL35 HL34 HAB HA3 HB3 HL1 HL2 HL3 HL4 HLY3 HL56
  have HSA := Lib.hid (same7_any 5 5 a4 (some ⟨W7.heap.size, 0, none⟩) c4' 6 wakeN wakeN 6 6 rfl rfl (by decide) (by decide) W9 HN9.out HW9.out true (by simp))
  have HNX : Hid (∀ W, Below W9.heap.size W9 W → W.cell? ⟨gn, 0, none⟩ = some (.int .i64 5) ∧ W.cell? ⟨gn, 1, none⟩ = some (.slice a4 6 c4')) := fun W hl => by
    have h0 := (HX9.out.below hl HX9.out.lt).cell 0
    have h1 := (HX9.out.below hl HX9.out.lt).cell 1
    exact ⟨by simpa using h0, by simpa using h1⟩
  have HR1 : Hid (∀ w10, Below W9.heap.size W9 w10 → Calls Tryd.prog 28 #[.agg #[.int .i64 5, .slice a4 6 c4'], .string ⟨#[98]⟩, .slice (some ⟨w10.heap.size, 0, none⟩) 2 2] (w10.alloc (.cells #[.int .i64 1, .int .i64 0] 3)) fun e w' => e = .returned (.bool true) ∧ Below W9.heap.size W9 w') := fun w10 hl => by
    have hl2 : Below W9.heap.size W9 (w10.alloc (.cells #[.int .i64 1, .int .i64 0] 3)) := hl.alloc hl.size _
    refine (runs_yes (p := 5) (sc := c4') (st := wakeN) (sn := 6) rfl (w10.alloc (.cells #[.int .i64 1, .int .i64 0] 3)) ((HN9.out.below hl2).mono hl2.size) wake_fit wake_right ⟨#[98]⟩ (by show 1 ≤ 1000000; decide) (HT.out.below HTB.out (HL9.out.trans (hl2.mono HL9.out.size))) (Nat.lt_of_lt_of_le HTB.out (Nat.le_trans HL9.out.size hl2.size)) [1, 0] 2 6 rfl (some ⟨w10.heap.size, 0, none⟩) 2 (ints_blk (ts := [1, 0]) (Blk.new w10 3 #[.int .i64 1, .int .i64 0]) (by decide)) wake1).mono ?_
    rintro e w' ⟨rfl, hb⟩
    exact ⟨rfl, hl2.trans (hb.mono hl2.size)⟩
  have HR2 : Hid (∀ w10, Below W9.heap.size W9 w10 → Calls Tryd.prog 28 #[.agg #[.int .i64 5, .slice a4 6 c4'], .string ⟨#[97, 97, 98]⟩, .slice (some ⟨w10.heap.size, 0, none⟩) 4 4] (w10.alloc (.cells #[.int .i64 1, .int .i64 1, .int .i64 1, .int .i64 (-1)] 3)) fun e w' => e = .returned (.bool true) ∧ Below W9.heap.size W9 w') := fun w10 hl => by
    have hl2 : Below W9.heap.size W9 (w10.alloc (.cells #[.int .i64 1, .int .i64 1, .int .i64 1, .int .i64 (-1)] 3)) := hl.alloc hl.size _
    refine (runs_yes (p := 5) (sc := c4') (st := wakeN) (sn := 6) rfl (w10.alloc (.cells #[.int .i64 1, .int .i64 1, .int .i64 1, .int .i64 (-1)] 3)) ((HN9.out.below hl2).mono hl2.size) wake_fit wake_right ⟨#[97, 97, 98]⟩ (by show 3 ≤ 1000000; decide) (HT.out.below HTB.out (HL9.out.trans (hl2.mono HL9.out.size))) (Nat.lt_of_lt_of_le HTB.out (Nat.le_trans HL9.out.size hl2.size)) [1, 1, 1, -1] 4 6 rfl (some ⟨w10.heap.size, 0, none⟩) 4 (ints_blk (ts := [1, 1, 1, -1]) (Blk.new w10 3 #[.int .i64 1, .int .i64 1, .int .i64 1, .int .i64 (-1)]) (by decide)) wake2).mono ?_
    rintro e w' ⟨rfl, hb⟩
    exact ⟨rfl, hl2.trans (hb.mono hl2.size)⟩
  have HR3 : Hid (∀ w10, Below W9.heap.size W9 w10 → Calls Tryd.prog 28 #[.agg #[.int .i64 5, .slice a4 6 c4'], .string ⟨#[]⟩, .slice (some ⟨w10.heap.size, 0, none⟩) 1 1] (w10.alloc (.cells #[.int .i64 1] 3)) fun e w' => e = .returned (.bool true) ∧ Below W9.heap.size W9 w') := fun w10 hl => by
    have hl2 : Below W9.heap.size W9 (w10.alloc (.cells #[.int .i64 1] 3)) := hl.alloc hl.size _
    refine (runs_yes (p := 5) (sc := c4') (st := wakeN) (sn := 6) rfl (w10.alloc (.cells #[.int .i64 1] 3)) ((HN9.out.below hl2).mono hl2.size) wake_fit wake_right ⟨#[]⟩ (by show 0 ≤ 1000000; decide) (HT.out.below HTB.out (HL9.out.trans (hl2.mono HL9.out.size))) (Nat.lt_of_lt_of_le HTB.out (Nat.le_trans HL9.out.size hl2.size)) [1] 1 6 rfl (some ⟨w10.heap.size, 0, none⟩) 1 (ints_blk (ts := [1]) (Blk.new w10 3 #[.int .i64 1]) (by decide)) wake3).mono ?_
    rintro e w' ⟨rfl, hb⟩
    exact ⟨rfl, hl2.trans (hb.mono hl2.size)⟩
  obtain ⟨n0, n1⟩ := HNX.out W9 (Below.refl _ _)
  have m0 := HBW.out.cell 0
  have m1 := HBW.out.cell 1
  simp at m0 m1
  clear HBW HN9 HW9 HX9
  go_wp2_with (first
    | (go_at_call 14; refine HSA.out.mono ?_; rintro e w10 ⟨rfl, hb⟩; have HL10 := Lib.hid hb; obtain ⟨x0, x1⟩ := HNX.out w10 hb; clear hb)
    | (go_at_call 28; with_reducible refine (HR1.out w10 HL10.out).mono ?_; rintro e w11 ⟨rfl, hb⟩; have HL11 := Lib.hid hb; obtain ⟨y0, y1⟩ := HNX.out w11 hb; clear hb)
    | (go_at_call 28; with_reducible refine (HR2.out w11 HL11.out).mono ?_; rintro e w12 ⟨rfl, hb⟩; have HL12 := Lib.hid hb; obtain ⟨z0, z1⟩ := HNX.out w12 hb; clear hb)
    | (go_at_call 28; with_reducible refine (HR3.out w12 HL12.out).mono ?_; rintro e w13 ⟨rfl, hb⟩; have HL13 := Lib.hid hb; clear hb))
  go_ret
  exact ⟨rfl, HL9.out.trans (HL13.out.mono HL9.out.size)⟩
end Go.Proofs.YtdckjjkaoecgaaaDoor
