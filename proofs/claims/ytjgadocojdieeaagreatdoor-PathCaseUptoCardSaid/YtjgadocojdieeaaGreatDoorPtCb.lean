/-
  The contract of frankinglaw15.local. Conditions: the mailbox is right; texts of at most 2^40 bytes; the library's variable holds some value.
-/
import Derived.Test.YtjgadocojdieeaaGreatDoorPtCa
import Derived.Test.YtjgadocojdieeaaGreatDoorPtZm
namespace Go.Proofs.YtjgadocojdieeaaGreatDoor
open Go.RowKit Go.Shelf

theorem last_any (l : List UInt8) (hl : l.length ≤ 1099511627776) (W : World) : Calls Tryz.prog 21 #[.string (bs l), .string ⟨#[64]⟩] W fun e w' => e = .returned (.int .i64 (Lib.lastIndexByte (bs l) 64)) ∧ w' = W :=
  Tryz.strings_LastIndex_one (bs l) ⟨#[64]⟩ rfl (by rw [bs_size]; omega) W
theorem suffix_any (l m : List UInt8) (hl : l.length ≤ 1099511627776) (W : World) : Calls Tryz.prog 23 #[.string (bs l), .string (bs m)] W fun e w' => e = .returned (.string (bs (Lib.trimSuffix l m))) ∧ w' = W :=
  Tryz.strings_TrimSuffix (bs l) (bs m) W (by rw [bs_size]; omega)
theorem upper_any (l : List UInt8) (hl : l.length ≤ 1000) (h : ∀ c ∈ l, c.toNat < 128) (W : World) : Calls Tryz.prog 25 #[.string (bs l)] W fun e w' => e = .returned (.string (bs (Lib.toUpperA l))) ∧ Below W.heap.size W w' :=
  Tryz.strings_ToUpper_ascii (bs l) W (by rw [bs_size]; omega) (fun j b hj => h b (List.mem_of_getElem? hj))
theorem upper_len (l : List UInt8) : (Lib.toUpperA l).length = l.length := by simp [Lib.toUpperA]
theorem noat_loc_box {p : Pa} (h : rightBoxD p.loc p.dom p.lit = true) : Lib.lastIndexByte (bs (boxD p.loc p.dom p.lit)) 64 = ((locD p.loc).length : Int) :=
  last_at (locD p.loc) (domD p.dom p.lit) (noat_domD (dom_print h).2)
set_option maxRecDepth 100000 in
set_option maxHeartbeats 1000000 in
theorem locOf_any (p : Pa) (a : Option Addr) (c : Nat) (h : rightBoxD p.loc p.dom p.lit = true) (w : World) (he : ErrAt w ∧ ErrG < w.heap.size) : Calls Tryz.prog 24 #[paV p a c] w fun e w' => e = .returned (.string (bs (locD p.loc))) ∧ Below w.heap.size w w' := by
  obtain ⟨l1, l2⟩ := box_lens h
  have hbm := boxD_most p.loc p.dom p.lit
  obtain ⟨W1, hW1⟩ : ∃ W1, W1 = w.alloc (.cells (paCells p (.slice a p.route.length c)) 26) := ⟨_, rfl⟩
  obtain ⟨g1, hg1⟩ : ∃ g1, g1 = w.heap.size := ⟨_, rfl⟩
  have hb1 : Below w.heap.size w W1 := by rw [hW1]; exact (Below.refl _ w).alloc (Nat.le_refl _) _
  have hk1 : Blk W1 g1 26 (paCells p (.slice a p.route.length c)) := by rw [hW1, hg1]; exact Blk.new _ _ _
  have HL1 := Lib.hid hb1
  have HPB := Lib.hid (printBox_any p.loc p.dom p.lit (by omega) (by omega) W1 (ErrAt.later he hb1))
  have hpb : printBoxP p.loc p.dom p.lit = (boxD p.loc p.dom p.lit, 0) := by unfold printBoxP; rw [if_pos h]
  rw [hpb] at HPB
  unfold PrOut boxCells at HPB
  have HLI := Lib.hid (fun W => last_any (boxD p.loc p.dom p.lit) (by omega) W)
  rw [noat_loc_box h] at HLI
  have hlen : (locD p.loc).length ≤ (boxD p.loc p.dom p.lit).length := by unfold boxD; rw [List.length_append]; omega
  have hcut : ∀ W, (Instr.slice 9 (.string (bs (boxD p.loc p.dom p.lit))) none (some (.int .i64 ((locD p.loc).length : Int))) none).run Tryz.prog W = .ok (.string (bs (locD p.loc))) W := fun W => by
    have := str_to (boxD p.loc p.dom p.lit) (locD p.loc).length hlen W
    have e : (boxD p.loc p.dom p.lit).take (locD p.loc).length = locD p.loc := by unfold boxD; rw [List.take_left]
    rw [e] at this
    exact this
  obtain ⟨x0, x1, x2, x3, x4⟩ : W1.cell? ⟨g1, 0, none⟩ = some (.bool p.null) ∧ W1.cell? ⟨g1, 1, none⟩ = some (.slice a p.route.length c) ∧ W1.cell? ⟨g1, 2, none⟩ = some (.string (bs p.loc)) ∧ W1.cell? ⟨g1, 3, none⟩ = some (.string (bs p.dom)) ∧ W1.cell? ⟨g1, 4, none⟩ = some (.bool p.lit) := ⟨hk1.cell 0, hk1.cell 1, hk1.cell 2, hk1.cell 3, hk1.cell 4⟩
  unfold paCells at hW1
  unfold paV paCells
  have HW1 := Lib.hid hW1
  have HG1 := Lib.hid hg1
  have hlm : ((locD p.loc).length : Int) ≤ 1000 := by have := loc_most p.loc; omega
  clear hW1 hg1 hb1 hk1 he h l1 l2 hbm hpb hlen
  generalize bs (boxD p.loc p.dom p.lit) = TB at *
  generalize bs (locD p.loc) = TL at *
  generalize (locD p.loc).length = n at *
  have hmax : max (n : Int) 0 = (n : Int) := by omega
  generalize bs p.loc = t1 at *
  generalize bs p.dom = t2 at *
  go_enter Tryz.func24, Tryz.ntmps24
  go_upto_region 1 with (fail)
  rw [← HW1.out, ← HG1.out]
  go_wp2_with (first | (go_at_call 19; refine HPB.out.mono ?_; rintro e w2 ⟨rfl, hb⟩; have HL2 := Lib.hid (low_trans HL1.out hb); clear hb HPB x0 x1 x2 x3 x4) | (go_at_call 21; refine (HLI.out _).mono ?_; rintro e w3 ⟨rfl, rfl⟩))
  go_ret
  exact ⟨rfl, HL2.out⟩
end Go.Proofs.YtjgadocojdieeaaGreatDoor
